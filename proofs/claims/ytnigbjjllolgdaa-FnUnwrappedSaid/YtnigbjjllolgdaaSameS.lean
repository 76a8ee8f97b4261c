import Derived.Test.YtnigbjjllolgdaaNum
import Derived.Lib.Hide
/-
  The model's comparisons of numbers that are the same.
-/
set_option linter.unusedVariables false
set_option linter.unusedSimpArgs false
namespace Go.Proofs.Ytnigbjjllolgdaa
open Go.RowKit Flt

theorem l01NaN_any (a : Nat) (w : World) :
    Calls Try.prog 58 #[.float .f64 a] w fun e w' => e = .returned (.bool (nan FloatKind.f64.format a)) ∧ w' = w := by
  by_cases ha : nan FloatKind.f64.format a = true
  · have ho : FloatKind.f64.format.order a a = none := ord_nan_l _ ha
    rw [ha]
    clear ha
    go_enter Try.func58, Try.ntmps58
    go_wp2
    go_ret
    exact ⟨rfl, rfl⟩
  · have ha : nan FloatKind.f64.format a = false := by simpa using ha
    have ho : FloatKind.f64.format.order a a = some .eq := ord_eq ha ha rfl
    rw [ha]
    clear ha
    go_enter Try.func58, Try.ntmps58
    go_wp2
    go_ret
    exact ⟨rfl, rfl⟩

theorem l01SameFloat_cn (a b : Nat) (h : cn .f64 a = cn .f64 b) (w : World) :
    Calls Try.prog 32 #[.float .f64 a, .float .f64 b] w fun e w' => e = .returned (.bool true) ∧ w' = w := by
  have na := l01NaN_any a
  have nb := l01NaN_any b
  by_cases ha : nan FloatKind.f64.format a = true
  · have hb : nan FloatKind.f64.format b = true := by
      rw [cn_none ha] at h
      by_cases hb : nan FloatKind.f64.format b = true
      · exact hb
      · rw [cn_some (by simpa using hb)] at h; cases h
    rw [ha] at na
    rw [hb] at nb
    clear ha hb h
    go_enter Try.func32, Try.ntmps32
    go_wp2_with (go_at_call 58; (first | ((with_reducible refine (na _).mono ?_); rintro e w' ⟨rfl, rfl⟩) | ((with_reducible refine (nb _).mono ?_); rintro e w' ⟨rfl, rfl⟩)))
    go_ret
    exact ⟨rfl, rfl⟩
  · have ha : nan FloatKind.f64.format a = false := by simpa using ha
    have hb : nan FloatKind.f64.format b = false := by
      rw [cn_some ha] at h
      by_cases hb : nan FloatKind.f64.format b = true
      · rw [cn_none hb] at h; cases h
      · simpa using hb
    obtain rfl : a = b := by rw [cn_some ha, cn_some hb] at h; exact Option.some.inj h
    rw [ha] at na
    clear ha hb h nb
    go_enter Try.func32, Try.ntmps32
    go_wp2_with (go_at_call 58; refine (na _).mono ?_; rintro e w' ⟨rfl, rfl⟩)
    go_ret
    exact ⟨rfl, rfl⟩

theorem widen_same {a c : Nat} (h : cn .f32 a = cn .f32 c) : floatToFloatBits .f32 a .f64 = floatToFloatBits .f32 c .f64 := by
  by_cases ha : nan FloatKind.f32.format a = true
  · have hc : nan FloatKind.f32.format c = true := by
      rw [cn_none ha] at h
      by_cases hb : nan FloatKind.f32.format c = true
      · exact hb
      · rw [cn_some (by simpa using hb)] at h; cases h
    rw [widen_nan ha, widen_nan hc]
  · have ha : nan FloatKind.f32.format a = false := by simpa using ha
    by_cases hc : nan FloatKind.f32.format c = true
    · rw [cn_some ha, cn_none hc] at h; cases h
    · rw [cn_some ha, cn_some (by simpa using hc)] at h
      rw [Option.some.inj h]

end Go.Proofs.Ytnigbjjllolgdaa
