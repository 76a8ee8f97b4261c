import Derived.Test.YtcoieclecmefiaaNum
import Derived.Lib.Hide
/-
  The model's comparisons of numbers that are the same.
-/
set_option linter.unusedVariables false
set_option linter.unusedSimpArgs false
namespace Go.Proofs.Ytcoieclecmefiaa
open Go.RowKit Flt

theorem l01NaN_any (a : Nat) (w : World) :
    Calls Try.prog 104 #[.float .f64 a] w fun e w' => e = .returned (.bool (nan FloatKind.f64.format a)) ∧ w' = w := by
  by_cases ha : nan FloatKind.f64.format a = true
  · have ho : FloatKind.f64.format.order a a = none := ord_nan_l _ ha
    rw [ha]
    clear ha
    go_enter Try.func104, Try.ntmps104
    go_wp2
    go_ret
    exact ⟨rfl, rfl⟩
  · have ha : nan FloatKind.f64.format a = false := by simpa using ha
    have ho : FloatKind.f64.format.order a a = some .eq := ord_eq ha ha rfl
    rw [ha]
    clear ha
    go_enter Try.func104, Try.ntmps104
    go_wp2
    go_ret
    exact ⟨rfl, rfl⟩

theorem l01SameFloat_cn (a b : Nat) (h : cn .f64 a = cn .f64 b) (w : World) :
    Calls Try.prog 77 #[.float .f64 a, .float .f64 b] w fun e w' => e = .returned (.bool true) ∧ w' = w := by
  have na := l01NaN_any a
  have nb := l01NaN_any b
  by_cases ha : nan FloatKind.f64.format a = true
  · have hb : nan FloatKind.f64.format b = true := by
      rw [cn_none ha] at h
      by_cases hb : nan FloatKind.f64.format b = true
      · exact hb
      · rw [cn_some (by simpa using hb)] at h; cases h
    rw [ha] at na
    rw [hb] at nb
    clear ha hb h
    go_enter Try.func77, Try.ntmps77
    go_wp2_with (go_at_call 104; (first | ((with_reducible refine (na _).mono ?_); rintro e w' ⟨rfl, rfl⟩) | ((with_reducible refine (nb _).mono ?_); rintro e w' ⟨rfl, rfl⟩)))
    go_ret
    exact ⟨rfl, rfl⟩
  · have ha : nan FloatKind.f64.format a = false := by simpa using ha
    have hb : nan FloatKind.f64.format b = false := by
      rw [cn_some ha] at h
      by_cases hb : nan FloatKind.f64.format b = true
      · rw [cn_none hb] at h; cases h
      · simpa using hb
    obtain rfl : a = b := by rw [cn_some ha, cn_some hb] at h; exact Option.some.inj h
    rw [ha] at na
    clear ha hb h nb
    go_enter Try.func77, Try.ntmps77
    go_wp2_with (go_at_call 104; refine (na _).mono ?_; rintro e w' ⟨rfl, rfl⟩)
    go_ret
    exact ⟨rfl, rfl⟩

theorem l01Same_cn (a b c d : Nat) (h1 : cn .f64 a = cn .f64 c) (h2 : cn .f64 b = cn .f64 d) (w : World) :
    Calls Try.prog 52 #[.complex .f64 a b, .complex .f64 c d] w fun e w' => e = .returned (.bool true) ∧ w' = w := by
  have s1 := l01SameFloat_cn a c h1
  have s2 := l01SameFloat_cn b d h2
  clear h1 h2
  go_enter Try.func52, Try.ntmps52
  go_wp2_with (go_at_call 77; (first | ((with_reducible refine (s1 _).mono ?_); rintro e w' ⟨rfl, rfl⟩) | ((with_reducible refine (s2 _).mono ?_); rintro e w' ⟨rfl, rfl⟩)))
  go_ret
  exact ⟨rfl, rfl⟩

theorem sameNumber_cn (a b c d : Nat) (h1 : cn .f64 a = cn .f64 c) (h2 : cn .f64 b = cn .f64 d) (w : World) :
    Calls Try.prog 13 #[.complex .f64 a b, .complex .f64 c d] w fun e w' => e = .returned (.bool true) ∧ w' = w := by
  have s1 := l01Same_cn a b c d h1 h2
  clear h1 h2
  go_enter Try.func13, Try.ntmps13
  go_wp2_with (go_at_call 52; refine (s1 _).mono ?_; rintro e w' ⟨rfl, rfl⟩)
  go_ret
  exact ⟨rfl, rfl⟩

theorem widen_same {a c : Nat} (h : cn .f32 a = cn .f32 c) : floatToFloatBits .f32 a .f64 = floatToFloatBits .f32 c .f64 := by
  by_cases ha : nan FloatKind.f32.format a = true
  · have hc : nan FloatKind.f32.format c = true := by
      rw [cn_none ha] at h
      by_cases hb : nan FloatKind.f32.format c = true
      · exact hb
      · rw [cn_some (by simpa using hb)] at h; cases h
    rw [widen_nan ha, widen_nan hc]
  · have ha : nan FloatKind.f32.format a = false := by simpa using ha
    by_cases hc : nan FloatKind.f32.format c = true
    · rw [cn_some ha, cn_none hc] at h; cases h
    · rw [cn_some ha, cn_some (by simpa using hc)] at h
      rw [Option.some.inj h]

theorem sameNarrow_cn (a b c d : Nat) (h1 : cn .f32 a = cn .f32 c) (h2 : cn .f32 b = cn .f32 d) (w : World) :
    Calls Try.prog 57 #[.complex .f32 a b, .complex .f32 c d] w fun e w' => e = .returned (.bool true) ∧ ∃ n, w' = w.drewN n := by
  have k1 := widen_same h1
  have k2 := widen_same h2
  clear h1 h2
  have tok1 : True := trivial
  go_enter Try.func57, Try.ntmps57
  go_wp2_with (first
    | (have _t := tok1; refine wpList_widenC _ rfl 75 26 _ rfl a b rfl (by kernel_rfl) Try.underlying26 ?_; intro r s n hr hs lr ls; have HR := Lib.hid hr; have HS := Lib.hid hs; clear hr hs lr ls tok1)
    | (refine wpList_widenC _ rfl 75 26 _ rfl c d rfl (by kernel_rfl) Try.underlying26 ?_; intro r' s' n' hr hs lr ls; have HS' := l01Same_cn r s r' s' (by rw [HR.out, hr, k1]) (by rw [HS.out, hs, k2]); clear hr hs lr ls)
    | (go_at_call 52; refine (HS' _).mono ?_; rintro e w' ⟨rfl, rfl⟩))
  go_ret
  exact ⟨rfl, _, rfl⟩

end Go.Proofs.Ytcoieclecmefiaa
