import Derived.Test.YtpobbicbfnglaaaNum
import Derived.Lib.Hide
/-
  The model's comparisons of numbers that are the same.
-/
set_option linter.unusedVariables false
set_option linter.unusedSimpArgs false
namespace Go.Proofs.Ytpobbicbfnglaaa
open Go.RowKit Flt

theorem l01NaN_any (a : Nat) (w : World) :
    Calls Try.prog 54 #[.float .f64 a] w fun e w' => e = .returned (.bool (nan FloatKind.f64.format a)) ∧ w' = w := by
  by_cases ha : nan FloatKind.f64.format a = true
  · have ho : FloatKind.f64.format.order a a = none := ord_nan_l _ ha
    rw [ha]
    clear ha
    go_enter Try.func54, Try.ntmps54
    go_wp2
    go_ret
    exact ⟨rfl, rfl⟩
  · have ha : nan FloatKind.f64.format a = false := by simpa using ha
    have ho : FloatKind.f64.format.order a a = some .eq := ord_eq ha ha rfl
    rw [ha]
    clear ha
    go_enter Try.func54, Try.ntmps54
    go_wp2
    go_ret
    exact ⟨rfl, rfl⟩

theorem widen_same {a c : Nat} (h : cn .f32 a = cn .f32 c) : floatToFloatBits .f32 a .f64 = floatToFloatBits .f32 c .f64 := by
  by_cases ha : nan FloatKind.f32.format a = true
  · have hc : nan FloatKind.f32.format c = true := by
      rw [cn_none ha] at h
      by_cases hb : nan FloatKind.f32.format c = true
      · exact hb
      · rw [cn_some (by simpa using hb)] at h; cases h
    rw [widen_nan ha, widen_nan hc]
  · have ha : nan FloatKind.f32.format a = false := by simpa using ha
    by_cases hc : nan FloatKind.f32.format c = true
    · rw [cn_some ha, cn_none hc] at h; cases h
    · rw [cn_some ha, cn_some (by simpa using hc)] at h
      rw [Option.some.inj h]

end Go.Proofs.Ytpobbicbfnglaaa
