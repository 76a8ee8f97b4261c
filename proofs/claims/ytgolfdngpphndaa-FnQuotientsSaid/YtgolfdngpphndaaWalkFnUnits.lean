import Derived.Test.YtgolfdngpphndaaKit
import Derived.Test.YtgolfdngpphndaaFlt
import Derived.Test.YtgolfdngpphndaaRows
import Derived.Test.YtgolfdngpphndaaExt
import Derived.Test.YtgolfdngpphndaaWalkNext
import Derived.Test.YtgolfdngpphndaaWalkUnits
import Derived.Test.YtgolfdngpphndaaWalkNext32
import Derived.Test.YtgolfdngpphndaaSrc
/-
  The walk of the law FnUnits.
-/
set_option linter.unusedVariables false
set_option linter.unusedSimpArgs false
namespace Go.Proofs.Ytgolfdngpphndaa
open Go.RowKit Flt

theorem up_place {a : Nat} (ha : nan FloatKind.f64.format a = false) (la : a < 18446744073709551616) (hi : a ≠ 9218868437227405312) :
    place FloatKind.f64.format (upBits a) = place FloatKind.f64.format a + 1 ∧ nan FloatKind.f64.format (upBits a) = false := by
  have hle := nan_le ha
  unfold upBits
  split
  · rename_i h
    rcases h with rfl | rfl <;> decide
  · split
    · rename_i h1 h2
      rw [plc_lo (by omega), plc_lo h2]
      exact ⟨by omega, nan_no (by omega)⟩
    · rename_i h1 h2
      rw [plc_hi (by omega) (by omega), plc_hi (x := a) (by omega) la]
      exact ⟨by omega, nan_no (by omega)⟩

theorem up_place32 {a : Nat} (ha : nan FloatKind.f32.format a = false) (la : a < 4294967296) (hi : a ≠ 2139095040) :
    place FloatKind.f32.format (upBits32 a) = place FloatKind.f32.format a + 1 ∧ nan FloatKind.f32.format (upBits32 a) = false := by
  have hle := nan32_le ha
  unfold upBits32
  split
  · rename_i h
    rcases h with rfl | rfl <;> decide
  · split
    · rename_i h1 h2
      rw [plc32_lo (by omega), plc32_lo h2]
      exact ⟨by omega, nan32_no (by omega)⟩
    · rename_i h1 h2
      rw [plc32_hi (by omega) (by omega), plc32_hi (x := a) (by omega) la]
      exact ⟨by omega, nan32_no (by omega)⟩

/-- The other sign, as the model writes it. -/
theorem negF_lt {a : Nat} (h : a < 18446744073709551616) : Op.negFloat .f64 a < 18446744073709551616 := neg64_lt h
theorem negF_place {a : Nat} (h : a < 18446744073709551616) : place FloatKind.f64.format (Op.negFloat .f64 a) = -place FloatKind.f64.format a := place_neg64 h
theorem negF_nan {a : Nat} (h : a < 18446744073709551616) : nan FloatKind.f64.format (Op.negFloat .f64 a) = nan FloatKind.f64.format a := nan_neg64 h
theorem negF32_lt {a : Nat} (h : a < 4294967296) : Op.negFloat .f32 a < 4294967296 := neg32_lt h
theorem negF32_place {a : Nat} (h : a < 4294967296) : place FloatKind.f32.format (Op.negFloat .f32 a) = -place FloatKind.f32.format a := place_neg32 h
theorem negF32_nan {a : Nat} (h : a < 4294967296) : nan FloatKind.f32.format (Op.negFloat .f32 a) = nan FloatKind.f32.format a := nan_neg32 h

theorem sub_self64 {a : Nat} (h : a % 9223372036854775808 < 9218868437227405312) : floatBits .sub .f64 a a = some 0 :=
  sub_self_fin Ieee.double (by rw [sw64, ir64]; exact h)
theorem sub_self64_none {a : Nat} (h : ¬ a % 9223372036854775808 < 9218868437227405312) : floatBits .sub .f64 a a = none :=
  sub_self_none Ieee.double hbi64 (by rw [sw64, ir64]; exact h)
theorem sub_self32 {a : Nat} (h : a % 2147483648 < 2139095040) : floatBits .sub .f32 a a = some 0 :=
  sub_self_fin Ieee.single (by rw [sw32, ir32]; exact h)
theorem sub_self32_none {a : Nat} (h : ¬ a % 2147483648 < 2139095040) : floatBits .sub .f32 a a = none :=
  sub_self_none Ieee.single hbi32 (by rw [sw32, ir32]; exact h)

theorem unitsOf_nonneg (p q : Int) : 0 ≤ unitsOf p q := by unfold unitsOf; split <;> omega
theorem unitsOf_zero {p q : Int} : unitsOf p q = 0 ↔ p = q := by unfold unitsOf; split <;> omega
theorem unitsOf_one {p q : Int} (h : q = p + 1) : unitsOf p q = 1 := by unfold unitsOf; split <;> omega

end Go.Proofs.Ytgolfdngpphndaa
