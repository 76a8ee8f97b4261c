import Derived.Test.YtpphmolfhogepaaDoorKit
import Derived.Test.YtpphmolfhogepaaDoorFlt
import Derived.Test.YtpphmolfhogepaaDoorRows
import Derived.Test.YtpphmolfhogepaaDoorExt
import Derived.Test.YtpphmolfhogepaaDoorWalkNext
/-
  The walks of UnitsApart and NarrowUnitsApart.
-/
set_option linter.unusedVariables false
set_option linter.unusedSimpArgs false
namespace Go.Proofs.YtpphmolfhogepaaDoor
open Go.RowKit Flt

theorem and_hi {a : Nat} (h : a < 18446744073709551616) : bits .and .u64 (a : Int) 9223372036854775808 = if a < 9223372036854775808 then 0 else 9223372036854775808 := by
  have := u64_and_nat a 9223372036854775808 h (by omega)
  rw [show ((9223372036854775808 : Nat) : Int) = 9223372036854775808 from rfl] at this
  rw [this]
  have e : a &&& 9223372036854775808 = if a < 9223372036854775808 then 0 else 9223372036854775808 := by
    apply Nat.eq_of_testBit_eq; intro i
    rw [Nat.testBit_and, show (9223372036854775808 : Nat) = 2 ^ 63 from rfl, Nat.testBit_two_pow]
    by_cases hi : 63 = i
    · subst hi
      split
      · rename_i h1; rw [Nat.testBit_lt_two_pow h1]; rfl
      · rename_i h1
        obtain ⟨y, rfl⟩ : ∃ y, a = 2 ^ 63 + y := ⟨a - 2 ^ 63, by omega⟩
        rw [Nat.testBit_two_pow_add_eq, Nat.testBit_lt_two_pow (by omega)]
        decide
    · split
      · simp [hi]
      · rw [Nat.testBit_two_pow]; simp [hi]
  rw [e]; split <;> rfl

theorem andNot_hi {a : Nat} (h : 9223372036854775808 ≤ a) (h' : a < 18446744073709551616) : bits .andNot .u64 (a : Int) 9223372036854775808 = (a : Int) - 9223372036854775808 := by
  have := u64_andNot_nat a 9223372036854775808 h' (by omega)
  rw [show ((9223372036854775808 : Nat) : Int) = 9223372036854775808 from rfl] at this
  rw [this, show (18446744073709551615 - 9223372036854775808 : Nat) = 2 ^ 63 - 1 by omega, Nat.and_two_pow_sub_one_eq_mod]
  omega

/-- So many units lie between two places. -/
def unitsOf (p q : Int) : Int := if p ≤ q then min (q - p) 1000000000000000000 else min (p - q) 1000000000000000000

theorem u64_sub {p q : Int} (h : p ≤ q) (hp : -9223372036854775808 ≤ p) (hq : q ≤ 9223372036854775807) : IntKind.u64.wrap (IntKind.u64.wrap q - IntKind.u64.wrap p) = q - p := by
  simp only [IntKind.wrap, IntKind.bits, IntKind.signed]
  simp
  omega

theorem plc_bounds {x : Nat} (h : x < 18446744073709551616) : -9223372036854775808 ≤ place FloatKind.f64.format x ∧ place FloatKind.f64.format x ≤ 9223372036854775807 := by
  by_cases h1 : x < 9223372036854775808
  · rw [plc_lo h1]; omega
  · rw [plc_hi (by omega) h]; omega

theorem negF_hi {a : Nat} (h : 9223372036854775808 ≤ a) (h' : a < 18446744073709551616) : Op.negFloat .f64 a = a - 9223372036854775808 := neg64_hi h h'

theorem unitsOf_comm (p q : Int) : unitsOf p q = unitsOf q p := by unfold unitsOf; split <;> split <;> omega

end Go.Proofs.YtpphmolfhogepaaDoor
