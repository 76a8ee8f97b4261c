import Derived.Test.YtpphmolfhogepaaDoorKit
import Derived.Test.YtpphmolfhogepaaDoorFlt
import Derived.Test.YtpphmolfhogepaaDoorRows
import Derived.Test.YtpphmolfhogepaaDoorExt
/-
  The laws' own comparison of floats; words and their places.
-/
set_option linter.unusedVariables false
set_option linter.unusedSimpArgs false
namespace Go.Proofs.YtpphmolfhogepaaDoor
open Go.RowKit Flt

/-- The next greater word. -/
def upBits (a : Nat) : Nat := if a = 0 ∨ a = 9223372036854775808 then 1 else if a < 9223372036854775808 then (if a = 9218868437227405312 then a else a + 1) else a - 1

theorem plc_lo {x : Nat} (h : x < 9223372036854775808) : place FloatKind.f64.format x = x := place64_lo h
theorem plc_hi {x : Nat} (h : 9223372036854775808 ≤ x) (h' : x < 18446744073709551616) : place FloatKind.f64.format x = 9223372036854775808 - (x : Int) := place64_hi h h'
theorem nan_no {x : Nat} (h : x % 9223372036854775808 ≤ 9218868437227405312) : nan FloatKind.f64.format x = false := by
  show nan Ieee.double x = false
  rw [nan64]; exact decide_eq_false (by omega)
theorem nan_le {x : Nat} (h : nan FloatKind.f64.format x = false) : x % 9223372036854775808 ≤ 9218868437227405312 := by
  have h' : nan Ieee.double x = false := h
  rw [nan64] at h'
  have := of_decide_eq_false h'
  omega

end Go.Proofs.YtpphmolfhogepaaDoor
