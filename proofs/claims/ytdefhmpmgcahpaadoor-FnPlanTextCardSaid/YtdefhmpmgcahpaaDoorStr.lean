import Derived.Test.YtdefhmpmgcahpaaDoorBls
import Derived.Laws.IdiomStrings
import Derived.BigQuiet
import Derived.Laws.Concat
/-
  Texts as strings.
-/
set_option linter.unusedVariables false
set_option linter.unusedSimpArgs false
namespace Go.Proofs.YtdefhmpmgcahpaaDoor
open Go.RowKit

/-- A text as a string. -/
def strOf (t : List UInt8) : ByteArray := ⟨t.toArray⟩
theorem str_add (a b : List UInt8) (h : a.length + b.length ≤ 9223372036854775807) (w : World) : (Op.stringOp .add (strOf a) (strOf b)).run Tryd.prog w = .ok (.string (strOf (a ++ b))) w := by
  rw [run_string_add_sum w _ _ (by simp [strOf, ByteArray.size]; omega)]
  congr 2

theorem strOf_list (t : List UInt8) : (strOf t).data.toList = t := rfl
theorem strOf_size (t : List UInt8) : (strOf t).size = t.length := rfl
theorem strOf_self (s : ByteArray) : strOf s.data.toList = s := rfl
theorem strOf_inj {a b : List UInt8} (h : strOf a = strOf b) : a = b := by
  have := congrArg (fun s : ByteArray => s.data.toList) h
  simpa [strOf] using this
theorem strOf_beq (a b : List UInt8) : ((strOf a).toList == (strOf b).toList) = decide (a = b) := by
  rw [ByteArray.toList_eq, ByteArray.toList_eq, strOf_list, strOf_list]
  by_cases h : a = b
  · subst h; simp
  · rw [decide_eq_false h]; simpa using h
/-- Pieces as the cells of a row of strings. -/
def strs (ts : List (List UInt8)) : List Value := ts.map fun p => .string (strOf p)

end Go.Proofs.YtdefhmpmgcahpaaDoor
