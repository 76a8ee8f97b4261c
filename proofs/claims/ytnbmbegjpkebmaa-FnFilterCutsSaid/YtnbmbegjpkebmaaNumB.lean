import Derived.Test.YtnbmbegjpkebmaaOpt
import Derived.Test.YtnbmbegjpkebmaaRows
import Derived.Test.YtnbmbegjpkebmaaExt
import Derived.Lib.Hide
/-
  The program's numbers: their parts, conjugates and products.
-/
set_option linter.unusedVariables false
set_option linter.unusedSimpArgs false
namespace Go.Proofs.Ytnbmbegjpkebmaa
open Go.RowKit Flt

/-- The function returns this; nothing that was there has turned, and it draws nothing that matters. -/
def Rets (v : Value) (w : World) (e : Ending) (w' : World) : Prop := e = .returned v ∧ Below w.heap.size w w'


theorem parts_any (a b : Nat) (w : World) :
    Calls Try.prog 62 #[.agg #[.complex .f64 a b]] w (Rets (.tuple #[.float .f64 a, .float .f64 b]) w) := by
  go_enter Try.func62, Try.ntmps62
  go_wp2
  go_ret2
  exact ⟨rfl, by repeat (first | exact Below.refl _ _ | refine Below.alloc ?_ (by simp; try omega) _)⟩

theorem numberOf_any (a b : Nat) (w : World) :
    Calls Try.prog 48 #[.complex .f64 a b] w (Rets (.agg #[.complex .f64 a b]) w) := by
  go_enter Try.func48, Try.ntmps48
  go_wp2
  exact bodyPost_ret (v := .agg #[.complex .f64 a b]) (by simp [results, Try.results48, go_sem]) rfl ⟨rfl, by repeat (first | exact Below.refl _ _ | refine Below.alloc ?_ (by simp; try omega) _)⟩

end Go.Proofs.Ytnbmbegjpkebmaa
