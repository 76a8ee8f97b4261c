import Derived.Test.YtgolfdngpphndaaOpt
import Derived.Test.YtgolfdngpphndaaRows
import Derived.Test.YtgolfdngpphndaaExt
import Derived.Lib.Hide
/-
  The program's numbers: their parts, conjugates and products.
-/
set_option linter.unusedVariables false
set_option linter.unusedSimpArgs false
namespace Go.Proofs.Ytgolfdngpphndaa
open Go.RowKit Flt

/-- The function returns this; nothing that was there has turned, and it draws nothing that matters. -/
def Rets (v : Value) (w : World) (e : Ending) (w' : World) : Prop := e = .returned v ∧ Below w.heap.size w w'


theorem parts_any (a b : Nat) (w : World) :
    Calls Try.prog 32 #[.agg #[.complex .f64 a b]] w (Rets (.tuple #[.float .f64 a, .float .f64 b]) w) := by
  go_enter Try.func32, Try.ntmps32
  go_wp2
  go_ret2
  exact ⟨rfl, by repeat (first | exact Below.refl _ _ | refine Below.alloc ?_ (by simp; try omega) _)⟩

theorem numberOf_any (a b : Nat) (w : World) :
    Calls Try.prog 18 #[.complex .f64 a b] w (Rets (.agg #[.complex .f64 a b]) w) := by
  go_enter Try.func18, Try.ntmps18
  go_wp2
  exact bodyPost_ret (v := .agg #[.complex .f64 a b]) (by simp [results, Try.results18, go_sem]) rfl ⟨rfl, by repeat (first | exact Below.refl _ _ | refine Below.alloc ?_ (by simp; try omega) _)⟩

end Go.Proofs.Ytgolfdngpphndaa
