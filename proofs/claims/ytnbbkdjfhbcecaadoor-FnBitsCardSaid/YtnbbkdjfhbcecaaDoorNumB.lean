import Derived.Test.YtnbbkdjfhbcecaaDoorOpt
import Derived.Test.YtnbbkdjfhbcecaaDoorRows
import Derived.Test.YtnbbkdjfhbcecaaDoorExt
import Derived.Lib.Hide
/-
  The program's numbers: their parts, conjugates and products.
-/
set_option linter.unusedVariables false
set_option linter.unusedSimpArgs false
namespace Go.Proofs.YtnbbkdjfhbcecaaDoor
open Go.RowKit Flt

/-- The function returns this; nothing that was there has turned, and it draws nothing that matters. -/
def Rets (v : Value) (w : World) (e : Ending) (w' : World) : Prop := e = .returned v ∧ Below w.heap.size w w'


theorem numberOf_any (a b : Nat) (w : World) :
    Calls Tryd.prog 16 #[.complex .f64 a b] w (Rets (.agg #[.complex .f64 a b]) w) := by
  go_enter Tryd.func16, Tryd.ntmps16
  go_wp2
  exact bodyPost_ret (v := .agg #[.complex .f64 a b]) (by simp [results, Tryd.results16, go_sem]) rfl ⟨rfl, by repeat (first | exact Below.refl _ _ | refine Below.alloc ?_ (by simp; try omega) _)⟩

end Go.Proofs.YtnbbkdjfhbcecaaDoor
