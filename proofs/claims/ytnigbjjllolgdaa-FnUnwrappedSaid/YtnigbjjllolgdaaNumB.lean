import Derived.Test.YtnigbjjllolgdaaOpt
import Derived.Test.YtnigbjjllolgdaaRows
import Derived.Test.YtnigbjjllolgdaaExt
import Derived.Lib.Hide
/-
  The program's numbers: their parts, conjugates and products.
-/
set_option linter.unusedVariables false
set_option linter.unusedSimpArgs false
namespace Go.Proofs.Ytnigbjjllolgdaa
open Go.RowKit Flt

/-- The function returns this; nothing that was there has turned, and it draws nothing that matters. -/
def Rets (v : Value) (w : World) (e : Ending) (w' : World) : Prop := e = .returned v ∧ Below w.heap.size w w'


end Go.Proofs.Ytnigbjjllolgdaa
