import Derived.Test.YtnigbjjllolgdaaFloats
/-
  The walk of heldFloat64S.
-/
set_option linter.unusedVariables false
set_option linter.unusedSimpArgs false
namespace Go.Proofs.Ytnigbjjllolgdaa
open Go.RowKit Flt

end Go.Proofs.Ytnigbjjllolgdaa
