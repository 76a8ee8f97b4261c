import Derived.Test.YtnbmbegjpkebmaaFloats
/-
  The walk of heldFloat64S.
-/
set_option linter.unusedVariables false
set_option linter.unusedSimpArgs false
namespace Go.Proofs.Ytnbmbegjpkebmaa
open Go.RowKit Flt

end Go.Proofs.Ytnbmbegjpkebmaa
