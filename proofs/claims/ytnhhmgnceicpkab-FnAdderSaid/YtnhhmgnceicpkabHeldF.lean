import Derived.Test.YtnhhmgnceicpkabFloats
/-
  The walk of heldFloat64S.
-/
set_option linter.unusedVariables false
set_option linter.unusedSimpArgs false
namespace Go.Proofs.Ytnhhmgnceicpkab
open Go.RowKit Flt

end Go.Proofs.Ytnhhmgnceicpkab
