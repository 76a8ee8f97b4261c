import Derived.Test.YtcoieclecmefiaaFloats
/-
  The walk of heldFloat64S.
-/
set_option linter.unusedVariables false
set_option linter.unusedSimpArgs false
namespace Go.Proofs.Ytcoieclecmefiaa
open Go.RowKit Flt

end Go.Proofs.Ytcoieclecmefiaa
