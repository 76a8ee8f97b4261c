import Derived.Test.YthinoegcijalpaaFloats
/-
  The walk of heldFloat64S.
-/
set_option linter.unusedVariables false
set_option linter.unusedSimpArgs false
namespace Go.Proofs.Ythinoegcijalpaa
open Go.RowKit Flt

end Go.Proofs.Ythinoegcijalpaa
