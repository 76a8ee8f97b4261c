import Derived.Test.YthjhnkiodbcibaaFloats
/-
  The walk of heldFloat64S.
-/
set_option linter.unusedVariables false
set_option linter.unusedSimpArgs false
namespace Go.Proofs.Ythjhnkiodbcibaa
open Go.RowKit Flt

end Go.Proofs.Ythjhnkiodbcibaa
