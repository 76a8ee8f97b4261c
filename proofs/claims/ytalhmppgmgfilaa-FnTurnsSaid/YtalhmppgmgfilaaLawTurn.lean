import Derived.Test.YtalhmppgmgfilaaTurnG
import Derived.Test.YtalhmppgmgfilaaSameF
/-
  The walk of the law on TurnOf.
-/
set_option linter.unusedVariables false
set_option linter.unusedSimpArgs false
namespace Go.Proofs.Ytalhmppgmgfilaa
open Go.RowKit Flt Turn

end Go.Proofs.Ytalhmppgmgfilaa
