import Derived.Test.YtalhmppgmgfilaaTurnP
import Derived.Test.YtalhmppgmgfilaaRows
import Derived.Test.YtalhmppgmgfilaaExt
import Derived.Test.YtalhmppgmgfilaaSigB
import Derived.Lib.Hide
/-
  The walks of the model's turns.
-/
set_option linter.unusedVariables false
set_option linter.unusedSimpArgs false
namespace Go.Proofs.Ytalhmppgmgfilaa
open Go.RowKit Flt Turn

/-- A float is returned, and nothing has turned but the count of draws. -/
def RetF (z : Option Nat) (w : World) (e : Ending) (w' : World) : Prop := ∃ r, e = .returned (.float .f64 r) ∧ IsF r z ∧ ∃ n, w' = w.drewN n

theorem isF_one : IsF 4607182418800017408 oneO := IsF.lit (by decide) (by omega)
theorem isF_zero : IsF 0 zeroO := IsF.lit (by decide) (by omega)

end Go.Proofs.Ytalhmppgmgfilaa
