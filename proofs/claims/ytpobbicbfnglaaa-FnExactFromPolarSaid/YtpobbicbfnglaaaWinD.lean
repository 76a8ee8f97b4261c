import Derived.Test.YtpobbicbfnglaaaWinC
/-
  GainOf, PowerOf of both.
-/
set_option linter.unusedVariables false
set_option linter.unusedSimpArgs false
namespace Go.Proofs.Ytpobbicbfnglaaa
open Go.RowKit Flt Fast
attribute [local go_sem] run_fadd run_fsub run_fmul run_fquo run_cadd run_csub

/-- The sum of a window, if it is not too long. -/
def tooK (n : Nat) : Int := if 256 < n then 3 else 0
def gainR (z : Nat → Option Nat) (n : Nat) : Option Nat := if 256 < n then some 0 else sumO z n
/-- A square. -/
def sqO (xs : List Nat) (i : Nat) : Option Nat := fop .mul .f64 (wO xs i) (wO xs i)

theorem sumO_first (z : Nat → Option Nat) {k : Nat} (h : k = 0) : sumO z (k + 1) = z k := by subst h; rfl

end Go.Proofs.Ytpobbicbfnglaaa
