import Derived.Test.YtalhmppgmgfilaaLawTurn
import Derived.Test.YtalhmppgmgfilaaWalkI64
import Derived.Test.YtalhmppgmgfilaaSigB
/-
  Slices of wide complex numbers that the call itself has made: compared, marked, held; and listOf.
-/
set_option linter.unusedVariables false
set_option linter.unusedSimpArgs false
namespace Go.Proofs.Ytalhmppgmgfilaa
open Go.RowKit Flt Turn

/-- The numbers that are laid in a row: from m on, with the imaginary part 1. -/
def cmark (m i : Nat) : Value := .complex .f64 (floatOfInt .f64 ((m + i : Nat) : Int)) 4607182418800017408
def cmarks (m n : Nat) : List Value := (List.range n).map (cmark m)
theorem cmarks_length (m n : Nat) : (cmarks m n).length = n := by simp [cmarks]
theorem cmarks_getD {m n j : Nat} (h : j < n) : (cmarks m n).getD j undef = cmark m j := by simp [cmarks, List.getD, h]

theorem eqC_self (k : FloatKind) (a b : Nat) (ha : nan k.format a = false) (hb : nan k.format b = false) : k.format.order a a = some .eq ∧ k.format.order b b = some .eq := ⟨ord_eq ha ha rfl, ord_eq hb hb rfl⟩

end Go.Proofs.Ytalhmppgmgfilaa
