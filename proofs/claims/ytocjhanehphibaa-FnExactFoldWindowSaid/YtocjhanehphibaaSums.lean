import Derived.Test.YtocjhanehphibaaMapS
/-
  sumOfTerms over floats and over wide complex numbers.
-/
set_option linter.unusedVariables false
set_option linter.unusedSimpArgs false
namespace Go.Proofs.Ytocjhanehphibaa
open Go.RowKit Flt Fast
attribute [local go_sem] run_fadd run_fsub run_fmul run_fquo run_cadd run_csub

/-- The sum of the first n terms, from left to right. -/
def sumO (z : Nat → Option Nat) : Nat → Option Nat
  | 0 => some 0
  | n + 1 => if n = 0 then z 0 else fop .add .f64 (sumO z n) (z n)
def sumC (z : Nat → Z) : Nat → Z
  | 0 => z0
  | n + 1 => if n = 0 then z 0 else addZ (sumC z n) (z n)
theorem sumO_one (z : Nat → Option Nat) : sumO z 1 = z 0 := rfl
theorem sumO_succ (z : Nat → Option Nat) {n : Nat} (h : n ≠ 0) : sumO z (n + 1) = fop .add .f64 (sumO z n) (z n) := by rw [sumO, if_neg h]
theorem sumC_one (z : Nat → Z) : sumC z 1 = z 0 := rfl
theorem sumC_succ (z : Nat → Z) {n : Nat} (h : n ≠ 0) : sumC z (n + 1) = addZ (sumC z n) (z n) := by rw [sumC, if_neg h]

end Go.Proofs.Ytocjhanehphibaa
