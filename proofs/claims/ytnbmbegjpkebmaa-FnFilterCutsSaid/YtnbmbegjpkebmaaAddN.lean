import Derived.Test.YtnbmbegjpkebmaaWinC
/-
  Adders: valid ones, new ones.
-/
set_option linter.unusedVariables false
set_option linter.unusedSimpArgs false
namespace Go.Proofs.Ytnbmbegjpkebmaa
open Go.RowKit Flt Fast

theorem wrap_in (x : Int) (h1 : -9223372036854775808 ≤ x) (h2 : x ≤ 9223372036854775807) : IntKind.i64.wrap x = x := by
  simp only [IntKind.wrap, IntKind.bits, IntKind.signed]
  simp
  omega

/-- An adder of this size and hop with t numbers in its tail is valid. -/
def AddOk (s h : Int) (t : Nat) : Prop := (1 ≤ s ∧ s ≤ 256) ∧ (1 ≤ h ∧ h ≤ s) ∧ (t = 0 ∨ (t : Int) = s - h)
instance (s h : Int) (t : Nat) : Decidable (AddOk s h t) := by unfold AddOk; infer_instance
def addB (s h : Int) (t : Nat) : Bool := decide (AddOk s h t)
theorem addB_t {s h : Int} {t : Nat} (k : AddOk s h t) : addB s h t = true := decide_eq_true k
theorem addB_f {s h : Int} {t : Nat} (k : ¬ AddOk s h t) : addB s h t = false := decide_eq_false k

end Go.Proofs.Ytnbmbegjpkebmaa
