import Derived.Test.YtalhmppgmgfilaaTurnS
import Derived.Test.YtalhmppgmgfilaaRow
/-
  The walk of the model's turn.
-/
set_option linter.unusedVariables false
set_option linter.unusedSimpArgs false
namespace Go.Proofs.Ytalhmppgmgfilaa
open Go.RowKit Flt Turn

@[go_sem] theorem run_mathsqrt_half (w : World) : (callFunc 71 #[.float .f64 4602678819172646912]).run Try.prog w = .ok (.value (.float .f64 4604544271217802189)) w := by kernel_rfl

theorem RetF.drew {z : Option Nat} {w : World} {m : Nat} {e : Ending} {w' : World} (h : RetF z (w.drewN m) e w') : RetF z w e w' := by
  obtain ⟨r, he, hr, n, rfl⟩ := h
  exact ⟨r, he, hr, m + n, World.drewN_drewN ..⟩

theorem lowest {n k : Nat} (hn : 0 < n) : (n / n.gcd k).gcd (k / n.gcd k) = 1 := by
  rw [Nat.gcd_div (Nat.gcd_dvd_left n k) (Nat.gcd_dvd_right n k)]
  exact Nat.div_self (Nat.gcd_pos_of_pos_left _ hn)

theorem isF_halfRoot : IsF 4604544271217802189 halfRoot := IsF.lit (by decide) (by omega)
theorem isF_twoPi : IsF 4618760256179416344 twoPi := IsF.lit (by decide) (by omega)

/-- How a rule lowers the rank. -/
theorem rank_two {n k f : Nat} (h : n < 2 * k) (hk : k ≤ n) (hr : rank n k < f + 1) : rank n (n - k) < f := by
  unfold rank at hr ⊢
  rw [if_neg (by omega), if_neg (by omega), if_neg (by omega)] at hr
  split <;> (try split) <;> (try split) <;> omega
theorem rank_four {n k f : Nat} (h2 : ¬ n < 2 * k) (h : n < 4 * k) (hr : rank n k < f + 1) : rank (2 * n) (n - 2 * k) < f := by
  unfold rank at hr ⊢
  rw [if_neg (by omega), if_neg (by omega), if_pos (by omega)] at hr
  split <;> (try split) <;> (try split) <;> omega
theorem rank_eight {n k f : Nat} (h4 : ¬ n < 4 * k) (h : n < 8 * k) (hr : rank n k < f + 1) : rank (4 * n) (n - 4 * k) < f := by
  unfold rank at hr ⊢
  rw [if_neg (by omega), if_pos (by omega)] at hr
  split <;> (try split) <;> (try split) <;> omega

/-- Is there a turn k of n? -/
def TurnIn (n k : Int) : Prop := 1 ≤ n ∧ n ≤ 1024 ∧ 0 ≤ k ∧ k < n

/-- What TurnOf returns. -/
def TurnR (n k : Int) (w : World) (e : Ending) (w' : World) : Prop :=
  (∃ m j : Nat, n = m ∧ k = j ∧ TurnIn n k ∧ ∃ a b, e = .returned (.tuple #[.complex .f64 a b, .int .i64 0]) ∧ IsF a (turn m j).1 ∧ IsF b (turn m j).2 ∧ Below w.heap.size w w') ∨
  (¬ TurnIn n k ∧ e = .returned (.tuple #[.complex .f64 0 0, .int .i64 2]) ∧ Below w.heap.size w w')

end Go.Proofs.Ytalhmppgmgfilaa
