import Derived.Test.YtpobbicbfnglaaaListF
/-
  BlockCount, GainOf, PowerOf of both.
-/
set_option linter.unusedVariables false
set_option linter.unusedSimpArgs false
namespace Go.Proofs.Ytpobbicbfnglaaa
open Go.RowKit Flt Fast
attribute [local go_sem] run_fadd run_fsub run_fmul run_fquo run_cadd run_csub

theorem in_t (n lo hi : Int) (h : lo ≤ n ∧ n ≤ hi) (w : World) :
    Calls Try.prog 42 #[.int .i64 n, .int .i64 lo, .int .i64 hi] w fun e w' => e = .returned (.bool true) ∧ w' = w := by
  obtain ⟨h1, h2⟩ := h
  go_enter Try.func42, Try.ntmps42
  go_wp2
  go_ret
  exact ⟨rfl, rfl⟩
theorem in_f (n lo hi : Int) (h : ¬ (lo ≤ n ∧ n ≤ hi)) (w : World) :
    Calls Try.prog 42 #[.int .i64 n, .int .i64 lo, .int .i64 hi] w fun e w' => e = .returned (.bool false) ∧ w' = w := by
  by_cases h1 : lo ≤ n
  · have h2 : ¬ n ≤ hi := fun h' => h ⟨h1, h'⟩
    have g : decide (n ≤ hi) = false := decide_eq_false h2
    clear h
    go_enter Try.func42, Try.ntmps42
    go_wp2
    go_ret
    exact ⟨rfl, rfl⟩
  · have h2 : n < lo := by omega
    clear h h1
    go_enter Try.func42, Try.ntmps42
    go_wp2
    go_ret
    exact ⟨rfl, rfl⟩

/-- The number of blocks. -/
def cntR (a b c : Int) : Int := if a = 0 then 0 else if a ≤ b then 1 else 1 + (a - b + c - 1).tdiv c

/-- What BlockCount answers. -/
def bcK (a b c : Int) : Int := if (0 ≤ a ∧ a ≤ 256) ∧ (1 ≤ b ∧ b ≤ 256) ∧ (1 ≤ c ∧ c ≤ b) then 0 else 2
def bcR (a b c : Int) : Int := if (0 ≤ a ∧ a ≤ 256) ∧ (1 ≤ b ∧ b ≤ 256) ∧ (1 ≤ c ∧ c ≤ b) then cntR a b c else 0

/-- A cut as the program holds it. -/
def rightB (b c : Int) : Bool := decide ((1 ≤ c ∧ c ≤ b) ∧ b ≤ 256)

theorem cntR_max {a b c : Int} (ha : 0 ≤ a ∧ a ≤ 1000000) (hb : 1 ≤ b ∧ b ≤ 1000000) (hc : 1 ≤ c ∧ c ≤ b) (h0 : a ≠ 0) : cntR a b c = ((if a - b ≥ 0 then a - b else 0) + c - 1).tdiv c + 1 := by
  unfold cntR
  rw [if_neg h0]
  by_cases h1 : a ≤ b
  · rw [if_pos h1]
    have : (if a - b ≥ 0 then a - b else 0) + c - 1 = c - 1 := by split <;> omega
    rw [this, Int.tdiv_eq_ediv_of_nonneg (by omega), Int.ediv_eq_zero_of_lt (by omega) (by omega)]; rfl
  · rw [if_neg h1, if_pos (by omega)]; omega

end Go.Proofs.Ytpobbicbfnglaaa
