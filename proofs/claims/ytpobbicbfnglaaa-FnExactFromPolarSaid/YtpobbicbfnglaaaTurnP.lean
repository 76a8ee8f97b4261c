import Derived.Test.YtpobbicbfnglaaaOpt
/-
  Turns as a plain function of two naturals: no program.
-/
set_option linter.unusedVariables false
set_option linter.unusedSimpArgs false
namespace Go.Proofs.Ytpobbicbfnglaaa
open Go Flt
namespace Turn

abbrev O := Option Nat
def oneO : O := some 4607182418800017408
def zeroO : O := some 0
def halfRoot : O := some 4604544271217802189
def twoPi : O := some 4618760256179416344
def ofI (n : Int) : O := some (floatOfInt .f64 n)

def cI (m : Int) : Int := (2 * m - 1) * 2 * m
def sI (m : Int) : Int := 2 * m * (2 * m + 1)

/-- The series of the real part, behind j of its nine rounds. -/
def cosR (y : O) : Nat → O
  | 0 => oneO
  | j + 1 => fop .sub .f64 oneO (fop .mul .f64 (fop .quo .f64 y (ofI (cI (9 - (j : Int))))) (cosR y j))
/-- That of the imaginary part. -/
def sinR (y : O) : Nat → O
  | 0 => oneO
  | j + 1 => fop .sub .f64 oneO (fop .mul .f64 (fop .quo .f64 y (ofI (sI (9 - (j : Int))))) (sinR y j))

def argO (n k : Nat) : O := fop .quo .f64 (fop .mul .f64 twoPi (ofI k)) (ofI n)
def serO (n k : Nat) : O × O :=
  let x := argO n k
  let y := fop .mul .f64 x x
  (cosR y 9, fop .mul .f64 (sinR y 9) x)

/-- How many of the rules 2 to 4 are still to come, at most. -/
def rank (n k : Nat) : Nat := if 8 * k ≤ n then 0 else if 4 * k ≤ n then 1 else if 2 * k ≤ n then 2 else 3

/-- The turn of a fraction in lowest terms, rule by rule. -/
def low (rec : Nat → Nat → O × O) (n k : Nat) : O × O :=
  if k = 0 then (oneO, zeroO)
  else if n < 2 * k then let z := rec n (n - k); (z.1, fneg .f64 z.2)
  else if n < 4 * k then let z := rec (2 * n) (n - 2 * k); (fneg .f64 z.1, z.2)
  else if n < 8 * k then let z := rec (4 * n) (n - 4 * k); (z.2, z.1)
  else if 8 * k = n then (halfRoot, halfRoot)
  else serO n k

def turnF : Nat → Nat → Nat → O × O
  | 0, _, _ => (none, none)
  | f + 1, n, k => low (turnF f) (n / n.gcd k) (k / n.gcd k)

/-- The turn k of n. -/
def turn (n k : Nat) : O × O := turnF 4 n k

theorem rank_red {n k : Nat} (hn : 0 < n) : rank (n / n.gcd k) (k / n.gcd k) = rank n k := by
  have hg : 0 < n.gcd k := Nat.gcd_pos_of_pos_left _ hn
  obtain ⟨a, ha⟩ := Nat.gcd_dvd_left n k
  obtain ⟨b, hb⟩ := Nat.gcd_dvd_right n k
  generalize hG : n.gcd k = g at *
  subst ha hb
  rw [Nat.mul_div_cancel_left _ hg, Nat.mul_div_cancel_left _ hg]
  unfold rank
  have e : ∀ c : Nat, (c * (g * b) ≤ g * a) = (c * b ≤ a) := fun c => by
    rw [show c * (g * b) = g * (c * b) by rw [Nat.mul_left_comm]]
    exact propext (Nat.mul_le_mul_left_iff hg)
  simp only [e]

theorem rank_le (n k : Nat) : rank n k ≤ 3 := by unfold rank; split <;> (try split) <;> (try split) <;> omega

/-- The fuel does not matter if it is enough. -/
theorem turnF_fuel : ∀ (r f f' n k : Nat), rank n k ≤ r → r ≤ f → r ≤ f' → 0 < n → k ≤ n → turnF (f + 1) n k = turnF (f' + 1) n k := by
  intro r
  induction r with
  | zero =>
    intro f f' n k hr hf hf' hn hk
    have h := hr; rw [← rank_red hn] at h
    simp only [turnF]
    generalize n / n.gcd k = n1 at *
    generalize k / n.gcd k = k1 at *
    unfold rank at h
    have h8 : 8 * k1 ≤ n1 := by
      apply Classical.byContradiction; intro hc
      rw [if_neg hc] at h
      split at h
      · omega
      · split at h <;> omega
    unfold low
    split
    · rfl
    · have a2 : ¬ n1 < 2 * k1 := by omega
      have a4 : ¬ n1 < 4 * k1 := by omega
      have a8 : ¬ n1 < 8 * k1 := by omega
      simp only [if_neg a2, if_neg a4, if_neg a8]
  | succ r ih =>
    intro f f' n k hr hf hf' hn hk
    obtain ⟨f, rfl⟩ : ∃ g, f = g + 1 := ⟨f - 1, by omega⟩
    obtain ⟨f', rfl⟩ : ∃ g, f' = g + 1 := ⟨f' - 1, by omega⟩
    have h := hr; rw [← rank_red hn] at h
    have hg : 0 < n.gcd k := Nat.gcd_pos_of_pos_left _ hn
    have hn1 : 0 < n / n.gcd k := Nat.div_pos (Nat.le_of_dvd hn (Nat.gcd_dvd_left n k)) hg
    have hk1 : k / n.gcd k ≤ n / n.gcd k := Nat.div_le_div_right hk
    show low (turnF (f + 1)) _ _ = low (turnF (f' + 1)) _ _
    generalize n / n.gcd k = n1 at *
    generalize k / n.gcd k = k1 at *
    unfold low
    split
    · rfl
    · rename_i h0
      split
      · rename_i h2
        have hr2 : rank n1 (n1 - k1) ≤ r := by
          unfold rank at h ⊢
          rw [if_neg (by omega), if_neg (by omega), if_neg (by omega)] at h
          split <;> (try split) <;> (try split) <;> omega
        rw [ih f f' _ _ hr2 (by omega) (by omega) hn1 (by omega)]
      · rename_i h2
        split
        · rename_i h4
          have hr2 : rank (2 * n1) (n1 - 2 * k1) ≤ r := by
            unfold rank at h ⊢
            rw [if_neg (by omega), if_neg (by omega), if_pos (by omega)] at h
            split <;> (try split) <;> (try split) <;> omega
          rw [ih f f' _ _ hr2 (by omega) (by omega) (by omega) (by omega)]
        · rename_i h4
          split
          · rename_i h8
            have hr2 : rank (4 * n1) (n1 - 4 * k1) ≤ r := by
              unfold rank at h ⊢
              rw [if_neg (by omega), if_pos (by omega)] at h
              split <;> (try split) <;> (try split) <;> omega
            rw [ih f f' _ _ hr2 (by omega) (by omega) (by omega) (by omega)]
          · rfl

theorem turnF_eq {f n k : Nat} (hf : rank n k ≤ f) (hn : 0 < n) (hk : k ≤ n) : turnF (f + 1) n k = turn n k :=
  turnF_fuel (rank n k) f 3 n k (Nat.le_refl _) hf (rank_le n k) hn hk

/-- A fraction and the same in lowest terms. -/
theorem turn_red {n k : Nat} (hn : 0 < n) : turn n k = turn (n / n.gcd k) (k / n.gcd k) := by
  have hg : 0 < n.gcd k := Nat.gcd_pos_of_pos_left _ hn
  have e : (n / n.gcd k).gcd (k / n.gcd k) = 1 := by
    rw [Nat.gcd_div (Nat.gcd_dvd_left n k) (Nat.gcd_dvd_right n k)]
    exact Nat.div_self hg
  show low (turnF 3) _ _ = low (turnF 3) _ _
  rw [e, Nat.div_one, Nat.div_one]

theorem low_turn {n k : Nat} (hg : n.gcd k = 1) : turn n k = low (turnF 3) n k := by
  show low (turnF 3) (n / n.gcd k) (k / n.gcd k) = _
  rw [hg, Nat.div_one, Nat.div_one]

theorem turn_zero {n k : Nat} (hg : n.gcd k = 1) (h : k = 0) : turn n k = (oneO, zeroO) := by
  rw [low_turn hg]; unfold low; rw [if_pos h]
theorem turn_two {n k : Nat} (hg : n.gcd k = 1) (h0 : k ≠ 0) (hn : 0 < n) (hk : k ≤ n) (h : n < 2 * k) : turn n k = ((turn n (n - k)).1, fneg .f64 (turn n (n - k)).2) := by
  rw [low_turn hg]; unfold low; rw [if_neg h0, if_pos h]
  rw [turnF_eq (f := 2) (by unfold rank; split <;> (try split) <;> (try split) <;> omega) hn (by omega)]
theorem turn_four {n k : Nat} (hg : n.gcd k = 1) (h0 : k ≠ 0) (hn : 0 < n) (h2 : ¬ n < 2 * k) (h : n < 4 * k) : turn n k = (fneg .f64 (turn (2 * n) (n - 2 * k)).1, (turn (2 * n) (n - 2 * k)).2) := by
  rw [low_turn hg]; unfold low; rw [if_neg h0, if_neg h2, if_pos h]
  rw [turnF_eq (f := 2) (by unfold rank; split <;> (try split) <;> (try split) <;> omega) (by omega) (by omega)]
theorem turn_eight {n k : Nat} (hg : n.gcd k = 1) (h0 : k ≠ 0) (hn : 0 < n) (h2 : ¬ n < 2 * k) (h4 : ¬ n < 4 * k) (h : n < 8 * k) : turn n k = ((turn (4 * n) (n - 4 * k)).2, (turn (4 * n) (n - 4 * k)).1) := by
  rw [low_turn hg]; unfold low; rw [if_neg h0, if_neg h2, if_neg h4, if_pos h]
  rw [turnF_eq (f := 2) (by unfold rank; split <;> (try split) <;> (try split) <;> omega) (by omega) (by omega)]
theorem turn_eighth {n k : Nat} (hg : n.gcd k = 1) (h0 : k ≠ 0) (h2 : ¬ n < 2 * k) (h4 : ¬ n < 4 * k) (h8 : ¬ n < 8 * k) (h : 8 * k = n) : turn n k = (halfRoot, halfRoot) := by
  rw [low_turn hg]; unfold low; rw [if_neg h0, if_neg h2, if_neg h4, if_neg h8, if_pos h]
theorem turn_series {n k : Nat} (hg : n.gcd k = 1) (h0 : k ≠ 0) (h2 : ¬ n < 2 * k) (h4 : ¬ n < 4 * k) (h8 : ¬ n < 8 * k) (h : 8 * k ≠ n) : turn n k = serO n k := by
  rw [low_turn hg]; unfold low; rw [if_neg h0, if_neg h2, if_neg h4, if_neg h8, if_neg h]

end Turn
end Go.Proofs.Ytpobbicbfnglaaa
