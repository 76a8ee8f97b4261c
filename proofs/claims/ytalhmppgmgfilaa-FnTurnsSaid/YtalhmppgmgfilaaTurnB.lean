import Derived.Test.YtalhmppgmgfilaaTurnP
import Derived.Test.YtalhmppgmgfilaaRnd2
/-
  The parts of turns are numbers of at most the size 1. No program.
-/
set_option linter.unusedVariables false
set_option linter.unusedSimpArgs false
namespace Go.Proofs.Ytalhmppgmgfilaa
open Go Flt
namespace Turn

/-- A number from 0 to 1. -/
def U (a : O) : Prop := ∃ v, a = some v ∧ v ≤ ONE
/-- A number from -1 to 1. -/
def S (a : O) : Prop := ∃ v, a = some v ∧ v % 9223372036854775808 ≤ ONE ∧ v < 18446744073709551616

theorem U.toS {a : O} (h : U a) : S a := by
  obtain ⟨v, e, h⟩ := h
  have h' : v ≤ 4607182418800017408 := h
  exact ⟨v, e, by rw [Nat.mod_eq_of_lt (by omega)]; exact h, by omega⟩
theorem S.neg {a : O} (h : S a) : S (fneg .f64 a) := by
  obtain ⟨v, rfl, h1, h2⟩ := h
  refine ⟨Op.negFloat .f64 v, rfl, ?_, negFloat64_lt h2⟩
  by_cases hv : v < 9223372036854775808
  · have e : Op.negFloat .f64 v = v + 9223372036854775808 := neg64_lo hv
    rw [e, Nat.add_mod_right]; exact h1
  · have e : Op.negFloat .f64 v = v - 9223372036854775808 := neg64_hi (by omega) h2
    rw [e]
    have : (v - 9223372036854775808) % 9223372036854775808 = v % 9223372036854775808 := by omega
    rw [this]; exact h1

theorem one_lt : ONE < Ieee.double.infRung := one_inf
theorem U.one : U oneO := ⟨ONE, rfl, Nat.le_refl _⟩
theorem U.zero : U zeroO := ⟨0, rfl, Nat.zero_le _⟩
theorem U.half : U halfRoot := ⟨4604544271217802189, rfl, by decide⟩

theorem U.mul {a b : O} (ha : U a) (hb : U b) : U (fop .mul .f64 a b) := by
  obtain ⟨x, rfl, hx⟩ := ha
  obtain ⟨y, rfl, hy⟩ := hb
  obtain ⟨r, e, hr⟩ := mul_le_one (f := Ieee.double) lp64 val_one one_lt (Nat.lt_of_le_of_lt hx one_lt) hy
  exact ⟨r, e, Nat.le_trans hr hx⟩

theorem U.sub {a : O} (ha : U a) : U (fop .sub .f64 oneO a) := by
  obtain ⟨y, rfl, hy⟩ := ha
  obtain ⟨r, e, hr⟩ := sub_le (f := Ieee.double) one_lt hy
  exact ⟨r, e, hr⟩

/-- The rung of 2 to the power 60. -/
abbrev TOP : Nat := 4877398396442247168
theorem val_top : val Ieee.double TOP = 2 ^ 60 * 2 ^ 1074 := by decide +kernel
theorem top_inf : TOP < Ieee.double.infRung := by rw [ir64]; decide

theorem ofInt_rung (c : Nat) : floatOfInt .f64 (c : Int) = rungOf Ieee.double c 0 := by
  show Ieee.double.nearest (decide ((c : Int) < 0)) (c : Int).natAbs 0 = _
  rw [nearest_rung]
  have : decide ((c : Int) < 0) = false := by simp
  rw [this, word_false]
  rfl

theorem ofInt_ge {c : Nat} (h : 1 ≤ c) : ONE ≤ floatOfInt .f64 (c : Int) := by
  rw [ofInt_rung]
  exact le_rung_int lp64 (Nat.le_of_lt one_lt) (Nat.le_trans (Nat.le_of_eq val_one) (Nat.le_mul_of_pos_left _ h))

theorem ofInt_top {c : Nat} (h : c ≤ 2 ^ 60) : floatOfInt .f64 (c : Int) ≤ TOP := by
  rw [ofInt_rung]
  exact rung_int_le lp64 (Nat.le_trans (Nat.mul_le_mul_right _ h) (Nat.le_of_eq val_top.symm))

theorem ofInt_inf {c : Nat} (h : c ≤ 2 ^ 60) : floatOfInt .f64 (c : Int) < Ieee.double.infRung := Nat.lt_of_le_of_lt (ofInt_top h) top_inf

theorem U.quo {a : O} (ha : U a) {c : Nat} (h1 : 1 ≤ c) (h2 : c ≤ 2 ^ 60) : U (fop .quo .f64 a (ofI c)) := by
  obtain ⟨x, rfl, hx⟩ := ha
  have hge := ofInt_ge h1
  obtain ⟨r, e, hr⟩ := div_le (f := Ieee.double) (one := ONE) (R := x) lp64 val_one (Nat.lt_of_le_of_lt hx one_lt) (ofInt_inf h2) (Nat.lt_of_lt_of_le (by decide) hge) (.inr ⟨rfl, hge⟩)
  exact ⟨r, e, Nat.le_trans hr hx⟩

theorem cI_nat {j : Nat} (h : j < 9) : ∃ c : Nat, cI (9 - (j : Int)) = c ∧ 1 ≤ c ∧ c ≤ 2 ^ 60 := by
  have : j = 0 ∨ j = 1 ∨ j = 2 ∨ j = 3 ∨ j = 4 ∨ j = 5 ∨ j = 6 ∨ j = 7 ∨ j = 8 := by omega
  rcases this with rfl | rfl | rfl | rfl | rfl | rfl | rfl | rfl | rfl
  · exact ⟨306, rfl, by decide, by decide⟩
  · exact ⟨240, rfl, by decide, by decide⟩
  · exact ⟨182, rfl, by decide, by decide⟩
  · exact ⟨132, rfl, by decide, by decide⟩
  · exact ⟨90, rfl, by decide, by decide⟩
  · exact ⟨56, rfl, by decide, by decide⟩
  · exact ⟨30, rfl, by decide, by decide⟩
  · exact ⟨12, rfl, by decide, by decide⟩
  · exact ⟨2, rfl, by decide, by decide⟩
theorem sI_nat {j : Nat} (h : j < 9) : ∃ c : Nat, sI (9 - (j : Int)) = c ∧ 1 ≤ c ∧ c ≤ 2 ^ 60 := by
  have : j = 0 ∨ j = 1 ∨ j = 2 ∨ j = 3 ∨ j = 4 ∨ j = 5 ∨ j = 6 ∨ j = 7 ∨ j = 8 := by omega
  rcases this with rfl | rfl | rfl | rfl | rfl | rfl | rfl | rfl | rfl
  · exact ⟨342, rfl, by decide, by decide⟩
  · exact ⟨272, rfl, by decide, by decide⟩
  · exact ⟨210, rfl, by decide, by decide⟩
  · exact ⟨156, rfl, by decide, by decide⟩
  · exact ⟨110, rfl, by decide, by decide⟩
  · exact ⟨72, rfl, by decide, by decide⟩
  · exact ⟨42, rfl, by decide, by decide⟩
  · exact ⟨20, rfl, by decide, by decide⟩
  · exact ⟨6, rfl, by decide, by decide⟩

theorem U.cos {y : O} (hy : U y) : ∀ j, j ≤ 9 → U (cosR y j)
  | 0, _ => U.one
  | j + 1, h => by
    obtain ⟨c, e, h1, h2⟩ := cI_nat (j := j) (by omega)
    show U (fop .sub .f64 oneO (fop .mul .f64 (fop .quo .f64 y (ofI (cI (9 - (j : Int))))) (cosR y j)))
    rw [e]
    exact ((hy.quo h1 h2).mul (U.cos hy j (by omega))).sub
theorem U.sin {y : O} (hy : U y) : ∀ j, j ≤ 9 → U (sinR y j)
  | 0, _ => U.one
  | j + 1, h => by
    obtain ⟨c, e, h1, h2⟩ := sI_nat (j := j) (by omega)
    show U (fop .sub .f64 oneO (fop .mul .f64 (fop .quo .f64 y (ofI (sI (9 - (j : Int))))) (sinR y j)))
    rw [e]
    exact ((hy.quo h1 h2).mul (U.sin hy j (by omega))).sub

/-- A small integer is written as it is. -/
theorem ofInt_val {c : Nat} (h0 : c ≠ 0) (h : c < 2 ^ 53) : val Ieee.double (floatOfInt .f64 (c : Int)) = c * 2 ^ 1074 := by
  show val Ieee.double (Ieee.double.nearest (decide ((c : Int) < 0)) (c : Int).natAbs 0) = _
  have e : decide ((c : Int) < 0) = false := by simp
  rw [e]
  exact int_exact (LP := 1074) lp64 h0 h (by decide) val_top (Nat.le_trans (Nat.le_of_lt h) (by decide)) top_inf

/-- The rung of 8, and that of 2 times pi. -/
theorem val_eight : val Ieee.double 4620693217682128896 = 8 * 2 ^ 1074 := by decide +kernel
theorem val_twoPi : val Ieee.double 4618760256179416344 ≤ 8 * 2 ^ 1074 := by
  rw [← val_eight]; exact val_mono (by decide)

theorem arg_le {Z t n k : Nat} (h8 : t ≤ 8 * Z) (h : 8 * k ≤ n) : t * (k * Z) ≤ n * Z * Z := by
  calc t * (k * Z) ≤ 8 * Z * (k * Z) := Nat.mul_le_mul_right _ h8
    _ = 8 * k * (Z * Z) := by rw [Nat.mul_mul_mul_comm]
    _ ≤ n * (Z * Z) := Nat.mul_le_mul_right _ h
    _ = n * Z * Z := by rw [Nat.mul_assoc]

theorem U.arg {n k : Nat} (hn : 0 < n) (hn2 : n < 2 ^ 50) (h : 8 * k ≤ n) : U (argO n k) := by
  have hk2 : k < 2 ^ 50 := by omega
  have n60 : n ≤ 2 ^ 60 := Nat.le_trans (Nat.le_of_lt hn2) (by decide)
  have k60 : k ≤ 2 ^ 60 := Nat.le_trans (Nat.le_of_lt hk2) (by decide)
  have n53 : n < 2 ^ 53 := Nat.lt_of_lt_of_le hn2 (by decide)
  have k53 : k < 2 ^ 53 := Nat.lt_of_lt_of_le hk2 (by decide)
  have hvn := ofInt_val (c := n) (by omega) n53
  have hvk : val Ieee.double (floatOfInt .f64 (k : Int)) ≤ k * 2 ^ 1074 := by
    by_cases h0 : k = 0
    · subst h0
      have e : floatOfInt .f64 ((0 : Nat) : Int) = 0 := by rw [ofInt_rung]; rfl
      rw [e, val_zero]
      exact Nat.zero_le _
    · exact Nat.le_of_eq (ofInt_val h0 k53)
  have hin : (4618760256179416344 : Nat) < Ieee.double.infRung := by rw [ir64]; decide
  obtain ⟨A, eA, hA⟩ := mul_le (f := Ieee.double) (x := 4618760256179416344) (y := floatOfInt .f64 (k : Int)) (R := floatOfInt .f64 (n : Int)) lp64 hin (ofInt_inf k60) (by
    rw [hvn]
    exact Nat.le_trans (Nat.mul_le_mul_left _ hvk) (arg_le val_twoPi h))
  have hge := ofInt_ge hn
  obtain ⟨r, e, hr⟩ := div_le (f := Ieee.double) (one := ONE) (R := ONE) lp64 val_one (Nat.lt_of_le_of_lt hA (ofInt_inf n60)) (ofInt_inf n60) (Nat.lt_of_lt_of_le (by decide) hge) (.inl ⟨rfl, hA⟩)
  refine ⟨r, ?_, hr⟩
  show fop .quo .f64 (fop .mul .f64 (some 4618760256179416344) (some (floatOfInt .f64 (k : Int)))) (some (floatOfInt .f64 (n : Int))) = some r
  have e1 : fop .mul .f64 (some 4618760256179416344) (some (floatOfInt .f64 (k : Int))) = some A := eA
  rw [e1]
  exact e

theorem U.ser {n k : Nat} (hn : 0 < n) (hn2 : n < 2 ^ 50) (h : 8 * k ≤ n) : U (serO n k).1 ∧ U (serO n k).2 := by
  have hx := U.arg hn hn2 h
  have hy := hx.mul hx
  exact ⟨hy.cos 9 (Nat.le_refl _), (hy.sin 9 (Nat.le_refl _)).mul hx⟩

theorem S.turnF : ∀ (f n k : Nat), rank n k ≤ f → n * 4 ^ f < 2 ^ 50 → 0 < n → k ≤ n → S (turnF (f + 1) n k).1 ∧ S (turnF (f + 1) n k).2 := by
  intro f
  induction f with
  | zero =>
    intro n k hr hb hn hk
    have h := hr; rw [← rank_red hn] at h
    have hg : 0 < n.gcd k := Nat.gcd_pos_of_pos_left _ hn
    have hn1 : 0 < n / n.gcd k := Nat.div_pos (Nat.le_of_dvd hn (Nat.gcd_dvd_left n k)) hg
    have hnn : n / n.gcd k ≤ n := Nat.div_le_self _ _
    show S (low (Turn.turnF 0) _ _).1 ∧ S (low (Turn.turnF 0) _ _).2
    generalize n / n.gcd k = n1 at *
    generalize k / n.gcd k = k1 at *
    unfold rank at h
    have h8 : 8 * k1 ≤ n1 := by
      apply Classical.byContradiction; intro hc
      rw [if_neg hc] at h
      split at h
      · omega
      · split at h <;> omega
    have a2 : ¬ n1 < 2 * k1 := by omega
    have a4 : ¬ n1 < 4 * k1 := by omega
    have a8 : ¬ n1 < 8 * k1 := by omega
    unfold low
    simp only [if_neg a2, if_neg a4, if_neg a8]
    split
    · exact ⟨U.one.toS, U.zero.toS⟩
    · split
      · exact ⟨U.half.toS, U.half.toS⟩
      · have := U.ser (n := n1) (k := k1) hn1 (by omega) h8
        exact ⟨this.1.toS, this.2.toS⟩
  | succ f ih =>
    intro n k hr hb hn hk
    have h := hr; rw [← rank_red hn] at h
    have hg : 0 < n.gcd k := Nat.gcd_pos_of_pos_left _ hn
    have hn1 : 0 < n / n.gcd k := Nat.div_pos (Nat.le_of_dvd hn (Nat.gcd_dvd_left n k)) hg
    have hnn : n / n.gcd k ≤ n := Nat.div_le_self _ _
    have hkk : k / n.gcd k ≤ n / n.gcd k := Nat.div_le_div_right hk
    show S (low (Turn.turnF (f + 1)) _ _).1 ∧ S (low (Turn.turnF (f + 1)) _ _).2
    generalize n / n.gcd k = n1 at *
    generalize k / n.gcd k = k1 at *
    have hb1 : 4 * (n1 * 4 ^ f) < 2 ^ 50 := by
      have e : n * 4 ^ (f + 1) = 4 * (n * 4 ^ f) := by rw [Nat.pow_succ, ← Nat.mul_assoc, Nat.mul_comm]
      have : n1 * 4 ^ f ≤ n * 4 ^ f := Nat.mul_le_mul_right _ hnn
      omega
    have hb2 : 2 * n1 * 4 ^ f < 2 ^ 50 := by rw [Nat.mul_assoc]; omega
    have hb4 : 4 * n1 * 4 ^ f < 2 ^ 50 := by rw [Nat.mul_assoc]; omega
    have hn0 : n1 < 2 ^ 50 := by
      have : n1 * 1 ≤ n1 * 4 ^ f := Nat.mul_le_mul_left _ (Nat.pow_pos (by omega))
      omega
    unfold low
    split
    · exact ⟨U.one.toS, U.zero.toS⟩
    · split
      · rename_i h2
        have hr2 : rank n1 (n1 - k1) ≤ f := by
          unfold rank at h ⊢
          rw [if_neg (by omega), if_neg (by omega), if_neg (by omega)] at h
          split <;> (try split) <;> (try split) <;> omega
        have := ih n1 (n1 - k1) hr2 (by omega) hn1 (by omega)
        exact ⟨this.1, this.2.neg⟩
      · rename_i h2
        split
        · rename_i h4
          have hr2 : rank (2 * n1) (n1 - 2 * k1) ≤ f := by
            unfold rank at h ⊢
            rw [if_neg (by omega), if_neg (by omega), if_pos (by omega)] at h
            split <;> (try split) <;> (try split) <;> omega
          have := ih (2 * n1) (n1 - 2 * k1) hr2 hb2 (by omega) (by omega)
          exact ⟨this.1.neg, this.2⟩
        · rename_i h4
          split
          · rename_i h8
            have hr2 : rank (4 * n1) (n1 - 4 * k1) ≤ f := by
              unfold rank at h ⊢
              rw [if_neg (by omega), if_pos (by omega)] at h
              split <;> (try split) <;> (try split) <;> omega
            have := ih (4 * n1) (n1 - 4 * k1) hr2 hb4 (by omega) (by omega)
            exact ⟨this.2, this.1⟩
          · rename_i h8
            split
            · exact ⟨U.half.toS, U.half.toS⟩
            · have := U.ser (n := n1) (k := k1) hn1 hn0 (by omega)
              exact ⟨this.1.toS, this.2.toS⟩

theorem S.turn {n k : Nat} (hn : 0 < n) (hn2 : n ≤ 100000) (hk : k ≤ n) : S (turn n k).1 ∧ S (turn n k).2 :=
  S.turnF 3 n k (rank_le n k) (by omega) hn hk

/-- The rung of 1 of narrow numbers. -/
abbrev ONE32 : Nat := 1065353216
theorem val_one32 : val Ieee.single ONE32 = 2 ^ 149 := by decide +kernel
theorem lp32 : Ieee.single.leastPlace = -((149 : Nat) : Int) := by decide

/-- A number of at most the size 1 can be narrowed. -/
theorem S.narrow {v : Nat} (h : v % 9223372036854775808 ≤ ONE) : ∃ u, floatToFloatBits .f64 v .f32 = some u := by
  have hs : Ieee.double.signWeight = 9223372036854775808 := sw64
  have hx : v % Ieee.double.signWeight < Ieee.double.infRung := by rw [hs]; exact Nat.lt_of_le_of_lt h one_inf
  obtain ⟨m, p, e, hp, hv⟩ := read_fin (f := Ieee.double) hx
  rw [hs] at hv
  have hle : val Ieee.double (v % 9223372036854775808) ≤ 2 ^ 1074 := by rw [← val_one]; exact val_mono h
  rw [lp64] at hp hv
  have hr : rungOf Ieee.single m p ≤ ONE32 := by
    refine rung_le (base := -((1074 : Nat) : Int)) hp (by rw [lp32]; omega) ?_
    rw [val_one32, lp32, ← Nat.pow_add, show 149 + (-((149 : Nat) : Int) - -((1074 : Nat) : Int)).toNat = 1074 from rfl]
    unfold at_
    rw [hv]
    exact hle
  refine ⟨Ieee.single.nearest (v / Ieee.double.signWeight % 2 == 1) m p, ?_⟩
  unfold floatToFloatBits
  rw [if_neg (by decide)]
  have e' : FloatKind.f64.decode v = .number (v / Ieee.double.signWeight % 2 == 1) m p := e
  rw [e']
  have hni : (FloatKind.f32.decode (FloatKind.f32.encode (.number (v / Ieee.double.signWeight % 2 == 1) m p))).isInfinity = false := by
    show (Ieee.single.read (Ieee.single.nearest (v / Ieee.double.signWeight % 2 == 1) m p)).isInfinity = false
    rw [nearest_rung]
    have h32 : rungOf Ieee.single m p < Ieee.single.infRung := Nat.lt_of_le_of_lt hr (by rw [ir32]; decide)
    obtain ⟨a, b, e2, _⟩ := read_word (f := Ieee.single) (v / Ieee.double.signWeight % 2 == 1) h32
    rw [e2]; rfl
  simp only [hni]
  rfl

end Turn
end Go.Proofs.Ytalhmppgmgfilaa
