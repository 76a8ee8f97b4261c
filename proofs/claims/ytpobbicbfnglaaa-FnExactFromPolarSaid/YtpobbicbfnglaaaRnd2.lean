import Derived.Test.YtpobbicbfnglaaaRnd
/-
  Sizes of differences, products and quotients of numbers from 0 to 1. No program.
-/
set_option linter.unusedVariables false
set_option linter.unusedSimpArgs false
namespace Go.Proofs.Ytpobbicbfnglaaa.Flt
section
open Ieee
variable {f : Format} {LP one : Nat}

theorem val_mono {r s : Nat} (h : r ≤ s) : val f r ≤ val f s := by
  rcases Nat.lt_or_eq_of_le h with h | h
  · exact Nat.le_of_lt (val_lt f h)
  · rw [h]; exact Nat.le_refl _

theorem read_pos {x : Nat} (h : x < f.infRung) : ∃ m p, f.read x = .number false m p ∧ f.leastPlace ≤ p ∧ m * 2 ^ (p - f.leastPlace).toNat = val f x := by
  obtain ⟨m, p, h1, h2, h3⟩ := read_word (f := f) false h
  exact ⟨m, p, h1, h2, h3⟩

theorem word_false (f : Format) (r : Nat) : f.word false r = r := rfl

/-- A product of numbers that are not negative. -/
theorem mul_le {x y R : Nat} (hLP : f.leastPlace = -(LP : Int)) (hx : x < f.infRung) (hy : y < f.infRung) (hv : val f x * val f y ≤ val f R * 2 ^ LP) :
    ∃ r, f.mul x y = some r ∧ r ≤ R := by
  obtain ⟨m, i, e1, i1, v1⟩ := read_pos hx
  obtain ⟨n, j, e2, j1, v2⟩ := read_pos hy
  rw [hLP] at i1 j1 v1 v2
  refine ⟨rungOf f (m * n) (i + j), ?_, ?_⟩
  · unfold Format.mul
    rw [e1, e2]
    simp only [Datum.product, Option.map_some, Format.write, Bool.xor_false, nearest_rung, word_false]
  · refine rung_le (base := -(LP : Int) - LP) (by omega) (by rw [hLP]; omega) ?_
    rw [hLP, show (-(LP : Int) - (-(LP : Int) - LP)).toNat = LP by omega]
    refine Nat.le_trans (Nat.le_of_eq ?_) hv
    unfold at_
    rw [← v1, ← v2, Nat.mul_mul_mul_comm, ← Nat.pow_add]
    congr 2
    omega

theorem mul_le_one {x y : Nat} (hLP : f.leastPlace = -(LP : Int)) (h1 : val f one = 2 ^ LP) (hoi : one < f.infRung) (hx : x < f.infRung) (hy : y ≤ one) : ∃ r, f.mul x y = some r ∧ r ≤ x := by
  refine mul_le hLP hx (Nat.lt_of_le_of_lt hy hoi) ?_
  rw [← h1]
  exact Nat.mul_le_mul_left _ (val_mono hy)

/-- A difference of numbers that are not negative, the first one being no less. -/
theorem sub_le {x y : Nat} (hx : x < f.infRung) (hy : y ≤ x) : ∃ r, f.sub x y = some r ∧ r ≤ x := by
  obtain ⟨m, i, e1, i1, v1⟩ := read_pos hx
  obtain ⟨n, j, e2, j1, v2⟩ := read_pos (f := f) (Nat.lt_of_le_of_lt hy hx)
  have hvv : val f y ≤ val f x := val_mono hy
  generalize hl : f.leastPlace = l at *
  unfold Format.sub
  rw [e1, e2]
  simp only [Datum.opposite, Datum.sum, Bool.not_false]
  obtain ⟨b, hb⟩ : ∃ b, min i j = b := ⟨_, rfl⟩
  rw [hb]
  have hbl : l ≤ b := by omega
  have t1 : signed false m (i - b).toNat = ((m * 2 ^ (i - b).toNat : Nat) : Int) := by rw [signed_eq]; rfl
  have t2 : signed true n (j - b).toNat = -((n * 2 ^ (j - b).toNat : Nat) : Int) := by rw [signed_eq]; rfl
  rw [t1, t2]
  have s1 : m * 2 ^ (i - b).toNat * 2 ^ (b - l).toNat = val f x := by rw [← v1, Nat.mul_assoc, ← Nat.pow_add]; congr 2; omega
  have s2 : n * 2 ^ (j - b).toNat * 2 ^ (b - l).toNat = val f y := by rw [← v2, Nat.mul_assoc, ← Nat.pow_add]; congr 2; omega
  generalize m * 2 ^ (i - b).toNat = M at *
  generalize n * 2 ^ (j - b).toNat = N at *
  have hp : 0 < 2 ^ (b - l).toNat := Nat.two_pow_pos _
  have hNM : N ≤ M := by
    rw [← s1, ← s2] at hvv
    exact Nat.le_of_mul_le_mul_right hvv hp
  have hneg : (if (M : Int) + -(N : Int) = 0 then (false && true) else decide ((M : Int) + -(N : Int) < 0)) = false := by
    split
    · rfl
    · simp; omega
  rw [hneg, show ((M : Int) + -(N : Int)).natAbs = M - N by omega]
  refine ⟨rungOf f (M - N) b, ?_, ?_⟩
  · simp only [Option.map_some, Format.write, nearest_rung, word_false]
  · refine rung_le (base := l) hbl (by omega) ?_
    rw [hl, Int.sub_self, Int.toNat_zero, Nat.pow_zero, Nat.mul_one]
    unfold at_
    rw [← s1]
    exact Nat.mul_le_mul_right _ (Nat.sub_le _ _)

/-- What a quotient is cut to lies on the same side of each whole number. -/
theorem quot_le {D n K : Nat} (hn : 0 < n) (h : D ≤ n * K) : 2 * (D / n) + (D % n != 0).toNat ≤ 2 * K := by
  have e := Nat.div_add_mod D n
  by_cases h0 : D % n = 0
  · rw [h0]
    have : D / n ≤ K := by
      rw [h0, Nat.add_zero] at e
      rw [← e] at h
      exact Nat.le_of_mul_le_mul_left h hn
    simp; omega
  · have : D / n < K := by
      apply Nat.lt_of_not_le
      intro hc
      have := Nat.mul_le_mul_left n hc
      omega
    have hb : (D % n != 0) = true := by simp [h0]
    rw [hb]
    simp only [Bool.toNat_true]
    omega

theorem log_lt {m : Nat} (h : m < 2 * f.binade) : m.log2 ≤ f.fractionBits := by
  by_cases h0 : m = 0
  · subst h0; simp
  · have : m.log2 < f.fractionBits + 1 := (Nat.log2_lt h0).2 (by rw [Nat.pow_succ, Nat.mul_comm]; exact h)
    omega

/-- A number that a word stands for has no more digits than the format. -/
theorem read_small {x m : Nat} {p : Int} (h : f.read x = .number false m p) : m < 2 * f.binade := by
  unfold Format.read at h
  have hb := binade_pos f
  simp only [] at h
  split at h
  · rename_i hlt
    simp only [Datum.number.injEq] at h
    omega
  · split at h
    · simp only [Datum.number.injEq] at h
      have hm := Nat.mod_lt (x % f.signWeight) hb
      omega
    · split at h <;> cases h

theorem quot_zero (mo n : Nat) : 2 * (((0 : Nat) <<< mo) / n) + (((0 : Nat) <<< mo) % n != 0).toNat = 0 := by
  rw [Nat.zero_shiftLeft, Nat.zero_div, Nat.zero_mod]; rfl

/-- A quotient of numbers that are not negative: no greater than 1 if the first one is no greater than the second one; and no greater than the first one if the second one is no less than 1. -/
theorem div_le {x y R : Nat} (hLP : f.leastPlace = -(LP : Int)) (h1 : val f one = 2 ^ LP) (hx : x < f.infRung) (hy : y < f.infRung) (hy0 : 0 < y)
    (hR : (R = one ∧ x ≤ y) ∨ (R = x ∧ one ≤ y)) : ∃ r, f.div x y = some r ∧ r ≤ R := by
  obtain ⟨m, i, e1, i1, v1⟩ := read_pos hx
  obtain ⟨n, j, e2, j1, v2⟩ := read_pos hy
  have hml := log_lt (read_small e1)
  have hnl := log_lt (read_small e2)
  rw [hLP] at i1 j1 v1 v2
  have hvy : 0 < val f y := by have := val_lt f hy0; rw [val_zero] at this; exact this
  have hn : n ≠ 0 := by
    intro h; subst h; rw [Nat.zero_mul] at v2; omega
  unfold Format.div
  rw [e1, e2]
  simp only [Datum.quotient, if_neg hn]
  obtain ⟨mo, hmo⟩ : ∃ mo, f.fractionBits + 2 + n.log2 - m.log2 = mo := ⟨_, rfl⟩
  rw [hmo]
  refine ⟨rungOf f (2 * ((m <<< mo) / n) + ((m <<< mo) % n != 0).toNat) (i - j - mo - 1), ?_, ?_⟩
  · simp only [Option.map_some, Format.write, Bool.xor_false, nearest_rung, word_false]
  by_cases hm0 : m = 0
  · subst hm0
    rw [quot_zero]
    unfold rungOf
    rw [if_pos rfl]
    exact Nat.zero_le _
  · obtain ⟨B, hBi, hBl⟩ : ∃ B : Nat, -(B : Int) ≤ i - j - mo - 1 ∧ LP ≤ B := ⟨(j - i + mo + 1).toNat + LP, by omega, by omega⟩
    have key : ∃ K : Nat, m <<< mo ≤ n * K ∧ K * 2 ^ (i - j - mo + B).toNat = val f R * 2 ^ (B - LP) := by
      have hx1 : m * 2 ^ (i + LP).toNat = val f x := by rw [← v1]; congr 2; omega
      have hy1 : n * 2 ^ (j + LP).toNat = val f y := by rw [← v2]; congr 2; omega
      have hhi := Nat.lt_log2_self (n := n)
      rcases hR with ⟨rfl, hxy⟩ | ⟨rfl, hy1'⟩
      · have hle := val_mono (f := f) hxy
        rw [← hx1, ← hy1] at hle
        have hlo := Nat.log2_self_le hm0
        have hex : i + m.log2 ≤ j + n.log2 := by
          have h1 : 2 ^ m.log2 * 2 ^ (i + LP).toNat < 2 ^ (n.log2 + 1) * 2 ^ (j + LP).toNat :=
            Nat.lt_of_le_of_lt (Nat.le_trans (Nat.mul_le_mul_right _ hlo) hle) (Nat.mul_lt_mul_of_pos_right hhi (Nat.two_pow_pos _))
          rw [← Nat.pow_add, ← Nat.pow_add] at h1
          have := (Nat.pow_lt_pow_iff_right (by omega)).1 h1
          omega
        refine ⟨2 ^ (mo + j - i).toNat, ?_, ?_⟩
        · rw [Nat.shiftLeft_eq]
          apply Nat.le_of_mul_le_mul_right (c := 2 ^ (i + LP).toNat) _ (Nat.two_pow_pos _)
          calc m * 2 ^ mo * 2 ^ (i + LP).toNat = m * 2 ^ (i + LP).toNat * 2 ^ mo := by rw [Nat.mul_right_comm]
            _ ≤ n * 2 ^ (j + LP).toNat * 2 ^ mo := Nat.mul_le_mul_right _ hle
            _ = n * 2 ^ (mo + j - i).toNat * 2 ^ (i + LP).toNat := by
              rw [Nat.mul_assoc, Nat.mul_assoc, ← Nat.pow_add, ← Nat.pow_add]; congr 2; omega
        · rw [h1, ← Nat.pow_add, ← Nat.pow_add]; congr 1; omega
      · have hle := val_mono (f := f) hy1'
        rw [h1, ← hy1] at hle
        have hex : 0 ≤ j + n.log2 := by
          have h1 : 2 ^ LP < 2 ^ (n.log2 + 1) * 2 ^ (j + LP).toNat := Nat.lt_of_le_of_lt hle (Nat.mul_lt_mul_of_pos_right hhi (Nat.two_pow_pos _))
          rw [← Nat.pow_add] at h1
          have := (Nat.pow_lt_pow_iff_right (by omega)).1 h1
          omega
        refine ⟨m * 2 ^ (mo + j).toNat, ?_, ?_⟩
        · rw [Nat.shiftLeft_eq]
          apply Nat.le_of_mul_le_mul_right (c := 2 ^ LP) _ (Nat.two_pow_pos _)
          calc m * 2 ^ mo * 2 ^ LP ≤ m * 2 ^ mo * (n * 2 ^ (j + LP).toNat) := Nat.mul_le_mul_left _ hle
            _ = n * (m * (2 ^ mo * 2 ^ (j + LP).toNat)) := by
              rw [Nat.mul_left_comm, Nat.mul_assoc]
            _ = n * (m * 2 ^ (mo + j).toNat) * 2 ^ LP := by
              rw [Nat.mul_assoc n, Nat.mul_assoc m, ← Nat.pow_add, ← Nat.pow_add]; congr 3; omega
        · rw [← hx1, Nat.mul_assoc, Nat.mul_assoc, ← Nat.pow_add, ← Nat.pow_add]; congr 2; omega
    obtain ⟨K, hK1, hK2⟩ := key
    refine rung_le (base := -(B : Int)) hBi (by rw [hLP]; omega) ?_
    rw [hLP, show (-(LP : Int) - -(B : Int)).toNat = B - LP by omega, ← hK2]
    unfold at_
    have h2 := quot_le (Nat.pos_of_ne_zero hn) hK1
    calc (2 * ((m <<< mo) / n) + ((m <<< mo) % n != 0).toNat) * 2 ^ (i - j - mo - 1 - -(B : Int)).toNat ≤ 2 * K * 2 ^ (i - j - mo - 1 - -(B : Int)).toNat := Nat.mul_le_mul_right _ h2
      _ = K * (2 ^ (i - j - mo - 1 - -(B : Int)).toNat * 2) := by rw [Nat.mul_comm 2 K, Nat.mul_assoc, Nat.mul_comm 2]
      _ = K * 2 ^ (i - j - mo + B).toNat := by rw [← Nat.pow_succ]; congr 2; omega

theorem mul_pow_self (a : Nat) (l : Int) : a * 2 ^ (l - l).toNat = a := by
  rw [Int.sub_self, Int.toNat_zero, Nat.pow_zero, Nat.mul_one]

theorem at_int (c LP : Nat) : at_ c 0 (-(LP : Int)) = c * 2 ^ LP := by
  unfold at_; congr 2; omega

/-- How an integer is rounded. -/
theorem rung_int_le {c R : Nat} (hLP : f.leastPlace = -(LP : Int)) (h : c * 2 ^ LP ≤ val f R) : rungOf f c 0 ≤ R := by
  refine rung_le (base := -(LP : Int)) (by omega) (by rw [hLP]; exact Int.le_refl _) ?_
  rw [hLP, mul_pow_self, at_int]
  exact h
theorem le_rung_int {c R : Nat} (hLP : f.leastPlace = -(LP : Int)) (hR : R ≤ f.infRung) (h : val f R ≤ c * 2 ^ LP) : R ≤ rungOf f c 0 := by
  refine le_rung (base := -(LP : Int)) (by omega) (by rw [hLP]; exact Int.le_refl _) hR ?_
  rw [hLP, mul_pow_self, at_int]
  exact h
theorem nearest_int {c r : Nat} (hLP : f.leastPlace = -(LP : Int)) (hr : r < f.infRung) (h : val f r = c * 2 ^ LP) : f.nearest false c 0 = f.word false r := by
  refine nearest_exact (f := f) (base := -(LP : Int)) false hr (by omega) (by rw [hLP]; exact Int.le_refl _) ?_
  rw [hLP, mul_pow_self, h]
  exact at_int c LP

theorem int_exact {c top T : Nat} (hLP : f.leastPlace = -(LP : Int)) (h0 : c ≠ 0) (hc : c < 2 * f.binade) (hfb : f.fractionBits ≤ LP) (htop : val f top = T * 2 ^ LP) (hT : c ≤ T) (hinf : top < f.infRung) :
    val f (f.nearest false c 0) = c * 2 ^ LP := by
  have hr := rung_of (f := f) (k := c) (q := LP) h0 hc (by omega)
  generalize ((LP + c.log2 - f.fractionBits) * f.binade + c * 2 ^ (f.fractionBits - c.log2)) = r at hr
  have hlt : r < f.infRung := by
    apply Nat.lt_of_le_of_lt _ hinf
    apply Nat.le_of_not_lt
    intro hcc
    have := val_lt f hcc
    rw [hr, htop] at this
    exact absurd this (Nat.not_lt.2 (Nat.mul_le_mul_right _ hT))
  rw [nearest_int hLP hlt hr, word_false, hr]

end

/-- The rung of 1. -/
abbrev ONE : Nat := 4607182418800017408
theorem one_inf : ONE < Ieee.double.infRung := by rw [ir64]; decide
theorem lp64 : Ieee.double.leastPlace = -((1074 : Nat) : Int) := by decide
theorem val_one : val Ieee.double ONE = 2 ^ 1074 := by decide +kernel
end Go.Proofs.Ytpobbicbfnglaaa.Flt
