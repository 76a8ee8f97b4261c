import Derived.Test.YtpobbicbfnglaaaOpt
/-
  Rounding: what is written is no farther than half a unit from the number, and the order is kept. No program.
-/
set_option linter.unusedVariables false
set_option linter.unusedSimpArgs false
namespace Go.Proofs.Ytpobbicbfnglaaa.Flt
section
open Ieee
variable {f : Format}

theorem val_of {q k : Nat} (hq : q = 0 ∨ f.binade ≤ k) (hk : k ≤ 2 * f.binade) : val f (q * f.binade + k) = k * 2 ^ q := by
  have hb := binade_pos f
  by_cases h1 : k < f.binade
  · have h0 : q = 0 := by rcases hq with h | h <;> omega
    subst h0
    simp [val, h1]
  · have hge : f.binade ≤ k := by omega
    unfold val
    have hn : ¬ q * f.binade + k < f.binade := by omega
    rw [if_neg hn]
    by_cases h2 : k < 2 * f.binade
    · have hd : (q * f.binade + k) / f.binade = q + 1 := by
        rw [show q * f.binade + k = (k - f.binade) + (q + 1) * f.binade by rw [Nat.add_mul, Nat.one_mul]; omega, Nat.add_mul_div_right _ _ hb, Nat.div_eq_of_lt (by omega)]
        omega
      have hm : (q * f.binade + k) % f.binade = k - f.binade := by
        rw [show q * f.binade + k = (k - f.binade) + (q + 1) * f.binade by rw [Nat.add_mul, Nat.one_mul]; omega, Nat.add_mul_mod_self_right, Nat.mod_eq_of_lt (by omega)]
      rw [hd, hm, show q + 1 - 1 = q by omega, show f.binade + (k - f.binade) = k by omega]
    · have hk2 : k = 2 * f.binade := by omega
      subst hk2
      have hd : (q * f.binade + 2 * f.binade) / f.binade = q + 2 := by
        rw [← Nat.add_mul, Nat.mul_div_cancel _ hb]
      have hm : (q * f.binade + 2 * f.binade) % f.binade = 0 := by
        rw [← Nat.add_mul, Nat.mul_mod_left]
      rw [hd, hm, show q + 2 - 1 = q + 1 by omega, Nat.add_zero, Nat.pow_succ, Nat.mul_assoc 2, Nat.mul_left_comm 2, Nat.mul_comm 2 (2 ^ q)]

/-- What is cut to the nearest whole number is no farther from it than half a unit. -/
theorem cut_near (neg : Bool) (n drop : Nat) :
    2 * (Toward.even.cut neg n drop) * 2 ^ drop ≤ 2 * n + 2 ^ drop ∧ 2 * n ≤ (2 * (Toward.even.cut neg n drop) + 1) * 2 ^ drop := by
  unfold Toward.cut
  by_cases hd : drop ≤ n.log2 + 2
  · rw [show min drop (n.log2 + 2) = drop by omega, Nat.shiftLeft_eq, Nat.one_mul]
    generalize hg : 2 ^ drop = g
    have hgp : 0 < g := by rw [← hg]; exact Nat.two_pow_pos _
    have e := Nat.div_add_mod n g
    have hm := Nat.mod_lt n hgp
    simp only []
    generalize n / g = low at *
    generalize n % g = rest at *
    by_cases hc : (decide (g < 2 * rest) || g == 2 * rest && low % 2 == 1) = true
    · rw [hc]
      have hge : g ≤ 2 * rest := by
        simp only [Bool.or_eq_true, decide_eq_true_eq, Bool.and_eq_true, beq_iff_eq] at hc
        omega
      simp only [Bool.toNat_true]
      have e1 : 2 * (low + 1) * g = 2 * (g * low) + 2 * g := by rw [Nat.mul_comm g low, Nat.mul_assoc, Nat.add_mul]; omega
      have e2 : (2 * (low + 1) + 1) * g = 2 * (g * low) + 3 * g := by rw [Nat.mul_comm g low, Nat.add_mul, Nat.mul_assoc, Nat.add_mul]; omega
      omega
    · have hc : (decide (g < 2 * rest) || g == 2 * rest && low % 2 == 1) = false := by simpa using hc
      rw [hc]
      have hge : 2 * rest ≤ g := by
        simp only [Bool.or_eq_false_iff, decide_eq_false_iff_not] at hc
        omega
      simp only [Bool.toNat_false, Nat.add_zero]
      have e1 : 2 * low * g = 2 * (g * low) := by rw [Nat.mul_comm g low, Nat.mul_assoc]
      have e2 : (2 * low + 1) * g = 2 * (g * low) + g := by rw [Nat.mul_comm g low, Nat.add_mul, Nat.mul_assoc]; omega
      omega
  · rw [show min drop (n.log2 + 2) = n.log2 + 2 by omega, Nat.shiftLeft_eq, Nat.one_mul]
    have hlt : n < 2 ^ (n.log2 + 1) := Nat.lt_log2_self
    have h2 : 2 ^ (n.log2 + 2) = 2 * 2 ^ (n.log2 + 1) := by rw [Nat.pow_succ, Nat.mul_comm]
    have h3 : 2 ^ (n.log2 + 2) ≤ 2 ^ drop := Nat.pow_le_pow_right (by omega) (by omega)
    have e1 : n / 2 ^ (n.log2 + 2) = 0 := Nat.div_eq_of_lt (by omega)
    have e2 : n % 2 ^ (n.log2 + 2) = n := Nat.mod_eq_of_lt (by omega)
    simp only [e1, e2]
    have hc : (decide (2 ^ (n.log2 + 2) < 2 * n) || 2 ^ (n.log2 + 2) == 2 * n && 0 % 2 == 1) = false := by
      simp; omega
    rw [hc]
    simp only [Bool.toNat_false, Nat.add_zero, Nat.mul_zero, Nat.zero_mul, Nat.zero_add, Nat.one_mul]
    omega

/-- The rung to which a number is rounded. -/
def rungOf (f : Format) (m : Nat) (p : Int) : Nat :=
  if m = 0 then 0 else
  let last := max (p + m.log2 - f.fractionBits) f.leastPlace
  min ((last - f.leastPlace).toNat * f.binade + Toward.even.cut false (m <<< (p - last).toNat) (last - p).toNat) f.infRung

theorem cut_neg (neg : Bool) (n drop : Nat) : Toward.even.cut neg n drop = Toward.even.cut false n drop := rfl

theorem nearest_rung (neg : Bool) (m : Nat) (p : Int) : f.nearest neg m p = f.word neg (rungOf f m p) := by
  unfold Format.nearest rungOf
  split
  · rfl
  · rfl

/-- A number in units of 2^base. -/
def at_ (m : Nat) (p base : Int) : Nat := m * 2 ^ (p - base).toNat

/-- HOW A NUMBER IS ROUNDED: its rung is L binades and k, where k units of 2^(leastPlace + L) are nearest to it. -/
theorem rung_spec {m : Nat} {p base : Int} (hm : m ≠ 0) (h1 : base ≤ p) (h2 : base ≤ f.leastPlace) :
    ∃ L k : Nat, rungOf f m p = min (L * f.binade + k) f.infRung ∧ (L = 0 ∨ f.binade ≤ k) ∧ k ≤ 2 * f.binade ∧
      2 * k * (2 ^ L * 2 ^ (f.leastPlace - base).toNat) ≤ 2 * at_ m p base + 2 ^ L * 2 ^ (f.leastPlace - base).toNat ∧
      2 * at_ m p base ≤ (2 * k + 1) * (2 ^ L * 2 ^ (f.leastPlace - base).toNat) ∧
      (L ≠ 0 → f.binade * (2 ^ L * 2 ^ (f.leastPlace - base).toNat) ≤ at_ m p base) := by
  unfold rungOf
  rw [if_neg hm]
  simp only []
  generalize hlast : max (p + m.log2 - f.fractionBits) f.leastPlace = last
  have hl1 : f.leastPlace ≤ last := by omega
  have hl2 : p + m.log2 - f.fractionBits ≤ last := by omega
  obtain ⟨c1, c2⟩ := cut_near false (m <<< (p - last).toNat) (last - p).toNat
  generalize hk : Toward.even.cut false (m <<< (p - last).toNat) (last - p).toNat = k at *
  obtain ⟨L, hL⟩ : ∃ L, (last - f.leastPlace).toNat = L := ⟨_, rfl⟩
  obtain ⟨d, hd⟩ : ∃ d, (last - p).toNat = d := ⟨_, rfl⟩
  obtain ⟨W, hW⟩ : ∃ W, 2 ^ L * 2 ^ (f.leastPlace - base).toNat = W := ⟨_, rfl⟩
  have hW' : W = 2 ^ (last - base).toNat := by rw [← hW, ← Nat.pow_add]; congr 1; omega
  have hWp : 0 < W := by rw [hW']; exact Nat.two_pow_pos _
  rw [hL]
  refine ⟨L, k, rfl, ?_⟩
  rw [hW]
  rw [hd] at c1 c2
  have hn : (m <<< (p - last).toNat) * W = at_ m p base * 2 ^ d := by
    rw [Nat.shiftLeft_eq, hW']
    unfold at_
    rw [Nat.mul_assoc, Nat.mul_assoc, ← Nat.pow_add, ← Nat.pow_add]
    congr 2
    omega
  generalize (m <<< (p - last).toNat) = n at *
  have hgp : 0 < 2 ^ d := Nat.two_pow_pos _
  generalize hM : at_ m p base = M at *
  have k1 : 2 * k * W ≤ 2 * M + W := by
    have := Nat.mul_le_mul_right W c1
    rw [Nat.add_mul, Nat.mul_assoc 2 n W, hn] at this
    apply Nat.le_of_mul_le_mul_right (c := 2 ^ d) _ hgp
    calc 2 * k * W * 2 ^ d = 2 * k * 2 ^ d * W := by rw [Nat.mul_right_comm]
      _ ≤ 2 * (M * 2 ^ d) + 2 ^ d * W := this
      _ = (2 * M + W) * 2 ^ d := by rw [Nat.add_mul, Nat.mul_assoc, Nat.mul_comm (2 ^ d) W]
  have k2 : 2 * M ≤ (2 * k + 1) * W := by
    have := Nat.mul_le_mul_right W c2
    rw [Nat.mul_assoc 2 n W, hn] at this
    apply Nat.le_of_mul_le_mul_right (c := 2 ^ d) _ hgp
    calc 2 * M * 2 ^ d = 2 * (M * 2 ^ d) := by rw [Nat.mul_assoc]
      _ ≤ (2 * k + 1) * 2 ^ d * W := this
      _ = (2 * k + 1) * W * 2 ^ d := by rw [Nat.mul_right_comm]
  have lo := Nat.log2_self_le hm
  have hi := Nat.lt_log2_self (n := m)
  have hMlt : M < 2 * f.binade * W := by
    rw [← hM, hW']
    unfold at_ Format.binade
    calc m * 2 ^ (p - base).toNat < 2 ^ (m.log2 + 1) * 2 ^ (p - base).toNat := Nat.mul_lt_mul_of_pos_right hi (Nat.two_pow_pos _)
      _ = 2 ^ (m.log2 + 1 + (p - base).toNat) := by rw [← Nat.pow_add]
      _ ≤ 2 ^ (1 + f.fractionBits + (last - base).toNat) := Nat.pow_le_pow_right (by omega) (by omega)
      _ = 2 * 2 ^ f.fractionBits * 2 ^ (last - base).toNat := by rw [Nat.pow_add, Nat.pow_add]
  have hbig : L ≠ 0 → f.binade * W ≤ M := by
    intro hne
    have hle : last = p + m.log2 - f.fractionBits := by omega
    rw [← hM, hW']
    unfold at_ Format.binade
    calc 2 ^ f.fractionBits * 2 ^ (last - base).toNat = 2 ^ (m.log2 + (p - base).toNat) := by rw [← Nat.pow_add]; congr 1; omega
      _ = 2 ^ m.log2 * 2 ^ (p - base).toNat := by rw [Nat.pow_add]
      _ ≤ m * 2 ^ (p - base).toNat := Nat.mul_le_mul_right _ lo
  refine ⟨?_, ?_, k1, k2, hbig⟩
  · by_cases h0 : L = 0
    · exact .inl h0
    · right
      have hb := hbig h0
      have : 2 * (f.binade * W) ≤ (2 * k + 1) * W := Nat.le_trans (Nat.mul_le_mul_left 2 hb) k2
      rw [← Nat.mul_assoc] at this
      have := Nat.le_of_mul_le_mul_right this hWp
      omega
  · have h3 : 2 * k * W < (4 * f.binade + 1) * W := by
      have e : (4 * f.binade + 1) * W = 2 * (2 * f.binade * W) + W := by rw [Nat.add_mul, Nat.one_mul, show 4 * f.binade * W = 2 * (2 * f.binade * W) by rw [← Nat.mul_assoc, ← Nat.mul_assoc]]
      omega
    have := Nat.lt_of_mul_lt_mul_right h3
    omega

/-- A number that is no greater than that of a rung is rounded to it or below. -/
theorem rung_le {m R : Nat} {p base : Int} (h1 : base ≤ p) (h2 : base ≤ f.leastPlace) (h : at_ m p base ≤ val f R * 2 ^ (f.leastPlace - base).toNat) : rungOf f m p ≤ R := by
  by_cases hm : m = 0
  · unfold rungOf; rw [if_pos hm]; exact Nat.zero_le _
  obtain ⟨L, k, hr, hq, hk, k1, k2, hb⟩ := rung_spec (f := f) hm h1 h2
  rw [hr]
  obtain ⟨U, hU⟩ : ∃ U, 2 ^ (f.leastPlace - base).toNat = U := ⟨_, rfl⟩
  have hUp : 0 < U := by rw [← hU]; exact Nat.two_pow_pos _
  rw [hU] at h k1 k2 hb
  generalize at_ m p base = M at *
  refine Nat.le_trans (Nat.min_le_left _ _) ?_
  apply Nat.le_of_not_lt
  intro hlt
  have hv := val_lt f hlt
  rw [val_of hq hk] at hv
  have hLp : 0 < 2 ^ L := Nat.two_pow_pos _
  -- the rung's number is a whole number of 2^L, or it is less than a binade of them
  have hcase : (∃ K, val f R = K * 2 ^ L) ∨ (L ≠ 0 ∧ val f R < f.binade * 2 ^ L) := by
    by_cases h0 : R = 0
    · left; exact ⟨0, by rw [h0, val_zero]; simp⟩
    obtain ⟨j, q, hj0, hj, hjq, he, hv'⟩ := rung_parts (f := f) h0
    by_cases hLq : L ≤ q
    · left
      exact ⟨j * 2 ^ (q - L), by rw [hv', Nat.mul_assoc, ← Nat.pow_add, Nat.sub_add_cancel hLq]⟩
    · right
      refine ⟨by omega, ?_⟩
      rw [hv']
      have e : 2 ^ L = 2 ^ (L - q - 1) * (2 * 2 ^ q) := by
        rw [← Nat.mul_assoc, ← Nat.pow_succ, ← Nat.pow_add]; congr 1; omega
      have hge : 1 ≤ 2 ^ (L - q - 1) := Nat.two_pow_pos _
      calc j * 2 ^ q < 2 * f.binade * 2 ^ q := Nat.mul_lt_mul_of_pos_right hj (Nat.two_pow_pos _)
        _ = 1 * (f.binade * (2 * 2 ^ q)) := by rw [Nat.one_mul, Nat.mul_left_comm, Nat.mul_assoc]
        _ ≤ 2 ^ (L - q - 1) * (f.binade * (2 * 2 ^ q)) := Nat.mul_le_mul_right _ hge
        _ = f.binade * 2 ^ L := by rw [e, Nat.mul_left_comm]
  rcases hcase with ⟨K, hK⟩ | ⟨h0, hlt2⟩
  · rw [hK] at hv h
    have hKk : K < k := Nat.lt_of_mul_lt_mul_right hv
    have h3 : 2 * (K + 1) * (2 ^ L * U) ≤ 2 * k * (2 ^ L * U) := Nat.mul_le_mul_right _ (by omega)
    have e : 2 * (K + 1) * (2 ^ L * U) = 2 * (K * 2 ^ L * U) + 2 * (2 ^ L * U) := by rw [Nat.mul_assoc K, Nat.mul_assoc, Nat.add_mul, Nat.one_mul, Nat.mul_add]
    have hpos : 0 < 2 ^ L * U := Nat.mul_pos hLp hUp
    omega
  · have := hb h0
    have h4 : val f R * U < f.binade * 2 ^ L * U := Nat.mul_lt_mul_of_pos_right hlt2 hUp
    rw [← Nat.mul_assoc] at this
    omega

/-- A number that is no less than that of a rung is rounded to it or above. -/
theorem le_rung {m R : Nat} {p base : Int} (h1 : base ≤ p) (h2 : base ≤ f.leastPlace) (hR : R ≤ f.infRung) (h : val f R * 2 ^ (f.leastPlace - base).toNat ≤ at_ m p base) : R ≤ rungOf f m p := by
  by_cases hR0 : R = 0
  · rw [hR0]; exact Nat.zero_le _
  by_cases hm : m = 0
  · exfalso
    have hv : 0 < val f R := by have := val_lt f (r := 0) (s := R) (by omega); rw [val_zero] at this; exact this
    have : 0 < val f R * 2 ^ (f.leastPlace - base).toNat := Nat.mul_pos hv (Nat.two_pow_pos _)
    unfold at_ at h
    rw [hm, Nat.zero_mul] at h
    omega
  obtain ⟨L, k, hr, hq, hk, k1, k2, hb⟩ := rung_spec (f := f) hm h1 h2
  rw [hr]
  obtain ⟨U, hU⟩ : ∃ U, 2 ^ (f.leastPlace - base).toNat = U := ⟨_, rfl⟩
  have hUp : 0 < U := by rw [← hU]; exact Nat.two_pow_pos _
  rw [hU] at h k1 k2 hb
  generalize at_ m p base = M at *
  refine Nat.le_min.2 ⟨?_, hR⟩
  apply Nat.le_of_not_lt
  intro hlt
  have hv := val_lt f hlt
  rw [val_of hq hk] at hv
  have hLp : 0 < 2 ^ L := Nat.two_pow_pos _
  obtain ⟨j, q, hj0, hj, hjq, he, hv'⟩ := rung_parts (f := f) hR0
  by_cases hLq : L ≤ q
  · have hK : val f R = j * 2 ^ (q - L) * 2 ^ L := by rw [hv', Nat.mul_assoc, ← Nat.pow_add, Nat.sub_add_cancel hLq]
    generalize j * 2 ^ (q - L) = K at hK
    rw [hK] at hv h
    have hKk : k < K := Nat.lt_of_mul_lt_mul_right hv
    have h3 : (2 * k + 2) * (2 ^ L * U) ≤ 2 * (K * (2 ^ L * U)) := by
      have : (2 * k + 2) * (2 ^ L * U) ≤ 2 * K * (2 ^ L * U) := Nat.mul_le_mul_right _ (by omega)
      rwa [Nat.mul_assoc 2 K] at this
    rw [Nat.mul_assoc] at h
    have e : (2 * k + 2) * (2 ^ L * U) = (2 * k + 1) * (2 ^ L * U) + 2 ^ L * U := by rw [← Nat.succ_mul]
    have hpos : 0 < 2 ^ L * U := Nat.mul_pos hLp hUp
    omega
  · have hkb : f.binade ≤ k := by rcases hq with h | h <;> omega
    have e : 2 ^ L = 2 ^ (L - q - 1) * (2 * 2 ^ q) := by
      rw [← Nat.mul_assoc, ← Nat.pow_succ, ← Nat.pow_add]; congr 1; omega
    have hge : 1 ≤ 2 ^ (L - q - 1) := Nat.two_pow_pos _
    have : val f R < k * 2 ^ L := by
      rw [hv']
      calc j * 2 ^ q < 2 * f.binade * 2 ^ q := Nat.mul_lt_mul_of_pos_right hj (Nat.two_pow_pos _)
        _ = 1 * (f.binade * (2 * 2 ^ q)) := by rw [Nat.one_mul, Nat.mul_left_comm, Nat.mul_assoc]
        _ ≤ 2 ^ (L - q - 1) * (f.binade * (2 * 2 ^ q)) := Nat.mul_le_mul_right _ hge
        _ = f.binade * 2 ^ L := by rw [e, Nat.mul_left_comm]
        _ ≤ k * 2 ^ L := Nat.mul_le_mul_right _ hkb
    omega

end
end Go.Proofs.Ytpobbicbfnglaaa.Flt
