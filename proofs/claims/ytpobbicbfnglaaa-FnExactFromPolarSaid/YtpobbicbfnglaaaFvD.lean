import Derived.Test.YtpobbicbfnglaaaFvO
/-
  Quotients of floats of 64 bits as quotients of rational numbers, rounded. No program.
-/
set_option linter.unusedVariables false
set_option linter.unusedSimpArgs false
namespace Go.Proofs.Ytpobbicbfnglaaa
open Go Flt
namespace Flt
open Ieee (double Format Datum signed)

theorem two_nat (n : Nat) : two n = ((2 ^ n : Nat) : Rat) := rfl

/-- A quotient of whole numbers, cut with a digit for the rest, is rounded as the quotient itself. -/
theorem quo_rnd {D n E b q R : Nat} {m : Nat} {pl : Int} {t : Rat} (hn : 0 < n) (hm : m = 2 * (D / n) + (D % n != 0).toNat) (hD : n * 2 ^ 53 ≤ D)
    (hb : lpn ≤ b) (hp : -(b : Int) ≤ pl) (hE : (pl + b).toNat = E) (ht : t * (n : Rat) * two b = 2 * (D : Rat) * two E) (hR : R < double.infRung) (hB : t ≤ rq R) :
    rungOf double m pl < double.infRung ∧ Rnd t (rq (rungOf double m pl)) := by
  have hnp : (0 : Rat) < (n : Rat) := Rat.natCast_pos.2 hn
  have hbp := two_pos b
  have hEp := two_pos E
  have ea : at_ m pl (-(b : Int)) = m * 2 ^ E := by unfold at_; congr 2; omega
  have eT : ((m * 2 ^ E : Nat) : Rat) / two b * two b = (m : Rat) * two E := by
    rw [Rat.div_mul_cancel (Rat.ne_of_gt hbp), Rat.natCast_mul]; rfl
  obtain ⟨t', ht'⟩ : ∃ t', ((m * 2 ^ E : Nat) : Rat) / two b = t' := ⟨_, rfl⟩
  rw [ht'] at eT
  -- the cut and the quotient
  have hdm := Nat.div_add_mod D n
  have hmod := Nat.mod_lt D hn
  have hfl : 2 ^ 53 ≤ D / n := (Nat.le_div_iff_mul_le hn).2 (by rw [Nat.mul_comm]; exact hD)
  have hm1 : n * m ≤ 2 * D + n := by
    rw [hm, Nat.mul_add, Nat.mul_left_comm]
    by_cases h0 : D % n = 0
    · rw [h0]; simp; omega
    · have hbn : (D % n != 0) = true := by simp [h0]
      rw [hbn]; simp only [Bool.toNat_true, Nat.mul_one]; omega
  have hm2 : 2 * D ≤ n * m + n := by
    rw [hm, Nat.mul_add, Nat.mul_left_comm]
    by_cases h0 : D % n = 0
    · rw [h0]; simp; omega
    · have hbn : (D % n != 0) = true := by simp [h0]
      rw [hbn]; simp only [Bool.toNat_true, Nat.mul_one]; omega
  have hm3 : 2 ^ 54 ≤ m := by rw [hm]; have : (2 : Nat) ^ 54 = 2 * 2 ^ 53 := rfl; omega
  -- a number that there is stands on the same side of both
  have side : ∀ r, r < double.infRung → (t ≤ rq r → t' ≤ rq r) ∧ (rq r ≤ t → rq r ≤ t') := by
    intro r hr
    have er := rq_at hb r
    have er2 : rq r * two b = ((val double r * 2 ^ (b - lpn) : Nat) : Rat) := by rw [er, Rat.div_mul_cancel (Rat.ne_of_gt hbp)]
    have up : ∀ a : Rat, a * two b ≤ rq r * two b ↔ a ≤ rq r := fun a => ⟨fun h => Rat.le_of_mul_le_mul_right h hbp, fun h => Rat.mul_le_mul_of_nonneg_right h (Rat.le_of_lt hbp)⟩
    have dn : ∀ a : Rat, rq r * two b ≤ a * two b ↔ rq r ≤ a := fun a => ⟨fun h => Rat.le_of_mul_le_mul_right h hbp, fun h => Rat.mul_le_mul_of_nonneg_right h (Rat.le_of_lt hbp)⟩
    rw [← up t, ← up t', ← dn t, ← dn t', er2, eT]
    clear er er2 up dn
    have hparts : ∃ k e : Nat, k < 2 ^ 53 ∧ val double r * 2 ^ (b - lpn) = k * 2 ^ e := by
      by_cases h0 : r = 0
      · exact ⟨0, 0, by decide, by rw [h0, val_zero]; simp⟩
      · obtain ⟨k, e, -, hk, -, -, hv⟩ := rung_parts (f := double) h0
        exact ⟨k, e + (b - lpn), by rw [show 2 * double.binade = 2 ^ 53 by decide] at hk; exact hk, by rw [hv, Nat.mul_assoc, ← Nat.pow_add]⟩
    obtain ⟨k, e, hk, hv⟩ := hparts
    rw [hv]
    have en : ∀ a c : Nat, a ≤ c → (a : Rat) * two E ≤ (c : Rat) * two E := fun a c h => Rat.mul_le_mul_of_nonneg_right (Rat.natCast_le_natCast.2 h) (Rat.le_of_lt hEp)
    have etn : t * two b * (n : Rat) = (2 * (D : Rat)) * two E := by rw [← ht]; grind
    by_cases hc : E + 1 ≤ e
    · obtain ⟨d, rfl⟩ : ∃ d, e = E + 1 + d := ⟨e - (E + 1), by omega⟩
      have eK : ((k * 2 ^ (E + 1 + d) : Nat) : Rat) = ((2 * (k * 2 ^ d) : Nat) : Rat) * two E := by
        have e0 : k * 2 ^ (E + 1 + d) = 2 * (k * 2 ^ d) * 2 ^ E := by rw [Nat.pow_add, Nat.pow_add]; grind
        rw [e0, Rat.natCast_mul (2 * (k * 2 ^ d))]; rfl
      rw [eK]
      generalize k * 2 ^ d = K
      have c2 : ((2 * K : Nat) : Rat) = 2 * (K : Rat) := by rw [Rat.natCast_mul]; rfl
      have cn2 : ((n * K : Nat) : Rat) = (n : Rat) * (K : Rat) := Rat.natCast_mul ..
      constructor
      · intro h
        refine en _ _ ?_
        have h1 := Rat.mul_le_mul_of_nonneg_right h (Rat.le_of_lt hnp)
        rw [etn, c2] at h1
        have h2 : (2 * (D : Rat)) * two E ≤ (2 * (n * K : Nat) : Rat) * two E := by rw [cn2]; grind
        have h3 := Rat.le_of_mul_le_mul_right h2 hEp
        have h4 : (D : Rat) ≤ ((n * K : Nat) : Rat) := by grind
        rw [hm]
        exact quot_le hn (Rat.natCast_le_natCast.1 h4)
      · intro h
        refine en _ _ ?_
        have h1 := Rat.mul_le_mul_of_nonneg_right h (Rat.le_of_lt hnp)
        rw [etn, c2] at h1
        have h2 : (2 * (n * K : Nat) : Rat) * two E ≤ (2 * (D : Rat)) * two E := by rw [cn2]; grind
        have h3 := Rat.le_of_mul_le_mul_right h2 hEp
        have h4 : ((n * K : Nat) : Rat) ≤ (D : Rat) := by grind
        have h5 := Rat.natCast_le_natCast.1 h4
        have h6 : K ≤ D / n := (Nat.le_div_iff_mul_le hn).2 (by rw [Nat.mul_comm]; exact h5)
        omega
    · have hlow : k * 2 ^ e ≤ 2 ^ 53 * 2 ^ E := Nat.mul_le_mul (Nat.le_of_lt hk) (Nat.pow_le_pow_right (by omega) (by omega))
      have h53 : ((2 ^ 53 * 2 ^ E : Nat) : Rat) = ((2 ^ 53 : Nat) : Rat) * two E := by rw [Rat.natCast_mul]; rfl
      have hlo : ((k * 2 ^ e : Nat) : Rat) ≤ ((2 ^ 53 : Nat) : Rat) * two E := by rw [← h53]; exact Rat.natCast_le_natCast.2 hlow
      constructor
      · intro h
        exfalso
        have h1 := Rat.mul_le_mul_of_nonneg_right (Rat.le_trans h hlo) (Rat.le_of_lt hnp)
        rw [etn] at h1
        have h2 : (2 * (D : Rat)) * two E ≤ ((n * 2 ^ 53 : Nat) : Rat) * two E := by rw [Rat.natCast_mul]; grind
        have h3 := Rat.le_of_mul_le_mul_right h2 hEp
        have h4 : ((n * 2 ^ 53 : Nat) : Rat) ≤ (D : Rat) := Rat.natCast_le_natCast.2 hD
        have h5 : (0 : Rat) < (D : Rat) := Rat.natCast_pos.2 (by
          have : 0 < n * 2 ^ 53 := Nat.mul_pos hn (by decide)
          omega)
        grind
      · intro _
        exact Rat.le_trans hlo (en _ _ (Nat.le_trans (by decide) hm3))
  have ht0 : 0 ≤ t := by
    have h1 : 0 ≤ t * (n : Rat) * two b := by
      rw [ht]
      exact Rat.mul_nonneg (Rat.mul_nonneg (by decide) Rat.natCast_nonneg) (Rat.le_of_lt hEp)
    by_cases h : 0 ≤ t
    · exact h
    · exfalso
      have h2 := Rat.mul_pos (Rat.mul_pos (show 0 < -t by have := Rat.not_le.1 h; grind) hnp) hbp
      grind
  have hB' : ((at_ m pl (-(b : Int)) : Nat) : Rat) / two b ≤ rq R := by rw [ea, ht']; exact (side R hR).1 hB
  obtain ⟨k1, k2, n1, n2⟩ := rung_rnd hb hp hR hB'
  rw [ea, ht'] at k2 n1 n2
  obtain ⟨r0, r1, r2, r3, r4⟩ := k2
  -- how far the cut is from the quotient
  have c1 : (n : Rat) * (m : Rat) ≤ 2 * (D : Rat) + n := by
    have := Rat.natCast_le_natCast.2 hm1
    rw [Rat.natCast_add, Rat.natCast_mul, Rat.natCast_mul] at this
    exact this
  have c2 : 2 * (D : Rat) ≤ (n : Rat) * (m : Rat) + n := by
    have := Rat.natCast_le_natCast.2 hm2
    rw [Rat.natCast_add, Rat.natCast_mul, Rat.natCast_mul] at this
    exact this
  have c3 : (n : Rat) * 9007199254740992 ≤ (D : Rat) := by
    have := Rat.natCast_le_natCast.2 hD
    rw [Rat.natCast_mul] at this
    exact this
  have e1 : t' * (n : Rat) * two b = (n : Rat) * (m : Rat) * two E := by grind
  have d1 : t' * (n : Rat) * two b ≤ t * (n : Rat) * two b + n * two E := by
    have := Rat.mul_le_mul_of_nonneg_right c1 (Rat.le_of_lt hEp); grind
  have d2 : t * (n : Rat) * two b ≤ t' * (n : Rat) * two b + n * two E := by
    have := Rat.mul_le_mul_of_nonneg_right c2 (Rat.le_of_lt hEp); grind
  have d3 : n * two E * 18014398509481984 ≤ t * (n : Rat) * two b := by
    have := Rat.mul_le_mul_of_nonneg_right c3 (Rat.le_of_lt hEp); grind
  have nb : (0 : Rat) < (n : Rat) * two b := Rat.mul_pos hnp hbp
  have f1 : t' ≤ t + t / 18014398509481984 := by
    apply Rat.le_of_mul_le_mul_right _ nb; grind
  have f2 : t ≤ t' + t / 18014398509481984 := by
    apply Rat.le_of_mul_le_mul_right _ nb; grind
  have g1 : slack' t' + t / 18014398509481984 ≤ slack t := by unfold slack slack'; rw [two52, two53]; grind
  refine ⟨k1, r0, .inl (by grind), .inl (by grind), fun s hs hts => ?_, fun s hs hst => ?_⟩
  · obtain ⟨r, hr, rfl⟩ := rep_rung hs (Rat.le_trans ht0 hts)
    exact r3 _ hs ((side r hr).1 hts)
  · by_cases h0 : 0 ≤ s
    · obtain ⟨r, hr, rfl⟩ := rep_rung hs h0
      exact r4 _ hs ((side r hr).2 hst)
    · exact Rat.le_trans (Rat.le_of_lt (Rat.not_le.1 h0)) (rq_nonneg _)

theorem read_dq' {x : Nat} (h : Fin x) : ∃ s m p, double.read x = .number s m p ∧ -(lpn : Int) ≤ p ∧ fq x = dq s m p ∧ m < 2 ^ 53 := by
  obtain ⟨s, m, p, e, l, v⟩ := read_dq h
  refine ⟨s, m, p, e, l, v, ?_⟩
  unfold Format.read at e
  have hb : double.binade = 4503599627370496 := by decide
  rw [hb] at e
  simp only [] at e
  split at e
  · simp only [Datum.number.injEq] at e
    omega
  · split at e
    · simp only [Datum.number.injEq] at e
      omega
    · split at e <;> cases e

theorem rnd_zero : Rnd 0 0 := by
  have h : (0 : Rat) ≤ slack 0 := by
    unfold slack
    have h1 := div_le_div (two_pos (lpn + 1)) (show (0 : Rat) ≤ 1 by decide)
    rw [Rat.div_def 0, Rat.zero_mul] at h1
    rw [Rat.div_def 0, Rat.zero_mul]
    grind
  exact ⟨rep_zero, .inl (by grind), .inl (by grind), fun s _ h => h, fun s _ h => h⟩

theorem div_rnd {x y R : Nat} (hx : Fin x) (hy : Fin y) (hy0 : fq y ≠ 0) (hR : R < double.infRung) (hB : Size (fq x / fq y) (rq R)) :
    ∃ r, double.div x y = some r ∧ Fin r ∧ Rnd (fq x / fq y) (fq r) := by
  obtain ⟨s, m, i, e1, l1, v1, m1⟩ := read_dq' hx
  obtain ⟨t, n, j, e2, l2, v2, m2⟩ := read_dq' hy
  have hn : n ≠ 0 := by
    rintro rfl
    apply hy0
    rw [v2, dq_abs, Nat.zero_mul]
    have : ((0 : Nat) : Rat) / two lpn = 0 := by rw [Rat.div_def]; exact Rat.zero_mul _
    rw [this]
    split <;> grind
  have hnp : (0 : Rat) < (n : Rat) := Rat.natCast_pos.2 (Nat.pos_of_ne_zero hn)
  unfold Format.div
  rw [e1, e2]
  simp only [Datum.quotient, if_neg hn]
  have hfb : double.fractionBits + 2 = 54 := by decide
  rw [hfb]
  obtain ⟨mo, hmo⟩ : ∃ mo, 54 + n.log2 - m.log2 = mo := ⟨_, rfl⟩
  rw [hmo]
  simp only [Option.map_some, Format.write]
  refine ⟨_, rfl, ?_⟩
  have hlp := two_pos lpn
  have hlc := Rat.mul_inv_cancel _ (Rat.ne_of_gt hlp)
  -- the size
  obtain ⟨A, hA⟩ : ∃ A, two (i + lpn).toNat = A := ⟨_, rfl⟩
  obtain ⟨C, hC⟩ : ∃ C, two (j + lpn).toNat = C := ⟨_, rfl⟩
  have hAp : 0 < A := by rw [← hA]; exact two_pos _
  have hCp : 0 < C := by rw [← hC]; exact two_pos _
  have ex : fq x = if s then -((m : Rat) * A / two lpn) else (m : Rat) * A / two lpn := by
    rw [v1, dq_abs, Rat.natCast_mul, ← hA]; rfl
  have ey : fq y = if t then -((n : Rat) * C / two lpn) else (n : Rat) * C / two lpn := by
    rw [v2, dq_abs, Rat.natCast_mul, ← hC]; rfl
  have hnC : (n : Rat) * C ≠ 0 := Rat.ne_of_gt (Rat.mul_pos hnp hCp)
  have hi1 := Rat.mul_inv_cancel _ hnC
  have hq : fq x / fq y = if (s ^^ t) then -((m : Rat) * A / ((n : Rat) * C)) else (m : Rat) * A / ((n : Rat) * C) := by
    have g : ∀ a c : Rat, c ≠ 0 → (a / two lpn) / (c / two lpn) = a / c := fun a c hc => by
      have h1 := Rat.mul_inv_cancel _ hc
      rw [Rat.div_def, Rat.div_def, Rat.div_def, Rat.div_def, Rat.inv_mul_rev, Rat.inv_inv]; grind
    have gn : ∀ a c : Rat, -a / c = -(a / c) := fun a c => by rw [Rat.div_def, Rat.div_def]; grind
    have gd : ∀ a c : Rat, c ≠ 0 → a / -c = -(a / c) := fun a c hc => by
      have h1 := Rat.mul_inv_cancel _ hc
      have : (-c)⁻¹ = -(c⁻¹) := Rat.inv_eq_of_mul_eq_one (by grind)
      rw [Rat.div_def, Rat.div_def, this]; grind
    have hd : (n : Rat) * C / two lpn ≠ 0 := by
      rw [Rat.div_def]
      exact Rat.ne_of_gt (Rat.mul_pos (Rat.mul_pos hnp hCp) (Rat.inv_pos.2 hlp))
    rw [ex, ey]
    cases s <;> cases t <;> simp only [Bool.xor_false, Bool.xor_true, Bool.not_true, Bool.not_false, Bool.false_eq_true, if_true, if_false]
    · rw [g _ _ hnC]
    · rw [gd _ _ hd, g _ _ hnC]
    · rw [gn, g _ _ hnC]
    · rw [gn, gd _ _ hd, g _ _ hnC]; grind
  rw [hq] at hB ⊢
  obtain ⟨T, hT⟩ : ∃ T, (m : Rat) * A / ((n : Rat) * C) = T := ⟨_, rfl⟩
  have hTm : T * ((n : Rat) * C) = (m : Rat) * A := by rw [← hT]; exact Rat.div_mul_cancel hnC
  rw [hT] at hB ⊢
  clear hq ex ey hT e1 e2 v1 v2 hi1 hlc
  have core : rungOf double (2 * ((m <<< mo) / n) + ((m <<< mo) % n != 0).toNat) (i - j - mo - 1) < double.infRung ∧
      Rnd T (rq (rungOf double (2 * ((m <<< mo) / n) + ((m <<< mo) % n != 0).toNat) (i - j - mo - 1))) := by
    by_cases hm0 : m = 0
    · subst hm0
      have hT0 : T = 0 := by
        have h1 : T * ((n : Rat) * C) = 0 := by rw [hTm]; exact Rat.zero_mul _
        rcases Rat.mul_eq_zero.1 h1 with h | h
        · exact h
        · exact absurd h hnC
      rw [quot_zero, hT0]
      have e0 : rungOf double 0 (i - j - mo - 1) = 0 := by unfold rungOf; rw [if_pos rfl]
      rw [e0, rq_zero]
      exact ⟨by rw [ir64]; omega, rnd_zero⟩
    · have hml : m.log2 < 53 := (Nat.log2_lt hm0).2 m1
      have hlo := Nat.log2_self_le hm0
      have hhi := Nat.lt_log2_self (n := n)
      obtain ⟨b, hb1, hb2⟩ : ∃ b : Nat, lpn ≤ b ∧ -(b : Int) ≤ i - j - mo - 1 := ⟨lpn + (j - i + mo + 1).toNat, by omega, by omega⟩
      obtain ⟨E, hE⟩ : ∃ E, (i - j - mo - 1 + b).toNat = E := ⟨_, rfl⟩
      have hex : b + (i + lpn).toNat = 1 + mo + E + (j + lpn).toNat := by omega
      have hex2 : two b * A = 2 * two mo * two E * C := by
        have := congrArg two hex
        rw [two_add, two_add, two_add, two_add, two_one, hA, hC] at this
        exact this
      have hD : n * 2 ^ 53 ≤ m <<< mo := by
        rw [Nat.shiftLeft_eq]
        have h1 : 2 ^ m.log2 * 2 ^ mo ≤ m * 2 ^ mo := Nat.mul_le_mul_right _ hlo
        have h2 : 2 ^ m.log2 * 2 ^ mo = 2 ^ (n.log2 + 1) * 2 ^ 53 := by
          rw [← Nat.pow_add, ← Nat.pow_add]
          have : m.log2 + mo = n.log2 + 1 + 53 := by omega
          rw [this]
        have h3 : n * 2 ^ 53 ≤ 2 ^ (n.log2 + 1) * 2 ^ 53 := Nat.mul_le_mul_right _ (Nat.le_of_lt hhi)
        omega
      refine quo_rnd (E := E) (b := b) (q := 0) (R := R) (Nat.pos_of_ne_zero hn) rfl hD hb1 hb2 hE ?_ hR ?_
      · rw [Nat.shiftLeft_eq, Rat.natCast_mul]
        show _ = 2 * ((m : Rat) * two mo) * two E
        generalize two mo = M at *
        generalize two E = F at *
        generalize two b = G at *
        have h1 : T * (n : Rat) * G * C = 2 * ((m : Rat) * M) * F * C := by
          have : T * (n : Rat) * G * C = (m : Rat) * A * G := by rw [← hTm]; grind
          rw [this]; grind
        have h2 := Rat.mul_inv_cancel _ (Rat.ne_of_gt hCp)
        have h3 : T * (n : Rat) * G * C * C⁻¹ = 2 * ((m : Rat) * M) * F * C * C⁻¹ := by rw [h1]
        grind
      · obtain ⟨b1, b2⟩ := hB
        cases hst : (s ^^ t)
        · rw [hst] at b1; exact b1
        · rw [hst] at b2
          simp only [if_true, Rat.neg_neg] at b2
          exact b2
  obtain ⟨c1, c2⟩ := core
  rw [nearest_rung]
  refine ⟨fin_word _ c1, ?_⟩
  rw [fq_word _ c1]
  cases hst : (s ^^ t)
  · exact c2
  · exact c2.neg

end Flt
end Go.Proofs.Ytpobbicbfnglaaa
