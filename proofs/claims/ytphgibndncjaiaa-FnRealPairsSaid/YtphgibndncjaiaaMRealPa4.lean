/-
  Several texts of this claim, one behind the other; each says what it holds.
-/
import Derived.Test.YtphgibndncjaiaaMRealPa3
/-
  Quotients of floats of 64 bits as quotients of rational numbers, rounded. No program.
-/
set_option linter.unusedVariables false
set_option linter.unusedSimpArgs false
namespace Go.Proofs.Ytphgibndncjaiaa
open Go Flt
namespace Flt
open Ieee (double Format Datum signed)

theorem two_nat (n : Nat) : two n = ((2 ^ n : Nat) : Rat) := rfl

/-- A quotient of whole numbers, cut with a digit for the rest, is rounded as the quotient itself. -/
theorem quo_rnd {D n E b q R : Nat} {m : Nat} {pl : Int} {t : Rat} (hn : 0 < n) (hm : m = 2 * (D / n) + (D % n != 0).toNat) (hD : n * 2 ^ 53 ≤ D)
    (hb : lpn ≤ b) (hp : -(b : Int) ≤ pl) (hE : (pl + b).toNat = E) (ht : t * (n : Rat) * two b = 2 * (D : Rat) * two E) (hR : R < double.infRung) (hB : t ≤ rq R) :
    rungOf double m pl < double.infRung ∧ Rnd t (rq (rungOf double m pl)) := by
  have hnp : (0 : Rat) < (n : Rat) := Rat.natCast_pos.2 hn
  have hbp := two_pos b
  have hEp := two_pos E
  have ea : at_ m pl (-(b : Int)) = m * 2 ^ E := by unfold at_; congr 2; omega
  have eT : ((m * 2 ^ E : Nat) : Rat) / two b * two b = (m : Rat) * two E := by
    rw [Rat.div_mul_cancel (Rat.ne_of_gt hbp), Rat.natCast_mul]; rfl
  obtain ⟨t', ht'⟩ : ∃ t', ((m * 2 ^ E : Nat) : Rat) / two b = t' := ⟨_, rfl⟩
  rw [ht'] at eT
  -- the cut and the quotient
  have hdm := Nat.div_add_mod D n
  have hmod := Nat.mod_lt D hn
  have hfl : 2 ^ 53 ≤ D / n := (Nat.le_div_iff_mul_le hn).2 (by rw [Nat.mul_comm]; exact hD)
  have hm1 : n * m ≤ 2 * D + n := by
    rw [hm, Nat.mul_add, Nat.mul_left_comm]
    by_cases h0 : D % n = 0
    · rw [h0]; simp; omega
    · have hbn : (D % n != 0) = true := by simp [h0]
      rw [hbn]; simp only [Bool.toNat_true, Nat.mul_one]; omega
  have hm2 : 2 * D ≤ n * m + n := by
    rw [hm, Nat.mul_add, Nat.mul_left_comm]
    by_cases h0 : D % n = 0
    · rw [h0]; simp; omega
    · have hbn : (D % n != 0) = true := by simp [h0]
      rw [hbn]; simp only [Bool.toNat_true, Nat.mul_one]; omega
  have hm3 : 2 ^ 54 ≤ m := by rw [hm]; have : (2 : Nat) ^ 54 = 2 * 2 ^ 53 := rfl; omega
  -- a number that there is stands on the same side of both
  have side : ∀ r, r < double.infRung → (t ≤ rq r → t' ≤ rq r) ∧ (rq r ≤ t → rq r ≤ t') := by
    intro r hr
    have er := rq_at hb r
    have er2 : rq r * two b = ((val double r * 2 ^ (b - lpn) : Nat) : Rat) := by rw [er, Rat.div_mul_cancel (Rat.ne_of_gt hbp)]
    have up : ∀ a : Rat, a * two b ≤ rq r * two b ↔ a ≤ rq r := fun a => ⟨fun h => Rat.le_of_mul_le_mul_right h hbp, fun h => Rat.mul_le_mul_of_nonneg_right h (Rat.le_of_lt hbp)⟩
    have dn : ∀ a : Rat, rq r * two b ≤ a * two b ↔ rq r ≤ a := fun a => ⟨fun h => Rat.le_of_mul_le_mul_right h hbp, fun h => Rat.mul_le_mul_of_nonneg_right h (Rat.le_of_lt hbp)⟩
    rw [← up t, ← up t', ← dn t, ← dn t', er2, eT]
    clear er er2 up dn
    have hparts : ∃ k e : Nat, k < 2 ^ 53 ∧ val double r * 2 ^ (b - lpn) = k * 2 ^ e := by
      by_cases h0 : r = 0
      · exact ⟨0, 0, by decide, by rw [h0, val_zero]; simp⟩
      · obtain ⟨k, e, -, hk, -, -, hv⟩ := rung_parts (f := double) h0
        exact ⟨k, e + (b - lpn), by rw [show 2 * double.binade = 2 ^ 53 by decide] at hk; exact hk, by rw [hv, Nat.mul_assoc, ← Nat.pow_add]⟩
    obtain ⟨k, e, hk, hv⟩ := hparts
    rw [hv]
    have en : ∀ a c : Nat, a ≤ c → (a : Rat) * two E ≤ (c : Rat) * two E := fun a c h => Rat.mul_le_mul_of_nonneg_right (Rat.natCast_le_natCast.2 h) (Rat.le_of_lt hEp)
    have etn : t * two b * (n : Rat) = (2 * (D : Rat)) * two E := by rw [← ht]; grind
    by_cases hc : E + 1 ≤ e
    · obtain ⟨d, rfl⟩ : ∃ d, e = E + 1 + d := ⟨e - (E + 1), by omega⟩
      have eK : ((k * 2 ^ (E + 1 + d) : Nat) : Rat) = ((2 * (k * 2 ^ d) : Nat) : Rat) * two E := by
        have e0 : k * 2 ^ (E + 1 + d) = 2 * (k * 2 ^ d) * 2 ^ E := by rw [Nat.pow_add, Nat.pow_add]; grind
        rw [e0, Rat.natCast_mul (2 * (k * 2 ^ d))]; rfl
      rw [eK]
      generalize k * 2 ^ d = K
      have c2 : ((2 * K : Nat) : Rat) = 2 * (K : Rat) := by rw [Rat.natCast_mul]; rfl
      have cn2 : ((n * K : Nat) : Rat) = (n : Rat) * (K : Rat) := Rat.natCast_mul ..
      constructor
      · intro h
        refine en _ _ ?_
        have h1 := Rat.mul_le_mul_of_nonneg_right h (Rat.le_of_lt hnp)
        rw [etn, c2] at h1
        have h2 : (2 * (D : Rat)) * two E ≤ (2 * (n * K : Nat) : Rat) * two E := by rw [cn2]; grind
        have h3 := Rat.le_of_mul_le_mul_right h2 hEp
        have h4 : (D : Rat) ≤ ((n * K : Nat) : Rat) := by grind
        rw [hm]
        exact quot_le hn (Rat.natCast_le_natCast.1 h4)
      · intro h
        refine en _ _ ?_
        have h1 := Rat.mul_le_mul_of_nonneg_right h (Rat.le_of_lt hnp)
        rw [etn, c2] at h1
        have h2 : (2 * (n * K : Nat) : Rat) * two E ≤ (2 * (D : Rat)) * two E := by rw [cn2]; grind
        have h3 := Rat.le_of_mul_le_mul_right h2 hEp
        have h4 : ((n * K : Nat) : Rat) ≤ (D : Rat) := by grind
        have h5 := Rat.natCast_le_natCast.1 h4
        have h6 : K ≤ D / n := (Nat.le_div_iff_mul_le hn).2 (by rw [Nat.mul_comm]; exact h5)
        omega
    · have hlow : k * 2 ^ e ≤ 2 ^ 53 * 2 ^ E := Nat.mul_le_mul (Nat.le_of_lt hk) (Nat.pow_le_pow_right (by omega) (by omega))
      have h53 : ((2 ^ 53 * 2 ^ E : Nat) : Rat) = ((2 ^ 53 : Nat) : Rat) * two E := by rw [Rat.natCast_mul]; rfl
      have hlo : ((k * 2 ^ e : Nat) : Rat) ≤ ((2 ^ 53 : Nat) : Rat) * two E := by rw [← h53]; exact Rat.natCast_le_natCast.2 hlow
      constructor
      · intro h
        exfalso
        have h1 := Rat.mul_le_mul_of_nonneg_right (Rat.le_trans h hlo) (Rat.le_of_lt hnp)
        rw [etn] at h1
        have h2 : (2 * (D : Rat)) * two E ≤ ((n * 2 ^ 53 : Nat) : Rat) * two E := by rw [Rat.natCast_mul]; grind
        have h3 := Rat.le_of_mul_le_mul_right h2 hEp
        have h4 : ((n * 2 ^ 53 : Nat) : Rat) ≤ (D : Rat) := Rat.natCast_le_natCast.2 hD
        have h5 : (0 : Rat) < (D : Rat) := Rat.natCast_pos.2 (by
          have : 0 < n * 2 ^ 53 := Nat.mul_pos hn (by decide)
          omega)
        grind
      · intro _
        exact Rat.le_trans hlo (en _ _ (Nat.le_trans (by decide) hm3))
  have ht0 : 0 ≤ t := by
    have h1 : 0 ≤ t * (n : Rat) * two b := by
      rw [ht]
      exact Rat.mul_nonneg (Rat.mul_nonneg (by decide) Rat.natCast_nonneg) (Rat.le_of_lt hEp)
    by_cases h : 0 ≤ t
    · exact h
    · exfalso
      have h2 := Rat.mul_pos (Rat.mul_pos (show 0 < -t by have := Rat.not_le.1 h; grind) hnp) hbp
      grind
  have hB' : ((at_ m pl (-(b : Int)) : Nat) : Rat) / two b ≤ rq R := by rw [ea, ht']; exact (side R hR).1 hB
  obtain ⟨k1, k2, n1, n2⟩ := rung_rnd hb hp hR hB'
  rw [ea, ht'] at k2 n1 n2
  obtain ⟨r0, r1, r2, r3, r4⟩ := k2
  -- how far the cut is from the quotient
  have c1 : (n : Rat) * (m : Rat) ≤ 2 * (D : Rat) + n := by
    have := Rat.natCast_le_natCast.2 hm1
    rw [Rat.natCast_add, Rat.natCast_mul, Rat.natCast_mul] at this
    exact this
  have c2 : 2 * (D : Rat) ≤ (n : Rat) * (m : Rat) + n := by
    have := Rat.natCast_le_natCast.2 hm2
    rw [Rat.natCast_add, Rat.natCast_mul, Rat.natCast_mul] at this
    exact this
  have c3 : (n : Rat) * 9007199254740992 ≤ (D : Rat) := by
    have := Rat.natCast_le_natCast.2 hD
    rw [Rat.natCast_mul] at this
    exact this
  have e1 : t' * (n : Rat) * two b = (n : Rat) * (m : Rat) * two E := by grind
  have d1 : t' * (n : Rat) * two b ≤ t * (n : Rat) * two b + n * two E := by
    have := Rat.mul_le_mul_of_nonneg_right c1 (Rat.le_of_lt hEp); grind
  have d2 : t * (n : Rat) * two b ≤ t' * (n : Rat) * two b + n * two E := by
    have := Rat.mul_le_mul_of_nonneg_right c2 (Rat.le_of_lt hEp); grind
  have d3 : n * two E * 18014398509481984 ≤ t * (n : Rat) * two b := by
    have := Rat.mul_le_mul_of_nonneg_right c3 (Rat.le_of_lt hEp); grind
  have nb : (0 : Rat) < (n : Rat) * two b := Rat.mul_pos hnp hbp
  have f1 : t' ≤ t + t / 18014398509481984 := by
    apply Rat.le_of_mul_le_mul_right _ nb; grind
  have f2 : t ≤ t' + t / 18014398509481984 := by
    apply Rat.le_of_mul_le_mul_right _ nb; grind
  have g1 : slack' t' + t / 18014398509481984 ≤ slack t := by unfold slack slack'; rw [two52, two53]; grind
  refine ⟨k1, r0, .inl (by grind), .inl (by grind), fun s hs hts => ?_, fun s hs hst => ?_⟩
  · obtain ⟨r, hr, rfl⟩ := rep_rung hs (Rat.le_trans ht0 hts)
    exact r3 _ hs ((side r hr).1 hts)
  · by_cases h0 : 0 ≤ s
    · obtain ⟨r, hr, rfl⟩ := rep_rung hs h0
      exact r4 _ hs ((side r hr).2 hst)
    · exact Rat.le_trans (Rat.le_of_lt (Rat.not_le.1 h0)) (rq_nonneg _)

theorem read_dq' {x : Nat} (h : Fin x) : ∃ s m p, double.read x = .number s m p ∧ -(lpn : Int) ≤ p ∧ fq x = dq s m p ∧ m < 2 ^ 53 := by
  obtain ⟨s, m, p, e, l, v⟩ := read_dq h
  refine ⟨s, m, p, e, l, v, ?_⟩
  unfold Format.read at e
  have hb : double.binade = 4503599627370496 := by decide
  rw [hb] at e
  simp only [] at e
  split at e
  · simp only [Datum.number.injEq] at e
    omega
  · split at e
    · simp only [Datum.number.injEq] at e
      omega
    · split at e <;> cases e

theorem rnd_zero : Rnd 0 0 := by
  have h : (0 : Rat) ≤ slack 0 := by
    unfold slack
    have h1 := div_le_div (two_pos (lpn + 1)) (show (0 : Rat) ≤ 1 by decide)
    rw [Rat.div_def 0, Rat.zero_mul] at h1
    rw [Rat.div_def 0, Rat.zero_mul]
    grind
  exact ⟨rep_zero, .inl (by grind), .inl (by grind), fun s _ h => h, fun s _ h => h⟩

theorem div_rnd {x y R : Nat} (hx : Fin x) (hy : Fin y) (hy0 : fq y ≠ 0) (hR : R < double.infRung) (hB : Size (fq x / fq y) (rq R)) :
    ∃ r, double.div x y = some r ∧ Fin r ∧ Rnd (fq x / fq y) (fq r) := by
  obtain ⟨s, m, i, e1, l1, v1, m1⟩ := read_dq' hx
  obtain ⟨t, n, j, e2, l2, v2, m2⟩ := read_dq' hy
  have hn : n ≠ 0 := by
    rintro rfl
    apply hy0
    rw [v2, dq_abs, Nat.zero_mul]
    have : ((0 : Nat) : Rat) / two lpn = 0 := by rw [Rat.div_def]; exact Rat.zero_mul _
    rw [this]
    split <;> grind
  have hnp : (0 : Rat) < (n : Rat) := Rat.natCast_pos.2 (Nat.pos_of_ne_zero hn)
  unfold Format.div
  rw [e1, e2]
  simp only [Datum.quotient, if_neg hn]
  have hfb : double.fractionBits + 2 = 54 := by decide
  rw [hfb]
  obtain ⟨mo, hmo⟩ : ∃ mo, 54 + n.log2 - m.log2 = mo := ⟨_, rfl⟩
  rw [hmo]
  simp only [Option.map_some, Format.write]
  refine ⟨_, rfl, ?_⟩
  have hlp := two_pos lpn
  have hlc := Rat.mul_inv_cancel _ (Rat.ne_of_gt hlp)
  -- the size
  obtain ⟨A, hA⟩ : ∃ A, two (i + lpn).toNat = A := ⟨_, rfl⟩
  obtain ⟨C, hC⟩ : ∃ C, two (j + lpn).toNat = C := ⟨_, rfl⟩
  have hAp : 0 < A := by rw [← hA]; exact two_pos _
  have hCp : 0 < C := by rw [← hC]; exact two_pos _
  have ex : fq x = if s then -((m : Rat) * A / two lpn) else (m : Rat) * A / two lpn := by
    rw [v1, dq_abs, Rat.natCast_mul, ← hA]; rfl
  have ey : fq y = if t then -((n : Rat) * C / two lpn) else (n : Rat) * C / two lpn := by
    rw [v2, dq_abs, Rat.natCast_mul, ← hC]; rfl
  have hnC : (n : Rat) * C ≠ 0 := Rat.ne_of_gt (Rat.mul_pos hnp hCp)
  have hi1 := Rat.mul_inv_cancel _ hnC
  have hq : fq x / fq y = if (s ^^ t) then -((m : Rat) * A / ((n : Rat) * C)) else (m : Rat) * A / ((n : Rat) * C) := by
    have g : ∀ a c : Rat, c ≠ 0 → (a / two lpn) / (c / two lpn) = a / c := fun a c hc => by
      have h1 := Rat.mul_inv_cancel _ hc
      rw [Rat.div_def, Rat.div_def, Rat.div_def, Rat.div_def, Rat.inv_mul_rev, Rat.inv_inv]; grind
    have gn : ∀ a c : Rat, -a / c = -(a / c) := fun a c => by rw [Rat.div_def, Rat.div_def]; grind
    have gd : ∀ a c : Rat, c ≠ 0 → a / -c = -(a / c) := fun a c hc => by
      have h1 := Rat.mul_inv_cancel _ hc
      have : (-c)⁻¹ = -(c⁻¹) := Rat.inv_eq_of_mul_eq_one (by grind)
      rw [Rat.div_def, Rat.div_def, this]; grind
    have hd : (n : Rat) * C / two lpn ≠ 0 := by
      rw [Rat.div_def]
      exact Rat.ne_of_gt (Rat.mul_pos (Rat.mul_pos hnp hCp) (Rat.inv_pos.2 hlp))
    rw [ex, ey]
    cases s <;> cases t <;> simp only [Bool.xor_false, Bool.xor_true, Bool.not_true, Bool.not_false, Bool.false_eq_true, if_true, if_false]
    · rw [g _ _ hnC]
    · rw [gd _ _ hd, g _ _ hnC]
    · rw [gn, g _ _ hnC]
    · rw [gn, gd _ _ hd, g _ _ hnC]; grind
  rw [hq] at hB ⊢
  obtain ⟨T, hT⟩ : ∃ T, (m : Rat) * A / ((n : Rat) * C) = T := ⟨_, rfl⟩
  have hTm : T * ((n : Rat) * C) = (m : Rat) * A := by rw [← hT]; exact Rat.div_mul_cancel hnC
  rw [hT] at hB ⊢
  clear hq ex ey hT e1 e2 v1 v2 hi1 hlc
  have core : rungOf double (2 * ((m <<< mo) / n) + ((m <<< mo) % n != 0).toNat) (i - j - mo - 1) < double.infRung ∧
      Rnd T (rq (rungOf double (2 * ((m <<< mo) / n) + ((m <<< mo) % n != 0).toNat) (i - j - mo - 1))) := by
    by_cases hm0 : m = 0
    · subst hm0
      have hT0 : T = 0 := by
        have h1 : T * ((n : Rat) * C) = 0 := by rw [hTm]; exact Rat.zero_mul _
        rcases Rat.mul_eq_zero.1 h1 with h | h
        · exact h
        · exact absurd h hnC
      rw [quot_zero, hT0]
      have e0 : rungOf double 0 (i - j - mo - 1) = 0 := by unfold rungOf; rw [if_pos rfl]
      rw [e0, rq_zero]
      exact ⟨by rw [ir64]; omega, rnd_zero⟩
    · have hml : m.log2 < 53 := (Nat.log2_lt hm0).2 m1
      have hlo := Nat.log2_self_le hm0
      have hhi := Nat.lt_log2_self (n := n)
      obtain ⟨b, hb1, hb2⟩ : ∃ b : Nat, lpn ≤ b ∧ -(b : Int) ≤ i - j - mo - 1 := ⟨lpn + (j - i + mo + 1).toNat, by omega, by omega⟩
      obtain ⟨E, hE⟩ : ∃ E, (i - j - mo - 1 + b).toNat = E := ⟨_, rfl⟩
      have hex : b + (i + lpn).toNat = 1 + mo + E + (j + lpn).toNat := by omega
      have hex2 : two b * A = 2 * two mo * two E * C := by
        have := congrArg two hex
        rw [two_add, two_add, two_add, two_add, two_one, hA, hC] at this
        exact this
      have hD : n * 2 ^ 53 ≤ m <<< mo := by
        rw [Nat.shiftLeft_eq]
        have h1 : 2 ^ m.log2 * 2 ^ mo ≤ m * 2 ^ mo := Nat.mul_le_mul_right _ hlo
        have h2 : 2 ^ m.log2 * 2 ^ mo = 2 ^ (n.log2 + 1) * 2 ^ 53 := by
          rw [← Nat.pow_add, ← Nat.pow_add]
          have : m.log2 + mo = n.log2 + 1 + 53 := by omega
          rw [this]
        have h3 : n * 2 ^ 53 ≤ 2 ^ (n.log2 + 1) * 2 ^ 53 := Nat.mul_le_mul_right _ (Nat.le_of_lt hhi)
        omega
      refine quo_rnd (E := E) (b := b) (q := 0) (R := R) (Nat.pos_of_ne_zero hn) rfl hD hb1 hb2 hE ?_ hR ?_
      · rw [Nat.shiftLeft_eq, Rat.natCast_mul]
        show _ = 2 * ((m : Rat) * two mo) * two E
        generalize two mo = M at *
        generalize two E = F at *
        generalize two b = G at *
        have h1 : T * (n : Rat) * G * C = 2 * ((m : Rat) * M) * F * C := by
          have : T * (n : Rat) * G * C = (m : Rat) * A * G := by rw [← hTm]; grind
          rw [this]; grind
        have h2 := Rat.mul_inv_cancel _ (Rat.ne_of_gt hCp)
        have h3 : T * (n : Rat) * G * C * C⁻¹ = 2 * ((m : Rat) * M) * F * C * C⁻¹ := by rw [h1]
        grind
      · obtain ⟨b1, b2⟩ := hB
        cases hst : (s ^^ t)
        · rw [hst] at b1; exact b1
        · rw [hst] at b2
          simp only [if_true, Rat.neg_neg] at b2
          exact b2
  obtain ⟨c1, c2⟩ := core
  rw [nearest_rung]
  refine ⟨fin_word _ c1, ?_⟩
  rw [fq_word _ c1]
  cases hst : (s ^^ t)
  · exact c2
  · exact c2.neg

end Flt
end Go.Proofs.Ytphgibndncjaiaa
/-
  Floats that have a rational value; exact sums of numbers with few digits; sums that are near. No program.
-/
set_option linter.unusedVariables false
set_option linter.unusedSimpArgs false
namespace Go.Proofs.Ytphgibndncjaiaa
open Go Flt
namespace Flt
open Ieee (double Format Datum signed)

theorem one_div_two_le {a b : Nat} (h : a ≤ b) : 1 / two b ≤ 1 / two a := by
  have h1 := two_le h
  have ha := two_pos a
  have hb := two_pos b
  have i1 := Rat.inv_pos.2 ha
  have i2 := Rat.inv_pos.2 hb
  have c1 := Rat.mul_inv_cancel _ (Rat.ne_of_gt ha)
  have c2 := Rat.mul_inv_cancel _ (Rat.ne_of_gt hb)
  have h2 := Rat.mul_le_mul_of_nonneg_right h1 (Rat.le_of_lt (Rat.mul_pos i1 i2))
  have e1 : two a * ((two a)⁻¹ * (two b)⁻¹) = (two b)⁻¹ := by rw [← Rat.mul_assoc, c1, Rat.one_mul]
  have e2 : two b * ((two a)⁻¹ * (two b)⁻¹) = (two a)⁻¹ := by rw [Rat.mul_comm (two a)⁻¹, ← Rat.mul_assoc, c2, Rat.one_mul]
  rw [e1, e2] at h2
  rw [Rat.div_def, Rat.div_def, Rat.one_mul, Rat.one_mul]
  exact h2
theorem tiny_le : tiny ≤ 1 / 1267650600228229401496703205376 := by
  have : (1267650600228229401496703205376 : Rat) = two 100 := rfl
  rw [this]
  exact one_div_two_le (by unfold lpn; omega)

/-- A rung that is greater than all that is met. -/
def bigR : Nat := 9110782046170513408
theorem bigR_lt : bigR < double.infRung := by rw [ir64]; decide
theorem bigR_q : rq bigR = two 1000 := by
  have h := rung_of (f := double) (k := 1) (q := lpn + 1000) (by decide) (by decide) (by
    have : double.fractionBits = 52 := by decide
    rw [this]; unfold lpn; omega)
  have e1 : (1 : Nat).log2 = 0 := by decide
  have e2 : double.fractionBits = 52 := by decide
  have e3 : double.binade = 4503599627370496 := by decide
  rw [e1, e2, e3] at h
  have e4 : (lpn + 1000 + 0 - 52) * 4503599627370496 + 1 * 2 ^ (52 - 0) = bigR := by unfold lpn bigR; decide
  rw [e4] at h
  unfold rq
  rw [h, Nat.one_mul, ← two_nat, Nat.add_comm, two_add]
  rw [Rat.div_def, Rat.mul_assoc, Rat.mul_inv_cancel _ (Rat.ne_of_gt (two_pos lpn)), Rat.mul_one]

/-- A float with the value q. -/
def Fv (z : Option Nat) (q : Rat) : Prop := ∃ x, z = some x ∧ Fin x ∧ fq x = q

theorem Fv.rep {z : Option Nat} {q : Rat} (h : Fv z q) : Rep q := by
  obtain ⟨x, -, h1, h2⟩ := h
  exact ⟨x, h1, h2⟩
theorem Fv.of_isF {u : Nat} {z : Option Nat} {q : Rat} (h : IsF u z) (hz : Fv z q) : Fin u ∧ fq u = q := by
  obtain ⟨x, rfl, h1, h2⟩ := hz
  have h3 := h.cn
  unfold Flt.cn at h3
  split at h3
  · cases h3
  · cases h3
    exact ⟨h1, h2⟩
theorem Fv.mk {u : Nat} (h : Fin u) : Fv (some u) (fq u) := ⟨u, rfl, h, rfl⟩

def Moderate (t : Rat) : Prop := Size t (two 1000)
theorem Moderate.big {t : Rat} (h : Moderate t) : Size t (rq bigR) := by rw [bigR_q]; exact h

section
variable {a b : Option Nat} {p q : Rat}
theorem fv_add (ha : Fv a p) (hb : Fv b q) (hB : Moderate (p + q)) : ∃ r, Fv (fop .add .f64 a b) r ∧ Rnd (p + q) r := by
  obtain ⟨x, rfl, h1, rfl⟩ := ha
  obtain ⟨y, rfl, h2, rfl⟩ := hb
  obtain ⟨r, e, h3, h4⟩ := add_rnd h1 h2 bigR_lt hB.big
  exact ⟨fq r, ⟨r, e, h3, rfl⟩, h4⟩
theorem fv_sub (ha : Fv a p) (hb : Fv b q) (hB : Moderate (p - q)) : ∃ r, Fv (fop .sub .f64 a b) r ∧ Rnd (p - q) r := by
  obtain ⟨x, rfl, h1, rfl⟩ := ha
  obtain ⟨y, rfl, h2, rfl⟩ := hb
  obtain ⟨r, e, h3, h4⟩ := sub_rnd h1 h2 bigR_lt hB.big
  exact ⟨fq r, ⟨r, e, h3, rfl⟩, h4⟩
theorem fv_mul (ha : Fv a p) (hb : Fv b q) (hB : Moderate (p * q)) : ∃ r, Fv (fop .mul .f64 a b) r ∧ Rnd (p * q) r := by
  obtain ⟨x, rfl, h1, rfl⟩ := ha
  obtain ⟨y, rfl, h2, rfl⟩ := hb
  obtain ⟨r, e, h3, h4⟩ := mul_rnd h1 h2 bigR_lt hB.big
  exact ⟨fq r, ⟨r, e, h3, rfl⟩, h4⟩
theorem fv_div (ha : Fv a p) (hb : Fv b q) (hq : q ≠ 0) (hB : Moderate (p / q)) : ∃ r, Fv (fop .quo .f64 a b) r ∧ Rnd (p / q) r := by
  obtain ⟨x, rfl, h1, rfl⟩ := ha
  obtain ⟨y, rfl, h2, rfl⟩ := hb
  obtain ⟨r, e, h3, h4⟩ := div_rnd h1 h2 hq bigR_lt hB.big
  exact ⟨fq r, ⟨r, e, h3, rfl⟩, h4⟩
theorem fv_int {n : Int} (hB : Moderate (n : Rat)) : ∃ r, Fv (some (floatOfInt .f64 n)) r ∧ Rnd (n : Rat) r := by
  obtain ⟨h1, h2⟩ := int_rnd bigR_lt hB.big
  exact ⟨_, Fv.mk h1, h2⟩
end

/-- A number with few digits: k / 2^e, k no greater than K. -/
def Dy (e K : Nat) (q : Rat) : Prop := ∃ k : Int, k.natAbs ≤ K ∧ q * two e = (k : Rat)

theorem Dy.mono {e K L : Nat} {q : Rat} (h : Dy e K q) (hl : K ≤ L) : Dy e L q := by
  obtain ⟨k, h1, h2⟩ := h
  exact ⟨k, by omega, h2⟩
theorem Dy.zero (e K : Nat) : Dy e K 0 := ⟨0, by simp, by rw [Rat.zero_mul]; rfl⟩
theorem Dy.add {e K L : Nat} {p q : Rat} (h : Dy e K p) (h' : Dy e L q) : Dy e (K + L) (p + q) := by
  obtain ⟨k, h1, h2⟩ := h
  obtain ⟨l, h3, h4⟩ := h'
  refine ⟨k + l, by omega, ?_⟩
  rw [Rat.intCast_add, ← h2, ← h4]; grind
theorem Dy.neg {e K : Nat} {p : Rat} (h : Dy e K p) : Dy e K (-p) := by
  obtain ⟨k, h1, h2⟩ := h
  refine ⟨-k, by omega, ?_⟩
  rw [Rat.intCast_neg, ← h2]; grind
theorem Dy.sub {e K L : Nat} {p q : Rat} (h : Dy e K p) (h' : Dy e L q) : Dy e (K + L) (p - q) := by
  rw [Rat.sub_eq_add_neg]; exact h.add h'.neg
theorem Dy.mul {e f K L : Nat} {p q : Rat} (h : Dy e K p) (h' : Dy f L q) : Dy (e + f) (K * L) (p * q) := by
  obtain ⟨k, h1, h2⟩ := h
  obtain ⟨l, h3, h4⟩ := h'
  refine ⟨k * l, by rw [Int.natAbs_mul]; exact Nat.mul_le_mul h1 h3, ?_⟩
  rw [Rat.intCast_mul, ← h2, ← h4, two_add]; grind
theorem Dy.of_int {n : Int} {K : Nat} (h : n.natAbs ≤ K) : Dy 0 K (n : Rat) := ⟨n, h, by rw [two_zero, Rat.mul_one]⟩
theorem Dy.size {e K : Nat} {q : Rat} (h : Dy e K q) : Size q (K : Rat) := by
  obtain ⟨k, h1, h2⟩ := h
  have h3 : (1 : Rat) ≤ two e := by rw [← two_zero]; exact two_le (Nat.zero_le _)
  have h4 : (k : Rat) ≤ (K : Rat) := by rw [← Rat.intCast_natCast]; exact Rat.intCast_le_intCast.2 (by omega)
  have h5 : -(k : Rat) ≤ (K : Rat) := by rw [← Rat.intCast_natCast, ← Rat.intCast_neg]; exact Rat.intCast_le_intCast.2 (by omega)
  have h6 : (0 : Rat) ≤ (K : Rat) := Rat.natCast_nonneg
  constructor
  · refine Rat.not_lt.1 fun h => ?_
    have := Rat.mul_le_mul_of_nonneg_left h3 (Rat.le_trans h6 (Rat.le_of_lt h))
    grind
  · refine Rat.not_lt.1 fun h => ?_
    have := Rat.mul_le_mul_of_nonneg_left h3 (Rat.le_trans h6 (Rat.le_of_lt h))
    grind
theorem cast_le_two {K n : Nat} (h : K ≤ 2 ^ n) : (K : Rat) ≤ two n := Rat.natCast_le_natCast.2 h
theorem Dy.moderate {e K : Nat} {q : Rat} (h : Dy e K q) (hK : K ≤ 2 ^ 53) : Moderate q := by
  have h1 := h.size
  have h2 : (K : Rat) ≤ two 1000 := Rat.le_trans (cast_le_two hK) (two_le (by omega))
  exact ⟨Rat.le_trans h1.1 h2, Rat.le_trans h1.2 h2⟩

theorem rep_nat {k e : Nat} (hk : k < 2 ^ 53) (he : e ≤ 1000) {q : Rat} (h : q * two e = (k : Rat)) : Rep q := by
  have hl : e ≤ lpn := by unfold lpn; omega
  by_cases h0 : k = 0
  · have : q = 0 := by
      have h1 : q * two e = 0 := by rw [h, h0]; rfl
      rcases Rat.mul_eq_zero.1 h1 with h | h
      · exact h
      · exact absurd h (Rat.ne_of_gt (two_pos e))
    rw [this]; exact rep_zero
  · have e2 : double.fractionBits = 52 := by decide
    have e3 : double.binade = 4503599627370496 := by decide
    have hl53 : k.log2 < 53 := (Nat.log2_lt h0).2 hk
    have hv := rung_of (f := double) (k := k) (q := lpn - e) h0 (by rw [e3]; omega) (by rw [e2]; unfold lpn; omega)
    rw [e2, e3] at hv
    have hhi := Nat.lt_log2_self (n := k)
    have h53 : k * 2 ^ (52 - k.log2) ≤ 2 ^ (k.log2 + 1) * 2 ^ (52 - k.log2) := Nat.mul_le_mul_right _ (Nat.le_of_lt hhi)
    rw [← Nat.pow_add, show k.log2 + 1 + (52 - k.log2) = 53 by omega] at h53
    have hlt : (lpn - e + k.log2 - 52) * 4503599627370496 + k * 2 ^ (52 - k.log2) < double.infRung := by
      rw [ir64]
      have : lpn - e + k.log2 - 52 ≤ 1100 := by unfold lpn; omega
      omega
    have hr := rep_rq hlt
    have : rq ((lpn - e + k.log2 - 52) * 4503599627370496 + k * 2 ^ (52 - k.log2)) = q := by
      have hs : two lpn = two e * two (lpn - e) := by rw [← two_add, Nat.add_sub_cancel' hl]
      unfold rq
      rw [hv, Rat.natCast_mul, ← h, hs]
      show q * two e * two (lpn - e) / (two e * two (lpn - e)) = q
      have h1 := Rat.mul_inv_cancel _ (Rat.ne_of_gt (two_pos e))
      have h2 := Rat.mul_inv_cancel _ (Rat.ne_of_gt (two_pos (lpn - e)))
      rw [Rat.div_def, Rat.inv_mul_rev]; grind
    rw [this] at hr
    exact hr
theorem Dy.rep {e K : Nat} {q : Rat} (h : Dy e K q) (hK : K < 2 ^ 53) (he : e ≤ 1000) : Rep q := by
  obtain ⟨k, h1, h2⟩ := h
  by_cases hk : 0 ≤ k
  · obtain ⟨n, rfl⟩ : ∃ n : Nat, k = (n : Int) := ⟨k.natAbs, by omega⟩
    exact rep_nat (k := n) (by omega) he (by rw [h2, Rat.intCast_natCast])
  · obtain ⟨n, rfl⟩ : ∃ n : Nat, k = -(n : Int) := ⟨k.natAbs, by omega⟩
    have := rep_neg (rep_nat (k := n) (q := -q) (by omega) he (by rw [Rat.intCast_neg, Rat.intCast_natCast] at h2; grind))
    rwa [Rat.neg_neg] at this

section
variable {a b : Option Nat} {p q : Rat} {e K : Nat}
theorem Dy.fv_add (h : Dy e K (p + q)) (hK : K < 2 ^ 53) (he : e ≤ 1000) (ha : Fv a p) (hb : Fv b q) : Fv (fop .add .f64 a b) (p + q) := by
  obtain ⟨r, h1, h2⟩ := Flt.fv_add ha hb (h.moderate (by omega))
  rw [h2.exact (h.rep hK he)] at h1; exact h1
theorem Dy.fv_sub (h : Dy e K (p - q)) (hK : K < 2 ^ 53) (he : e ≤ 1000) (ha : Fv a p) (hb : Fv b q) : Fv (fop .sub .f64 a b) (p - q) := by
  obtain ⟨r, h1, h2⟩ := Flt.fv_sub ha hb (h.moderate (by omega))
  rw [h2.exact (h.rep hK he)] at h1; exact h1
theorem Dy.fv_mul (h : Dy e K (p * q)) (hK : K < 2 ^ 53) (he : e ≤ 1000) (ha : Fv a p) (hb : Fv b q) : Fv (fop .mul .f64 a b) (p * q) := by
  obtain ⟨r, h1, h2⟩ := Flt.fv_mul ha hb (h.moderate (by omega))
  rw [h2.exact (h.rep hK he)] at h1; exact h1
theorem Dy.fv_div (h : Dy e K (p / q)) (hK : K < 2 ^ 53) (he : e ≤ 1000) (hq : q ≠ 0) (ha : Fv a p) (hb : Fv b q) : Fv (fop .quo .f64 a b) (p / q) := by
  obtain ⟨r, h1, h2⟩ := Flt.fv_div ha hb hq (h.moderate (by omega))
  rw [h2.exact (h.rep hK he)] at h1; exact h1
theorem fv_int_exact {n : Int} (h : n.natAbs < 2 ^ 53) : Fv (some (floatOfInt .f64 n)) (n : Rat) := by
  have hd := Dy.of_int (n := n) (Nat.le_refl _)
  obtain ⟨r, h1, h2⟩ := fv_int (hd.moderate (by omega))
  rw [h2.exact (hd.rep h (by omega))] at h1; exact h1
end

/-- A sum of rational numbers. -/
def psum (p : Nat → Rat) : Nat → Rat
  | 0 => 0
  | n + 1 => psum p n + p n
theorem psum_dy {p : Nat → Rat} {e K n : Nat} (h : ∀ i, i < n → Dy e K (p i)) : Dy e (n * K) (psum p n) := by
  induction n with
  | zero => exact Dy.zero _ _
  | succ n ih =>
    rw [Nat.add_mul, Nat.one_mul]
    exact (ih fun i hi => h i (by omega)).add (h n (by omega))

/-- Sums of numbers with few digits are exact. -/
theorem sumO_dy {z : Nat → Option Nat} {p : Nat → Rat} {e K n : Nat} (hz : ∀ i, i < n → Fv (z i) (p i)) (h : ∀ i, i < n → Dy e K (p i)) (hK : n * K < 2 ^ 53) (he : e ≤ 1000) (hn : 0 < n) : Fv (sumO z n) (psum p n) := by
  induction n with
  | zero => omega
  | succ n ih =>
    unfold sumO
    by_cases h0 : n = 0
    · subst h0
      rw [if_pos rfl]
      show Fv (z 0) (0 + p 0)
      rw [Rat.zero_add]
      exact hz 0 (by omega)
    · rw [if_neg h0]
      have hle : n * K ≤ (n + 1) * K := Nat.mul_le_mul_right _ (by omega)
      exact (psum_dy h).fv_add hK he (ih (fun i hi => hz i (by omega)) (fun i hi => h i (by omega)) (by omega) (by omega)) (hz n (by omega))

end Flt
end Go.Proofs.Ytphgibndncjaiaa
/-
  Sums of rational numbers; sums of floats that are near. No program.
-/
set_option linter.unusedVariables false
set_option linter.unusedSimpArgs false
namespace Go.Proofs.Ytphgibndncjaiaa
open Go Flt
namespace Flt

theorem psum_succ (p : Nat → Rat) (n : Nat) : psum p (n + 1) = psum p n + p n := rfl
theorem psum_congr {p q : Nat → Rat} {n : Nat} (h : ∀ i, i < n → p i = q i) : psum p n = psum q n := by
  induction n with
  | zero => rfl
  | succ n ih => rw [psum_succ, psum_succ, ih fun i hi => h i (by omega), h n (by omega)]
theorem psum_nonneg {p : Nat → Rat} {n : Nat} (h : ∀ i, i < n → 0 ≤ p i) : 0 ≤ psum p n := by
  induction n with
  | zero => exact Rat.le_refl
  | succ n ih => rw [psum_succ]; exact Rat.add_nonneg (ih fun i hi => h i (by omega)) (h n (by omega))
theorem psum_mono {p : Nat → Rat} {m n : Nat} (h : ∀ i, i < n → 0 ≤ p i) (hm : m ≤ n) : psum p m ≤ psum p n := by
  induction n with
  | zero => rw [show m = 0 by omega]; exact Rat.le_refl
  | succ n ih =>
    by_cases hmn : m = n + 1
    · rw [hmn]; exact Rat.le_refl
    · have h1 := ih (fun i hi => h i (by omega)) (by omega)
      have h2 := h n (by omega)
      rw [psum_succ]; grind
theorem psum_term {p : Nat → Rat} {n t : Nat} (h : ∀ i, i < n → 0 ≤ p i) (ht : t < n) : p t ≤ psum p n := by
  have h1 := psum_mono (m := t + 1) h (by omega)
  have h2 := psum_nonneg (p := p) (n := t) fun i hi => h i (by omega)
  rw [psum_succ] at h1; grind
theorem psum_mul (p : Nat → Rat) (c : Rat) (n : Nat) : psum (fun i => p i * c) n = psum p n * c := by
  induction n with
  | zero => exact (Rat.zero_mul _).symm
  | succ n ih => rw [psum_succ, psum_succ, ih]; grind

/-- Sums of numbers that are known nearly. -/
theorem sumO_near {z : Nat → Option Nat} {r p : Nat → Rat} {e B : Rat} {n : Nat} (hz : ∀ i, i < n → Fv (z i) (r i)) (hr : ∀ i, i < n → Near (r i) (p i) e)
    (he : 0 ≤ e) (hB : B ≤ two 1000) (hB0 : 0 ≤ B) (hs : ∀ k, k < n → Size (psum p (k + 1)) (B - ((k : Rat) + 1) * (e + (B / two 52 + tiny)))) (hn : 0 < n) :
    ∃ s, Fv (sumO z n) s ∧ Near s (psum p n) ((n : Rat) * (e + (B / two 52 + tiny))) := by
  have hd0 : 0 ≤ B / two 52 + tiny := by
    have h1 : 0 ≤ B / two 52 := by rw [Rat.div_def]; exact Rat.mul_nonneg hB0 (Rat.le_of_lt (Rat.inv_pos.2 (two_pos _)))
    exact Rat.add_nonneg h1 (Rat.le_of_lt tiny_pos)
  generalize hd : B / two 52 + tiny = d at *
  induction n with
  | zero => omega
  | succ n ih =>
    by_cases h0 : n = 0
    · subst h0
      refine ⟨r 0, hz 0 (by omega), ?_⟩
      have h1 := hr 0 (by omega)
      show Near (r 0) (0 + p 0) (((0 + 1 : Nat) : Rat) * (e + d))
      rw [Rat.zero_add, show ((0 + 1 : Nat) : Rat) = 1 from rfl, Rat.one_mul]
      unfold Near at *
      grind
    · obtain ⟨s, h1, h2⟩ := ih (fun i hi => hz i (by omega)) (fun i hi => hr i (by omega)) (by omega) (fun k hk => hs k (by omega))
      have h3 := hs n (by omega)
      have h4 := hr n (by omega)
      have ec : ((n + 1 : Nat) : Rat) = (n : Rat) + 1 := by rw [Rat.natCast_add]; rfl
      have hX : ((n : Rat) + 1) * (e + d) = (n : Rat) * (e + d) + (e + d) := by grind
      have hsz : Size (s + r n) B := by
        rw [psum_succ, hX] at h3
        obtain ⟨a1, a2⟩ := h2
        obtain ⟨b1, b2⟩ := h3
        obtain ⟨c1, c2⟩ := h4
        generalize (n : Rat) * (e + d) = X at *
        clear hs hr hz ih hd hX
        constructor <;> grind
      obtain ⟨t, h5, h6⟩ := fv_add h1 (hz n (by omega)) ⟨Rat.le_trans hsz.1 hB, Rat.le_trans hsz.2 hB⟩
      refine ⟨t, ?_, ?_⟩
      · unfold sumO; rw [if_neg h0]; exact h5
      · have h7 := h6.near hsz
        rw [hd] at h7
        rw [ec, psum_succ, hX]
        obtain ⟨a1, a2⟩ := h2
        obtain ⟨b1, b2⟩ := h7
        obtain ⟨c1, c2⟩ := h4
        generalize (n : Rat) * (e + d) = X at *
        clear hs hr hz ih hd hX h3 hsz h5 h6
        constructor <;> grind

end Flt
end Go.Proofs.Ytphgibndncjaiaa
/-
  Cosines and sines as sums of rational numbers, and how they are added. No program.
-/
set_option linter.unusedVariables false
set_option linter.unusedSimpArgs false
namespace Go.Proofs.Ytphgibndncjaiaa
open Go Flt
namespace Flt

theorem Size.mul {x y A B : Rat} (hx : Size x A) (hy : Size y B) : Size (x * y) (A * B) := by
  obtain ⟨x1, x2⟩ := hx
  obtain ⟨y1, y2⟩ := hy
  have a1 : 0 ≤ (A - x) * (B - y) := Rat.mul_nonneg (by grind) (by grind)
  have a2 : 0 ≤ (A + x) * (B + y) := Rat.mul_nonneg (by grind) (by grind)
  have a3 : 0 ≤ (A - x) * (B + y) := Rat.mul_nonneg (by grind) (by grind)
  have a4 : 0 ≤ (A + x) * (B - y) := Rat.mul_nonneg (by grind) (by grind)
  constructor <;> grind
theorem Size.add {x y A B : Rat} (hx : Size x A) (hy : Size y B) : Size (x + y) (A + B) := by
  obtain ⟨x1, x2⟩ := hx
  obtain ⟨y1, y2⟩ := hy
  constructor <;> grind
theorem Size.sub {x y A B : Rat} (hx : Size x A) (hy : Size y B) : Size (x - y) (A + B) := by
  obtain ⟨x1, x2⟩ := hx
  obtain ⟨y1, y2⟩ := hy
  constructor <;> grind
theorem Size.neg {x A : Rat} (hx : Size x A) : Size (-x) A := by
  obtain ⟨x1, x2⟩ := hx
  constructor <;> grind
theorem Size.mono {x A B : Rat} (hx : Size x A) (h : A ≤ B) : Size x B := ⟨Rat.le_trans hx.1 h, Rat.le_trans hx.2 h⟩
theorem Size.nonneg {x A : Rat} (hx : Size x A) : 0 ≤ A := by obtain ⟨x1, x2⟩ := hx; grind
theorem Size.of_nonneg {x A : Rat} (h0 : 0 ≤ x) (h : x ≤ A) : Size x A := ⟨h, by grind⟩
theorem near_size {x y e : Rat} : Near x y e ↔ Size (x - y) e := by
  unfold Near Size
  constructor
  · rintro ⟨h1, h2⟩; exact ⟨h1, by grind⟩
  · rintro ⟨h1, h2⟩; exact ⟨h1, by grind⟩

theorem psum_front (p : Nat → Rat) (n : Nat) : psum p (n + 1) = p 0 + psum (fun i => p (i + 1)) n := by
  induction n with
  | zero => show (0 : Rat) + p 0 = p 0 + 0; grind
  | succ n ih => rw [psum_succ, ih, psum_succ]; grind
theorem psum_add (p q : Nat → Rat) (n : Nat) : psum (fun i => p i + q i) n = psum p n + psum q n := by
  induction n with
  | zero => show (0 : Rat) = 0 + 0; grind
  | succ n ih => rw [psum_succ, psum_succ, psum_succ, ih]; grind
theorem psum_sub (p q : Nat → Rat) (n : Nat) : psum (fun i => p i - q i) n = psum p n - psum q n := by
  induction n with
  | zero => show (0 : Rat) = 0 - 0; grind
  | succ n ih => rw [psum_succ, psum_succ, psum_succ, ih]; grind
theorem psum_lmul (c : Rat) (p : Nat → Rat) (n : Nat) : psum (fun i => c * p i) n = c * psum p n := by
  induction n with
  | zero => show (0 : Rat) = c * 0; grind
  | succ n ih => rw [psum_succ, psum_succ, ih]; grind
theorem psum_split (p : Nat → Rat) (a b : Nat) : psum p (a + b) = psum p a + psum (fun j => p (a + j)) b := by
  induction b with
  | zero => show psum p a = psum p a + 0; grind
  | succ b ih => rw [← Nat.add_assoc, psum_succ, ih, psum_succ]; grind
theorem psum_size {p : Nat → Rat} {B : Rat} {n : Nat} (h : ∀ i, i < n → Size (p i) B) : Size (psum p n) ((n : Rat) * B) := by
  induction n with
  | zero => rw [show ((0 : Nat) : Rat) = 0 from rfl, Rat.zero_mul]; exact ⟨Rat.le_refl, by show -(0 : Rat) ≤ 0; grind⟩
  | succ n ih =>
    have h1 := (ih fun i hi => h i (by omega)).add (h n (by omega))
    rw [psum_succ, Rat.natCast_add, show ((1 : Nat) : Rat) = 1 from rfl, show ((n : Rat) + 1) * B = (n : Rat) * B + B by grind]
    exact h1
theorem psum_psum (p q : Nat → Rat) (n m : Nat) : psum p n * psum q m = psum (fun i => psum (fun j => p i * q j) m) n := by
  induction n with
  | zero => exact Rat.zero_mul _
  | succ n ih => rw [psum_succ, psum_succ, ← ih, psum_lmul]; grind

/-- t to the power j, divided by j!. -/
def ex (t : Rat) : Nat → Rat
  | 0 => 1
  | j + 1 => ex t j * t / ((j + 1 : Nat) : Rat)

theorem cast_succ_pos (j : Nat) : (0 : Rat) < ((j + 1 : Nat) : Rat) := Rat.natCast_pos.2 (Nat.succ_pos j)
theorem ex_succ (t : Rat) (j : Nat) : ex t (j + 1) * ((j + 1 : Nat) : Rat) = ex t j * t :=
  Rat.div_mul_cancel (Rat.ne_of_gt (cast_succ_pos j))

theorem ex_nonneg {t : Rat} (h : 0 ≤ t) (j : Nat) : 0 ≤ ex t j := by
  induction j with
  | zero => show (0 : Rat) ≤ 1; decide
  | succ j ih =>
    show 0 ≤ ex t j * t / _
    rw [Rat.div_def]
    exact Rat.mul_nonneg (Rat.mul_nonneg ih h) (Rat.le_of_lt (Rat.inv_pos.2 (cast_succ_pos j)))
theorem ex_size {t a : Rat} (h : Size t a) (j : Nat) : Size (ex t j) (ex a j) := by
  induction j with
  | zero => exact ⟨Rat.le_refl, by show -(1 : Rat) ≤ 1; decide⟩
  | succ j ih =>
    show Size (ex t j * t / _) (ex a j * a / _)
    rw [Rat.div_def, Rat.div_def]
    exact (ih.mul h).mul (Size.of_nonneg (Rat.le_of_lt (Rat.inv_pos.2 (cast_succ_pos j))) Rat.le_refl)
theorem ex_mono {s t : Rat} (h0 : 0 ≤ s) (h : s ≤ t) (j : Nat) : ex s j ≤ ex t j := (ex_size (Size.of_nonneg h0 h) j).1
theorem ex_down {t : Rat} {N : Nat} (h0 : 0 ≤ t) (hN : t ≤ (N : Rat)) (d : Nat) : ex t (N + d) ≤ ex t N := by
  induction d with
  | zero => exact Rat.le_refl
  | succ d ih =>
    refine Rat.le_trans ?_ ih
    have h1 := ex_succ t (N + d)
    have h2 := ex_nonneg h0 (N + d)
    have h3 := ex_nonneg h0 (N + d + 1)
    have h4 : (N : Rat) ≤ ((N + d + 1 : Nat) : Rat) := Rat.natCast_le_natCast.2 (by omega)
    have hp := cast_succ_pos (N + d)
    show ex t (N + d + 1) ≤ ex t (N + d)
    refine Rat.le_of_mul_le_mul_right ?_ hp
    rw [h1]
    exact Rat.mul_le_mul_of_nonneg_left (Rat.le_trans hN h4) h2

/-- Powers of a sum. -/
def conv (a b : Rat) (m : Nat) : Rat := psum (fun i => ex a i * ex b (m - i)) (m + 1)
theorem conv_eq (a b : Rat) (m : Nat) : conv a b m = ex (a + b) m := by
  induction m with
  | zero => show (0 : Rat) + 1 * 1 = 1; grind
  | succ m ih =>
    have hp := cast_succ_pos m
    have key : conv a b (m + 1) * ((m + 1 : Nat) : Rat) = (a + b) * conv a b m := by
      have e1 : conv a b (m + 1) * ((m + 1 : Nat) : Rat) = psum (fun i => (i : Rat) * (ex a i * ex b (m + 1 - i)) + ((m + 1 - i : Nat) : Rat) * (ex a i * ex b (m + 1 - i))) (m + 1 + 1) := by
        unfold conv
        rw [← psum_mul]
        refine psum_congr fun i hi => ?_
        have : ((m + 1 : Nat) : Rat) = (i : Rat) + ((m + 1 - i : Nat) : Rat) := by
          rw [← Rat.natCast_add]
          have : m + 1 = i + (m + 1 - i) := by omega
          exact congrArg _ this
        rw [this]; grind
      rw [e1, psum_add, psum_front (fun i => (i : Rat) * (ex a i * ex b (m + 1 - i))), psum_succ (fun i => ((m + 1 - i : Nat) : Rat) * (ex a i * ex b (m + 1 - i)))]
      have e2 : psum (fun i => (((i + 1 : Nat) : Rat)) * (ex a (i + 1) * ex b (m + 1 - (i + 1)))) (m + 1) = a * conv a b m := by
        unfold conv
        rw [← psum_lmul]
        refine psum_congr fun i hi => ?_
        have h1 := ex_succ a i
        rw [show m + 1 - (i + 1) = m - i by omega]
        generalize ex b (m - i) = y
        generalize ((i + 1 : Nat) : Rat) = z at *
        grind
      have e3 : psum (fun i => ((m + 1 - i : Nat) : Rat) * (ex a i * ex b (m + 1 - i))) (m + 1) = b * conv a b m := by
        unfold conv
        rw [← psum_lmul]
        refine psum_congr fun i hi => ?_
        have h1 := ex_succ b (m - i)
        rw [show m + 1 - i = m - i + 1 by omega]
        generalize ex a i = y
        generalize ((m - i + 1 : Nat) : Rat) = z at *
        grind
      rw [e2, e3, Nat.sub_self]
      rw [show ((0 : Nat) : Rat) = 0 from rfl]
      grind
    have h2 := ex_succ (a + b) m
    rw [ih] at key
    have h3 : conv a b (m + 1) * ((m + 1 : Nat) : Rat) = ex (a + b) (m + 1) * ((m + 1 : Nat) : Rat) := by rw [key, h2]; grind
    have h4 := Rat.mul_inv_cancel _ (Rat.ne_of_gt hp)
    generalize ((m + 1 : Nat) : Rat) = z at *
    have h5 : conv a b (m + 1) * z * z⁻¹ = ex (a + b) (m + 1) * z * z⁻¹ := by rw [h3]
    rw [Rat.mul_assoc, Rat.mul_assoc, h4, Rat.mul_one, Rat.mul_one] at h5
    exact h5

/-- A sum over a triangle, by rows and by diagonals. -/
theorem tri_sum (f : Nat → Nat → Rat) (N : Nat) : psum (fun i => psum (f i) (N - i)) N = psum (fun m => psum (fun i => f i (m - i)) (m + 1)) N := by
  induction N with
  | zero => rfl
  | succ N ih =>
    rw [psum_succ (fun m => psum (fun i => f i (m - i)) (m + 1)), ← ih]
    have e1 : psum (fun i => psum (f i) (N + 1 - i)) (N + 1) = psum (fun i => psum (f i) (N - i) + f i (N - i)) (N + 1) :=
      psum_congr fun i hi => by rw [show N + 1 - i = (N - i) + 1 by omega, psum_succ]
    rw [e1, psum_add, psum_succ (fun i => psum (f i) (N - i)), Nat.sub_self]
    show psum _ N + 0 + _ = _
    grind
/-- A sum over a square is near that over its half, if what is in the other half is small. -/
theorem sq_sum {f : Nat → Nat → Rat} {N : Nat} {B : Rat} (h : ∀ i j, i < N → j < N → N ≤ i + j → Size (f i j) B) (hB : 0 ≤ B) :
    Near (psum (fun i => psum (f i) N) N) (psum (fun m => psum (fun i => f i (m - i)) (m + 1)) N) ((N : Rat) * ((N : Rat) * B)) := by
  rw [near_size, ← tri_sum, ← psum_sub]
  refine psum_size fun i hi => ?_
  have e : psum (f i) N = psum (f i) (N - i) + psum (fun j => f i (N - i + j)) i := by
    rw [← psum_split]
    have : N = N - i + i := by omega
    exact congrArg _ this
  rw [e, show ∀ x y : Rat, x + y - x = y from fun x y => by grind]
  refine (psum_size (B := B) fun j hj => h i (N - i + j) hi (by omega) (by omega)).mono ?_
  exact Rat.mul_le_mul_of_nonneg_right (Rat.natCast_le_natCast.2 (by omega)) hB

/-- The signs of the terms. -/
def sgC (j : Nat) : Rat := if j % 4 = 0 then 1 else if j % 4 = 2 then -1 else 0
def sgS (j : Nat) : Rat := if j % 4 = 1 then 1 else if j % 4 = 3 then -1 else 0
theorem sg_size (j : Nat) : Size (sgC j) 1 ∧ Size (sgS j) 1 := by
  unfold sgC sgS
  constructor <;> (split <;> (try split)) <;> constructor <;> decide +kernel
theorem sg_add (i j : Nat) : sgC i * sgC j - sgS i * sgS j = sgC (i + j) ∧ sgS i * sgC j + sgC i * sgS j = sgS (i + j) := by
  have h1 : i % 4 = 0 ∨ i % 4 = 1 ∨ i % 4 = 2 ∨ i % 4 = 3 := by omega
  have h2 : j % 4 = 0 ∨ j % 4 = 1 ∨ j % 4 = 2 ∨ j % 4 = 3 := by omega
  unfold sgC sgS
  rw [Nat.add_mod]
  rcases h1 with h1 | h1 | h1 | h1 <;> rcases h2 with h2 | h2 | h2 | h2 <;> rw [h1, h2] <;> constructor <;> decide +kernel

def cosN (N : Nat) (t : Rat) : Rat := psum (fun j => sgC j * ex t j) N
def sinN (N : Nat) (t : Rat) : Rat := psum (fun j => sgS j * ex t j) N

/-- HOW COSINES AND SINES ARE ADDED. -/
theorem cis_add {a b A B : Rat} {N : Nat} (ha : Size a A) (hb : Size b B) (hN : A + B ≤ (N : Rat)) :
    Near (cosN N a * cosN N b - sinN N a * sinN N b) (cosN N (a + b)) ((N : Rat) * ((N : Rat) * ex (A + B) N)) ∧
    Near (sinN N a * cosN N b + cosN N a * sinN N b) (sinN N (a + b)) ((N : Rat) * ((N : Rat) * ex (A + B) N)) := by
  have hA := ha.nonneg
  have hB := hb.nonneg
  have hAB : 0 ≤ A + B := Rat.add_nonneg hA hB
  have hex : 0 ≤ ex (A + B) N := ex_nonneg hAB N
  -- each product is small where the places add up to N
  have small : ∀ g : Nat → Rat, (∀ m, Size (g m) 1) → ∀ i j, i < N → j < N → N ≤ i + j → Size (g (i + j) * (ex a i * ex b j)) (ex (A + B) N) := by
    intro g hg i j hi hj hij
    have h1 := (hg (i + j)).mul ((ex_size ha i).mul (ex_size hb j))
    refine h1.mono ?_
    rw [Rat.one_mul]
    have h2 : ex A i * ex B (i + j - i) ≤ conv A B (i + j) :=
      psum_term (p := fun l => ex A l * ex B (i + j - l)) (n := i + j + 1) (fun l _ => Rat.mul_nonneg (ex_nonneg hA _) (ex_nonneg hB _)) (by omega)
    rw [show i + j - i = j by omega, conv_eq] at h2
    have h3 := ex_down hAB hN (i + j - N)
    rw [show N + (i + j - N) = i + j by omega] at h3
    exact Rat.le_trans h2 h3
  have diag : ∀ g : Nat → Rat, psum (fun m => psum (fun i => g (i + (m - i)) * (ex a i * ex b (m - i))) (m + 1)) N = psum (fun m => g m * ex (a + b) m) N := by
    intro g
    refine psum_congr fun m hm => ?_
    rw [← conv_eq]
    unfold conv
    rw [← psum_lmul]
    exact psum_congr fun i hi => by rw [show i + (m - i) = m by omega]
  unfold cosN sinN
  constructor
  · rw [← diag sgC]
    have e : psum (fun j => sgC j * ex a j) N * psum (fun j => sgC j * ex b j) N - psum (fun j => sgS j * ex a j) N * psum (fun j => sgS j * ex b j) N = psum (fun i => psum (fun j => sgC (i + j) * (ex a i * ex b j)) N) N := by
      rw [psum_psum, psum_psum, ← psum_sub]
      refine psum_congr fun i hi => ?_
      rw [← psum_sub]
      refine psum_congr fun j hj => ?_
      rw [← (sg_add i j).1]; grind
    rw [e]
    exact sq_sum (f := fun i j => sgC (i + j) * (ex a i * ex b j)) (small sgC fun m => (sg_size m).1) hex
  · rw [← diag sgS]
    have e : psum (fun j => sgS j * ex a j) N * psum (fun j => sgC j * ex b j) N + psum (fun j => sgC j * ex a j) N * psum (fun j => sgS j * ex b j) N = psum (fun i => psum (fun j => sgS (i + j) * (ex a i * ex b j)) N) N := by
      rw [psum_psum, psum_psum, ← psum_add]
      refine psum_congr fun i hi => ?_
      rw [← psum_add]
      refine psum_congr fun j hj => ?_
      rw [← (sg_add i j).2]; grind
    rw [e]
    exact sq_sum (f := fun i j => sgS (i + j) * (ex a i * ex b j)) (small sgS fun m => (sg_size m).2) hex

end Flt
end Go.Proofs.Ytphgibndncjaiaa
/-
  Exact turns: cosines and sines of parts of a whole turn, their sums and mirrors. No program.
-/
set_option linter.unusedVariables false
set_option linter.unusedSimpArgs false
namespace Go.Proofs.Ytphgibndncjaiaa
open Go Flt
namespace Flt

/-- A whole turn. -/
def tau : Rat := 7964883625991394727376702227904 / 1267650600228229401496703205376
/-- The cosine and the sine of a part of a turn. -/
def cq (q : Rat) : Rat := cosN 80 (tau * q)
def sq (q : Rat) : Rat := sinN 80 (tau * q)
/-- How near sums are. -/
def dl : Rat := 1 / 1180591620717411303424

theorem tau_size : 0 ≤ tau ∧ tau ≤ 13 / 2 := by decide +kernel
theorem dl_le : (80 : Rat) * (80 * ex 13 80) ≤ dl := by decide +kernel

theorem tq_size {q : Rat} (h : Size q 1) : Size (tau * q) (13 / 2) := by
  have := (Size.of_nonneg tau_size.1 tau_size.2).mul h
  rwa [Rat.mul_one] at this
theorem cq_add {p q : Rat} (hp : Size p 1) (hq : Size q 1) :
    Near (cq p * cq q - sq p * sq q) (cq (p + q)) dl ∧ Near (sq p * cq q + cq p * sq q) (sq (p + q)) dl := by
  have h := cis_add (N := 80) (tq_size hp) (tq_size hq) (by decide +kernel)
  have e : (13 / 2 : Rat) + 13 / 2 = 13 := by decide +kernel
  have e2 : ((80 : Nat) : Rat) = 80 := rfl
  rw [e, e2, ← Rat.mul_add] at h
  exact ⟨⟨Rat.le_trans h.1.1 dl_le, Rat.le_trans h.1.2 dl_le⟩, ⟨Rat.le_trans h.2.1 dl_le, Rat.le_trans h.2.2 dl_le⟩⟩

theorem ex_neg (t : Rat) (j : Nat) : ex (-t) j = if j % 2 = 0 then ex t j else -ex t j := by
  induction j with
  | zero => rfl
  | succ j ih =>
    show ex (-t) j * -t / _ = _
    rw [ih]
    by_cases h : j % 2 = 0
    · rw [if_pos h, if_neg (by omega)]
      show _ = -(ex t j * t / _)
      rw [Rat.div_def, Rat.div_def]; grind
    · rw [if_neg h, if_pos (by omega)]
      show _ = ex t j * t / _
      rw [Rat.div_def, Rat.div_def]; grind
theorem cosN_neg (N : Nat) (t : Rat) : cosN N (-t) = cosN N t := by
  unfold cosN
  refine psum_congr fun j _ => ?_
  rw [ex_neg]
  by_cases h : j % 2 = 0
  · rw [if_pos h]
  · have : sgC j = 0 := by unfold sgC; rw [if_neg (by omega), if_neg (by omega)]
    rw [this]; grind
theorem sinN_neg (N : Nat) (t : Rat) : sinN N (-t) = -sinN N t := by
  unfold sinN
  have e : (fun j => sgS j * ex (-t) j) = fun j => -1 * (sgS j * ex t j) := by
    funext j
    rw [ex_neg]
    by_cases h : j % 2 = 0
    · have : sgS j = 0 := by unfold sgS; rw [if_neg (by omega), if_neg (by omega)]
      rw [this]; grind
    · rw [if_neg h]; grind
  rw [e, psum_lmul]; grind
theorem cq_neg (q : Rat) : cq (-q) = cq q := by unfold cq; rw [show tau * -q = -(tau * q) by grind, cosN_neg]
theorem sq_neg (q : Rat) : sq (-q) = -sq q := by unfold sq; rw [show tau * -q = -(tau * q) by grind, sinN_neg]

/-- What is known of some parts. -/
theorem cq_zero : cq 0 = 1 ∧ sq 0 = 0 := by unfold cq sq; decide +kernel
theorem cq_one : Near (cq 1) 1 dl ∧ Near (sq 1) 0 dl := by unfold Near cq sq; decide +kernel
theorem cq_half : Near (cq (1 / 2)) (-1) dl ∧ Near (sq (1 / 2)) 0 dl := by unfold Near cq sq; decide +kernel
theorem cq_quarter : Near (cq (1 / 4)) 0 dl ∧ Near (sq (1 / 4)) 1 dl := by unfold Near cq sq; decide +kernel

theorem dl_val : dl = 1 / 1180591620717411303424 := rfl

/-- The size of an exact turn is 1, nearly. -/
theorem cq_sq {q : Rat} (h : Size q 1) : Near (cq q * cq q + sq q * sq q) 1 dl := by
  have h1 := (cq_add h h.neg).1
  rw [cq_neg, sq_neg, show q + -q = 0 by grind, cq_zero.1] at h1
  have e : cq q * cq q - sq q * -sq q = cq q * cq q + sq q * sq q := by grind
  rwa [e] at h1
theorem sq_nonneg (a : Rat) : 0 ≤ a * a := by
  by_cases h : 0 ≤ a
  · exact Rat.mul_nonneg h h
  · have := Rat.mul_nonneg (show 0 ≤ -a by grind) (show 0 ≤ -a by grind)
    grind
theorem size_of_sq {a b d : Rat} (hd : 0 ≤ d) (h : a * a + b * b ≤ 1 + d) : Size a (1 + d) := by
  have hb := sq_nonneg b
  have h1 : ∀ c : Rat, c * c ≤ 1 + d → c ≤ 1 + d := fun c hc => by
    refine Rat.not_lt.1 fun hlt => ?_
    have h2 := Rat.mul_le_mul_of_nonneg_left (show 1 ≤ c by grind) (show 0 ≤ c by grind)
    grind
  exact ⟨h1 a (by grind), h1 (-a) (by grind)⟩
theorem cq_size {q : Rat} (h : Size q 1) : Size (cq q) (1 + dl) ∧ Size (sq q) (1 + dl) := by
  have h1 := (cq_sq h).1
  have hd : 0 ≤ dl := by decide +kernel
  exact ⟨size_of_sq hd (b := sq q) (by grind), size_of_sq hd (b := cq q) (by grind)⟩
theorem cq_size2 {q : Rat} (h : Size q 1) : Size (cq q) 2 ∧ Size (sq q) 2 := by
  have hd : 1 + dl ≤ 2 := by decide +kernel
  exact ⟨(cq_size h).1.mono hd, (cq_size h).2.mono hd⟩

/-- A number times one that is nearly w. -/
theorem near_mul {a w b B e : Rat} (h : Near a w e) (hb : Size b B) : Near (a * b) (w * b) (e * B) := by
  rw [near_size] at *
  have := h.mul hb
  rwa [show (a - w) * b = a * b - w * b by grind] at this

/-- The other way round from a part p whose turn is known: w + v i. -/
theorem cq_from {p q w v : Rat} (hp : Size p 1) (hq : Size q 1) (hw : Near (cq p) w dl) (hv : Near (sq p) v dl) :
    Near (cq (p + q)) (w * cq q - v * sq q) (5 * dl) ∧ Near (sq (p + q)) (v * cq q + w * sq q) (5 * dl) := by
  obtain ⟨h1, h2⟩ := cq_add hp hq
  obtain ⟨s1, s2⟩ := cq_size2 hq
  have a1 := near_mul hw s1
  have a2 := near_mul hv s2
  have a3 := near_mul hv s1
  have a4 := near_mul hw s2
  generalize cq (p + q) = x at *
  generalize sq (p + q) = y at *
  generalize cq p * cq q = t1 at *
  generalize sq p * sq q = t2 at *
  generalize sq p * cq q = t3 at *
  generalize cq p * sq q = t4 at *
  generalize w * cq q = u1 at *
  generalize v * sq q = u2 at *
  generalize v * cq q = u3 at *
  generalize w * sq q = u4 at *
  unfold Near at *
  constructor <;> constructor <;> grind

theorem cq_turn {q : Rat} (h : Size q 1) : Near (cq (1 + q)) (cq q) (5 * dl) ∧ Near (sq (1 + q)) (sq q) (5 * dl) := by
  have := cq_from (p := 1) (by constructor <;> decide +kernel) h cq_one.1 cq_one.2
  rw [show 1 * cq q - 0 * sq q = cq q by grind, show 0 * cq q + 1 * sq q = sq q by grind] at this
  exact this
theorem cq_mirror {q : Rat} (h : Size q 1) : Near (cq (1 - q)) (cq q) (5 * dl) ∧ Near (sq (1 - q)) (-sq q) (5 * dl) := by
  have := cq_turn h.neg
  rw [← Rat.sub_eq_add_neg, cq_neg, sq_neg] at this
  exact this
theorem cq_opp {q : Rat} (h : Size q 1) : Near (cq (1 / 2 - q)) (-cq q) (5 * dl) ∧ Near (sq (1 / 2 - q)) (sq q) (5 * dl) := by
  have := cq_from (p := 1 / 2) (by constructor <;> decide +kernel) h.neg cq_half.1 cq_half.2
  rw [← Rat.sub_eq_add_neg, cq_neg, sq_neg, show -1 * cq q - 0 * -sq q = -cq q by grind, show 0 * cq q + -1 * -sq q = sq q by grind] at this
  exact this
theorem cq_quart {q : Rat} (h : Size q 1) : Near (cq (1 / 4 - q)) (sq q) (5 * dl) ∧ Near (sq (1 / 4 - q)) (cq q) (5 * dl) := by
  have := cq_from (p := 1 / 4) (by constructor <;> decide +kernel) h.neg cq_quarter.1 cq_quarter.2
  rw [← Rat.sub_eq_add_neg, cq_neg, sq_neg, show 0 * cq q - 1 * -sq q = sq q by grind, show 1 * cq q + 0 * -sq q = cq q by grind] at this
  exact this

end Flt
end Go.Proofs.Ytphgibndncjaiaa
/-
  Turns as a plain function of two naturals: no program.
-/
set_option linter.unusedVariables false
set_option linter.unusedSimpArgs false
namespace Go.Proofs.Ytphgibndncjaiaa
open Go Flt
namespace Turn

abbrev O := Option Nat
def oneO : O := some 4607182418800017408
def zeroO : O := some 0
def halfRoot : O := some 4604544271217802189
def twoPi : O := some 4618760256179416344
def ofI (n : Int) : O := some (floatOfInt .f64 n)

def cI (m : Int) : Int := (2 * m - 1) * 2 * m
def sI (m : Int) : Int := 2 * m * (2 * m + 1)

/-- The series of the real part, behind j of its nine rounds. -/
def cosR (y : O) : Nat → O
  | 0 => oneO
  | j + 1 => fop .sub .f64 oneO (fop .mul .f64 (fop .quo .f64 y (ofI (cI (9 - (j : Int))))) (cosR y j))
/-- That of the imaginary part. -/
def sinR (y : O) : Nat → O
  | 0 => oneO
  | j + 1 => fop .sub .f64 oneO (fop .mul .f64 (fop .quo .f64 y (ofI (sI (9 - (j : Int))))) (sinR y j))

def argO (n k : Nat) : O := fop .quo .f64 (fop .mul .f64 twoPi (ofI k)) (ofI n)
def serO (n k : Nat) : O × O :=
  let x := argO n k
  let y := fop .mul .f64 x x
  (cosR y 9, fop .mul .f64 (sinR y 9) x)

/-- How many of the rules 2 to 4 are still to come, at most. -/
def rank (n k : Nat) : Nat := if 8 * k ≤ n then 0 else if 4 * k ≤ n then 1 else if 2 * k ≤ n then 2 else 3

/-- The turn of a fraction in lowest terms, rule by rule. -/
def low (rec : Nat → Nat → O × O) (n k : Nat) : O × O :=
  if k = 0 then (oneO, zeroO)
  else if n < 2 * k then let z := rec n (n - k); (z.1, fneg .f64 z.2)
  else if n < 4 * k then let z := rec (2 * n) (n - 2 * k); (fneg .f64 z.1, z.2)
  else if n < 8 * k then let z := rec (4 * n) (n - 4 * k); (z.2, z.1)
  else if 8 * k = n then (halfRoot, halfRoot)
  else serO n k

def turnF : Nat → Nat → Nat → O × O
  | 0, _, _ => (none, none)
  | f + 1, n, k => low (turnF f) (n / n.gcd k) (k / n.gcd k)

/-- The turn k of n. -/
def turn (n k : Nat) : O × O := turnF 4 n k

theorem rank_red {n k : Nat} (hn : 0 < n) : rank (n / n.gcd k) (k / n.gcd k) = rank n k := by
  have hg : 0 < n.gcd k := Nat.gcd_pos_of_pos_left _ hn
  obtain ⟨a, ha⟩ := Nat.gcd_dvd_left n k
  obtain ⟨b, hb⟩ := Nat.gcd_dvd_right n k
  generalize hG : n.gcd k = g at *
  subst ha hb
  rw [Nat.mul_div_cancel_left _ hg, Nat.mul_div_cancel_left _ hg]
  unfold rank
  have e : ∀ c : Nat, (c * (g * b) ≤ g * a) = (c * b ≤ a) := fun c => by
    rw [show c * (g * b) = g * (c * b) by rw [Nat.mul_left_comm]]
    exact propext (Nat.mul_le_mul_left_iff hg)
  simp only [e]

theorem rank_le (n k : Nat) : rank n k ≤ 3 := by unfold rank; split <;> (try split) <;> (try split) <;> omega

/-- The fuel does not matter if it is enough. -/
theorem turnF_fuel : ∀ (r f f' n k : Nat), rank n k ≤ r → r ≤ f → r ≤ f' → 0 < n → k ≤ n → turnF (f + 1) n k = turnF (f' + 1) n k := by
  intro r
  induction r with
  | zero =>
    intro f f' n k hr hf hf' hn hk
    have h := hr; rw [← rank_red hn] at h
    simp only [turnF]
    generalize n / n.gcd k = n1 at *
    generalize k / n.gcd k = k1 at *
    unfold rank at h
    have h8 : 8 * k1 ≤ n1 := by
      apply Classical.byContradiction; intro hc
      rw [if_neg hc] at h
      split at h
      · omega
      · split at h <;> omega
    unfold low
    split
    · rfl
    · have a2 : ¬ n1 < 2 * k1 := by omega
      have a4 : ¬ n1 < 4 * k1 := by omega
      have a8 : ¬ n1 < 8 * k1 := by omega
      simp only [if_neg a2, if_neg a4, if_neg a8]
  | succ r ih =>
    intro f f' n k hr hf hf' hn hk
    obtain ⟨f, rfl⟩ : ∃ g, f = g + 1 := ⟨f - 1, by omega⟩
    obtain ⟨f', rfl⟩ : ∃ g, f' = g + 1 := ⟨f' - 1, by omega⟩
    have h := hr; rw [← rank_red hn] at h
    have hg : 0 < n.gcd k := Nat.gcd_pos_of_pos_left _ hn
    have hn1 : 0 < n / n.gcd k := Nat.div_pos (Nat.le_of_dvd hn (Nat.gcd_dvd_left n k)) hg
    have hk1 : k / n.gcd k ≤ n / n.gcd k := Nat.div_le_div_right hk
    show low (turnF (f + 1)) _ _ = low (turnF (f' + 1)) _ _
    generalize n / n.gcd k = n1 at *
    generalize k / n.gcd k = k1 at *
    unfold low
    split
    · rfl
    · rename_i h0
      split
      · rename_i h2
        have hr2 : rank n1 (n1 - k1) ≤ r := by
          unfold rank at h ⊢
          rw [if_neg (by omega), if_neg (by omega), if_neg (by omega)] at h
          split <;> (try split) <;> (try split) <;> omega
        rw [ih f f' _ _ hr2 (by omega) (by omega) hn1 (by omega)]
      · rename_i h2
        split
        · rename_i h4
          have hr2 : rank (2 * n1) (n1 - 2 * k1) ≤ r := by
            unfold rank at h ⊢
            rw [if_neg (by omega), if_neg (by omega), if_pos (by omega)] at h
            split <;> (try split) <;> (try split) <;> omega
          rw [ih f f' _ _ hr2 (by omega) (by omega) (by omega) (by omega)]
        · rename_i h4
          split
          · rename_i h8
            have hr2 : rank (4 * n1) (n1 - 4 * k1) ≤ r := by
              unfold rank at h ⊢
              rw [if_neg (by omega), if_pos (by omega)] at h
              split <;> (try split) <;> (try split) <;> omega
            rw [ih f f' _ _ hr2 (by omega) (by omega) (by omega) (by omega)]
          · rfl

theorem turnF_eq {f n k : Nat} (hf : rank n k ≤ f) (hn : 0 < n) (hk : k ≤ n) : turnF (f + 1) n k = turn n k :=
  turnF_fuel (rank n k) f 3 n k (Nat.le_refl _) hf (rank_le n k) hn hk

/-- A fraction and the same in lowest terms. -/
theorem turn_red {n k : Nat} (hn : 0 < n) : turn n k = turn (n / n.gcd k) (k / n.gcd k) := by
  have hg : 0 < n.gcd k := Nat.gcd_pos_of_pos_left _ hn
  have e : (n / n.gcd k).gcd (k / n.gcd k) = 1 := by
    rw [Nat.gcd_div (Nat.gcd_dvd_left n k) (Nat.gcd_dvd_right n k)]
    exact Nat.div_self hg
  show low (turnF 3) _ _ = low (turnF 3) _ _
  rw [e, Nat.div_one, Nat.div_one]

theorem low_turn {n k : Nat} (hg : n.gcd k = 1) : turn n k = low (turnF 3) n k := by
  show low (turnF 3) (n / n.gcd k) (k / n.gcd k) = _
  rw [hg, Nat.div_one, Nat.div_one]

theorem turn_zero {n k : Nat} (hg : n.gcd k = 1) (h : k = 0) : turn n k = (oneO, zeroO) := by
  rw [low_turn hg]; unfold low; rw [if_pos h]
theorem turn_two {n k : Nat} (hg : n.gcd k = 1) (h0 : k ≠ 0) (hn : 0 < n) (hk : k ≤ n) (h : n < 2 * k) : turn n k = ((turn n (n - k)).1, fneg .f64 (turn n (n - k)).2) := by
  rw [low_turn hg]; unfold low; rw [if_neg h0, if_pos h]
  rw [turnF_eq (f := 2) (by unfold rank; split <;> (try split) <;> (try split) <;> omega) hn (by omega)]
theorem turn_four {n k : Nat} (hg : n.gcd k = 1) (h0 : k ≠ 0) (hn : 0 < n) (h2 : ¬ n < 2 * k) (h : n < 4 * k) : turn n k = (fneg .f64 (turn (2 * n) (n - 2 * k)).1, (turn (2 * n) (n - 2 * k)).2) := by
  rw [low_turn hg]; unfold low; rw [if_neg h0, if_neg h2, if_pos h]
  rw [turnF_eq (f := 2) (by unfold rank; split <;> (try split) <;> (try split) <;> omega) (by omega) (by omega)]
theorem turn_eight {n k : Nat} (hg : n.gcd k = 1) (h0 : k ≠ 0) (hn : 0 < n) (h2 : ¬ n < 2 * k) (h4 : ¬ n < 4 * k) (h : n < 8 * k) : turn n k = ((turn (4 * n) (n - 4 * k)).2, (turn (4 * n) (n - 4 * k)).1) := by
  rw [low_turn hg]; unfold low; rw [if_neg h0, if_neg h2, if_neg h4, if_pos h]
  rw [turnF_eq (f := 2) (by unfold rank; split <;> (try split) <;> (try split) <;> omega) (by omega) (by omega)]
theorem turn_eighth {n k : Nat} (hg : n.gcd k = 1) (h0 : k ≠ 0) (h2 : ¬ n < 2 * k) (h4 : ¬ n < 4 * k) (h8 : ¬ n < 8 * k) (h : 8 * k = n) : turn n k = (halfRoot, halfRoot) := by
  rw [low_turn hg]; unfold low; rw [if_neg h0, if_neg h2, if_neg h4, if_neg h8, if_pos h]
theorem turn_series {n k : Nat} (hg : n.gcd k = 1) (h0 : k ≠ 0) (h2 : ¬ n < 2 * k) (h4 : ¬ n < 4 * k) (h8 : ¬ n < 8 * k) (h : 8 * k ≠ n) : turn n k = serO n k := by
  rw [low_turn hg]; unfold low; rw [if_neg h0, if_neg h2, if_neg h4, if_neg h8, if_neg h]

end Turn
end Go.Proofs.Ytphgibndncjaiaa
