import Derived.Test.YtpobbicbfnglaaaRnd2
/-
  Floats of 64 bits as rational numbers: sums, differences, products and quotients are near, and kept between numbers that there are. No program.
-/
set_option linter.unusedVariables false
set_option linter.unusedSimpArgs false
namespace Go.Proofs.Ytpobbicbfnglaaa
open Go Flt
namespace Flt
open Ieee (double Format Datum)

/-- The places of a float behind the point. -/
def lpn : Nat := 1074
theorem lpn_eq : double.leastPlace = -(lpn : Int) := by decide
/-- A power of 2. -/
def two (n : Nat) : Rat := ((2 ^ n : Nat) : Rat)
theorem two_pos (n : Nat) : 0 < two n := by
  unfold two
  exact Rat.natCast_pos.2 (Nat.two_pow_pos n)
theorem two_add (a b : Nat) : two (a + b) = two a * two b := by
  unfold two
  rw [Nat.pow_add, Rat.natCast_mul]
theorem two_cut {a b : Nat} (h : a ≤ b) : two b = two a * two (b - a) := by rw [← two_add, Nat.add_sub_cancel' h]
theorem two_split {b : Nat} (hb : lpn ≤ b) : two b = two lpn * two (b - lpn) := by rw [← two_add, Nat.add_sub_cancel' hb]
theorem two_zero : two 0 = 1 := rfl
theorem two_one : two 1 = 2 := rfl
theorem two_le {a b : Nat} (h : a ≤ b) : two a ≤ two b := by
  unfold two
  exact Rat.natCast_le_natCast.2 (Nat.pow_le_pow_right (by omega) h)

/-- What a finite word stands for. -/
def fq (x : Nat) : Rat := (rsv double x : Rat) / two lpn
/-- A finite word. -/
def Fin (x : Nat) : Prop := x < 18446744073709551616 ∧ x % 9223372036854775808 < 9218868437227405312
/-- A number that there is. -/
def Rep (q : Rat) : Prop := ∃ x, Fin x ∧ fq x = q

theorem rsv_word (neg : Bool) {r : Nat} (h : r < double.infRung) : rsv double (double.word neg r) = sval double neg r := by
  have hs : double.signWeight = 9223372036854775808 := by decide
  rw [ir64] at h
  unfold rsv Format.word
  rw [hs]
  cases neg
  · simp only [Bool.false_eq_true, if_false]
    have e1 : r / 9223372036854775808 = 0 := Nat.div_eq_of_lt (by omega)
    have e2 : r % 9223372036854775808 = r := Nat.mod_eq_of_lt (by omega)
    rw [e1, e2]
    rfl
  · simp only [if_true]
    have e1 : (9223372036854775808 + r) / 9223372036854775808 = 1 := by omega
    have e2 : (9223372036854775808 + r) % 9223372036854775808 = r := by omega
    rw [e1, e2]
    rfl

theorem fin_word (neg : Bool) {r : Nat} (h : r < double.infRung) : Fin (double.word neg r) := by
  have hs : double.signWeight = 9223372036854775808 := by decide
  rw [ir64] at h
  unfold Fin Format.word
  rw [hs]
  cases neg
  · simp only [Bool.false_eq_true, if_false]; omega
  · simp only [if_true]; omega

theorem word_self' {x : Nat} (h : x < 18446744073709551616) : double.word (x / 9223372036854775808 % 2 == 1) (x % 9223372036854775808) = x := by
  have hs : double.signWeight = 9223372036854775808 := by decide
  unfold Format.word
  rw [hs]
  by_cases h1 : x < 9223372036854775808
  · rw [Nat.div_eq_of_lt h1, Nat.mod_eq_of_lt h1]; rfl
  · have e1 : x / 9223372036854775808 = 1 := by omega
    have e2 : x % 9223372036854775808 = x - 9223372036854775808 := by omega
    rw [e1, e2]
    show 9223372036854775808 + (x - 9223372036854775808) = x
    omega

/-- The value of a rung. -/
def rq (r : Nat) : Rat := (val double r : Rat) / two lpn
theorem fq_word (neg : Bool) {r : Nat} (h : r < double.infRung) : fq (double.word neg r) = if neg then -rq r else rq r := by
  unfold fq rq
  rw [rsv_word neg h]
  unfold sval
  cases neg
  · simp only [Bool.false_eq_true, if_false, Rat.intCast_natCast]
  · simp only [if_true, Rat.intCast_neg, Rat.intCast_natCast]
    grind

theorem div_le_div {a b c : Rat} (hc : 0 < c) (h : a ≤ b) : a / c ≤ b / c := by
  rw [Rat.div_def, Rat.div_def]
  exact Rat.mul_le_mul_of_nonneg_right h (Rat.le_of_lt (Rat.inv_pos.2 hc))
theorem le_of_div {a b c : Rat} (hc : 0 < c) (h : a / c ≤ b / c) : a ≤ b := by
  have := Rat.mul_le_mul_of_nonneg_right h (Rat.le_of_lt hc)
  rwa [Rat.div_mul_cancel (Rat.ne_of_gt hc), Rat.div_mul_cancel (Rat.ne_of_gt hc)] at this

theorem rq_le {r s : Nat} : rq r ≤ rq s ↔ r ≤ s := by
  unfold rq
  constructor
  · intro h
    have := Rat.natCast_le_natCast.1 (le_of_div (two_pos _) h)
    apply Nat.le_of_not_lt
    intro hc
    have := val_lt double hc
    omega
  · intro h
    exact div_le_div (two_pos _) (Rat.natCast_le_natCast.2 (val_mono h))
theorem rq_zero : rq 0 = 0 := by
  unfold rq; rw [val_zero, Rat.div_def]; simp
theorem rq_nonneg (r : Nat) : 0 ≤ rq r := by rw [← rq_zero]; exact rq_le.2 (Nat.zero_le _)

/-- A word is its sign and its rung. -/
theorem fin_parts {x : Nat} (h : Fin x) : ∃ neg r, r < double.infRung ∧ x = double.word neg r := by
  refine ⟨_, x % 9223372036854775808, ?_, (word_self' h.1).symm⟩
  rw [ir64]; exact h.2

theorem rep_neg {q : Rat} (h : Rep q) : Rep (-q) := by
  obtain ⟨x, hx, rfl⟩ := h
  obtain ⟨neg, r, hr, rfl⟩ := fin_parts hx
  refine ⟨double.word (!neg) r, fin_word _ hr, ?_⟩
  rw [fq_word _ hr, fq_word _ hr]
  cases neg
  · simp
  · simp only [Bool.not_true, Bool.false_eq_true, if_false, if_true]; grind
theorem rep_rq {r : Nat} (h : r < double.infRung) : Rep (rq r) := ⟨double.word false r, fin_word _ h, by rw [fq_word _ h]; rfl⟩
theorem rep_zero : Rep 0 := by rw [← rq_zero]; exact rep_rq (by rw [ir64]; omega)

/-- A number that there is and that is not negative is that of a rung. -/
theorem rep_rung {q : Rat} (h : Rep q) (h0 : 0 ≤ q) : ∃ r, r < double.infRung ∧ rq r = q := by
  obtain ⟨x, hx, rfl⟩ := h
  obtain ⟨neg, r, hr, rfl⟩ := fin_parts hx
  rw [fq_word _ hr] at h0 ⊢
  cases neg
  · exact ⟨r, hr, rfl⟩
  · simp only [if_true] at h0 ⊢
    have := rq_nonneg r
    have e : rq r = 0 := by grind
    exact ⟨0, by rw [ir64]; omega, by rw [rq_zero, e]; grind⟩

/-- How far a rounded number may be from the number. -/
def slack (t : Rat) : Rat := t / two 52 + 1 / two (lpn + 1)
def slack' (t : Rat) : Rat := t / two 53 + 1 / two (lpn + 1)
/-- r is what t is rounded to: near, and on the same side of each number that there is. -/
structure Rnd (t r : Rat) : Prop where
  rep : Rep r
  up : r - t ≤ slack t ∨ r - t ≤ slack (-t)
  down : t - r ≤ slack t ∨ t - r ≤ slack (-t)
  le : ∀ s, Rep s → t ≤ s → r ≤ s
  ge : ∀ s, Rep s → s ≤ t → s ≤ r

theorem Rnd.neg {t r : Rat} (h : Rnd t r) : Rnd (-t) (-r) := by
  obtain ⟨h0, h1, h2, h3, h4⟩ := h
  refine ⟨rep_neg h0, ?_, ?_, fun s hs hts => ?_, fun s hs hst => ?_⟩
  · rw [Rat.neg_neg]; grind
  · rw [Rat.neg_neg]; grind
  · have := h4 (-s) (rep_neg hs) (by grind)
    grind
  · have := h3 (-s) (rep_neg hs) (by grind)
    grind
theorem Rnd.exact {t r : Rat} (h : Rnd t r) (ht : Rep t) : r = t := Rat.le_antisymm (h.le t ht (Rat.le_refl)) (h.ge t ht (Rat.le_refl))
theorem Rnd.nonneg {t r : Rat} (h : Rnd t r) (ht : 0 ≤ t) : 0 ≤ r := h.ge 0 rep_zero ht

theorem two53 : two 53 = 9007199254740992 := rfl
theorem two52 : two 52 = 4503599627370496 := rfl

theorem rq_at {b : Nat} (hb : lpn ≤ b) (s : Nat) : rq s = ((val double s * 2 ^ (b - lpn) : Nat) : Rat) / two b := by
  have e : two b = two lpn * two (b - lpn) := two_split hb
  unfold rq
  rw [e, Rat.natCast_mul]
  have h1 := two_pos lpn
  have h2 := two_pos (b - lpn)
  show _ = _ * two (b - lpn) / _
  generalize two (b - lpn) = u at *
  generalize two lpn = v at *
  generalize ((val double s : Nat) : Rat) = a
  rw [Rat.div_def, Rat.div_def, Rat.inv_mul_rev]
  have := Rat.mul_inv_cancel u (Rat.ne_of_gt h2)
  grind

theorem cast_le_div {a c b : Nat} : (a : Rat) / two b ≤ (c : Rat) / two b ↔ a ≤ c :=
  ⟨fun h => Rat.natCast_le_natCast.1 (le_of_div (two_pos _) h), fun h => div_le_div (two_pos _) (Rat.natCast_le_natCast.2 h)⟩

/-- A number that is not negative is rounded to a rung. -/
theorem rung_rnd {m : Nat} {p : Int} {b R : Nat} (hb : lpn ≤ b) (hp : -(b : Int) ≤ p) (hR : R < double.infRung) (hB : ((at_ m p (-(b : Int)) : Nat) : Rat) / two b ≤ rq R) :
    rungOf double m p < double.infRung ∧ Rnd (((at_ m p (-(b : Int)) : Nat) : Rat) / two b) (rq (rungOf double m p)) ∧
      rq (rungOf double m p) - ((at_ m p (-(b : Int)) : Nat) : Rat) / two b ≤ slack' (((at_ m p (-(b : Int)) : Nat) : Rat) / two b) ∧
      ((at_ m p (-(b : Int)) : Nat) : Rat) / two b - rq (rungOf double m p) ≤ slack' (((at_ m p (-(b : Int)) : Nat) : Rat) / two b) := by
  have h2 : -(b : Int) ≤ double.leastPlace := by rw [lpn_eq]; omega
  have e : (double.leastPlace - -(b : Int)).toNat = b - lpn := by rw [lpn_eq]; omega
  have hle : ∀ s, ((at_ m p (-(b : Int)) : Nat) : Rat) / two b ≤ rq s → rungOf double m p ≤ s := fun s hs => by
    rw [rq_at hb, cast_le_div] at hs
    exact rung_le hp h2 (by rw [e]; exact hs)
  have hge : ∀ s, s < double.infRung → rq s ≤ ((at_ m p (-(b : Int)) : Nat) : Rat) / two b → s ≤ rungOf double m p := fun s hi hs => by
    rw [rq_at hb, cast_le_div] at hs
    exact le_rung hp h2 (Nat.le_of_lt hi) (by rw [e]; exact hs)
  have hlt : rungOf double m p < double.infRung := Nat.lt_of_le_of_lt (hle R hB) hR
  have ht0 : 0 ≤ ((at_ m p (-(b : Int)) : Nat) : Rat) / two b := by
    have := div_le_div (two_pos b) (Rat.natCast_nonneg (a := at_ m p (-(b : Int))))
    rwa [Rat.div_def, Rat.zero_mul] at this
  have near : rq (rungOf double m p) - ((at_ m p (-(b : Int)) : Nat) : Rat) / two b ≤ slack' (((at_ m p (-(b : Int)) : Nat) : Rat) / two b) ∧
      ((at_ m p (-(b : Int)) : Nat) : Rat) / two b - rq (rungOf double m p) ≤ slack' (((at_ m p (-(b : Int)) : Nat) : Rat) / two b) := by
    by_cases hm : m = 0
    · have e1 : rungOf double m p = 0 := by unfold rungOf; rw [if_pos hm]
      have e2 : at_ m p (-(b : Int)) = 0 := by unfold at_; rw [hm, Nat.zero_mul]
      have e3 : ((0 : Nat) : Rat) / two b = 0 := by rw [Rat.div_def]; exact Rat.zero_mul _
      have e4 : (0 : Rat) ≤ 1 / two (lpn + 1) := by
        have := div_le_div (two_pos (lpn + 1)) (show (0 : Rat) ≤ 1 by decide)
        rwa [Rat.div_def, Rat.zero_mul] at this
      rw [e1, e2, rq_zero, e3]
      unfold slack'
      rw [show (0 : Rat) / two 53 = 0 by rw [Rat.div_def]; exact Rat.zero_mul _]
      constructor <;> grind
    · obtain ⟨L, k, hr, hq, hk, k1, k2, hbig⟩ := rung_spec (f := double) hm hp h2
      have hr' : rungOf double m p = L * double.binade + k := by omega
      have hv : val double (rungOf double m p) = k * 2 ^ L := by rw [hr']; exact val_of hq hk
      rw [rq_at hb, hv]
      rw [e] at k1 k2 hbig
      have hbin : double.binade = 4503599627370496 := by decide
      rw [hbin] at hbig
      clear hle hge hr hr' hv hq hk hB
      generalize hM : at_ m p (-(b : Int)) = M at *
      have hW : L = 0 → 2 ^ L * 2 ^ (b - lpn) = 2 ^ (b - lpn) := fun h => by rw [h]; simp
      have e5 : k * 2 ^ L * 2 ^ (b - lpn) = k * (2 ^ L * 2 ^ (b - lpn)) := Nat.mul_assoc _ _ _
      rw [e5]
      generalize 2 ^ L * 2 ^ (b - lpn) = W at *
      have e6 : two b = two lpn * two (b - lpn) := two_split hb
      have e7 : two (lpn + 1) = two lpn * 2 := by rw [two_add]; rfl
      have c1 : ∀ a : Nat, ((2 * a : Nat) : Rat) = 2 * (a : Rat) := fun a => by rw [Rat.natCast_mul]; rfl
      have q1 : (2 : Rat) * ((k * W : Nat) : Rat) ≤ 2 * (M : Rat) + (W : Rat) := by
        have := Rat.natCast_le_natCast.2 k1
        rw [Nat.mul_assoc 2 k W, c1, Rat.natCast_add, c1] at this
        exact this
      have q2 : (2 : Rat) * (M : Rat) ≤ 2 * ((k * W : Nat) : Rat) + (W : Rat) := by
        have := Rat.natCast_le_natCast.2 k2
        rw [Nat.add_mul, Nat.one_mul, Nat.mul_assoc 2 k W, c1, Rat.natCast_add, c1] at this
        exact this
      have hbp := two_pos b
      have hlp := two_pos lpn
      have hup := two_pos (b - lpn)
      -- the unit
      have key : (W : Rat) * (two b)⁻¹ ≤ 2 * slack' ((M : Rat) / two b) := by
        have hM0 : 0 ≤ (M : Rat) * (two b)⁻¹ := Rat.mul_nonneg Rat.natCast_nonneg (Rat.le_of_lt (Rat.inv_pos.2 hbp))
        unfold slack'
        rw [two53, e7, Rat.div_def (M : Rat)]
        by_cases hL : L = 0
        · rw [hW hL]
          have e8 : ((2 ^ (b - lpn) : Nat) : Rat) * (two b)⁻¹ = (two lpn)⁻¹ := by
            rw [e6]
            show two (b - lpn) * _ = _
            have := Rat.mul_inv_cancel _ (Rat.ne_of_gt hup)
            rw [Rat.inv_mul_rev]
            grind
          rw [e8]
          have : 1 / (two lpn * 2) = (two lpn)⁻¹ / 2 := by rw [Rat.div_def, Rat.inv_mul_rev]; grind
          rw [this]
          grind
        · have q3 := Rat.natCast_le_natCast.2 (hbig hL)
          rw [Rat.natCast_mul] at q3
          have q4 := Rat.mul_le_mul_of_nonneg_right q3 (Rat.le_of_lt (Rat.inv_pos.2 hbp))
          have q5 : 0 ≤ 1 / (two lpn * 2) := by
            rw [Rat.div_def]
            exact Rat.mul_nonneg (by decide) (Rat.le_of_lt (Rat.inv_pos.2 (Rat.mul_pos hlp (by decide))))
          have q6 : ((4503599627370496 : Nat) : Rat) = 4503599627370496 := rfl
          rw [q6] at q4
          grind
      have hi : 0 ≤ (two b)⁻¹ := Rat.le_of_lt (Rat.inv_pos.2 hbp)
      have q3 := Rat.mul_le_mul_of_nonneg_right q1 hi
      have q4 := Rat.mul_le_mul_of_nonneg_right q2 hi
      generalize hS : slack' ((M : Rat) / two b) = S at *
      rw [Rat.div_def, Rat.div_def]
      generalize (two b)⁻¹ = c at *
      constructor <;> grind
  have hss : slack' (((at_ m p (-(b : Int)) : Nat) : Rat) / two b) ≤ slack (((at_ m p (-(b : Int)) : Nat) : Rat) / two b) := by
    unfold slack slack'
    rw [two52, two53]
    grind
  refine ⟨hlt, ⟨rep_rq hlt, .inl (Rat.le_trans near.1 hss), .inl (Rat.le_trans near.2 hss), fun s hs hts => ?_, fun s hs hst => ?_⟩, near.1, near.2⟩
  · obtain ⟨r, hr, rfl⟩ := rep_rung hs (Rat.le_trans ht0 hts)
    exact rq_le.2 (hle r hts)
  · by_cases h0 : 0 ≤ s
    · obtain ⟨r, hr, rfl⟩ := rep_rung hs h0
      exact rq_le.2 (hge r hr hst)
    · exact Rat.le_trans (Rat.le_of_lt (Rat.not_le.1 h0)) (rq_nonneg _)

end Flt
end Go.Proofs.Ytpobbicbfnglaaa
