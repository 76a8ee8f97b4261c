/-
  Several texts of this claim, one behind the other; each says what it holds.
-/
import Derived.Test.YteamnfockjnilaaMBins3
import Derived.Deep.RegionWith
/-
  Floats of 64 bits as rational numbers: sums, differences, products and quotients are near, and kept between numbers that there are. No program.
-/
set_option linter.unusedVariables false
set_option linter.unusedSimpArgs false
namespace Go.Proofs.Yteamnfockjnilaa
open Go Flt
namespace Flt
open Ieee (double Format Datum)

/-- The places of a float behind the point. -/
def lpn : Nat := 1074
theorem lpn_eq : double.leastPlace = -(lpn : Int) := by decide
/-- A power of 2. -/
def two (n : Nat) : Rat := ((2 ^ n : Nat) : Rat)
theorem two_pos (n : Nat) : 0 < two n := by
  unfold two
  exact Rat.natCast_pos.2 (Nat.two_pow_pos n)
theorem two_add (a b : Nat) : two (a + b) = two a * two b := by
  unfold two
  rw [Nat.pow_add, Rat.natCast_mul]
theorem two_cut {a b : Nat} (h : a ≤ b) : two b = two a * two (b - a) := by rw [← two_add, Nat.add_sub_cancel' h]
theorem two_split {b : Nat} (hb : lpn ≤ b) : two b = two lpn * two (b - lpn) := by rw [← two_add, Nat.add_sub_cancel' hb]
theorem two_zero : two 0 = 1 := rfl
theorem two_one : two 1 = 2 := rfl
theorem two_le {a b : Nat} (h : a ≤ b) : two a ≤ two b := by
  unfold two
  exact Rat.natCast_le_natCast.2 (Nat.pow_le_pow_right (by omega) h)

/-- What a finite word stands for. -/
def fq (x : Nat) : Rat := (rsv double x : Rat) / two lpn
/-- A finite word. -/
def Fin (x : Nat) : Prop := x < 18446744073709551616 ∧ x % 9223372036854775808 < 9218868437227405312
/-- A number that there is. -/
def Rep (q : Rat) : Prop := ∃ x, Fin x ∧ fq x = q

theorem rsv_word (neg : Bool) {r : Nat} (h : r < double.infRung) : rsv double (double.word neg r) = sval double neg r := by
  have hs : double.signWeight = 9223372036854775808 := by decide
  rw [ir64] at h
  unfold rsv Format.word
  rw [hs]
  cases neg
  · simp only [Bool.false_eq_true, if_false]
    have e1 : r / 9223372036854775808 = 0 := Nat.div_eq_of_lt (by omega)
    have e2 : r % 9223372036854775808 = r := Nat.mod_eq_of_lt (by omega)
    rw [e1, e2]
    rfl
  · simp only [if_true]
    have e1 : (9223372036854775808 + r) / 9223372036854775808 = 1 := by omega
    have e2 : (9223372036854775808 + r) % 9223372036854775808 = r := by omega
    rw [e1, e2]
    rfl

theorem fin_word (neg : Bool) {r : Nat} (h : r < double.infRung) : Fin (double.word neg r) := by
  have hs : double.signWeight = 9223372036854775808 := by decide
  rw [ir64] at h
  unfold Fin Format.word
  rw [hs]
  cases neg
  · simp only [Bool.false_eq_true, if_false]; omega
  · simp only [if_true]; omega

theorem word_self' {x : Nat} (h : x < 18446744073709551616) : double.word (x / 9223372036854775808 % 2 == 1) (x % 9223372036854775808) = x := by
  have hs : double.signWeight = 9223372036854775808 := by decide
  unfold Format.word
  rw [hs]
  by_cases h1 : x < 9223372036854775808
  · rw [Nat.div_eq_of_lt h1, Nat.mod_eq_of_lt h1]; rfl
  · have e1 : x / 9223372036854775808 = 1 := by omega
    have e2 : x % 9223372036854775808 = x - 9223372036854775808 := by omega
    rw [e1, e2]
    show 9223372036854775808 + (x - 9223372036854775808) = x
    omega

/-- The value of a rung. -/
def rq (r : Nat) : Rat := (val double r : Rat) / two lpn
theorem fq_word (neg : Bool) {r : Nat} (h : r < double.infRung) : fq (double.word neg r) = if neg then -rq r else rq r := by
  unfold fq rq
  rw [rsv_word neg h]
  unfold sval
  cases neg
  · simp only [Bool.false_eq_true, if_false, Rat.intCast_natCast]
  · simp only [if_true, Rat.intCast_neg, Rat.intCast_natCast]
    grind

theorem div_le_div {a b c : Rat} (hc : 0 < c) (h : a ≤ b) : a / c ≤ b / c := by
  rw [Rat.div_def, Rat.div_def]
  exact Rat.mul_le_mul_of_nonneg_right h (Rat.le_of_lt (Rat.inv_pos.2 hc))
theorem le_of_div {a b c : Rat} (hc : 0 < c) (h : a / c ≤ b / c) : a ≤ b := by
  have := Rat.mul_le_mul_of_nonneg_right h (Rat.le_of_lt hc)
  rwa [Rat.div_mul_cancel (Rat.ne_of_gt hc), Rat.div_mul_cancel (Rat.ne_of_gt hc)] at this

theorem rq_le {r s : Nat} : rq r ≤ rq s ↔ r ≤ s := by
  unfold rq
  constructor
  · intro h
    have := Rat.natCast_le_natCast.1 (le_of_div (two_pos _) h)
    apply Nat.le_of_not_lt
    intro hc
    have := val_lt double hc
    omega
  · intro h
    exact div_le_div (two_pos _) (Rat.natCast_le_natCast.2 (val_mono h))
theorem rq_zero : rq 0 = 0 := by
  unfold rq; rw [val_zero, Rat.div_def]; simp
theorem rq_nonneg (r : Nat) : 0 ≤ rq r := by rw [← rq_zero]; exact rq_le.2 (Nat.zero_le _)

/-- A word is its sign and its rung. -/
theorem fin_parts {x : Nat} (h : Fin x) : ∃ neg r, r < double.infRung ∧ x = double.word neg r := by
  refine ⟨_, x % 9223372036854775808, ?_, (word_self' h.1).symm⟩
  rw [ir64]; exact h.2

theorem rep_neg {q : Rat} (h : Rep q) : Rep (-q) := by
  obtain ⟨x, hx, rfl⟩ := h
  obtain ⟨neg, r, hr, rfl⟩ := fin_parts hx
  refine ⟨double.word (!neg) r, fin_word _ hr, ?_⟩
  rw [fq_word _ hr, fq_word _ hr]
  cases neg
  · simp
  · simp only [Bool.not_true, Bool.false_eq_true, if_false, if_true]; grind
theorem rep_rq {r : Nat} (h : r < double.infRung) : Rep (rq r) := ⟨double.word false r, fin_word _ h, by rw [fq_word _ h]; rfl⟩
theorem rep_zero : Rep 0 := by rw [← rq_zero]; exact rep_rq (by rw [ir64]; omega)

/-- A number that there is and that is not negative is that of a rung. -/
theorem rep_rung {q : Rat} (h : Rep q) (h0 : 0 ≤ q) : ∃ r, r < double.infRung ∧ rq r = q := by
  obtain ⟨x, hx, rfl⟩ := h
  obtain ⟨neg, r, hr, rfl⟩ := fin_parts hx
  rw [fq_word _ hr] at h0 ⊢
  cases neg
  · exact ⟨r, hr, rfl⟩
  · simp only [if_true] at h0 ⊢
    have := rq_nonneg r
    have e : rq r = 0 := by grind
    exact ⟨0, by rw [ir64]; omega, by rw [rq_zero, e]; grind⟩

/-- How far a rounded number may be from the number. -/
def slack (t : Rat) : Rat := t / two 52 + 1 / two (lpn + 1)
def slack' (t : Rat) : Rat := t / two 53 + 1 / two (lpn + 1)
/-- r is what t is rounded to: near, and on the same side of each number that there is. -/
structure Rnd (t r : Rat) : Prop where
  rep : Rep r
  up : r - t ≤ slack t ∨ r - t ≤ slack (-t)
  down : t - r ≤ slack t ∨ t - r ≤ slack (-t)
  le : ∀ s, Rep s → t ≤ s → r ≤ s
  ge : ∀ s, Rep s → s ≤ t → s ≤ r

theorem Rnd.neg {t r : Rat} (h : Rnd t r) : Rnd (-t) (-r) := by
  obtain ⟨h0, h1, h2, h3, h4⟩ := h
  refine ⟨rep_neg h0, ?_, ?_, fun s hs hts => ?_, fun s hs hst => ?_⟩
  · rw [Rat.neg_neg]; grind
  · rw [Rat.neg_neg]; grind
  · have := h4 (-s) (rep_neg hs) (by grind)
    grind
  · have := h3 (-s) (rep_neg hs) (by grind)
    grind
theorem Rnd.exact {t r : Rat} (h : Rnd t r) (ht : Rep t) : r = t := Rat.le_antisymm (h.le t ht (Rat.le_refl)) (h.ge t ht (Rat.le_refl))
theorem Rnd.nonneg {t r : Rat} (h : Rnd t r) (ht : 0 ≤ t) : 0 ≤ r := h.ge 0 rep_zero ht

theorem two53 : two 53 = 9007199254740992 := rfl
theorem two52 : two 52 = 4503599627370496 := rfl

theorem rq_at {b : Nat} (hb : lpn ≤ b) (s : Nat) : rq s = ((val double s * 2 ^ (b - lpn) : Nat) : Rat) / two b := by
  have e : two b = two lpn * two (b - lpn) := two_split hb
  unfold rq
  rw [e, Rat.natCast_mul]
  have h1 := two_pos lpn
  have h2 := two_pos (b - lpn)
  show _ = _ * two (b - lpn) / _
  generalize two (b - lpn) = u at *
  generalize two lpn = v at *
  generalize ((val double s : Nat) : Rat) = a
  rw [Rat.div_def, Rat.div_def, Rat.inv_mul_rev]
  have := Rat.mul_inv_cancel u (Rat.ne_of_gt h2)
  grind

theorem cast_le_div {a c b : Nat} : (a : Rat) / two b ≤ (c : Rat) / two b ↔ a ≤ c :=
  ⟨fun h => Rat.natCast_le_natCast.1 (le_of_div (two_pos _) h), fun h => div_le_div (two_pos _) (Rat.natCast_le_natCast.2 h)⟩

/-- A number that is not negative is rounded to a rung. -/
theorem rung_rnd {m : Nat} {p : Int} {b R : Nat} (hb : lpn ≤ b) (hp : -(b : Int) ≤ p) (hR : R < double.infRung) (hB : ((at_ m p (-(b : Int)) : Nat) : Rat) / two b ≤ rq R) :
    rungOf double m p < double.infRung ∧ Rnd (((at_ m p (-(b : Int)) : Nat) : Rat) / two b) (rq (rungOf double m p)) ∧
      rq (rungOf double m p) - ((at_ m p (-(b : Int)) : Nat) : Rat) / two b ≤ slack' (((at_ m p (-(b : Int)) : Nat) : Rat) / two b) ∧
      ((at_ m p (-(b : Int)) : Nat) : Rat) / two b - rq (rungOf double m p) ≤ slack' (((at_ m p (-(b : Int)) : Nat) : Rat) / two b) := by
  have h2 : -(b : Int) ≤ double.leastPlace := by rw [lpn_eq]; omega
  have e : (double.leastPlace - -(b : Int)).toNat = b - lpn := by rw [lpn_eq]; omega
  have hle : ∀ s, ((at_ m p (-(b : Int)) : Nat) : Rat) / two b ≤ rq s → rungOf double m p ≤ s := fun s hs => by
    rw [rq_at hb, cast_le_div] at hs
    exact rung_le hp h2 (by rw [e]; exact hs)
  have hge : ∀ s, s < double.infRung → rq s ≤ ((at_ m p (-(b : Int)) : Nat) : Rat) / two b → s ≤ rungOf double m p := fun s hi hs => by
    rw [rq_at hb, cast_le_div] at hs
    exact le_rung hp h2 (Nat.le_of_lt hi) (by rw [e]; exact hs)
  have hlt : rungOf double m p < double.infRung := Nat.lt_of_le_of_lt (hle R hB) hR
  have ht0 : 0 ≤ ((at_ m p (-(b : Int)) : Nat) : Rat) / two b := by
    have := div_le_div (two_pos b) (Rat.natCast_nonneg (a := at_ m p (-(b : Int))))
    rwa [Rat.div_def, Rat.zero_mul] at this
  have near : rq (rungOf double m p) - ((at_ m p (-(b : Int)) : Nat) : Rat) / two b ≤ slack' (((at_ m p (-(b : Int)) : Nat) : Rat) / two b) ∧
      ((at_ m p (-(b : Int)) : Nat) : Rat) / two b - rq (rungOf double m p) ≤ slack' (((at_ m p (-(b : Int)) : Nat) : Rat) / two b) := by
    by_cases hm : m = 0
    · have e1 : rungOf double m p = 0 := by unfold rungOf; rw [if_pos hm]
      have e2 : at_ m p (-(b : Int)) = 0 := by unfold at_; rw [hm, Nat.zero_mul]
      have e3 : ((0 : Nat) : Rat) / two b = 0 := by rw [Rat.div_def]; exact Rat.zero_mul _
      have e4 : (0 : Rat) ≤ 1 / two (lpn + 1) := by
        have := div_le_div (two_pos (lpn + 1)) (show (0 : Rat) ≤ 1 by decide)
        rwa [Rat.div_def, Rat.zero_mul] at this
      rw [e1, e2, rq_zero, e3]
      unfold slack'
      rw [show (0 : Rat) / two 53 = 0 by rw [Rat.div_def]; exact Rat.zero_mul _]
      constructor <;> grind
    · obtain ⟨L, k, hr, hq, hk, k1, k2, hbig⟩ := rung_spec (f := double) hm hp h2
      have hr' : rungOf double m p = L * double.binade + k := by omega
      have hv : val double (rungOf double m p) = k * 2 ^ L := by rw [hr']; exact val_of hq hk
      rw [rq_at hb, hv]
      rw [e] at k1 k2 hbig
      have hbin : double.binade = 4503599627370496 := by decide
      rw [hbin] at hbig
      clear hle hge hr hr' hv hq hk hB
      generalize hM : at_ m p (-(b : Int)) = M at *
      have hW : L = 0 → 2 ^ L * 2 ^ (b - lpn) = 2 ^ (b - lpn) := fun h => by rw [h]; simp
      have e5 : k * 2 ^ L * 2 ^ (b - lpn) = k * (2 ^ L * 2 ^ (b - lpn)) := Nat.mul_assoc _ _ _
      rw [e5]
      generalize 2 ^ L * 2 ^ (b - lpn) = W at *
      have e6 : two b = two lpn * two (b - lpn) := two_split hb
      have e7 : two (lpn + 1) = two lpn * 2 := by rw [two_add]; rfl
      have c1 : ∀ a : Nat, ((2 * a : Nat) : Rat) = 2 * (a : Rat) := fun a => by rw [Rat.natCast_mul]; rfl
      have q1 : (2 : Rat) * ((k * W : Nat) : Rat) ≤ 2 * (M : Rat) + (W : Rat) := by
        have := Rat.natCast_le_natCast.2 k1
        rw [Nat.mul_assoc 2 k W, c1, Rat.natCast_add, c1] at this
        exact this
      have q2 : (2 : Rat) * (M : Rat) ≤ 2 * ((k * W : Nat) : Rat) + (W : Rat) := by
        have := Rat.natCast_le_natCast.2 k2
        rw [Nat.add_mul, Nat.one_mul, Nat.mul_assoc 2 k W, c1, Rat.natCast_add, c1] at this
        exact this
      have hbp := two_pos b
      have hlp := two_pos lpn
      have hup := two_pos (b - lpn)
      -- the unit
      have key : (W : Rat) * (two b)⁻¹ ≤ 2 * slack' ((M : Rat) / two b) := by
        have hM0 : 0 ≤ (M : Rat) * (two b)⁻¹ := Rat.mul_nonneg Rat.natCast_nonneg (Rat.le_of_lt (Rat.inv_pos.2 hbp))
        unfold slack'
        rw [two53, e7, Rat.div_def (M : Rat)]
        by_cases hL : L = 0
        · rw [hW hL]
          have e8 : ((2 ^ (b - lpn) : Nat) : Rat) * (two b)⁻¹ = (two lpn)⁻¹ := by
            rw [e6]
            show two (b - lpn) * _ = _
            have := Rat.mul_inv_cancel _ (Rat.ne_of_gt hup)
            rw [Rat.inv_mul_rev]
            grind
          rw [e8]
          have : 1 / (two lpn * 2) = (two lpn)⁻¹ / 2 := by rw [Rat.div_def, Rat.inv_mul_rev]; grind
          rw [this]
          grind
        · have q3 := Rat.natCast_le_natCast.2 (hbig hL)
          rw [Rat.natCast_mul] at q3
          have q4 := Rat.mul_le_mul_of_nonneg_right q3 (Rat.le_of_lt (Rat.inv_pos.2 hbp))
          have q5 : 0 ≤ 1 / (two lpn * 2) := by
            rw [Rat.div_def]
            exact Rat.mul_nonneg (by decide) (Rat.le_of_lt (Rat.inv_pos.2 (Rat.mul_pos hlp (by decide))))
          have q6 : ((4503599627370496 : Nat) : Rat) = 4503599627370496 := rfl
          rw [q6] at q4
          grind
      have hi : 0 ≤ (two b)⁻¹ := Rat.le_of_lt (Rat.inv_pos.2 hbp)
      have q3 := Rat.mul_le_mul_of_nonneg_right q1 hi
      have q4 := Rat.mul_le_mul_of_nonneg_right q2 hi
      generalize hS : slack' ((M : Rat) / two b) = S at *
      rw [Rat.div_def, Rat.div_def]
      generalize (two b)⁻¹ = c at *
      constructor <;> grind
  have hss : slack' (((at_ m p (-(b : Int)) : Nat) : Rat) / two b) ≤ slack (((at_ m p (-(b : Int)) : Nat) : Rat) / two b) := by
    unfold slack slack'
    rw [two52, two53]
    grind
  refine ⟨hlt, ⟨rep_rq hlt, .inl (Rat.le_trans near.1 hss), .inl (Rat.le_trans near.2 hss), fun s hs hts => ?_, fun s hs hst => ?_⟩, near.1, near.2⟩
  · obtain ⟨r, hr, rfl⟩ := rep_rung hs (Rat.le_trans ht0 hts)
    exact rq_le.2 (hle r hts)
  · by_cases h0 : 0 ≤ s
    · obtain ⟨r, hr, rfl⟩ := rep_rung hs h0
      exact rq_le.2 (hge r hr hst)
    · exact Rat.le_trans (Rat.le_of_lt (Rat.not_le.1 h0)) (rq_nonneg _)

end Flt
end Go.Proofs.Yteamnfockjnilaa
/-
  The operations on floats of 64 bits as operations on rational numbers, rounded. No program.
-/
set_option linter.unusedVariables false
set_option linter.unusedSimpArgs false
namespace Go.Proofs.Yteamnfockjnilaa
open Go Flt
namespace Flt
open Ieee (double Format Datum signed)

/-- The least that is lost. -/
def tiny : Rat := 1 / two (lpn + 1)
theorem tiny_pos : 0 < tiny := by
  unfold tiny
  rw [Rat.div_def, Rat.one_mul]
  exact Rat.inv_pos.2 (two_pos _)

/-- Two numbers are no farther apart than e. -/
def Near (a b e : Rat) : Prop := a - b ≤ e ∧ b - a ≤ e
/-- A number is no greater than B, whatever its sign. -/
def Size (a B : Rat) : Prop := a ≤ B ∧ -a ≤ B

theorem Rnd.near {t r B : Rat} (h : Rnd t r) (hb : Size t B) : Near r t (B / two 52 + tiny) := by
  obtain ⟨h0, h1, h2, -, -⟩ := h
  obtain ⟨b1, b2⟩ := hb
  have hp : (0 : Rat) < two 52 := two_pos 52
  have s1 : slack t ≤ B / two 52 + tiny := by
    have := div_le_div hp b1
    unfold slack tiny; grind
  have s2 : slack (-t) ≤ B / two 52 + tiny := by
    have := div_le_div hp b2
    unfold slack tiny; grind
  constructor
  · rcases h1 with h | h <;> exact Rat.le_trans h (by assumption)
  · rcases h2 with h | h <;> exact Rat.le_trans h (by assumption)

/-- A number of a datum, in units of the last place. -/
def dq (neg : Bool) (m : Nat) (p : Int) : Rat := (signed neg m (p + lpn).toNat : Rat) / two lpn

theorem read_dq {x : Nat} (h : Fin x) : ∃ s m p, double.read x = .number s m p ∧ -(lpn : Int) ≤ p ∧ fq x = dq s m p := by
  have hs : double.signWeight = 9223372036854775808 := by decide
  obtain ⟨m, p, e, l, v⟩ := read_fin double (x := x) (by rw [hs, ir64]; exact h.2)
  rw [lpn_eq] at l v
  refine ⟨_, m, p, e, l, ?_⟩
  unfold fq dq rsv sval
  rw [signed_eq, show p + (lpn : Int) = p - -(lpn : Int) by omega, v]

theorem dq_neg (s : Bool) (m : Nat) (p : Int) : dq (!s) m p = -dq s m p := by
  unfold dq
  rw [signed_eq, signed_eq]
  cases s
  · simp only [Bool.not_false, if_true, Bool.false_eq_true, if_false, Rat.intCast_neg]; grind
  · simp only [Bool.not_true, if_true, Bool.false_eq_true, if_false, Rat.intCast_neg]; grind

/-- What is written of a number. -/
theorem write_rnd {neg : Bool} {m : Nat} {p : Int} {b R : Nat} {t : Rat} (hb : lpn ≤ b) (hp : -(b : Int) ≤ p) (hR : R < double.infRung)
    (ht : t = (if neg then -(((at_ m p (-(b : Int)) : Nat) : Rat) / two b) else ((at_ m p (-(b : Int)) : Nat) : Rat) / two b)) (hB : Size t (rq R)) :
    Fin (double.nearest neg m p) ∧ Rnd t (fq (double.nearest neg m p)) := by
  have hB' : ((at_ m p (-(b : Int)) : Nat) : Rat) / two b ≤ rq R := by
    obtain ⟨b1, b2⟩ := hB
    cases neg
    · rw [ht] at b1; exact b1
    · rw [ht] at b2
      simp only [if_true, Rat.neg_neg] at b2
      exact b2
  obtain ⟨h1, h2, -, -⟩ := rung_rnd hb hp hR hB'
  rw [nearest_rung]
  refine ⟨fin_word _ h1, ?_⟩
  rw [fq_word _ h1, ht]
  cases neg
  · exact h2
  · exact h2.neg

/-- A sum of two data. -/
theorem sum_rnd {s t : Bool} {m n : Nat} {i j : Int} {R : Nat} (hi : -(lpn : Int) ≤ i) (hj : -(lpn : Int) ≤ j) (hR : R < double.infRung) (hB : Size (dq s m i + dq t n j) (rq R)) :
    ∃ r, ((Datum.number s m i).sum (.number t n j)).map double.write = some r ∧ Fin r ∧ Rnd (dq s m i + dq t n j) (fq r) := by
  simp only [Datum.sum, Option.map_some, Format.write]
  obtain ⟨b, hb⟩ : ∃ b, min i j = b := ⟨_, rfl⟩
  rw [hb]
  have hbl : -(lpn : Int) ≤ b := by omega
  have e1 : signed s m (i + lpn).toNat = signed s m (i - b).toNat * (2 ^ (b + lpn).toNat : Nat) := by
    rw [← signed_scale]; congr 1; omega
  have e2 : signed t n (j + lpn).toNat = signed t n (j - b).toNat * (2 ^ (b + lpn).toNat : Nat) := by
    rw [← signed_scale]; congr 1; omega
  have hq : dq s m i + dq t n j = (((signed s m (i - b).toNat + signed t n (j - b).toNat) * (2 ^ (b + lpn).toNat : Nat) : Int) : Rat) / two lpn := by
    unfold dq
    rw [e1, e2, Int.add_mul, Rat.intCast_add]
    generalize ((signed s m (i - b).toNat * (2 ^ (b + lpn).toNat : Nat) : Int) : Rat) = x
    generalize ((signed t n (j - b).toNat * (2 ^ (b + lpn).toNat : Nat) : Int) : Rat) = y
    grind
  rw [hq] at hB ⊢
  generalize signed s m (i - b).toNat + signed t n (j - b).toNat = T at *
  clear e1 e2 hq hb
  refine ⟨_, rfl, write_rnd (b := lpn) (Nat.le_refl _) hbl hR ?_ hB⟩
  have ea : at_ T.natAbs b (-(lpn : Int)) = T.natAbs * 2 ^ (b + lpn).toNat := by
    unfold at_; congr 2; try omega
  rw [ea]
  by_cases h0 : T = 0
  · subst h0
    rw [if_pos rfl]
    have e0 : ((((0 : Int) * (2 ^ (b + lpn).toNat : Nat) : Int)) : Rat) / two lpn = 0 := by
      rw [Int.zero_mul, Rat.div_def]; exact Rat.zero_mul _
    have e1 : (((Int.natAbs 0 * 2 ^ (b + lpn).toNat : Nat)) : Rat) / two lpn = 0 := by
      rw [show Int.natAbs 0 = 0 from rfl, Nat.zero_mul, Rat.div_def]; exact Rat.zero_mul _
    rw [e0, e1]
    split <;> grind
  · rw [if_neg h0]
    by_cases hn : T < 0
    · rw [decide_eq_true hn, if_pos rfl]
      obtain ⟨k, hk⟩ : ∃ k : Nat, T = -(k : Int) := ⟨T.natAbs, by omega⟩
      subst hk
      rw [show (-(k : Int)).natAbs = k by omega, Int.neg_mul, Rat.intCast_neg, ← Int.natCast_mul, Rat.intCast_natCast]
      grind
    · rw [decide_eq_false hn]
      simp only [Bool.false_eq_true, if_false]
      obtain ⟨k, hk⟩ : ∃ k : Nat, T = (k : Int) := ⟨T.natAbs, by omega⟩
      subst hk
      rw [show ((k : Int)).natAbs = k by omega, ← Int.natCast_mul, Rat.intCast_natCast]

theorem add_rnd {x y R : Nat} (hx : Fin x) (hy : Fin y) (hR : R < double.infRung) (hB : Size (fq x + fq y) (rq R)) :
    ∃ r, double.add x y = some r ∧ Fin r ∧ Rnd (fq x + fq y) (fq r) := by
  obtain ⟨s, m, i, e1, l1, v1⟩ := read_dq hx
  obtain ⟨t, n, j, e2, l2, v2⟩ := read_dq hy
  unfold Format.add
  rw [v1, v2] at hB ⊢
  rw [e1, e2]
  exact sum_rnd l1 l2 hR hB
theorem sub_rnd {x y R : Nat} (hx : Fin x) (hy : Fin y) (hR : R < double.infRung) (hB : Size (fq x - fq y) (rq R)) :
    ∃ r, double.sub x y = some r ∧ Fin r ∧ Rnd (fq x - fq y) (fq r) := by
  obtain ⟨s, m, i, e1, l1, v1⟩ := read_dq hx
  obtain ⟨t, n, j, e2, l2, v2⟩ := read_dq hy
  unfold Format.sub
  have e : fq x - fq y = dq s m i + dq (!t) n j := by rw [v1, v2, dq_neg]; grind
  rw [e] at hB ⊢
  rw [e1, e2]
  exact sum_rnd l1 l2 hR hB

theorem dq_abs (s : Bool) (m : Nat) (p : Int) : dq s m p = if s then -(((m * 2 ^ (p + lpn).toNat : Nat) : Rat) / two lpn) else ((m * 2 ^ (p + lpn).toNat : Nat) : Rat) / two lpn := by
  unfold dq
  rw [signed_eq]
  cases s
  · simp only [Bool.false_eq_true, if_false, Rat.intCast_natCast]
  · simp only [if_true, Rat.intCast_neg, Rat.intCast_natCast]; grind

theorem mul_rnd {x y R : Nat} (hx : Fin x) (hy : Fin y) (hR : R < double.infRung) (hB : Size (fq x * fq y) (rq R)) :
    ∃ r, double.mul x y = some r ∧ Fin r ∧ Rnd (fq x * fq y) (fq r) := by
  obtain ⟨s, m, i, e1, l1, v1⟩ := read_dq hx
  obtain ⟨t, n, j, e2, l2, v2⟩ := read_dq hy
  unfold Format.mul
  rw [e1, e2]
  simp only [Datum.product, Option.map_some, Format.write]
  refine ⟨_, rfl, write_rnd (b := lpn + lpn) (by omega) (by omega) hR ?_ hB⟩
  have ea : at_ (m * n) (i + j) (-((lpn + lpn : Nat) : Int)) = (m * 2 ^ (i + lpn).toNat) * (n * 2 ^ (j + lpn).toNat) := by
    unfold at_
    rw [Nat.mul_mul_mul_comm, ← Nat.pow_add]
    congr 2; omega
  rw [ea, v1, v2, dq_abs, dq_abs, two_add, Rat.natCast_mul (m * 2 ^ (i + lpn).toNat) (n * 2 ^ (j + lpn).toNat)]
  generalize ((m * 2 ^ (i + lpn).toNat : Nat) : Rat) = a
  generalize ((n * 2 ^ (j + lpn).toNat : Nat) : Rat) = c
  have hl := Rat.mul_inv_cancel _ (Rat.ne_of_gt (two_pos lpn))
  have e : a * c / (two lpn * two lpn) = (a / two lpn) * (c / two lpn) := by
    rw [Rat.div_def, Rat.div_def, Rat.div_def, Rat.inv_mul_rev]; grind
  rw [e]
  generalize a / two lpn = a
  generalize c / two lpn = c
  cases s <;> cases t <;> simp only [Bool.xor_false, Bool.xor_true, Bool.not_true, Bool.not_false, Bool.false_eq_true, if_true, if_false] <;> grind

/-- An integer. -/
theorem int_rnd {n : Int} {R : Nat} (hR : R < double.infRung) (hB : Size (n : Rat) (rq R)) : Fin (floatOfInt .f64 n) ∧ Rnd (n : Rat) (fq (floatOfInt .f64 n)) := by
  have e : floatOfInt .f64 n = double.nearest (decide (n < 0)) n.natAbs 0 := rfl
  rw [e]
  refine write_rnd (b := lpn) (Nat.le_refl _) (by omega) hR ?_ hB
  have ea : at_ n.natAbs 0 (-(lpn : Int)) = n.natAbs * 2 ^ lpn := by unfold at_; congr 2; try omega
  have hl := Rat.mul_inv_cancel _ (Rat.ne_of_gt (two_pos lpn))
  rw [ea, Rat.natCast_mul]
  show _ = if decide (n < 0) = true then -((n.natAbs : Rat) * two lpn / two lpn) else (n.natAbs : Rat) * two lpn / two lpn
  have e2 : (n.natAbs : Rat) * two lpn / two lpn = (n.natAbs : Rat) := by rw [Rat.div_def]; grind
  rw [e2]
  by_cases hn : n < 0
  · obtain ⟨k, rfl⟩ : ∃ k : Nat, n = -(k : Int) := ⟨n.natAbs, by omega⟩
    rw [decide_eq_true hn, if_pos rfl, show (-(k : Int)).natAbs = k by omega, Rat.intCast_neg, Rat.intCast_natCast]
  · obtain ⟨k, rfl⟩ : ∃ k : Nat, n = (k : Int) := ⟨n.natAbs, by omega⟩
    rw [decide_eq_false hn, show ((k : Int)).natAbs = k by omega, Rat.intCast_natCast]
    rfl

/-- How two finite words stand. -/
theorem order_q {x y : Nat} (hx : Fin x) (hy : Fin y) : double.order x y = some (compare (rsv double x) (rsv double y)) := by
  have hs : double.signWeight = 9223372036854775808 := by decide
  rw [order_fin double (x := x) (y := y) (by rw [hs, ir64]; exact hx.2) (by rw [hs, ir64]; exact hy.2), place_eq, place_eq, ← compare_sval]
  rfl
theorem fq_lt {x y : Nat} : fq x < fq y ↔ rsv double x < rsv double y := by
  have h : ∀ a b : Nat, fq a ≤ fq b ↔ rsv double a ≤ rsv double b := fun a b =>
    ⟨fun h => Rat.intCast_le_intCast.1 (le_of_div (two_pos _) h), fun h => div_le_div (two_pos _) (Rat.intCast_le_intCast.2 h)⟩
  rw [← Rat.not_le, h]; omega
theorem order_lt {x y : Nat} (hx : Fin x) (hy : Fin y) (h : fq x < fq y) : double.order x y = some .lt := by
  rw [order_q hx hy, Int.compare_eq_lt.2 (fq_lt.1 h)]
theorem order_gt {x y : Nat} (hx : Fin x) (hy : Fin y) (h : fq y < fq x) : double.order x y = some .gt := by
  rw [order_q hx hy, Int.compare_eq_gt.2 (fq_lt.1 h)]
theorem order_eq_q {x y : Nat} (hx : Fin x) (hy : Fin y) (h : fq x = fq y) : double.order x y = some .eq := by
  have h1 : ¬ rsv double x < rsv double y := fun k => by have := fq_lt.2 k; rw [h] at this; exact Rat.lt_irrefl this
  have h2 : ¬ rsv double y < rsv double x := fun k => by have := fq_lt.2 k; rw [h] at this; exact Rat.lt_irrefl this
  rw [order_q hx hy, Int.compare_eq_eq.2 (by omega)]

end Flt
end Go.Proofs.Yteamnfockjnilaa
/-
  Quotients of floats of 64 bits as quotients of rational numbers, rounded. No program.
-/
set_option linter.unusedVariables false
set_option linter.unusedSimpArgs false
namespace Go.Proofs.Yteamnfockjnilaa
open Go Flt
namespace Flt
open Ieee (double Format Datum signed)

theorem two_nat (n : Nat) : two n = ((2 ^ n : Nat) : Rat) := rfl

/-- A quotient of whole numbers, cut with a digit for the rest, is rounded as the quotient itself. -/
theorem quo_rnd {D n E b q R : Nat} {m : Nat} {pl : Int} {t : Rat} (hn : 0 < n) (hm : m = 2 * (D / n) + (D % n != 0).toNat) (hD : n * 2 ^ 53 ≤ D)
    (hb : lpn ≤ b) (hp : -(b : Int) ≤ pl) (hE : (pl + b).toNat = E) (ht : t * (n : Rat) * two b = 2 * (D : Rat) * two E) (hR : R < double.infRung) (hB : t ≤ rq R) :
    rungOf double m pl < double.infRung ∧ Rnd t (rq (rungOf double m pl)) := by
  have hnp : (0 : Rat) < (n : Rat) := Rat.natCast_pos.2 hn
  have hbp := two_pos b
  have hEp := two_pos E
  have ea : at_ m pl (-(b : Int)) = m * 2 ^ E := by unfold at_; congr 2; omega
  have eT : ((m * 2 ^ E : Nat) : Rat) / two b * two b = (m : Rat) * two E := by
    rw [Rat.div_mul_cancel (Rat.ne_of_gt hbp), Rat.natCast_mul]; rfl
  obtain ⟨t', ht'⟩ : ∃ t', ((m * 2 ^ E : Nat) : Rat) / two b = t' := ⟨_, rfl⟩
  rw [ht'] at eT
  -- the cut and the quotient
  have hdm := Nat.div_add_mod D n
  have hmod := Nat.mod_lt D hn
  have hfl : 2 ^ 53 ≤ D / n := (Nat.le_div_iff_mul_le hn).2 (by rw [Nat.mul_comm]; exact hD)
  have hm1 : n * m ≤ 2 * D + n := by
    rw [hm, Nat.mul_add, Nat.mul_left_comm]
    by_cases h0 : D % n = 0
    · rw [h0]; simp; omega
    · have hbn : (D % n != 0) = true := by simp [h0]
      rw [hbn]; simp only [Bool.toNat_true, Nat.mul_one]; omega
  have hm2 : 2 * D ≤ n * m + n := by
    rw [hm, Nat.mul_add, Nat.mul_left_comm]
    by_cases h0 : D % n = 0
    · rw [h0]; simp; omega
    · have hbn : (D % n != 0) = true := by simp [h0]
      rw [hbn]; simp only [Bool.toNat_true, Nat.mul_one]; omega
  have hm3 : 2 ^ 54 ≤ m := by rw [hm]; have : (2 : Nat) ^ 54 = 2 * 2 ^ 53 := rfl; omega
  -- a number that there is stands on the same side of both
  have side : ∀ r, r < double.infRung → (t ≤ rq r → t' ≤ rq r) ∧ (rq r ≤ t → rq r ≤ t') := by
    intro r hr
    have er := rq_at hb r
    have er2 : rq r * two b = ((val double r * 2 ^ (b - lpn) : Nat) : Rat) := by rw [er, Rat.div_mul_cancel (Rat.ne_of_gt hbp)]
    have up : ∀ a : Rat, a * two b ≤ rq r * two b ↔ a ≤ rq r := fun a => ⟨fun h => Rat.le_of_mul_le_mul_right h hbp, fun h => Rat.mul_le_mul_of_nonneg_right h (Rat.le_of_lt hbp)⟩
    have dn : ∀ a : Rat, rq r * two b ≤ a * two b ↔ rq r ≤ a := fun a => ⟨fun h => Rat.le_of_mul_le_mul_right h hbp, fun h => Rat.mul_le_mul_of_nonneg_right h (Rat.le_of_lt hbp)⟩
    rw [← up t, ← up t', ← dn t, ← dn t', er2, eT]
    clear er er2 up dn
    have hparts : ∃ k e : Nat, k < 2 ^ 53 ∧ val double r * 2 ^ (b - lpn) = k * 2 ^ e := by
      by_cases h0 : r = 0
      · exact ⟨0, 0, by decide, by rw [h0, val_zero]; simp⟩
      · obtain ⟨k, e, -, hk, -, -, hv⟩ := rung_parts (f := double) h0
        exact ⟨k, e + (b - lpn), by rw [show 2 * double.binade = 2 ^ 53 by decide] at hk; exact hk, by rw [hv, Nat.mul_assoc, ← Nat.pow_add]⟩
    obtain ⟨k, e, hk, hv⟩ := hparts
    rw [hv]
    have en : ∀ a c : Nat, a ≤ c → (a : Rat) * two E ≤ (c : Rat) * two E := fun a c h => Rat.mul_le_mul_of_nonneg_right (Rat.natCast_le_natCast.2 h) (Rat.le_of_lt hEp)
    have etn : t * two b * (n : Rat) = (2 * (D : Rat)) * two E := by rw [← ht]; grind
    by_cases hc : E + 1 ≤ e
    · obtain ⟨d, rfl⟩ : ∃ d, e = E + 1 + d := ⟨e - (E + 1), by omega⟩
      have eK : ((k * 2 ^ (E + 1 + d) : Nat) : Rat) = ((2 * (k * 2 ^ d) : Nat) : Rat) * two E := by
        have e0 : k * 2 ^ (E + 1 + d) = 2 * (k * 2 ^ d) * 2 ^ E := by rw [Nat.pow_add, Nat.pow_add]; grind
        rw [e0, Rat.natCast_mul (2 * (k * 2 ^ d))]; rfl
      rw [eK]
      generalize k * 2 ^ d = K
      have c2 : ((2 * K : Nat) : Rat) = 2 * (K : Rat) := by rw [Rat.natCast_mul]; rfl
      have cn2 : ((n * K : Nat) : Rat) = (n : Rat) * (K : Rat) := Rat.natCast_mul ..
      constructor
      · intro h
        refine en _ _ ?_
        have h1 := Rat.mul_le_mul_of_nonneg_right h (Rat.le_of_lt hnp)
        rw [etn, c2] at h1
        have h2 : (2 * (D : Rat)) * two E ≤ (2 * (n * K : Nat) : Rat) * two E := by rw [cn2]; grind
        have h3 := Rat.le_of_mul_le_mul_right h2 hEp
        have h4 : (D : Rat) ≤ ((n * K : Nat) : Rat) := by grind
        rw [hm]
        exact quot_le hn (Rat.natCast_le_natCast.1 h4)
      · intro h
        refine en _ _ ?_
        have h1 := Rat.mul_le_mul_of_nonneg_right h (Rat.le_of_lt hnp)
        rw [etn, c2] at h1
        have h2 : (2 * (n * K : Nat) : Rat) * two E ≤ (2 * (D : Rat)) * two E := by rw [cn2]; grind
        have h3 := Rat.le_of_mul_le_mul_right h2 hEp
        have h4 : ((n * K : Nat) : Rat) ≤ (D : Rat) := by grind
        have h5 := Rat.natCast_le_natCast.1 h4
        have h6 : K ≤ D / n := (Nat.le_div_iff_mul_le hn).2 (by rw [Nat.mul_comm]; exact h5)
        omega
    · have hlow : k * 2 ^ e ≤ 2 ^ 53 * 2 ^ E := Nat.mul_le_mul (Nat.le_of_lt hk) (Nat.pow_le_pow_right (by omega) (by omega))
      have h53 : ((2 ^ 53 * 2 ^ E : Nat) : Rat) = ((2 ^ 53 : Nat) : Rat) * two E := by rw [Rat.natCast_mul]; rfl
      have hlo : ((k * 2 ^ e : Nat) : Rat) ≤ ((2 ^ 53 : Nat) : Rat) * two E := by rw [← h53]; exact Rat.natCast_le_natCast.2 hlow
      constructor
      · intro h
        exfalso
        have h1 := Rat.mul_le_mul_of_nonneg_right (Rat.le_trans h hlo) (Rat.le_of_lt hnp)
        rw [etn] at h1
        have h2 : (2 * (D : Rat)) * two E ≤ ((n * 2 ^ 53 : Nat) : Rat) * two E := by rw [Rat.natCast_mul]; grind
        have h3 := Rat.le_of_mul_le_mul_right h2 hEp
        have h4 : ((n * 2 ^ 53 : Nat) : Rat) ≤ (D : Rat) := Rat.natCast_le_natCast.2 hD
        have h5 : (0 : Rat) < (D : Rat) := Rat.natCast_pos.2 (by
          have : 0 < n * 2 ^ 53 := Nat.mul_pos hn (by decide)
          omega)
        grind
      · intro _
        exact Rat.le_trans hlo (en _ _ (Nat.le_trans (by decide) hm3))
  have ht0 : 0 ≤ t := by
    have h1 : 0 ≤ t * (n : Rat) * two b := by
      rw [ht]
      exact Rat.mul_nonneg (Rat.mul_nonneg (by decide) Rat.natCast_nonneg) (Rat.le_of_lt hEp)
    by_cases h : 0 ≤ t
    · exact h
    · exfalso
      have h2 := Rat.mul_pos (Rat.mul_pos (show 0 < -t by have := Rat.not_le.1 h; grind) hnp) hbp
      grind
  have hB' : ((at_ m pl (-(b : Int)) : Nat) : Rat) / two b ≤ rq R := by rw [ea, ht']; exact (side R hR).1 hB
  obtain ⟨k1, k2, n1, n2⟩ := rung_rnd hb hp hR hB'
  rw [ea, ht'] at k2 n1 n2
  obtain ⟨r0, r1, r2, r3, r4⟩ := k2
  -- how far the cut is from the quotient
  have c1 : (n : Rat) * (m : Rat) ≤ 2 * (D : Rat) + n := by
    have := Rat.natCast_le_natCast.2 hm1
    rw [Rat.natCast_add, Rat.natCast_mul, Rat.natCast_mul] at this
    exact this
  have c2 : 2 * (D : Rat) ≤ (n : Rat) * (m : Rat) + n := by
    have := Rat.natCast_le_natCast.2 hm2
    rw [Rat.natCast_add, Rat.natCast_mul, Rat.natCast_mul] at this
    exact this
  have c3 : (n : Rat) * 9007199254740992 ≤ (D : Rat) := by
    have := Rat.natCast_le_natCast.2 hD
    rw [Rat.natCast_mul] at this
    exact this
  have e1 : t' * (n : Rat) * two b = (n : Rat) * (m : Rat) * two E := by grind
  have d1 : t' * (n : Rat) * two b ≤ t * (n : Rat) * two b + n * two E := by
    have := Rat.mul_le_mul_of_nonneg_right c1 (Rat.le_of_lt hEp); grind
  have d2 : t * (n : Rat) * two b ≤ t' * (n : Rat) * two b + n * two E := by
    have := Rat.mul_le_mul_of_nonneg_right c2 (Rat.le_of_lt hEp); grind
  have d3 : n * two E * 18014398509481984 ≤ t * (n : Rat) * two b := by
    have := Rat.mul_le_mul_of_nonneg_right c3 (Rat.le_of_lt hEp); grind
  have nb : (0 : Rat) < (n : Rat) * two b := Rat.mul_pos hnp hbp
  have f1 : t' ≤ t + t / 18014398509481984 := by
    apply Rat.le_of_mul_le_mul_right _ nb; grind
  have f2 : t ≤ t' + t / 18014398509481984 := by
    apply Rat.le_of_mul_le_mul_right _ nb; grind
  have g1 : slack' t' + t / 18014398509481984 ≤ slack t := by unfold slack slack'; rw [two52, two53]; grind
  refine ⟨k1, r0, .inl (by grind), .inl (by grind), fun s hs hts => ?_, fun s hs hst => ?_⟩
  · obtain ⟨r, hr, rfl⟩ := rep_rung hs (Rat.le_trans ht0 hts)
    exact r3 _ hs ((side r hr).1 hts)
  · by_cases h0 : 0 ≤ s
    · obtain ⟨r, hr, rfl⟩ := rep_rung hs h0
      exact r4 _ hs ((side r hr).2 hst)
    · exact Rat.le_trans (Rat.le_of_lt (Rat.not_le.1 h0)) (rq_nonneg _)

theorem read_dq' {x : Nat} (h : Fin x) : ∃ s m p, double.read x = .number s m p ∧ -(lpn : Int) ≤ p ∧ fq x = dq s m p ∧ m < 2 ^ 53 := by
  obtain ⟨s, m, p, e, l, v⟩ := read_dq h
  refine ⟨s, m, p, e, l, v, ?_⟩
  unfold Format.read at e
  have hb : double.binade = 4503599627370496 := by decide
  rw [hb] at e
  simp only [] at e
  split at e
  · simp only [Datum.number.injEq] at e
    omega
  · split at e
    · simp only [Datum.number.injEq] at e
      omega
    · split at e <;> cases e

theorem rnd_zero : Rnd 0 0 := by
  have h : (0 : Rat) ≤ slack 0 := by
    unfold slack
    have h1 := div_le_div (two_pos (lpn + 1)) (show (0 : Rat) ≤ 1 by decide)
    rw [Rat.div_def 0, Rat.zero_mul] at h1
    rw [Rat.div_def 0, Rat.zero_mul]
    grind
  exact ⟨rep_zero, .inl (by grind), .inl (by grind), fun s _ h => h, fun s _ h => h⟩

theorem div_rnd {x y R : Nat} (hx : Fin x) (hy : Fin y) (hy0 : fq y ≠ 0) (hR : R < double.infRung) (hB : Size (fq x / fq y) (rq R)) :
    ∃ r, double.div x y = some r ∧ Fin r ∧ Rnd (fq x / fq y) (fq r) := by
  obtain ⟨s, m, i, e1, l1, v1, m1⟩ := read_dq' hx
  obtain ⟨t, n, j, e2, l2, v2, m2⟩ := read_dq' hy
  have hn : n ≠ 0 := by
    rintro rfl
    apply hy0
    rw [v2, dq_abs, Nat.zero_mul]
    have : ((0 : Nat) : Rat) / two lpn = 0 := by rw [Rat.div_def]; exact Rat.zero_mul _
    rw [this]
    split <;> grind
  have hnp : (0 : Rat) < (n : Rat) := Rat.natCast_pos.2 (Nat.pos_of_ne_zero hn)
  unfold Format.div
  rw [e1, e2]
  simp only [Datum.quotient, if_neg hn]
  have hfb : double.fractionBits + 2 = 54 := by decide
  rw [hfb]
  obtain ⟨mo, hmo⟩ : ∃ mo, 54 + n.log2 - m.log2 = mo := ⟨_, rfl⟩
  rw [hmo]
  simp only [Option.map_some, Format.write]
  refine ⟨_, rfl, ?_⟩
  have hlp := two_pos lpn
  have hlc := Rat.mul_inv_cancel _ (Rat.ne_of_gt hlp)
  -- the size
  obtain ⟨A, hA⟩ : ∃ A, two (i + lpn).toNat = A := ⟨_, rfl⟩
  obtain ⟨C, hC⟩ : ∃ C, two (j + lpn).toNat = C := ⟨_, rfl⟩
  have hAp : 0 < A := by rw [← hA]; exact two_pos _
  have hCp : 0 < C := by rw [← hC]; exact two_pos _
  have ex : fq x = if s then -((m : Rat) * A / two lpn) else (m : Rat) * A / two lpn := by
    rw [v1, dq_abs, Rat.natCast_mul, ← hA]; rfl
  have ey : fq y = if t then -((n : Rat) * C / two lpn) else (n : Rat) * C / two lpn := by
    rw [v2, dq_abs, Rat.natCast_mul, ← hC]; rfl
  have hnC : (n : Rat) * C ≠ 0 := Rat.ne_of_gt (Rat.mul_pos hnp hCp)
  have hi1 := Rat.mul_inv_cancel _ hnC
  have hq : fq x / fq y = if (s ^^ t) then -((m : Rat) * A / ((n : Rat) * C)) else (m : Rat) * A / ((n : Rat) * C) := by
    have g : ∀ a c : Rat, c ≠ 0 → (a / two lpn) / (c / two lpn) = a / c := fun a c hc => by
      have h1 := Rat.mul_inv_cancel _ hc
      rw [Rat.div_def, Rat.div_def, Rat.div_def, Rat.div_def, Rat.inv_mul_rev, Rat.inv_inv]; grind
    have gn : ∀ a c : Rat, -a / c = -(a / c) := fun a c => by rw [Rat.div_def, Rat.div_def]; grind
    have gd : ∀ a c : Rat, c ≠ 0 → a / -c = -(a / c) := fun a c hc => by
      have h1 := Rat.mul_inv_cancel _ hc
      have : (-c)⁻¹ = -(c⁻¹) := Rat.inv_eq_of_mul_eq_one (by grind)
      rw [Rat.div_def, Rat.div_def, this]; grind
    have hd : (n : Rat) * C / two lpn ≠ 0 := by
      rw [Rat.div_def]
      exact Rat.ne_of_gt (Rat.mul_pos (Rat.mul_pos hnp hCp) (Rat.inv_pos.2 hlp))
    rw [ex, ey]
    cases s <;> cases t <;> simp only [Bool.xor_false, Bool.xor_true, Bool.not_true, Bool.not_false, Bool.false_eq_true, if_true, if_false]
    · rw [g _ _ hnC]
    · rw [gd _ _ hd, g _ _ hnC]
    · rw [gn, g _ _ hnC]
    · rw [gn, gd _ _ hd, g _ _ hnC]; grind
  rw [hq] at hB ⊢
  obtain ⟨T, hT⟩ : ∃ T, (m : Rat) * A / ((n : Rat) * C) = T := ⟨_, rfl⟩
  have hTm : T * ((n : Rat) * C) = (m : Rat) * A := by rw [← hT]; exact Rat.div_mul_cancel hnC
  rw [hT] at hB ⊢
  clear hq ex ey hT e1 e2 v1 v2 hi1 hlc
  have core : rungOf double (2 * ((m <<< mo) / n) + ((m <<< mo) % n != 0).toNat) (i - j - mo - 1) < double.infRung ∧
      Rnd T (rq (rungOf double (2 * ((m <<< mo) / n) + ((m <<< mo) % n != 0).toNat) (i - j - mo - 1))) := by
    by_cases hm0 : m = 0
    · subst hm0
      have hT0 : T = 0 := by
        have h1 : T * ((n : Rat) * C) = 0 := by rw [hTm]; exact Rat.zero_mul _
        rcases Rat.mul_eq_zero.1 h1 with h | h
        · exact h
        · exact absurd h hnC
      rw [quot_zero, hT0]
      have e0 : rungOf double 0 (i - j - mo - 1) = 0 := by unfold rungOf; rw [if_pos rfl]
      rw [e0, rq_zero]
      exact ⟨by rw [ir64]; omega, rnd_zero⟩
    · have hml : m.log2 < 53 := (Nat.log2_lt hm0).2 m1
      have hlo := Nat.log2_self_le hm0
      have hhi := Nat.lt_log2_self (n := n)
      obtain ⟨b, hb1, hb2⟩ : ∃ b : Nat, lpn ≤ b ∧ -(b : Int) ≤ i - j - mo - 1 := ⟨lpn + (j - i + mo + 1).toNat, by omega, by omega⟩
      obtain ⟨E, hE⟩ : ∃ E, (i - j - mo - 1 + b).toNat = E := ⟨_, rfl⟩
      have hex : b + (i + lpn).toNat = 1 + mo + E + (j + lpn).toNat := by omega
      have hex2 : two b * A = 2 * two mo * two E * C := by
        have := congrArg two hex
        rw [two_add, two_add, two_add, two_add, two_one, hA, hC] at this
        exact this
      have hD : n * 2 ^ 53 ≤ m <<< mo := by
        rw [Nat.shiftLeft_eq]
        have h1 : 2 ^ m.log2 * 2 ^ mo ≤ m * 2 ^ mo := Nat.mul_le_mul_right _ hlo
        have h2 : 2 ^ m.log2 * 2 ^ mo = 2 ^ (n.log2 + 1) * 2 ^ 53 := by
          rw [← Nat.pow_add, ← Nat.pow_add]
          have : m.log2 + mo = n.log2 + 1 + 53 := by omega
          rw [this]
        have h3 : n * 2 ^ 53 ≤ 2 ^ (n.log2 + 1) * 2 ^ 53 := Nat.mul_le_mul_right _ (Nat.le_of_lt hhi)
        omega
      refine quo_rnd (E := E) (b := b) (q := 0) (R := R) (Nat.pos_of_ne_zero hn) rfl hD hb1 hb2 hE ?_ hR ?_
      · rw [Nat.shiftLeft_eq, Rat.natCast_mul]
        show _ = 2 * ((m : Rat) * two mo) * two E
        generalize two mo = M at *
        generalize two E = F at *
        generalize two b = G at *
        have h1 : T * (n : Rat) * G * C = 2 * ((m : Rat) * M) * F * C := by
          have : T * (n : Rat) * G * C = (m : Rat) * A * G := by rw [← hTm]; grind
          rw [this]; grind
        have h2 := Rat.mul_inv_cancel _ (Rat.ne_of_gt hCp)
        have h3 : T * (n : Rat) * G * C * C⁻¹ = 2 * ((m : Rat) * M) * F * C * C⁻¹ := by rw [h1]
        grind
      · obtain ⟨b1, b2⟩ := hB
        cases hst : (s ^^ t)
        · rw [hst] at b1; exact b1
        · rw [hst] at b2
          simp only [if_true, Rat.neg_neg] at b2
          exact b2
  obtain ⟨c1, c2⟩ := core
  rw [nearest_rung]
  refine ⟨fin_word _ c1, ?_⟩
  rw [fq_word _ c1]
  cases hst : (s ^^ t)
  · exact c2
  · exact c2.neg

end Flt
end Go.Proofs.Yteamnfockjnilaa
/-
  mapSignal, whatever function is taken (written by genmap.py).
-/
set_option linter.unusedVariables false
set_option linter.unusedSimpArgs false
namespace Go.Proofs.Yteamnfockjnilaa
open Go.RowKit Flt Fast

/-- Narrow complex numbers as values. -/
def nval (p : C) : Value := .complex .f32 p.1 p.2
def nvals (xs : List C) : List Value := xs.map nval
theorem nvals_length (xs : List C) : (nvals xs).length = xs.length := by simp [nvals]
theorem nvals_getD {xs : List C} {j : Nat} (h : j < xs.length) : (nvals xs).getD j undef = .complex .f32 (xs.getD j (0, 0)).1 (xs.getD j (0, 0)).2 := getD_map _ xs (0, 0) h
def fval (x : Nat) : Value := .float .f64 x
def fvals (xs : List Nat) : List Value := xs.map fval
theorem fvals_length (xs : List Nat) : (fvals xs).length = xs.length := by simp [fvals]
theorem fvals_getD {xs : List Nat} {j : Nat} (h : j < xs.length) : (fvals xs).getD j undef = .float .f64 (xs.getD j 0) := getD_map _ xs 0 h
theorem info_f64' : (Try.prog.info? 32).map (fun i => (i.zero, i.size, i.bytes)) = some (some (.float .f64 0), 1, 8) := by kernel_rfl

/-- The next place of a row that is being filled. -/
theorem fillV {vs : List Value} {n k : Nat} (hk : k < n) (hx : vs.length = k) (z u : Value) :
    (vs ++ List.replicate (n - k) z).set k u = (vs ++ [u]) ++ List.replicate (n - (k + 1)) z := by
  rw [List.set_append_right _ _ (by omega), hx, Nat.sub_self]
  obtain ⟨m, hm⟩ : ∃ m, n - k = m + 1 := ⟨n - k - 1, by omega⟩
  rw [hm, List.replicate_succ, List.set_cons_zero, show n - (k + 1) = m by omega, List.append_assoc]
  rfl

theorem snocGood {α : Type} {d : α} {xs : List α} {p : α} {k : Nat} {G : Nat → α → Prop} (hx : xs.length = k) (hg : ∀ i, i < k → G i (xs.getD i d)) (hp : G k p) :
    (xs ++ [p]).length = k + 1 ∧ ∀ i, i < k + 1 → G i ((xs ++ [p]).getD i d) := by
  refine ⟨by simp [hx], fun i hi => ?_⟩
  rcases Nat.lt_or_eq_of_le (Nat.le_of_lt_succ hi) with h | h
  · rw [show (xs ++ [p]).getD i d = xs.getD i d by simp [List.getD, List.getElem?_append_left, hx, h]]
    exact hg i h
  · subst h
    rw [show (xs ++ [p]).getD i d = p by simp [List.getD, ← hx]]
    exact hp

/-- What lies in a row stays behind whatever leaves the blocks that are there. -/
theorem Reads.below {w w' : World} {v : Value} {cs : List Value} (h : Reads w v cs) (hb : Below w.heap.size w w') : Reads w' v cs := by
  cases h with
  | none a cap => exact .none a cap
  | row g cap L cs hL h0 hc hm hh => exact .row g cap L cs hL h0 hc hm fun j hj => by rw [hb.cell (World.block_lt_of_cell? _ _ (hh j hj)), hh j hj]

/-- What mapSignal returns. -/
def MapsTo {α : Type} (e : TypeId) (val : List α → List Value) (d : α) (n : Nat) (G : Nat → α → Prop) (w : World) (en : Ending) (w' : World) : Prop :=
  ∃ v qs, en = .returned (.tuple #[v, .int .i64 0]) ∧ Row w' w.heap.size e v (val qs) ∧ qs.length = n ∧ (∀ i, i < n → G i (qs.getD i d)) ∧ Below w.heap.size w w'

end Go.Proofs.Yteamnfockjnilaa
/-
  sumOfTerms over floats and over wide complex numbers.
-/
set_option linter.unusedVariables false
set_option linter.unusedSimpArgs false
namespace Go.Proofs.Yteamnfockjnilaa
open Go.RowKit Flt Fast
attribute [local go_sem] run_fadd run_fsub run_fmul run_fquo run_cadd run_csub

/-- The sum of the first n terms, from left to right. -/
def sumO (z : Nat → Option Nat) : Nat → Option Nat
  | 0 => some 0
  | n + 1 => if n = 0 then z 0 else fop .add .f64 (sumO z n) (z n)
def sumC (z : Nat → Z) : Nat → Z
  | 0 => z0
  | n + 1 => if n = 0 then z 0 else addZ (sumC z n) (z n)
theorem sumO_one (z : Nat → Option Nat) : sumO z 1 = z 0 := rfl
theorem sumO_succ (z : Nat → Option Nat) {n : Nat} (h : n ≠ 0) : sumO z (n + 1) = fop .add .f64 (sumO z n) (z n) := by rw [sumO, if_neg h]
theorem sumC_one (z : Nat → Z) : sumC z 1 = z 0 := rfl
theorem sumC_succ (z : Nat → Z) {n : Nat} (h : n ≠ 0) : sumC z (n + 1) = addZ (sumC z n) (z n) := by rw [sumC, if_neg h]

end Go.Proofs.Yteamnfockjnilaa
/-
  Floats that have a rational value; exact sums of numbers with few digits; sums that are near. No program.
-/
set_option linter.unusedVariables false
set_option linter.unusedSimpArgs false
namespace Go.Proofs.Yteamnfockjnilaa
open Go Flt
namespace Flt
open Ieee (double Format Datum signed)

theorem one_div_two_le {a b : Nat} (h : a ≤ b) : 1 / two b ≤ 1 / two a := by
  have h1 := two_le h
  have ha := two_pos a
  have hb := two_pos b
  have i1 := Rat.inv_pos.2 ha
  have i2 := Rat.inv_pos.2 hb
  have c1 := Rat.mul_inv_cancel _ (Rat.ne_of_gt ha)
  have c2 := Rat.mul_inv_cancel _ (Rat.ne_of_gt hb)
  have h2 := Rat.mul_le_mul_of_nonneg_right h1 (Rat.le_of_lt (Rat.mul_pos i1 i2))
  have e1 : two a * ((two a)⁻¹ * (two b)⁻¹) = (two b)⁻¹ := by rw [← Rat.mul_assoc, c1, Rat.one_mul]
  have e2 : two b * ((two a)⁻¹ * (two b)⁻¹) = (two a)⁻¹ := by rw [Rat.mul_comm (two a)⁻¹, ← Rat.mul_assoc, c2, Rat.one_mul]
  rw [e1, e2] at h2
  rw [Rat.div_def, Rat.div_def, Rat.one_mul, Rat.one_mul]
  exact h2
theorem tiny_le : tiny ≤ 1 / 1267650600228229401496703205376 := by
  have : (1267650600228229401496703205376 : Rat) = two 100 := rfl
  rw [this]
  exact one_div_two_le (by unfold lpn; omega)

/-- A rung that is greater than all that is met. -/
def bigR : Nat := 9110782046170513408
theorem bigR_lt : bigR < double.infRung := by rw [ir64]; decide
theorem bigR_q : rq bigR = two 1000 := by
  have h := rung_of (f := double) (k := 1) (q := lpn + 1000) (by decide) (by decide) (by
    have : double.fractionBits = 52 := by decide
    rw [this]; unfold lpn; omega)
  have e1 : (1 : Nat).log2 = 0 := by decide
  have e2 : double.fractionBits = 52 := by decide
  have e3 : double.binade = 4503599627370496 := by decide
  rw [e1, e2, e3] at h
  have e4 : (lpn + 1000 + 0 - 52) * 4503599627370496 + 1 * 2 ^ (52 - 0) = bigR := by unfold lpn bigR; decide
  rw [e4] at h
  unfold rq
  rw [h, Nat.one_mul, ← two_nat, Nat.add_comm, two_add]
  rw [Rat.div_def, Rat.mul_assoc, Rat.mul_inv_cancel _ (Rat.ne_of_gt (two_pos lpn)), Rat.mul_one]

/-- A float with the value q. -/
def Fv (z : Option Nat) (q : Rat) : Prop := ∃ x, z = some x ∧ Fin x ∧ fq x = q

theorem Fv.rep {z : Option Nat} {q : Rat} (h : Fv z q) : Rep q := by
  obtain ⟨x, -, h1, h2⟩ := h
  exact ⟨x, h1, h2⟩
theorem Fv.of_isF {u : Nat} {z : Option Nat} {q : Rat} (h : IsF u z) (hz : Fv z q) : Fin u ∧ fq u = q := by
  obtain ⟨x, rfl, h1, h2⟩ := hz
  have h3 := h.cn
  unfold Flt.cn at h3
  split at h3
  · cases h3
  · cases h3
    exact ⟨h1, h2⟩
theorem Fv.mk {u : Nat} (h : Fin u) : Fv (some u) (fq u) := ⟨u, rfl, h, rfl⟩

def Moderate (t : Rat) : Prop := Size t (two 1000)
theorem Moderate.big {t : Rat} (h : Moderate t) : Size t (rq bigR) := by rw [bigR_q]; exact h

section
variable {a b : Option Nat} {p q : Rat}
theorem fv_add (ha : Fv a p) (hb : Fv b q) (hB : Moderate (p + q)) : ∃ r, Fv (fop .add .f64 a b) r ∧ Rnd (p + q) r := by
  obtain ⟨x, rfl, h1, rfl⟩ := ha
  obtain ⟨y, rfl, h2, rfl⟩ := hb
  obtain ⟨r, e, h3, h4⟩ := add_rnd h1 h2 bigR_lt hB.big
  exact ⟨fq r, ⟨r, e, h3, rfl⟩, h4⟩
theorem fv_sub (ha : Fv a p) (hb : Fv b q) (hB : Moderate (p - q)) : ∃ r, Fv (fop .sub .f64 a b) r ∧ Rnd (p - q) r := by
  obtain ⟨x, rfl, h1, rfl⟩ := ha
  obtain ⟨y, rfl, h2, rfl⟩ := hb
  obtain ⟨r, e, h3, h4⟩ := sub_rnd h1 h2 bigR_lt hB.big
  exact ⟨fq r, ⟨r, e, h3, rfl⟩, h4⟩
theorem fv_mul (ha : Fv a p) (hb : Fv b q) (hB : Moderate (p * q)) : ∃ r, Fv (fop .mul .f64 a b) r ∧ Rnd (p * q) r := by
  obtain ⟨x, rfl, h1, rfl⟩ := ha
  obtain ⟨y, rfl, h2, rfl⟩ := hb
  obtain ⟨r, e, h3, h4⟩ := mul_rnd h1 h2 bigR_lt hB.big
  exact ⟨fq r, ⟨r, e, h3, rfl⟩, h4⟩
theorem fv_div (ha : Fv a p) (hb : Fv b q) (hq : q ≠ 0) (hB : Moderate (p / q)) : ∃ r, Fv (fop .quo .f64 a b) r ∧ Rnd (p / q) r := by
  obtain ⟨x, rfl, h1, rfl⟩ := ha
  obtain ⟨y, rfl, h2, rfl⟩ := hb
  obtain ⟨r, e, h3, h4⟩ := div_rnd h1 h2 hq bigR_lt hB.big
  exact ⟨fq r, ⟨r, e, h3, rfl⟩, h4⟩
theorem fv_int {n : Int} (hB : Moderate (n : Rat)) : ∃ r, Fv (some (floatOfInt .f64 n)) r ∧ Rnd (n : Rat) r := by
  obtain ⟨h1, h2⟩ := int_rnd bigR_lt hB.big
  exact ⟨_, Fv.mk h1, h2⟩
end

/-- A number with few digits: k / 2^e, k no greater than K. -/
def Dy (e K : Nat) (q : Rat) : Prop := ∃ k : Int, k.natAbs ≤ K ∧ q * two e = (k : Rat)

theorem Dy.mono {e K L : Nat} {q : Rat} (h : Dy e K q) (hl : K ≤ L) : Dy e L q := by
  obtain ⟨k, h1, h2⟩ := h
  exact ⟨k, by omega, h2⟩
theorem Dy.zero (e K : Nat) : Dy e K 0 := ⟨0, by simp, by rw [Rat.zero_mul]; rfl⟩
theorem Dy.add {e K L : Nat} {p q : Rat} (h : Dy e K p) (h' : Dy e L q) : Dy e (K + L) (p + q) := by
  obtain ⟨k, h1, h2⟩ := h
  obtain ⟨l, h3, h4⟩ := h'
  refine ⟨k + l, by omega, ?_⟩
  rw [Rat.intCast_add, ← h2, ← h4]; grind
theorem Dy.neg {e K : Nat} {p : Rat} (h : Dy e K p) : Dy e K (-p) := by
  obtain ⟨k, h1, h2⟩ := h
  refine ⟨-k, by omega, ?_⟩
  rw [Rat.intCast_neg, ← h2]; grind
theorem Dy.sub {e K L : Nat} {p q : Rat} (h : Dy e K p) (h' : Dy e L q) : Dy e (K + L) (p - q) := by
  rw [Rat.sub_eq_add_neg]; exact h.add h'.neg
theorem Dy.mul {e f K L : Nat} {p q : Rat} (h : Dy e K p) (h' : Dy f L q) : Dy (e + f) (K * L) (p * q) := by
  obtain ⟨k, h1, h2⟩ := h
  obtain ⟨l, h3, h4⟩ := h'
  refine ⟨k * l, by rw [Int.natAbs_mul]; exact Nat.mul_le_mul h1 h3, ?_⟩
  rw [Rat.intCast_mul, ← h2, ← h4, two_add]; grind
theorem Dy.of_int {n : Int} {K : Nat} (h : n.natAbs ≤ K) : Dy 0 K (n : Rat) := ⟨n, h, by rw [two_zero, Rat.mul_one]⟩
theorem Dy.size {e K : Nat} {q : Rat} (h : Dy e K q) : Size q (K : Rat) := by
  obtain ⟨k, h1, h2⟩ := h
  have h3 : (1 : Rat) ≤ two e := by rw [← two_zero]; exact two_le (Nat.zero_le _)
  have h4 : (k : Rat) ≤ (K : Rat) := by rw [← Rat.intCast_natCast]; exact Rat.intCast_le_intCast.2 (by omega)
  have h5 : -(k : Rat) ≤ (K : Rat) := by rw [← Rat.intCast_natCast, ← Rat.intCast_neg]; exact Rat.intCast_le_intCast.2 (by omega)
  have h6 : (0 : Rat) ≤ (K : Rat) := Rat.natCast_nonneg
  constructor
  · refine Rat.not_lt.1 fun h => ?_
    have := Rat.mul_le_mul_of_nonneg_left h3 (Rat.le_trans h6 (Rat.le_of_lt h))
    grind
  · refine Rat.not_lt.1 fun h => ?_
    have := Rat.mul_le_mul_of_nonneg_left h3 (Rat.le_trans h6 (Rat.le_of_lt h))
    grind
theorem cast_le_two {K n : Nat} (h : K ≤ 2 ^ n) : (K : Rat) ≤ two n := Rat.natCast_le_natCast.2 h
theorem Dy.moderate {e K : Nat} {q : Rat} (h : Dy e K q) (hK : K ≤ 2 ^ 53) : Moderate q := by
  have h1 := h.size
  have h2 : (K : Rat) ≤ two 1000 := Rat.le_trans (cast_le_two hK) (two_le (by omega))
  exact ⟨Rat.le_trans h1.1 h2, Rat.le_trans h1.2 h2⟩

theorem rep_nat {k e : Nat} (hk : k < 2 ^ 53) (he : e ≤ 1000) {q : Rat} (h : q * two e = (k : Rat)) : Rep q := by
  have hl : e ≤ lpn := by unfold lpn; omega
  by_cases h0 : k = 0
  · have : q = 0 := by
      have h1 : q * two e = 0 := by rw [h, h0]; rfl
      rcases Rat.mul_eq_zero.1 h1 with h | h
      · exact h
      · exact absurd h (Rat.ne_of_gt (two_pos e))
    rw [this]; exact rep_zero
  · have e2 : double.fractionBits = 52 := by decide
    have e3 : double.binade = 4503599627370496 := by decide
    have hl53 : k.log2 < 53 := (Nat.log2_lt h0).2 hk
    have hv := rung_of (f := double) (k := k) (q := lpn - e) h0 (by rw [e3]; omega) (by rw [e2]; unfold lpn; omega)
    rw [e2, e3] at hv
    have hhi := Nat.lt_log2_self (n := k)
    have h53 : k * 2 ^ (52 - k.log2) ≤ 2 ^ (k.log2 + 1) * 2 ^ (52 - k.log2) := Nat.mul_le_mul_right _ (Nat.le_of_lt hhi)
    rw [← Nat.pow_add, show k.log2 + 1 + (52 - k.log2) = 53 by omega] at h53
    have hlt : (lpn - e + k.log2 - 52) * 4503599627370496 + k * 2 ^ (52 - k.log2) < double.infRung := by
      rw [ir64]
      have : lpn - e + k.log2 - 52 ≤ 1100 := by unfold lpn; omega
      omega
    have hr := rep_rq hlt
    have : rq ((lpn - e + k.log2 - 52) * 4503599627370496 + k * 2 ^ (52 - k.log2)) = q := by
      have hs : two lpn = two e * two (lpn - e) := by rw [← two_add, Nat.add_sub_cancel' hl]
      unfold rq
      rw [hv, Rat.natCast_mul, ← h, hs]
      show q * two e * two (lpn - e) / (two e * two (lpn - e)) = q
      have h1 := Rat.mul_inv_cancel _ (Rat.ne_of_gt (two_pos e))
      have h2 := Rat.mul_inv_cancel _ (Rat.ne_of_gt (two_pos (lpn - e)))
      rw [Rat.div_def, Rat.inv_mul_rev]; grind
    rw [this] at hr
    exact hr
theorem Dy.rep {e K : Nat} {q : Rat} (h : Dy e K q) (hK : K < 2 ^ 53) (he : e ≤ 1000) : Rep q := by
  obtain ⟨k, h1, h2⟩ := h
  by_cases hk : 0 ≤ k
  · obtain ⟨n, rfl⟩ : ∃ n : Nat, k = (n : Int) := ⟨k.natAbs, by omega⟩
    exact rep_nat (k := n) (by omega) he (by rw [h2, Rat.intCast_natCast])
  · obtain ⟨n, rfl⟩ : ∃ n : Nat, k = -(n : Int) := ⟨k.natAbs, by omega⟩
    have := rep_neg (rep_nat (k := n) (q := -q) (by omega) he (by rw [Rat.intCast_neg, Rat.intCast_natCast] at h2; grind))
    rwa [Rat.neg_neg] at this

section
variable {a b : Option Nat} {p q : Rat} {e K : Nat}
theorem Dy.fv_add (h : Dy e K (p + q)) (hK : K < 2 ^ 53) (he : e ≤ 1000) (ha : Fv a p) (hb : Fv b q) : Fv (fop .add .f64 a b) (p + q) := by
  obtain ⟨r, h1, h2⟩ := Flt.fv_add ha hb (h.moderate (by omega))
  rw [h2.exact (h.rep hK he)] at h1; exact h1
theorem Dy.fv_sub (h : Dy e K (p - q)) (hK : K < 2 ^ 53) (he : e ≤ 1000) (ha : Fv a p) (hb : Fv b q) : Fv (fop .sub .f64 a b) (p - q) := by
  obtain ⟨r, h1, h2⟩ := Flt.fv_sub ha hb (h.moderate (by omega))
  rw [h2.exact (h.rep hK he)] at h1; exact h1
theorem Dy.fv_mul (h : Dy e K (p * q)) (hK : K < 2 ^ 53) (he : e ≤ 1000) (ha : Fv a p) (hb : Fv b q) : Fv (fop .mul .f64 a b) (p * q) := by
  obtain ⟨r, h1, h2⟩ := Flt.fv_mul ha hb (h.moderate (by omega))
  rw [h2.exact (h.rep hK he)] at h1; exact h1
theorem Dy.fv_div (h : Dy e K (p / q)) (hK : K < 2 ^ 53) (he : e ≤ 1000) (hq : q ≠ 0) (ha : Fv a p) (hb : Fv b q) : Fv (fop .quo .f64 a b) (p / q) := by
  obtain ⟨r, h1, h2⟩ := Flt.fv_div ha hb hq (h.moderate (by omega))
  rw [h2.exact (h.rep hK he)] at h1; exact h1
theorem fv_int_exact {n : Int} (h : n.natAbs < 2 ^ 53) : Fv (some (floatOfInt .f64 n)) (n : Rat) := by
  have hd := Dy.of_int (n := n) (Nat.le_refl _)
  obtain ⟨r, h1, h2⟩ := fv_int (hd.moderate (by omega))
  rw [h2.exact (hd.rep h (by omega))] at h1; exact h1
end

/-- A sum of rational numbers. -/
def psum (p : Nat → Rat) : Nat → Rat
  | 0 => 0
  | n + 1 => psum p n + p n
theorem psum_dy {p : Nat → Rat} {e K n : Nat} (h : ∀ i, i < n → Dy e K (p i)) : Dy e (n * K) (psum p n) := by
  induction n with
  | zero => exact Dy.zero _ _
  | succ n ih =>
    rw [Nat.add_mul, Nat.one_mul]
    exact (ih fun i hi => h i (by omega)).add (h n (by omega))

/-- Sums of numbers with few digits are exact. -/
theorem sumO_dy {z : Nat → Option Nat} {p : Nat → Rat} {e K n : Nat} (hz : ∀ i, i < n → Fv (z i) (p i)) (h : ∀ i, i < n → Dy e K (p i)) (hK : n * K < 2 ^ 53) (he : e ≤ 1000) (hn : 0 < n) : Fv (sumO z n) (psum p n) := by
  induction n with
  | zero => omega
  | succ n ih =>
    unfold sumO
    by_cases h0 : n = 0
    · subst h0
      rw [if_pos rfl]
      show Fv (z 0) (0 + p 0)
      rw [Rat.zero_add]
      exact hz 0 (by omega)
    · rw [if_neg h0]
      have hle : n * K ≤ (n + 1) * K := Nat.mul_le_mul_right _ (by omega)
      exact (psum_dy h).fv_add hK he (ih (fun i hi => hz i (by omega)) (fun i hi => h i (by omega)) (by omega) (by omega)) (hz n (by omega))

end Flt
end Go.Proofs.Yteamnfockjnilaa
/-
  Sums of rational numbers; sums of floats that are near. No program.
-/
set_option linter.unusedVariables false
set_option linter.unusedSimpArgs false
namespace Go.Proofs.Yteamnfockjnilaa
open Go Flt
namespace Flt

theorem psum_succ (p : Nat → Rat) (n : Nat) : psum p (n + 1) = psum p n + p n := rfl
theorem psum_congr {p q : Nat → Rat} {n : Nat} (h : ∀ i, i < n → p i = q i) : psum p n = psum q n := by
  induction n with
  | zero => rfl
  | succ n ih => rw [psum_succ, psum_succ, ih fun i hi => h i (by omega), h n (by omega)]
theorem psum_nonneg {p : Nat → Rat} {n : Nat} (h : ∀ i, i < n → 0 ≤ p i) : 0 ≤ psum p n := by
  induction n with
  | zero => exact Rat.le_refl
  | succ n ih => rw [psum_succ]; exact Rat.add_nonneg (ih fun i hi => h i (by omega)) (h n (by omega))
theorem psum_mono {p : Nat → Rat} {m n : Nat} (h : ∀ i, i < n → 0 ≤ p i) (hm : m ≤ n) : psum p m ≤ psum p n := by
  induction n with
  | zero => rw [show m = 0 by omega]; exact Rat.le_refl
  | succ n ih =>
    by_cases hmn : m = n + 1
    · rw [hmn]; exact Rat.le_refl
    · have h1 := ih (fun i hi => h i (by omega)) (by omega)
      have h2 := h n (by omega)
      rw [psum_succ]; grind
theorem psum_term {p : Nat → Rat} {n t : Nat} (h : ∀ i, i < n → 0 ≤ p i) (ht : t < n) : p t ≤ psum p n := by
  have h1 := psum_mono (m := t + 1) h (by omega)
  have h2 := psum_nonneg (p := p) (n := t) fun i hi => h i (by omega)
  rw [psum_succ] at h1; grind
theorem psum_mul (p : Nat → Rat) (c : Rat) (n : Nat) : psum (fun i => p i * c) n = psum p n * c := by
  induction n with
  | zero => exact (Rat.zero_mul _).symm
  | succ n ih => rw [psum_succ, psum_succ, ih]; grind

/-- Sums of numbers that are known nearly. -/
theorem sumO_near {z : Nat → Option Nat} {r p : Nat → Rat} {e B : Rat} {n : Nat} (hz : ∀ i, i < n → Fv (z i) (r i)) (hr : ∀ i, i < n → Near (r i) (p i) e)
    (he : 0 ≤ e) (hB : B ≤ two 1000) (hB0 : 0 ≤ B) (hs : ∀ k, k < n → Size (psum p (k + 1)) (B - ((k : Rat) + 1) * (e + (B / two 52 + tiny)))) (hn : 0 < n) :
    ∃ s, Fv (sumO z n) s ∧ Near s (psum p n) ((n : Rat) * (e + (B / two 52 + tiny))) := by
  have hd0 : 0 ≤ B / two 52 + tiny := by
    have h1 : 0 ≤ B / two 52 := by rw [Rat.div_def]; exact Rat.mul_nonneg hB0 (Rat.le_of_lt (Rat.inv_pos.2 (two_pos _)))
    exact Rat.add_nonneg h1 (Rat.le_of_lt tiny_pos)
  generalize hd : B / two 52 + tiny = d at *
  induction n with
  | zero => omega
  | succ n ih =>
    by_cases h0 : n = 0
    · subst h0
      refine ⟨r 0, hz 0 (by omega), ?_⟩
      have h1 := hr 0 (by omega)
      show Near (r 0) (0 + p 0) (((0 + 1 : Nat) : Rat) * (e + d))
      rw [Rat.zero_add, show ((0 + 1 : Nat) : Rat) = 1 from rfl, Rat.one_mul]
      unfold Near at *
      grind
    · obtain ⟨s, h1, h2⟩ := ih (fun i hi => hz i (by omega)) (fun i hi => hr i (by omega)) (by omega) (fun k hk => hs k (by omega))
      have h3 := hs n (by omega)
      have h4 := hr n (by omega)
      have ec : ((n + 1 : Nat) : Rat) = (n : Rat) + 1 := by rw [Rat.natCast_add]; rfl
      have hX : ((n : Rat) + 1) * (e + d) = (n : Rat) * (e + d) + (e + d) := by grind
      have hsz : Size (s + r n) B := by
        rw [psum_succ, hX] at h3
        obtain ⟨a1, a2⟩ := h2
        obtain ⟨b1, b2⟩ := h3
        obtain ⟨c1, c2⟩ := h4
        generalize (n : Rat) * (e + d) = X at *
        clear hs hr hz ih hd hX
        constructor <;> grind
      obtain ⟨t, h5, h6⟩ := fv_add h1 (hz n (by omega)) ⟨Rat.le_trans hsz.1 hB, Rat.le_trans hsz.2 hB⟩
      refine ⟨t, ?_, ?_⟩
      · unfold sumO; rw [if_neg h0]; exact h5
      · have h7 := h6.near hsz
        rw [hd] at h7
        rw [ec, psum_succ, hX]
        obtain ⟨a1, a2⟩ := h2
        obtain ⟨b1, b2⟩ := h7
        obtain ⟨c1, c2⟩ := h4
        generalize (n : Rat) * (e + d) = X at *
        clear hs hr hz ih hd hX h3 hsz h5 h6
        constructor <;> grind

end Flt
end Go.Proofs.Yteamnfockjnilaa
