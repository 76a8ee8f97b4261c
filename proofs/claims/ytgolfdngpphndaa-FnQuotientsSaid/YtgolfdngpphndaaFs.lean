import Derived.Test.YtgolfdngpphndaaFvO
/-
  Floats of 32 bits as rational numbers (written by genfs.py out of those of 64 bits). No program.
-/
set_option linter.unusedVariables false
set_option linter.unusedSimpArgs false
namespace Go.Proofs.Ytgolfdngpphndaa
open Go Flt
namespace Flt.Nar
open Ieee (single Format Datum signed)

def lps : Nat := 149
theorem lpn_eq : single.leastPlace = -(lps : Int) := by decide
theorem two24 : two 24 = 16777216 := rfl
theorem two23 : two 23 = 8388608 := rfl

/-- What a finite word stands for. -/
def fq (x : Nat) : Rat := (rsv single x : Rat) / two lps
/-- A finite word. -/
def Fin (x : Nat) : Prop := x < 4294967296 ∧ x % 2147483648 < 2139095040
/-- A number that there is. -/
def Rep (q : Rat) : Prop := ∃ x, Fin x ∧ fq x = q

theorem rsv_word (neg : Bool) {r : Nat} (h : r < single.infRung) : rsv single (single.word neg r) = sval single neg r := by
  have hs : single.signWeight = 2147483648 := by decide
  rw [ir32] at h
  unfold rsv Format.word
  rw [hs]
  cases neg
  · simp only [Bool.false_eq_true, if_false]
    have e1 : r / 2147483648 = 0 := Nat.div_eq_of_lt (by omega)
    have e2 : r % 2147483648 = r := Nat.mod_eq_of_lt (by omega)
    rw [e1, e2]
    rfl
  · simp only [if_true]
    have e1 : (2147483648 + r) / 2147483648 = 1 := by omega
    have e2 : (2147483648 + r) % 2147483648 = r := by omega
    rw [e1, e2]
    rfl

theorem fin_word (neg : Bool) {r : Nat} (h : r < single.infRung) : Fin (single.word neg r) := by
  have hs : single.signWeight = 2147483648 := by decide
  rw [ir32] at h
  unfold Fin Format.word
  rw [hs]
  cases neg
  · simp only [Bool.false_eq_true, if_false]; omega
  · simp only [if_true]; omega

theorem word_self' {x : Nat} (h : x < 4294967296) : single.word (x / 2147483648 % 2 == 1) (x % 2147483648) = x := by
  have hs : single.signWeight = 2147483648 := by decide
  unfold Format.word
  rw [hs]
  by_cases h1 : x < 2147483648
  · rw [Nat.div_eq_of_lt h1, Nat.mod_eq_of_lt h1]; rfl
  · have e1 : x / 2147483648 = 1 := by omega
    have e2 : x % 2147483648 = x - 2147483648 := by omega
    rw [e1, e2]
    show 2147483648 + (x - 2147483648) = x
    omega

/-- The value of a rung. -/
def rq (r : Nat) : Rat := (val single r : Rat) / two lps
theorem fq_word (neg : Bool) {r : Nat} (h : r < single.infRung) : fq (single.word neg r) = if neg then -rq r else rq r := by
  unfold fq rq
  rw [rsv_word neg h]
  unfold sval
  cases neg
  · simp only [Bool.false_eq_true, if_false, Rat.intCast_natCast]
  · simp only [if_true, Rat.intCast_neg, Rat.intCast_natCast]
    grind

theorem rq_le {r s : Nat} : rq r ≤ rq s ↔ r ≤ s := by
  unfold rq
  constructor
  · intro h
    have := Rat.natCast_le_natCast.1 (le_of_div (two_pos _) h)
    apply Nat.le_of_not_lt
    intro hc
    have := val_lt single hc
    omega
  · intro h
    exact div_le_div (two_pos _) (Rat.natCast_le_natCast.2 (val_mono h))
theorem rq_zero : rq 0 = 0 := by
  unfold rq; rw [val_zero, Rat.div_def]; simp
theorem rq_nonneg (r : Nat) : 0 ≤ rq r := by rw [← rq_zero]; exact rq_le.2 (Nat.zero_le _)

/-- A word is its sign and its rung. -/
theorem fin_parts {x : Nat} (h : Fin x) : ∃ neg r, r < single.infRung ∧ x = single.word neg r := by
  refine ⟨_, x % 2147483648, ?_, (word_self' h.1).symm⟩
  rw [ir32]; exact h.2

theorem rep_neg {q : Rat} (h : Rep q) : Rep (-q) := by
  obtain ⟨x, hx, rfl⟩ := h
  obtain ⟨neg, r, hr, rfl⟩ := fin_parts hx
  refine ⟨single.word (!neg) r, fin_word _ hr, ?_⟩
  rw [fq_word _ hr, fq_word _ hr]
  cases neg
  · simp
  · simp only [Bool.not_true, Bool.false_eq_true, if_false, if_true]; grind
theorem rep_rq {r : Nat} (h : r < single.infRung) : Rep (rq r) := ⟨single.word false r, fin_word _ h, by rw [fq_word _ h]; rfl⟩
theorem rep_zero : Rep 0 := by rw [← rq_zero]; exact rep_rq (by rw [ir32]; omega)

/-- A number that there is and that is not negative is that of a rung. -/
theorem rep_rung {q : Rat} (h : Rep q) (h0 : 0 ≤ q) : ∃ r, r < single.infRung ∧ rq r = q := by
  obtain ⟨x, hx, rfl⟩ := h
  obtain ⟨neg, r, hr, rfl⟩ := fin_parts hx
  rw [fq_word _ hr] at h0 ⊢
  cases neg
  · exact ⟨r, hr, rfl⟩
  · simp only [if_true] at h0 ⊢
    have := rq_nonneg r
    have e : rq r = 0 := by grind
    exact ⟨0, by rw [ir32]; omega, by rw [rq_zero, e]; grind⟩

/-- How far a rounded number may be from the number. -/
def slack (t : Rat) : Rat := t / two 23 + 1 / two (lps + 1)
def slack' (t : Rat) : Rat := t / two 24 + 1 / two (lps + 1)
/-- r is what t is rounded to: near, and on the same side of each number that there is. -/
structure Rnd (t r : Rat) : Prop where
  rep : Rep r
  up : r - t ≤ slack t ∨ r - t ≤ slack (-t)
  down : t - r ≤ slack t ∨ t - r ≤ slack (-t)
  le : ∀ s, Rep s → t ≤ s → r ≤ s
  ge : ∀ s, Rep s → s ≤ t → s ≤ r

theorem Rnd.neg {t r : Rat} (h : Rnd t r) : Rnd (-t) (-r) := by
  obtain ⟨h0, h1, h2, h3, h4⟩ := h
  refine ⟨rep_neg h0, ?_, ?_, fun s hs hts => ?_, fun s hs hst => ?_⟩
  · rw [Rat.neg_neg]; grind
  · rw [Rat.neg_neg]; grind
  · have := h4 (-s) (rep_neg hs) (by grind)
    grind
  · have := h3 (-s) (rep_neg hs) (by grind)
    grind
theorem Rnd.exact {t r : Rat} (h : Rnd t r) (ht : Rep t) : r = t := Rat.le_antisymm (h.le t ht (Rat.le_refl)) (h.ge t ht (Rat.le_refl))
theorem Rnd.nonneg {t r : Rat} (h : Rnd t r) (ht : 0 ≤ t) : 0 ≤ r := h.ge 0 rep_zero ht

theorem rq_at {b : Nat} (hb : lps ≤ b) (s : Nat) : rq s = ((val single s * 2 ^ (b - lps) : Nat) : Rat) / two b := by
  have e : two b = two lps * two (b - lps) := two_cut hb
  unfold rq
  rw [e, Rat.natCast_mul]
  have h1 := two_pos lps
  have h2 := two_pos (b - lps)
  show _ = _ * two (b - lps) / _
  generalize two (b - lps) = u at *
  generalize two lps = v at *
  generalize ((val single s : Nat) : Rat) = a
  rw [Rat.div_def, Rat.div_def, Rat.inv_mul_rev]
  have := Rat.mul_inv_cancel u (Rat.ne_of_gt h2)
  grind

theorem rung_rnd {m : Nat} {p : Int} {b R : Nat} (hb : lps ≤ b) (hp : -(b : Int) ≤ p) (hR : R < single.infRung) (hB : ((at_ m p (-(b : Int)) : Nat) : Rat) / two b ≤ rq R) :
    rungOf single m p < single.infRung ∧ Rnd (((at_ m p (-(b : Int)) : Nat) : Rat) / two b) (rq (rungOf single m p)) ∧
      rq (rungOf single m p) - ((at_ m p (-(b : Int)) : Nat) : Rat) / two b ≤ slack' (((at_ m p (-(b : Int)) : Nat) : Rat) / two b) ∧
      ((at_ m p (-(b : Int)) : Nat) : Rat) / two b - rq (rungOf single m p) ≤ slack' (((at_ m p (-(b : Int)) : Nat) : Rat) / two b) := by
  have h2 : -(b : Int) ≤ single.leastPlace := by rw [lpn_eq]; omega
  have e : (single.leastPlace - -(b : Int)).toNat = b - lps := by rw [lpn_eq]; omega
  have hle : ∀ s, ((at_ m p (-(b : Int)) : Nat) : Rat) / two b ≤ rq s → rungOf single m p ≤ s := fun s hs => by
    rw [rq_at hb, cast_le_div] at hs
    exact rung_le hp h2 (by rw [e]; exact hs)
  have hge : ∀ s, s < single.infRung → rq s ≤ ((at_ m p (-(b : Int)) : Nat) : Rat) / two b → s ≤ rungOf single m p := fun s hi hs => by
    rw [rq_at hb, cast_le_div] at hs
    exact le_rung hp h2 (Nat.le_of_lt hi) (by rw [e]; exact hs)
  have hlt : rungOf single m p < single.infRung := Nat.lt_of_le_of_lt (hle R hB) hR
  have ht0 : 0 ≤ ((at_ m p (-(b : Int)) : Nat) : Rat) / two b := by
    have := div_le_div (two_pos b) (Rat.natCast_nonneg (a := at_ m p (-(b : Int))))
    rwa [Rat.div_def, Rat.zero_mul] at this
  have near : rq (rungOf single m p) - ((at_ m p (-(b : Int)) : Nat) : Rat) / two b ≤ slack' (((at_ m p (-(b : Int)) : Nat) : Rat) / two b) ∧
      ((at_ m p (-(b : Int)) : Nat) : Rat) / two b - rq (rungOf single m p) ≤ slack' (((at_ m p (-(b : Int)) : Nat) : Rat) / two b) := by
    by_cases hm : m = 0
    · have e1 : rungOf single m p = 0 := by unfold rungOf; rw [if_pos hm]
      have e2 : at_ m p (-(b : Int)) = 0 := by unfold at_; rw [hm, Nat.zero_mul]
      have e3 : ((0 : Nat) : Rat) / two b = 0 := by rw [Rat.div_def]; exact Rat.zero_mul _
      have e4 : (0 : Rat) ≤ 1 / two (lps + 1) := by
        have := div_le_div (two_pos (lps + 1)) (show (0 : Rat) ≤ 1 by decide)
        rwa [Rat.div_def, Rat.zero_mul] at this
      rw [e1, e2, rq_zero, e3]
      unfold slack'
      rw [show (0 : Rat) / two 24 = 0 by rw [Rat.div_def]; exact Rat.zero_mul _]
      constructor <;> grind
    · obtain ⟨L, k, hr, hq, hk, k1, k2, hbig⟩ := rung_spec (f := single) hm hp h2
      have hr' : rungOf single m p = L * single.binade + k := by omega
      have hv : val single (rungOf single m p) = k * 2 ^ L := by rw [hr']; exact val_of hq hk
      rw [rq_at hb, hv]
      rw [e] at k1 k2 hbig
      have hbin : single.binade = 8388608 := by decide
      rw [hbin] at hbig
      clear hle hge hr hr' hv hq hk hB
      generalize hM : at_ m p (-(b : Int)) = M at *
      have hW : L = 0 → 2 ^ L * 2 ^ (b - lps) = 2 ^ (b - lps) := fun h => by rw [h]; simp
      have e5 : k * 2 ^ L * 2 ^ (b - lps) = k * (2 ^ L * 2 ^ (b - lps)) := Nat.mul_assoc _ _ _
      rw [e5]
      generalize 2 ^ L * 2 ^ (b - lps) = W at *
      have e6 : two b = two lps * two (b - lps) := two_cut hb
      have e7 : two (lps + 1) = two lps * 2 := by rw [two_add]; rfl
      have c1 : ∀ a : Nat, ((2 * a : Nat) : Rat) = 2 * (a : Rat) := fun a => by rw [Rat.natCast_mul]; rfl
      have q1 : (2 : Rat) * ((k * W : Nat) : Rat) ≤ 2 * (M : Rat) + (W : Rat) := by
        have := Rat.natCast_le_natCast.2 k1
        rw [Nat.mul_assoc 2 k W, c1, Rat.natCast_add, c1] at this
        exact this
      have q2 : (2 : Rat) * (M : Rat) ≤ 2 * ((k * W : Nat) : Rat) + (W : Rat) := by
        have := Rat.natCast_le_natCast.2 k2
        rw [Nat.add_mul, Nat.one_mul, Nat.mul_assoc 2 k W, c1, Rat.natCast_add, c1] at this
        exact this
      have hbp := two_pos b
      have hlp := two_pos lps
      have hup := two_pos (b - lps)
      -- the unit
      have key : (W : Rat) * (two b)⁻¹ ≤ 2 * slack' ((M : Rat) / two b) := by
        have hM0 : 0 ≤ (M : Rat) * (two b)⁻¹ := Rat.mul_nonneg Rat.natCast_nonneg (Rat.le_of_lt (Rat.inv_pos.2 hbp))
        unfold slack'
        rw [two24, e7, Rat.div_def (M : Rat)]
        by_cases hL : L = 0
        · rw [hW hL]
          have e8 : ((2 ^ (b - lps) : Nat) : Rat) * (two b)⁻¹ = (two lps)⁻¹ := by
            rw [e6]
            show two (b - lps) * _ = _
            have := Rat.mul_inv_cancel _ (Rat.ne_of_gt hup)
            rw [Rat.inv_mul_rev]
            grind
          rw [e8]
          have : 1 / (two lps * 2) = (two lps)⁻¹ / 2 := by rw [Rat.div_def, Rat.inv_mul_rev]; grind
          rw [this]
          grind
        · have q3 := Rat.natCast_le_natCast.2 (hbig hL)
          rw [Rat.natCast_mul] at q3
          have q4 := Rat.mul_le_mul_of_nonneg_right q3 (Rat.le_of_lt (Rat.inv_pos.2 hbp))
          have q5 : 0 ≤ 1 / (two lps * 2) := by
            rw [Rat.div_def]
            exact Rat.mul_nonneg (by decide) (Rat.le_of_lt (Rat.inv_pos.2 (Rat.mul_pos hlp (by decide))))
          have q6 : ((8388608 : Nat) : Rat) = 8388608 := rfl
          rw [q6] at q4
          grind
      have hi : 0 ≤ (two b)⁻¹ := Rat.le_of_lt (Rat.inv_pos.2 hbp)
      have q3 := Rat.mul_le_mul_of_nonneg_right q1 hi
      have q4 := Rat.mul_le_mul_of_nonneg_right q2 hi
      generalize hS : slack' ((M : Rat) / two b) = S at *
      rw [Rat.div_def, Rat.div_def]
      generalize (two b)⁻¹ = c at *
      constructor <;> grind
  have hss : slack' (((at_ m p (-(b : Int)) : Nat) : Rat) / two b) ≤ slack (((at_ m p (-(b : Int)) : Nat) : Rat) / two b) := by
    unfold slack slack'
    rw [two23, two24]
    grind
  refine ⟨hlt, ⟨rep_rq hlt, .inl (Rat.le_trans near.1 hss), .inl (Rat.le_trans near.2 hss), fun s hs hts => ?_, fun s hs hst => ?_⟩, near.1, near.2⟩
  · obtain ⟨r, hr, rfl⟩ := rep_rung hs (Rat.le_trans ht0 hts)
    exact rq_le.2 (hle r hts)
  · by_cases h0 : 0 ≤ s
    · obtain ⟨r, hr, rfl⟩ := rep_rung hs h0
      exact rq_le.2 (hge r hr hst)
    · exact Rat.le_trans (Rat.le_of_lt (Rat.not_le.1 h0)) (rq_nonneg _)

/-- The least that is lost. -/
def tiny : Rat := 1 / two (lps + 1)
theorem Rnd.near {t r B : Rat} (h : Rnd t r) (hb : Size t B) : Near r t (B / two 23 + tiny) := by
  obtain ⟨h0, h1, h2, -, -⟩ := h
  obtain ⟨b1, b2⟩ := hb
  have hp : (0 : Rat) < two 23 := two_pos 52
  have s1 : slack t ≤ B / two 23 + tiny := by
    have := div_le_div hp b1
    unfold slack tiny; grind
  have s2 : slack (-t) ≤ B / two 23 + tiny := by
    have := div_le_div hp b2
    unfold slack tiny; grind
  constructor
  · rcases h1 with h | h <;> exact Rat.le_trans h (by assumption)
  · rcases h2 with h | h <;> exact Rat.le_trans h (by assumption)

/-- A number of a datum, in units of the last place. -/
def dq (neg : Bool) (m : Nat) (p : Int) : Rat := (signed neg m (p + lps).toNat : Rat) / two lps

theorem read_dq {x : Nat} (h : Fin x) : ∃ s m p, single.read x = .number s m p ∧ -(lps : Int) ≤ p ∧ fq x = dq s m p := by
  have hs : single.signWeight = 2147483648 := by decide
  obtain ⟨m, p, e, l, v⟩ := read_fin single (x := x) (by rw [hs, ir32]; exact h.2)
  rw [lpn_eq] at l v
  refine ⟨_, m, p, e, l, ?_⟩
  unfold fq dq rsv sval
  rw [signed_eq, show p + (lps : Int) = p - -(lps : Int) by omega, v]

theorem dq_neg (s : Bool) (m : Nat) (p : Int) : dq (!s) m p = -dq s m p := by
  unfold dq
  rw [signed_eq, signed_eq]
  cases s
  · simp only [Bool.not_false, if_true, Bool.false_eq_true, if_false, Rat.intCast_neg]; grind
  · simp only [Bool.not_true, if_true, Bool.false_eq_true, if_false, Rat.intCast_neg]; grind

/-- What is written of a number. -/
theorem write_rnd {neg : Bool} {m : Nat} {p : Int} {b R : Nat} {t : Rat} (hb : lps ≤ b) (hp : -(b : Int) ≤ p) (hR : R < single.infRung)
    (ht : t = (if neg then -(((at_ m p (-(b : Int)) : Nat) : Rat) / two b) else ((at_ m p (-(b : Int)) : Nat) : Rat) / two b)) (hB : Size t (rq R)) :
    Fin (single.nearest neg m p) ∧ Rnd t (fq (single.nearest neg m p)) := by
  have hB' : ((at_ m p (-(b : Int)) : Nat) : Rat) / two b ≤ rq R := by
    obtain ⟨b1, b2⟩ := hB
    cases neg
    · rw [ht] at b1; exact b1
    · rw [ht] at b2
      simp only [if_true, Rat.neg_neg] at b2
      exact b2
  obtain ⟨h1, h2, -, -⟩ := rung_rnd hb hp hR hB'
  rw [nearest_rung]
  refine ⟨fin_word _ h1, ?_⟩
  rw [fq_word _ h1, ht]
  cases neg
  · exact h2
  · exact h2.neg

/-- A sum of two data. -/
theorem sum_rnd {s t : Bool} {m n : Nat} {i j : Int} {R : Nat} (hi : -(lps : Int) ≤ i) (hj : -(lps : Int) ≤ j) (hR : R < single.infRung) (hB : Size (dq s m i + dq t n j) (rq R)) :
    ∃ r, ((Datum.number s m i).sum (.number t n j)).map single.write = some r ∧ Fin r ∧ Rnd (dq s m i + dq t n j) (fq r) := by
  simp only [Datum.sum, Option.map_some, Format.write]
  obtain ⟨b, hb⟩ : ∃ b, min i j = b := ⟨_, rfl⟩
  rw [hb]
  have hbl : -(lps : Int) ≤ b := by omega
  have e1 : signed s m (i + lps).toNat = signed s m (i - b).toNat * (2 ^ (b + lps).toNat : Nat) := by
    rw [← signed_scale]; congr 1; omega
  have e2 : signed t n (j + lps).toNat = signed t n (j - b).toNat * (2 ^ (b + lps).toNat : Nat) := by
    rw [← signed_scale]; congr 1; omega
  have hq : dq s m i + dq t n j = (((signed s m (i - b).toNat + signed t n (j - b).toNat) * (2 ^ (b + lps).toNat : Nat) : Int) : Rat) / two lps := by
    unfold dq
    rw [e1, e2, Int.add_mul, Rat.intCast_add]
    generalize ((signed s m (i - b).toNat * (2 ^ (b + lps).toNat : Nat) : Int) : Rat) = x
    generalize ((signed t n (j - b).toNat * (2 ^ (b + lps).toNat : Nat) : Int) : Rat) = y
    grind
  rw [hq] at hB ⊢
  generalize signed s m (i - b).toNat + signed t n (j - b).toNat = T at *
  clear e1 e2 hq hb
  refine ⟨_, rfl, write_rnd (b := lps) (Nat.le_refl _) hbl hR ?_ hB⟩
  have ea : at_ T.natAbs b (-(lps : Int)) = T.natAbs * 2 ^ (b + lps).toNat := by
    unfold at_; congr 2; try omega
  rw [ea]
  by_cases h0 : T = 0
  · subst h0
    rw [if_pos rfl]
    have e0 : ((((0 : Int) * (2 ^ (b + lps).toNat : Nat) : Int)) : Rat) / two lps = 0 := by
      rw [Int.zero_mul, Rat.div_def]; exact Rat.zero_mul _
    have e1 : (((Int.natAbs 0 * 2 ^ (b + lps).toNat : Nat)) : Rat) / two lps = 0 := by
      rw [show Int.natAbs 0 = 0 from rfl, Nat.zero_mul, Rat.div_def]; exact Rat.zero_mul _
    rw [e0, e1]
    split <;> grind
  · rw [if_neg h0]
    by_cases hn : T < 0
    · rw [decide_eq_true hn, if_pos rfl]
      obtain ⟨k, hk⟩ : ∃ k : Nat, T = -(k : Int) := ⟨T.natAbs, by omega⟩
      subst hk
      rw [show (-(k : Int)).natAbs = k by omega, Int.neg_mul, Rat.intCast_neg, ← Int.natCast_mul, Rat.intCast_natCast]
      grind
    · rw [decide_eq_false hn]
      simp only [Bool.false_eq_true, if_false]
      obtain ⟨k, hk⟩ : ∃ k : Nat, T = (k : Int) := ⟨T.natAbs, by omega⟩
      subst hk
      rw [show ((k : Int)).natAbs = k by omega, ← Int.natCast_mul, Rat.intCast_natCast]

theorem add_rnd {x y R : Nat} (hx : Fin x) (hy : Fin y) (hR : R < single.infRung) (hB : Size (fq x + fq y) (rq R)) :
    ∃ r, single.add x y = some r ∧ Fin r ∧ Rnd (fq x + fq y) (fq r) := by
  obtain ⟨s, m, i, e1, l1, v1⟩ := read_dq hx
  obtain ⟨t, n, j, e2, l2, v2⟩ := read_dq hy
  unfold Format.add
  rw [v1, v2] at hB ⊢
  rw [e1, e2]
  exact sum_rnd l1 l2 hR hB
theorem sub_rnd {x y R : Nat} (hx : Fin x) (hy : Fin y) (hR : R < single.infRung) (hB : Size (fq x - fq y) (rq R)) :
    ∃ r, single.sub x y = some r ∧ Fin r ∧ Rnd (fq x - fq y) (fq r) := by
  obtain ⟨s, m, i, e1, l1, v1⟩ := read_dq hx
  obtain ⟨t, n, j, e2, l2, v2⟩ := read_dq hy
  unfold Format.sub
  have e : fq x - fq y = dq s m i + dq (!t) n j := by rw [v1, v2, dq_neg]; grind
  rw [e] at hB ⊢
  rw [e1, e2]
  exact sum_rnd l1 l2 hR hB

theorem dq_abs (s : Bool) (m : Nat) (p : Int) : dq s m p = if s then -(((m * 2 ^ (p + lps).toNat : Nat) : Rat) / two lps) else ((m * 2 ^ (p + lps).toNat : Nat) : Rat) / two lps := by
  unfold dq
  rw [signed_eq]
  cases s
  · simp only [Bool.false_eq_true, if_false, Rat.intCast_natCast]
  · simp only [if_true, Rat.intCast_neg, Rat.intCast_natCast]; grind

theorem mul_rnd {x y R : Nat} (hx : Fin x) (hy : Fin y) (hR : R < single.infRung) (hB : Size (fq x * fq y) (rq R)) :
    ∃ r, single.mul x y = some r ∧ Fin r ∧ Rnd (fq x * fq y) (fq r) := by
  obtain ⟨s, m, i, e1, l1, v1⟩ := read_dq hx
  obtain ⟨t, n, j, e2, l2, v2⟩ := read_dq hy
  unfold Format.mul
  rw [e1, e2]
  simp only [Datum.product, Option.map_some, Format.write]
  refine ⟨_, rfl, write_rnd (b := lps + lps) (by omega) (by omega) hR ?_ hB⟩
  have ea : at_ (m * n) (i + j) (-((lps + lps : Nat) : Int)) = (m * 2 ^ (i + lps).toNat) * (n * 2 ^ (j + lps).toNat) := by
    unfold at_
    rw [Nat.mul_mul_mul_comm, ← Nat.pow_add]
    congr 2; omega
  rw [ea, v1, v2, dq_abs, dq_abs, two_add, Rat.natCast_mul (m * 2 ^ (i + lps).toNat) (n * 2 ^ (j + lps).toNat)]
  generalize ((m * 2 ^ (i + lps).toNat : Nat) : Rat) = a
  generalize ((n * 2 ^ (j + lps).toNat : Nat) : Rat) = c
  have hl := Rat.mul_inv_cancel _ (Rat.ne_of_gt (two_pos lps))
  have e : a * c / (two lps * two lps) = (a / two lps) * (c / two lps) := by
    rw [Rat.div_def, Rat.div_def, Rat.div_def, Rat.inv_mul_rev]; grind
  rw [e]
  generalize a / two lps = a
  generalize c / two lps = c
  cases s <;> cases t <;> simp only [Bool.xor_false, Bool.xor_true, Bool.not_true, Bool.not_false, Bool.false_eq_true, if_true, if_false] <;> grind

/-- How two finite words stand. -/
theorem order_q {x y : Nat} (hx : Fin x) (hy : Fin y) : single.order x y = some (compare (rsv single x) (rsv single y)) := by
  have hs : single.signWeight = 2147483648 := by decide
  rw [order_fin single (x := x) (y := y) (by rw [hs, ir32]; exact hx.2) (by rw [hs, ir32]; exact hy.2), place_eq, place_eq, ← compare_sval]
  rfl
theorem fq_lt {x y : Nat} : fq x < fq y ↔ rsv single x < rsv single y := by
  have h : ∀ a b : Nat, fq a ≤ fq b ↔ rsv single a ≤ rsv single b := fun a b =>
    ⟨fun h => Rat.intCast_le_intCast.1 (le_of_div (two_pos _) h), fun h => div_le_div (two_pos _) (Rat.intCast_le_intCast.2 h)⟩
  rw [← Rat.not_le, h]; omega
theorem order_lt {x y : Nat} (hx : Fin x) (hy : Fin y) (h : fq x < fq y) : single.order x y = some .lt := by
  rw [order_q hx hy, Int.compare_eq_lt.2 (fq_lt.1 h)]
theorem order_gt {x y : Nat} (hx : Fin x) (hy : Fin y) (h : fq y < fq x) : single.order x y = some .gt := by
  rw [order_q hx hy, Int.compare_eq_gt.2 (fq_lt.1 h)]
theorem order_eq_q {x y : Nat} (hx : Fin x) (hy : Fin y) (h : fq x = fq y) : single.order x y = some .eq := by
  have h1 : ¬ rsv single x < rsv single y := fun k => by have := fq_lt.2 k; rw [h] at this; exact Rat.lt_irrefl this
  have h2 : ¬ rsv single y < rsv single x := fun k => by have := fq_lt.2 k; rw [h] at this; exact Rat.lt_irrefl this
  rw [order_q hx hy, Int.compare_eq_eq.2 (by omega)]

end Flt.Nar
end Go.Proofs.Ytgolfdngpphndaa
