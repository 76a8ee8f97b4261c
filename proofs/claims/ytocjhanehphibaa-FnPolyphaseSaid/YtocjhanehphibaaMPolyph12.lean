/-
  Several texts of this claim, one behind the other; each says what it holds.
-/
import Derived.Test.YtocjhanehphibaaMPolyph11
/-
  The operations on floats of 64 bits as operations on rational numbers, rounded. No program.
-/
set_option linter.unusedVariables false
set_option linter.unusedSimpArgs false
namespace Go.Proofs.Ytocjhanehphibaa
open Go Flt
namespace Flt
open Ieee (double Format Datum signed)

/-- The least that is lost. -/
def tiny : Rat := 1 / two (lpn + 1)
theorem tiny_pos : 0 < tiny := by
  unfold tiny
  rw [Rat.div_def, Rat.one_mul]
  exact Rat.inv_pos.2 (two_pos _)

/-- Two numbers are no farther apart than e. -/
def Near (a b e : Rat) : Prop := a - b ≤ e ∧ b - a ≤ e
/-- A number is no greater than B, whatever its sign. -/
def Size (a B : Rat) : Prop := a ≤ B ∧ -a ≤ B

theorem Rnd.near {t r B : Rat} (h : Rnd t r) (hb : Size t B) : Near r t (B / two 52 + tiny) := by
  obtain ⟨h0, h1, h2, -, -⟩ := h
  obtain ⟨b1, b2⟩ := hb
  have hp : (0 : Rat) < two 52 := two_pos 52
  have s1 : slack t ≤ B / two 52 + tiny := by
    have := div_le_div hp b1
    unfold slack tiny; grind
  have s2 : slack (-t) ≤ B / two 52 + tiny := by
    have := div_le_div hp b2
    unfold slack tiny; grind
  constructor
  · rcases h1 with h | h <;> exact Rat.le_trans h (by assumption)
  · rcases h2 with h | h <;> exact Rat.le_trans h (by assumption)

/-- A number of a datum, in units of the last place. -/
def dq (neg : Bool) (m : Nat) (p : Int) : Rat := (signed neg m (p + lpn).toNat : Rat) / two lpn

theorem read_dq {x : Nat} (h : Fin x) : ∃ s m p, double.read x = .number s m p ∧ -(lpn : Int) ≤ p ∧ fq x = dq s m p := by
  have hs : double.signWeight = 9223372036854775808 := by decide
  obtain ⟨m, p, e, l, v⟩ := read_fin double (x := x) (by rw [hs, ir64]; exact h.2)
  rw [lpn_eq] at l v
  refine ⟨_, m, p, e, l, ?_⟩
  unfold fq dq rsv sval
  rw [signed_eq, show p + (lpn : Int) = p - -(lpn : Int) by omega, v]

theorem dq_neg (s : Bool) (m : Nat) (p : Int) : dq (!s) m p = -dq s m p := by
  unfold dq
  rw [signed_eq, signed_eq]
  cases s
  · simp only [Bool.not_false, if_true, Bool.false_eq_true, if_false, Rat.intCast_neg]; grind
  · simp only [Bool.not_true, if_true, Bool.false_eq_true, if_false, Rat.intCast_neg]; grind

/-- What is written of a number. -/
theorem write_rnd {neg : Bool} {m : Nat} {p : Int} {b R : Nat} {t : Rat} (hb : lpn ≤ b) (hp : -(b : Int) ≤ p) (hR : R < double.infRung)
    (ht : t = (if neg then -(((at_ m p (-(b : Int)) : Nat) : Rat) / two b) else ((at_ m p (-(b : Int)) : Nat) : Rat) / two b)) (hB : Size t (rq R)) :
    Fin (double.nearest neg m p) ∧ Rnd t (fq (double.nearest neg m p)) := by
  have hB' : ((at_ m p (-(b : Int)) : Nat) : Rat) / two b ≤ rq R := by
    obtain ⟨b1, b2⟩ := hB
    cases neg
    · rw [ht] at b1; exact b1
    · rw [ht] at b2
      simp only [if_true, Rat.neg_neg] at b2
      exact b2
  obtain ⟨h1, h2, -, -⟩ := rung_rnd hb hp hR hB'
  rw [nearest_rung]
  refine ⟨fin_word _ h1, ?_⟩
  rw [fq_word _ h1, ht]
  cases neg
  · exact h2
  · exact h2.neg

/-- A sum of two data. -/
theorem sum_rnd {s t : Bool} {m n : Nat} {i j : Int} {R : Nat} (hi : -(lpn : Int) ≤ i) (hj : -(lpn : Int) ≤ j) (hR : R < double.infRung) (hB : Size (dq s m i + dq t n j) (rq R)) :
    ∃ r, ((Datum.number s m i).sum (.number t n j)).map double.write = some r ∧ Fin r ∧ Rnd (dq s m i + dq t n j) (fq r) := by
  simp only [Datum.sum, Option.map_some, Format.write]
  obtain ⟨b, hb⟩ : ∃ b, min i j = b := ⟨_, rfl⟩
  rw [hb]
  have hbl : -(lpn : Int) ≤ b := by omega
  have e1 : signed s m (i + lpn).toNat = signed s m (i - b).toNat * (2 ^ (b + lpn).toNat : Nat) := by
    rw [← signed_scale]; congr 1; omega
  have e2 : signed t n (j + lpn).toNat = signed t n (j - b).toNat * (2 ^ (b + lpn).toNat : Nat) := by
    rw [← signed_scale]; congr 1; omega
  have hq : dq s m i + dq t n j = (((signed s m (i - b).toNat + signed t n (j - b).toNat) * (2 ^ (b + lpn).toNat : Nat) : Int) : Rat) / two lpn := by
    unfold dq
    rw [e1, e2, Int.add_mul, Rat.intCast_add]
    generalize ((signed s m (i - b).toNat * (2 ^ (b + lpn).toNat : Nat) : Int) : Rat) = x
    generalize ((signed t n (j - b).toNat * (2 ^ (b + lpn).toNat : Nat) : Int) : Rat) = y
    grind
  rw [hq] at hB ⊢
  generalize signed s m (i - b).toNat + signed t n (j - b).toNat = T at *
  clear e1 e2 hq hb
  refine ⟨_, rfl, write_rnd (b := lpn) (Nat.le_refl _) hbl hR ?_ hB⟩
  have ea : at_ T.natAbs b (-(lpn : Int)) = T.natAbs * 2 ^ (b + lpn).toNat := by
    unfold at_; congr 2; try omega
  rw [ea]
  by_cases h0 : T = 0
  · subst h0
    rw [if_pos rfl]
    have e0 : ((((0 : Int) * (2 ^ (b + lpn).toNat : Nat) : Int)) : Rat) / two lpn = 0 := by
      rw [Int.zero_mul, Rat.div_def]; exact Rat.zero_mul _
    have e1 : (((Int.natAbs 0 * 2 ^ (b + lpn).toNat : Nat)) : Rat) / two lpn = 0 := by
      rw [show Int.natAbs 0 = 0 from rfl, Nat.zero_mul, Rat.div_def]; exact Rat.zero_mul _
    rw [e0, e1]
    split <;> grind
  · rw [if_neg h0]
    by_cases hn : T < 0
    · rw [decide_eq_true hn, if_pos rfl]
      obtain ⟨k, hk⟩ : ∃ k : Nat, T = -(k : Int) := ⟨T.natAbs, by omega⟩
      subst hk
      rw [show (-(k : Int)).natAbs = k by omega, Int.neg_mul, Rat.intCast_neg, ← Int.natCast_mul, Rat.intCast_natCast]
      grind
    · rw [decide_eq_false hn]
      simp only [Bool.false_eq_true, if_false]
      obtain ⟨k, hk⟩ : ∃ k : Nat, T = (k : Int) := ⟨T.natAbs, by omega⟩
      subst hk
      rw [show ((k : Int)).natAbs = k by omega, ← Int.natCast_mul, Rat.intCast_natCast]

theorem add_rnd {x y R : Nat} (hx : Fin x) (hy : Fin y) (hR : R < double.infRung) (hB : Size (fq x + fq y) (rq R)) :
    ∃ r, double.add x y = some r ∧ Fin r ∧ Rnd (fq x + fq y) (fq r) := by
  obtain ⟨s, m, i, e1, l1, v1⟩ := read_dq hx
  obtain ⟨t, n, j, e2, l2, v2⟩ := read_dq hy
  unfold Format.add
  rw [v1, v2] at hB ⊢
  rw [e1, e2]
  exact sum_rnd l1 l2 hR hB
theorem sub_rnd {x y R : Nat} (hx : Fin x) (hy : Fin y) (hR : R < double.infRung) (hB : Size (fq x - fq y) (rq R)) :
    ∃ r, double.sub x y = some r ∧ Fin r ∧ Rnd (fq x - fq y) (fq r) := by
  obtain ⟨s, m, i, e1, l1, v1⟩ := read_dq hx
  obtain ⟨t, n, j, e2, l2, v2⟩ := read_dq hy
  unfold Format.sub
  have e : fq x - fq y = dq s m i + dq (!t) n j := by rw [v1, v2, dq_neg]; grind
  rw [e] at hB ⊢
  rw [e1, e2]
  exact sum_rnd l1 l2 hR hB

theorem dq_abs (s : Bool) (m : Nat) (p : Int) : dq s m p = if s then -(((m * 2 ^ (p + lpn).toNat : Nat) : Rat) / two lpn) else ((m * 2 ^ (p + lpn).toNat : Nat) : Rat) / two lpn := by
  unfold dq
  rw [signed_eq]
  cases s
  · simp only [Bool.false_eq_true, if_false, Rat.intCast_natCast]
  · simp only [if_true, Rat.intCast_neg, Rat.intCast_natCast]; grind

theorem mul_rnd {x y R : Nat} (hx : Fin x) (hy : Fin y) (hR : R < double.infRung) (hB : Size (fq x * fq y) (rq R)) :
    ∃ r, double.mul x y = some r ∧ Fin r ∧ Rnd (fq x * fq y) (fq r) := by
  obtain ⟨s, m, i, e1, l1, v1⟩ := read_dq hx
  obtain ⟨t, n, j, e2, l2, v2⟩ := read_dq hy
  unfold Format.mul
  rw [e1, e2]
  simp only [Datum.product, Option.map_some, Format.write]
  refine ⟨_, rfl, write_rnd (b := lpn + lpn) (by omega) (by omega) hR ?_ hB⟩
  have ea : at_ (m * n) (i + j) (-((lpn + lpn : Nat) : Int)) = (m * 2 ^ (i + lpn).toNat) * (n * 2 ^ (j + lpn).toNat) := by
    unfold at_
    rw [Nat.mul_mul_mul_comm, ← Nat.pow_add]
    congr 2; omega
  rw [ea, v1, v2, dq_abs, dq_abs, two_add, Rat.natCast_mul (m * 2 ^ (i + lpn).toNat) (n * 2 ^ (j + lpn).toNat)]
  generalize ((m * 2 ^ (i + lpn).toNat : Nat) : Rat) = a
  generalize ((n * 2 ^ (j + lpn).toNat : Nat) : Rat) = c
  have hl := Rat.mul_inv_cancel _ (Rat.ne_of_gt (two_pos lpn))
  have e : a * c / (two lpn * two lpn) = (a / two lpn) * (c / two lpn) := by
    rw [Rat.div_def, Rat.div_def, Rat.div_def, Rat.inv_mul_rev]; grind
  rw [e]
  generalize a / two lpn = a
  generalize c / two lpn = c
  cases s <;> cases t <;> simp only [Bool.xor_false, Bool.xor_true, Bool.not_true, Bool.not_false, Bool.false_eq_true, if_true, if_false] <;> grind

/-- An integer. -/
theorem int_rnd {n : Int} {R : Nat} (hR : R < double.infRung) (hB : Size (n : Rat) (rq R)) : Fin (floatOfInt .f64 n) ∧ Rnd (n : Rat) (fq (floatOfInt .f64 n)) := by
  have e : floatOfInt .f64 n = double.nearest (decide (n < 0)) n.natAbs 0 := rfl
  rw [e]
  refine write_rnd (b := lpn) (Nat.le_refl _) (by omega) hR ?_ hB
  have ea : at_ n.natAbs 0 (-(lpn : Int)) = n.natAbs * 2 ^ lpn := by unfold at_; congr 2; try omega
  have hl := Rat.mul_inv_cancel _ (Rat.ne_of_gt (two_pos lpn))
  rw [ea, Rat.natCast_mul]
  show _ = if decide (n < 0) = true then -((n.natAbs : Rat) * two lpn / two lpn) else (n.natAbs : Rat) * two lpn / two lpn
  have e2 : (n.natAbs : Rat) * two lpn / two lpn = (n.natAbs : Rat) := by rw [Rat.div_def]; grind
  rw [e2]
  by_cases hn : n < 0
  · obtain ⟨k, rfl⟩ : ∃ k : Nat, n = -(k : Int) := ⟨n.natAbs, by omega⟩
    rw [decide_eq_true hn, if_pos rfl, show (-(k : Int)).natAbs = k by omega, Rat.intCast_neg, Rat.intCast_natCast]
  · obtain ⟨k, rfl⟩ : ∃ k : Nat, n = (k : Int) := ⟨n.natAbs, by omega⟩
    rw [decide_eq_false hn, show ((k : Int)).natAbs = k by omega, Rat.intCast_natCast]
    rfl

/-- How two finite words stand. -/
theorem order_q {x y : Nat} (hx : Fin x) (hy : Fin y) : double.order x y = some (compare (rsv double x) (rsv double y)) := by
  have hs : double.signWeight = 9223372036854775808 := by decide
  rw [order_fin double (x := x) (y := y) (by rw [hs, ir64]; exact hx.2) (by rw [hs, ir64]; exact hy.2), place_eq, place_eq, ← compare_sval]
  rfl
theorem fq_lt {x y : Nat} : fq x < fq y ↔ rsv double x < rsv double y := by
  have h : ∀ a b : Nat, fq a ≤ fq b ↔ rsv double a ≤ rsv double b := fun a b =>
    ⟨fun h => Rat.intCast_le_intCast.1 (le_of_div (two_pos _) h), fun h => div_le_div (two_pos _) (Rat.intCast_le_intCast.2 h)⟩
  rw [← Rat.not_le, h]; omega
theorem order_lt {x y : Nat} (hx : Fin x) (hy : Fin y) (h : fq x < fq y) : double.order x y = some .lt := by
  rw [order_q hx hy, Int.compare_eq_lt.2 (fq_lt.1 h)]
theorem order_gt {x y : Nat} (hx : Fin x) (hy : Fin y) (h : fq y < fq x) : double.order x y = some .gt := by
  rw [order_q hx hy, Int.compare_eq_gt.2 (fq_lt.1 h)]
theorem order_eq_q {x y : Nat} (hx : Fin x) (hy : Fin y) (h : fq x = fq y) : double.order x y = some .eq := by
  have h1 : ¬ rsv double x < rsv double y := fun k => by have := fq_lt.2 k; rw [h] at this; exact Rat.lt_irrefl this
  have h2 : ¬ rsv double y < rsv double x := fun k => by have := fq_lt.2 k; rw [h] at this; exact Rat.lt_irrefl this
  rw [order_q hx hy, Int.compare_eq_eq.2 (by omega)]

end Flt
end Go.Proofs.Ytocjhanehphibaa
/-
  Quotients of floats of 64 bits as quotients of rational numbers, rounded. No program.
-/
set_option linter.unusedVariables false
set_option linter.unusedSimpArgs false
namespace Go.Proofs.Ytocjhanehphibaa
open Go Flt
namespace Flt
open Ieee (double Format Datum signed)

theorem two_nat (n : Nat) : two n = ((2 ^ n : Nat) : Rat) := rfl

/-- A quotient of whole numbers, cut with a digit for the rest, is rounded as the quotient itself. -/
theorem quo_rnd {D n E b q R : Nat} {m : Nat} {pl : Int} {t : Rat} (hn : 0 < n) (hm : m = 2 * (D / n) + (D % n != 0).toNat) (hD : n * 2 ^ 53 ≤ D)
    (hb : lpn ≤ b) (hp : -(b : Int) ≤ pl) (hE : (pl + b).toNat = E) (ht : t * (n : Rat) * two b = 2 * (D : Rat) * two E) (hR : R < double.infRung) (hB : t ≤ rq R) :
    rungOf double m pl < double.infRung ∧ Rnd t (rq (rungOf double m pl)) := by
  have hnp : (0 : Rat) < (n : Rat) := Rat.natCast_pos.2 hn
  have hbp := two_pos b
  have hEp := two_pos E
  have ea : at_ m pl (-(b : Int)) = m * 2 ^ E := by unfold at_; congr 2; omega
  have eT : ((m * 2 ^ E : Nat) : Rat) / two b * two b = (m : Rat) * two E := by
    rw [Rat.div_mul_cancel (Rat.ne_of_gt hbp), Rat.natCast_mul]; rfl
  obtain ⟨t', ht'⟩ : ∃ t', ((m * 2 ^ E : Nat) : Rat) / two b = t' := ⟨_, rfl⟩
  rw [ht'] at eT
  -- the cut and the quotient
  have hdm := Nat.div_add_mod D n
  have hmod := Nat.mod_lt D hn
  have hfl : 2 ^ 53 ≤ D / n := (Nat.le_div_iff_mul_le hn).2 (by rw [Nat.mul_comm]; exact hD)
  have hm1 : n * m ≤ 2 * D + n := by
    rw [hm, Nat.mul_add, Nat.mul_left_comm]
    by_cases h0 : D % n = 0
    · rw [h0]; simp; omega
    · have hbn : (D % n != 0) = true := by simp [h0]
      rw [hbn]; simp only [Bool.toNat_true, Nat.mul_one]; omega
  have hm2 : 2 * D ≤ n * m + n := by
    rw [hm, Nat.mul_add, Nat.mul_left_comm]
    by_cases h0 : D % n = 0
    · rw [h0]; simp; omega
    · have hbn : (D % n != 0) = true := by simp [h0]
      rw [hbn]; simp only [Bool.toNat_true, Nat.mul_one]; omega
  have hm3 : 2 ^ 54 ≤ m := by rw [hm]; have : (2 : Nat) ^ 54 = 2 * 2 ^ 53 := rfl; omega
  -- a number that there is stands on the same side of both
  have side : ∀ r, r < double.infRung → (t ≤ rq r → t' ≤ rq r) ∧ (rq r ≤ t → rq r ≤ t') := by
    intro r hr
    have er := rq_at hb r
    have er2 : rq r * two b = ((val double r * 2 ^ (b - lpn) : Nat) : Rat) := by rw [er, Rat.div_mul_cancel (Rat.ne_of_gt hbp)]
    have up : ∀ a : Rat, a * two b ≤ rq r * two b ↔ a ≤ rq r := fun a => ⟨fun h => Rat.le_of_mul_le_mul_right h hbp, fun h => Rat.mul_le_mul_of_nonneg_right h (Rat.le_of_lt hbp)⟩
    have dn : ∀ a : Rat, rq r * two b ≤ a * two b ↔ rq r ≤ a := fun a => ⟨fun h => Rat.le_of_mul_le_mul_right h hbp, fun h => Rat.mul_le_mul_of_nonneg_right h (Rat.le_of_lt hbp)⟩
    rw [← up t, ← up t', ← dn t, ← dn t', er2, eT]
    clear er er2 up dn
    have hparts : ∃ k e : Nat, k < 2 ^ 53 ∧ val double r * 2 ^ (b - lpn) = k * 2 ^ e := by
      by_cases h0 : r = 0
      · exact ⟨0, 0, by decide, by rw [h0, val_zero]; simp⟩
      · obtain ⟨k, e, -, hk, -, -, hv⟩ := rung_parts (f := double) h0
        exact ⟨k, e + (b - lpn), by rw [show 2 * double.binade = 2 ^ 53 by decide] at hk; exact hk, by rw [hv, Nat.mul_assoc, ← Nat.pow_add]⟩
    obtain ⟨k, e, hk, hv⟩ := hparts
    rw [hv]
    have en : ∀ a c : Nat, a ≤ c → (a : Rat) * two E ≤ (c : Rat) * two E := fun a c h => Rat.mul_le_mul_of_nonneg_right (Rat.natCast_le_natCast.2 h) (Rat.le_of_lt hEp)
    have etn : t * two b * (n : Rat) = (2 * (D : Rat)) * two E := by rw [← ht]; grind
    by_cases hc : E + 1 ≤ e
    · obtain ⟨d, rfl⟩ : ∃ d, e = E + 1 + d := ⟨e - (E + 1), by omega⟩
      have eK : ((k * 2 ^ (E + 1 + d) : Nat) : Rat) = ((2 * (k * 2 ^ d) : Nat) : Rat) * two E := by
        have e0 : k * 2 ^ (E + 1 + d) = 2 * (k * 2 ^ d) * 2 ^ E := by rw [Nat.pow_add, Nat.pow_add]; grind
        rw [e0, Rat.natCast_mul (2 * (k * 2 ^ d))]; rfl
      rw [eK]
      generalize k * 2 ^ d = K
      have c2 : ((2 * K : Nat) : Rat) = 2 * (K : Rat) := by rw [Rat.natCast_mul]; rfl
      have cn2 : ((n * K : Nat) : Rat) = (n : Rat) * (K : Rat) := Rat.natCast_mul ..
      constructor
      · intro h
        refine en _ _ ?_
        have h1 := Rat.mul_le_mul_of_nonneg_right h (Rat.le_of_lt hnp)
        rw [etn, c2] at h1
        have h2 : (2 * (D : Rat)) * two E ≤ (2 * (n * K : Nat) : Rat) * two E := by rw [cn2]; grind
        have h3 := Rat.le_of_mul_le_mul_right h2 hEp
        have h4 : (D : Rat) ≤ ((n * K : Nat) : Rat) := by grind
        rw [hm]
        exact quot_le hn (Rat.natCast_le_natCast.1 h4)
      · intro h
        refine en _ _ ?_
        have h1 := Rat.mul_le_mul_of_nonneg_right h (Rat.le_of_lt hnp)
        rw [etn, c2] at h1
        have h2 : (2 * (n * K : Nat) : Rat) * two E ≤ (2 * (D : Rat)) * two E := by rw [cn2]; grind
        have h3 := Rat.le_of_mul_le_mul_right h2 hEp
        have h4 : ((n * K : Nat) : Rat) ≤ (D : Rat) := by grind
        have h5 := Rat.natCast_le_natCast.1 h4
        have h6 : K ≤ D / n := (Nat.le_div_iff_mul_le hn).2 (by rw [Nat.mul_comm]; exact h5)
        omega
    · have hlow : k * 2 ^ e ≤ 2 ^ 53 * 2 ^ E := Nat.mul_le_mul (Nat.le_of_lt hk) (Nat.pow_le_pow_right (by omega) (by omega))
      have h53 : ((2 ^ 53 * 2 ^ E : Nat) : Rat) = ((2 ^ 53 : Nat) : Rat) * two E := by rw [Rat.natCast_mul]; rfl
      have hlo : ((k * 2 ^ e : Nat) : Rat) ≤ ((2 ^ 53 : Nat) : Rat) * two E := by rw [← h53]; exact Rat.natCast_le_natCast.2 hlow
      constructor
      · intro h
        exfalso
        have h1 := Rat.mul_le_mul_of_nonneg_right (Rat.le_trans h hlo) (Rat.le_of_lt hnp)
        rw [etn] at h1
        have h2 : (2 * (D : Rat)) * two E ≤ ((n * 2 ^ 53 : Nat) : Rat) * two E := by rw [Rat.natCast_mul]; grind
        have h3 := Rat.le_of_mul_le_mul_right h2 hEp
        have h4 : ((n * 2 ^ 53 : Nat) : Rat) ≤ (D : Rat) := Rat.natCast_le_natCast.2 hD
        have h5 : (0 : Rat) < (D : Rat) := Rat.natCast_pos.2 (by
          have : 0 < n * 2 ^ 53 := Nat.mul_pos hn (by decide)
          omega)
        grind
      · intro _
        exact Rat.le_trans hlo (en _ _ (Nat.le_trans (by decide) hm3))
  have ht0 : 0 ≤ t := by
    have h1 : 0 ≤ t * (n : Rat) * two b := by
      rw [ht]
      exact Rat.mul_nonneg (Rat.mul_nonneg (by decide) Rat.natCast_nonneg) (Rat.le_of_lt hEp)
    by_cases h : 0 ≤ t
    · exact h
    · exfalso
      have h2 := Rat.mul_pos (Rat.mul_pos (show 0 < -t by have := Rat.not_le.1 h; grind) hnp) hbp
      grind
  have hB' : ((at_ m pl (-(b : Int)) : Nat) : Rat) / two b ≤ rq R := by rw [ea, ht']; exact (side R hR).1 hB
  obtain ⟨k1, k2, n1, n2⟩ := rung_rnd hb hp hR hB'
  rw [ea, ht'] at k2 n1 n2
  obtain ⟨r0, r1, r2, r3, r4⟩ := k2
  -- how far the cut is from the quotient
  have c1 : (n : Rat) * (m : Rat) ≤ 2 * (D : Rat) + n := by
    have := Rat.natCast_le_natCast.2 hm1
    rw [Rat.natCast_add, Rat.natCast_mul, Rat.natCast_mul] at this
    exact this
  have c2 : 2 * (D : Rat) ≤ (n : Rat) * (m : Rat) + n := by
    have := Rat.natCast_le_natCast.2 hm2
    rw [Rat.natCast_add, Rat.natCast_mul, Rat.natCast_mul] at this
    exact this
  have c3 : (n : Rat) * 9007199254740992 ≤ (D : Rat) := by
    have := Rat.natCast_le_natCast.2 hD
    rw [Rat.natCast_mul] at this
    exact this
  have e1 : t' * (n : Rat) * two b = (n : Rat) * (m : Rat) * two E := by grind
  have d1 : t' * (n : Rat) * two b ≤ t * (n : Rat) * two b + n * two E := by
    have := Rat.mul_le_mul_of_nonneg_right c1 (Rat.le_of_lt hEp); grind
  have d2 : t * (n : Rat) * two b ≤ t' * (n : Rat) * two b + n * two E := by
    have := Rat.mul_le_mul_of_nonneg_right c2 (Rat.le_of_lt hEp); grind
  have d3 : n * two E * 18014398509481984 ≤ t * (n : Rat) * two b := by
    have := Rat.mul_le_mul_of_nonneg_right c3 (Rat.le_of_lt hEp); grind
  have nb : (0 : Rat) < (n : Rat) * two b := Rat.mul_pos hnp hbp
  have f1 : t' ≤ t + t / 18014398509481984 := by
    apply Rat.le_of_mul_le_mul_right _ nb; grind
  have f2 : t ≤ t' + t / 18014398509481984 := by
    apply Rat.le_of_mul_le_mul_right _ nb; grind
  have g1 : slack' t' + t / 18014398509481984 ≤ slack t := by unfold slack slack'; rw [two52, two53]; grind
  refine ⟨k1, r0, .inl (by grind), .inl (by grind), fun s hs hts => ?_, fun s hs hst => ?_⟩
  · obtain ⟨r, hr, rfl⟩ := rep_rung hs (Rat.le_trans ht0 hts)
    exact r3 _ hs ((side r hr).1 hts)
  · by_cases h0 : 0 ≤ s
    · obtain ⟨r, hr, rfl⟩ := rep_rung hs h0
      exact r4 _ hs ((side r hr).2 hst)
    · exact Rat.le_trans (Rat.le_of_lt (Rat.not_le.1 h0)) (rq_nonneg _)

theorem read_dq' {x : Nat} (h : Fin x) : ∃ s m p, double.read x = .number s m p ∧ -(lpn : Int) ≤ p ∧ fq x = dq s m p ∧ m < 2 ^ 53 := by
  obtain ⟨s, m, p, e, l, v⟩ := read_dq h
  refine ⟨s, m, p, e, l, v, ?_⟩
  unfold Format.read at e
  have hb : double.binade = 4503599627370496 := by decide
  rw [hb] at e
  simp only [] at e
  split at e
  · simp only [Datum.number.injEq] at e
    omega
  · split at e
    · simp only [Datum.number.injEq] at e
      omega
    · split at e <;> cases e

theorem rnd_zero : Rnd 0 0 := by
  have h : (0 : Rat) ≤ slack 0 := by
    unfold slack
    have h1 := div_le_div (two_pos (lpn + 1)) (show (0 : Rat) ≤ 1 by decide)
    rw [Rat.div_def 0, Rat.zero_mul] at h1
    rw [Rat.div_def 0, Rat.zero_mul]
    grind
  exact ⟨rep_zero, .inl (by grind), .inl (by grind), fun s _ h => h, fun s _ h => h⟩

theorem div_rnd {x y R : Nat} (hx : Fin x) (hy : Fin y) (hy0 : fq y ≠ 0) (hR : R < double.infRung) (hB : Size (fq x / fq y) (rq R)) :
    ∃ r, double.div x y = some r ∧ Fin r ∧ Rnd (fq x / fq y) (fq r) := by
  obtain ⟨s, m, i, e1, l1, v1, m1⟩ := read_dq' hx
  obtain ⟨t, n, j, e2, l2, v2, m2⟩ := read_dq' hy
  have hn : n ≠ 0 := by
    rintro rfl
    apply hy0
    rw [v2, dq_abs, Nat.zero_mul]
    have : ((0 : Nat) : Rat) / two lpn = 0 := by rw [Rat.div_def]; exact Rat.zero_mul _
    rw [this]
    split <;> grind
  have hnp : (0 : Rat) < (n : Rat) := Rat.natCast_pos.2 (Nat.pos_of_ne_zero hn)
  unfold Format.div
  rw [e1, e2]
  simp only [Datum.quotient, if_neg hn]
  have hfb : double.fractionBits + 2 = 54 := by decide
  rw [hfb]
  obtain ⟨mo, hmo⟩ : ∃ mo, 54 + n.log2 - m.log2 = mo := ⟨_, rfl⟩
  rw [hmo]
  simp only [Option.map_some, Format.write]
  refine ⟨_, rfl, ?_⟩
  have hlp := two_pos lpn
  have hlc := Rat.mul_inv_cancel _ (Rat.ne_of_gt hlp)
  -- the size
  obtain ⟨A, hA⟩ : ∃ A, two (i + lpn).toNat = A := ⟨_, rfl⟩
  obtain ⟨C, hC⟩ : ∃ C, two (j + lpn).toNat = C := ⟨_, rfl⟩
  have hAp : 0 < A := by rw [← hA]; exact two_pos _
  have hCp : 0 < C := by rw [← hC]; exact two_pos _
  have ex : fq x = if s then -((m : Rat) * A / two lpn) else (m : Rat) * A / two lpn := by
    rw [v1, dq_abs, Rat.natCast_mul, ← hA]; rfl
  have ey : fq y = if t then -((n : Rat) * C / two lpn) else (n : Rat) * C / two lpn := by
    rw [v2, dq_abs, Rat.natCast_mul, ← hC]; rfl
  have hnC : (n : Rat) * C ≠ 0 := Rat.ne_of_gt (Rat.mul_pos hnp hCp)
  have hi1 := Rat.mul_inv_cancel _ hnC
  have hq : fq x / fq y = if (s ^^ t) then -((m : Rat) * A / ((n : Rat) * C)) else (m : Rat) * A / ((n : Rat) * C) := by
    have g : ∀ a c : Rat, c ≠ 0 → (a / two lpn) / (c / two lpn) = a / c := fun a c hc => by
      have h1 := Rat.mul_inv_cancel _ hc
      rw [Rat.div_def, Rat.div_def, Rat.div_def, Rat.div_def, Rat.inv_mul_rev, Rat.inv_inv]; grind
    have gn : ∀ a c : Rat, -a / c = -(a / c) := fun a c => by rw [Rat.div_def, Rat.div_def]; grind
    have gd : ∀ a c : Rat, c ≠ 0 → a / -c = -(a / c) := fun a c hc => by
      have h1 := Rat.mul_inv_cancel _ hc
      have : (-c)⁻¹ = -(c⁻¹) := Rat.inv_eq_of_mul_eq_one (by grind)
      rw [Rat.div_def, Rat.div_def, this]; grind
    have hd : (n : Rat) * C / two lpn ≠ 0 := by
      rw [Rat.div_def]
      exact Rat.ne_of_gt (Rat.mul_pos (Rat.mul_pos hnp hCp) (Rat.inv_pos.2 hlp))
    rw [ex, ey]
    cases s <;> cases t <;> simp only [Bool.xor_false, Bool.xor_true, Bool.not_true, Bool.not_false, Bool.false_eq_true, if_true, if_false]
    · rw [g _ _ hnC]
    · rw [gd _ _ hd, g _ _ hnC]
    · rw [gn, g _ _ hnC]
    · rw [gn, gd _ _ hd, g _ _ hnC]; grind
  rw [hq] at hB ⊢
  obtain ⟨T, hT⟩ : ∃ T, (m : Rat) * A / ((n : Rat) * C) = T := ⟨_, rfl⟩
  have hTm : T * ((n : Rat) * C) = (m : Rat) * A := by rw [← hT]; exact Rat.div_mul_cancel hnC
  rw [hT] at hB ⊢
  clear hq ex ey hT e1 e2 v1 v2 hi1 hlc
  have core : rungOf double (2 * ((m <<< mo) / n) + ((m <<< mo) % n != 0).toNat) (i - j - mo - 1) < double.infRung ∧
      Rnd T (rq (rungOf double (2 * ((m <<< mo) / n) + ((m <<< mo) % n != 0).toNat) (i - j - mo - 1))) := by
    by_cases hm0 : m = 0
    · subst hm0
      have hT0 : T = 0 := by
        have h1 : T * ((n : Rat) * C) = 0 := by rw [hTm]; exact Rat.zero_mul _
        rcases Rat.mul_eq_zero.1 h1 with h | h
        · exact h
        · exact absurd h hnC
      rw [quot_zero, hT0]
      have e0 : rungOf double 0 (i - j - mo - 1) = 0 := by unfold rungOf; rw [if_pos rfl]
      rw [e0, rq_zero]
      exact ⟨by rw [ir64]; omega, rnd_zero⟩
    · have hml : m.log2 < 53 := (Nat.log2_lt hm0).2 m1
      have hlo := Nat.log2_self_le hm0
      have hhi := Nat.lt_log2_self (n := n)
      obtain ⟨b, hb1, hb2⟩ : ∃ b : Nat, lpn ≤ b ∧ -(b : Int) ≤ i - j - mo - 1 := ⟨lpn + (j - i + mo + 1).toNat, by omega, by omega⟩
      obtain ⟨E, hE⟩ : ∃ E, (i - j - mo - 1 + b).toNat = E := ⟨_, rfl⟩
      have hex : b + (i + lpn).toNat = 1 + mo + E + (j + lpn).toNat := by omega
      have hex2 : two b * A = 2 * two mo * two E * C := by
        have := congrArg two hex
        rw [two_add, two_add, two_add, two_add, two_one, hA, hC] at this
        exact this
      have hD : n * 2 ^ 53 ≤ m <<< mo := by
        rw [Nat.shiftLeft_eq]
        have h1 : 2 ^ m.log2 * 2 ^ mo ≤ m * 2 ^ mo := Nat.mul_le_mul_right _ hlo
        have h2 : 2 ^ m.log2 * 2 ^ mo = 2 ^ (n.log2 + 1) * 2 ^ 53 := by
          rw [← Nat.pow_add, ← Nat.pow_add]
          have : m.log2 + mo = n.log2 + 1 + 53 := by omega
          rw [this]
        have h3 : n * 2 ^ 53 ≤ 2 ^ (n.log2 + 1) * 2 ^ 53 := Nat.mul_le_mul_right _ (Nat.le_of_lt hhi)
        omega
      refine quo_rnd (E := E) (b := b) (q := 0) (R := R) (Nat.pos_of_ne_zero hn) rfl hD hb1 hb2 hE ?_ hR ?_
      · rw [Nat.shiftLeft_eq, Rat.natCast_mul]
        show _ = 2 * ((m : Rat) * two mo) * two E
        generalize two mo = M at *
        generalize two E = F at *
        generalize two b = G at *
        have h1 : T * (n : Rat) * G * C = 2 * ((m : Rat) * M) * F * C := by
          have : T * (n : Rat) * G * C = (m : Rat) * A * G := by rw [← hTm]; grind
          rw [this]; grind
        have h2 := Rat.mul_inv_cancel _ (Rat.ne_of_gt hCp)
        have h3 : T * (n : Rat) * G * C * C⁻¹ = 2 * ((m : Rat) * M) * F * C * C⁻¹ := by rw [h1]
        grind
      · obtain ⟨b1, b2⟩ := hB
        cases hst : (s ^^ t)
        · rw [hst] at b1; exact b1
        · rw [hst] at b2
          simp only [if_true, Rat.neg_neg] at b2
          exact b2
  obtain ⟨c1, c2⟩ := core
  rw [nearest_rung]
  refine ⟨fin_word _ c1, ?_⟩
  rw [fq_word _ c1]
  cases hst : (s ^^ t)
  · exact c2
  · exact c2.neg

end Flt
end Go.Proofs.Ytocjhanehphibaa
/-
  Floats that have a rational value; exact sums of numbers with few digits; sums that are near. No program.
-/
set_option linter.unusedVariables false
set_option linter.unusedSimpArgs false
namespace Go.Proofs.Ytocjhanehphibaa
open Go Flt
namespace Flt
open Ieee (double Format Datum signed)

theorem one_div_two_le {a b : Nat} (h : a ≤ b) : 1 / two b ≤ 1 / two a := by
  have h1 := two_le h
  have ha := two_pos a
  have hb := two_pos b
  have i1 := Rat.inv_pos.2 ha
  have i2 := Rat.inv_pos.2 hb
  have c1 := Rat.mul_inv_cancel _ (Rat.ne_of_gt ha)
  have c2 := Rat.mul_inv_cancel _ (Rat.ne_of_gt hb)
  have h2 := Rat.mul_le_mul_of_nonneg_right h1 (Rat.le_of_lt (Rat.mul_pos i1 i2))
  have e1 : two a * ((two a)⁻¹ * (two b)⁻¹) = (two b)⁻¹ := by rw [← Rat.mul_assoc, c1, Rat.one_mul]
  have e2 : two b * ((two a)⁻¹ * (two b)⁻¹) = (two a)⁻¹ := by rw [Rat.mul_comm (two a)⁻¹, ← Rat.mul_assoc, c2, Rat.one_mul]
  rw [e1, e2] at h2
  rw [Rat.div_def, Rat.div_def, Rat.one_mul, Rat.one_mul]
  exact h2
theorem tiny_le : tiny ≤ 1 / 1267650600228229401496703205376 := by
  have : (1267650600228229401496703205376 : Rat) = two 100 := rfl
  rw [this]
  exact one_div_two_le (by unfold lpn; omega)

/-- A rung that is greater than all that is met. -/
def bigR : Nat := 9110782046170513408
theorem bigR_lt : bigR < double.infRung := by rw [ir64]; decide
theorem bigR_q : rq bigR = two 1000 := by
  have h := rung_of (f := double) (k := 1) (q := lpn + 1000) (by decide) (by decide) (by
    have : double.fractionBits = 52 := by decide
    rw [this]; unfold lpn; omega)
  have e1 : (1 : Nat).log2 = 0 := by decide
  have e2 : double.fractionBits = 52 := by decide
  have e3 : double.binade = 4503599627370496 := by decide
  rw [e1, e2, e3] at h
  have e4 : (lpn + 1000 + 0 - 52) * 4503599627370496 + 1 * 2 ^ (52 - 0) = bigR := by unfold lpn bigR; decide
  rw [e4] at h
  unfold rq
  rw [h, Nat.one_mul, ← two_nat, Nat.add_comm, two_add]
  rw [Rat.div_def, Rat.mul_assoc, Rat.mul_inv_cancel _ (Rat.ne_of_gt (two_pos lpn)), Rat.mul_one]

/-- A float with the value q. -/
def Fv (z : Option Nat) (q : Rat) : Prop := ∃ x, z = some x ∧ Fin x ∧ fq x = q

theorem Fv.rep {z : Option Nat} {q : Rat} (h : Fv z q) : Rep q := by
  obtain ⟨x, -, h1, h2⟩ := h
  exact ⟨x, h1, h2⟩
theorem Fv.of_isF {u : Nat} {z : Option Nat} {q : Rat} (h : IsF u z) (hz : Fv z q) : Fin u ∧ fq u = q := by
  obtain ⟨x, rfl, h1, h2⟩ := hz
  have h3 := h.cn
  unfold Flt.cn at h3
  split at h3
  · cases h3
  · cases h3
    exact ⟨h1, h2⟩
theorem Fv.mk {u : Nat} (h : Fin u) : Fv (some u) (fq u) := ⟨u, rfl, h, rfl⟩

def Moderate (t : Rat) : Prop := Size t (two 1000)
theorem Moderate.big {t : Rat} (h : Moderate t) : Size t (rq bigR) := by rw [bigR_q]; exact h

section
variable {a b : Option Nat} {p q : Rat}
theorem fv_add (ha : Fv a p) (hb : Fv b q) (hB : Moderate (p + q)) : ∃ r, Fv (fop .add .f64 a b) r ∧ Rnd (p + q) r := by
  obtain ⟨x, rfl, h1, rfl⟩ := ha
  obtain ⟨y, rfl, h2, rfl⟩ := hb
  obtain ⟨r, e, h3, h4⟩ := add_rnd h1 h2 bigR_lt hB.big
  exact ⟨fq r, ⟨r, e, h3, rfl⟩, h4⟩
theorem fv_sub (ha : Fv a p) (hb : Fv b q) (hB : Moderate (p - q)) : ∃ r, Fv (fop .sub .f64 a b) r ∧ Rnd (p - q) r := by
  obtain ⟨x, rfl, h1, rfl⟩ := ha
  obtain ⟨y, rfl, h2, rfl⟩ := hb
  obtain ⟨r, e, h3, h4⟩ := sub_rnd h1 h2 bigR_lt hB.big
  exact ⟨fq r, ⟨r, e, h3, rfl⟩, h4⟩
theorem fv_mul (ha : Fv a p) (hb : Fv b q) (hB : Moderate (p * q)) : ∃ r, Fv (fop .mul .f64 a b) r ∧ Rnd (p * q) r := by
  obtain ⟨x, rfl, h1, rfl⟩ := ha
  obtain ⟨y, rfl, h2, rfl⟩ := hb
  obtain ⟨r, e, h3, h4⟩ := mul_rnd h1 h2 bigR_lt hB.big
  exact ⟨fq r, ⟨r, e, h3, rfl⟩, h4⟩
theorem fv_div (ha : Fv a p) (hb : Fv b q) (hq : q ≠ 0) (hB : Moderate (p / q)) : ∃ r, Fv (fop .quo .f64 a b) r ∧ Rnd (p / q) r := by
  obtain ⟨x, rfl, h1, rfl⟩ := ha
  obtain ⟨y, rfl, h2, rfl⟩ := hb
  obtain ⟨r, e, h3, h4⟩ := div_rnd h1 h2 hq bigR_lt hB.big
  exact ⟨fq r, ⟨r, e, h3, rfl⟩, h4⟩
theorem fv_int {n : Int} (hB : Moderate (n : Rat)) : ∃ r, Fv (some (floatOfInt .f64 n)) r ∧ Rnd (n : Rat) r := by
  obtain ⟨h1, h2⟩ := int_rnd bigR_lt hB.big
  exact ⟨_, Fv.mk h1, h2⟩
end

/-- A number with few digits: k / 2^e, k no greater than K. -/
def Dy (e K : Nat) (q : Rat) : Prop := ∃ k : Int, k.natAbs ≤ K ∧ q * two e = (k : Rat)

theorem Dy.mono {e K L : Nat} {q : Rat} (h : Dy e K q) (hl : K ≤ L) : Dy e L q := by
  obtain ⟨k, h1, h2⟩ := h
  exact ⟨k, by omega, h2⟩
theorem Dy.zero (e K : Nat) : Dy e K 0 := ⟨0, by simp, by rw [Rat.zero_mul]; rfl⟩
theorem Dy.add {e K L : Nat} {p q : Rat} (h : Dy e K p) (h' : Dy e L q) : Dy e (K + L) (p + q) := by
  obtain ⟨k, h1, h2⟩ := h
  obtain ⟨l, h3, h4⟩ := h'
  refine ⟨k + l, by omega, ?_⟩
  rw [Rat.intCast_add, ← h2, ← h4]; grind
theorem Dy.neg {e K : Nat} {p : Rat} (h : Dy e K p) : Dy e K (-p) := by
  obtain ⟨k, h1, h2⟩ := h
  refine ⟨-k, by omega, ?_⟩
  rw [Rat.intCast_neg, ← h2]; grind
theorem Dy.sub {e K L : Nat} {p q : Rat} (h : Dy e K p) (h' : Dy e L q) : Dy e (K + L) (p - q) := by
  rw [Rat.sub_eq_add_neg]; exact h.add h'.neg
theorem Dy.mul {e f K L : Nat} {p q : Rat} (h : Dy e K p) (h' : Dy f L q) : Dy (e + f) (K * L) (p * q) := by
  obtain ⟨k, h1, h2⟩ := h
  obtain ⟨l, h3, h4⟩ := h'
  refine ⟨k * l, by rw [Int.natAbs_mul]; exact Nat.mul_le_mul h1 h3, ?_⟩
  rw [Rat.intCast_mul, ← h2, ← h4, two_add]; grind
theorem Dy.of_int {n : Int} {K : Nat} (h : n.natAbs ≤ K) : Dy 0 K (n : Rat) := ⟨n, h, by rw [two_zero, Rat.mul_one]⟩
theorem Dy.size {e K : Nat} {q : Rat} (h : Dy e K q) : Size q (K : Rat) := by
  obtain ⟨k, h1, h2⟩ := h
  have h3 : (1 : Rat) ≤ two e := by rw [← two_zero]; exact two_le (Nat.zero_le _)
  have h4 : (k : Rat) ≤ (K : Rat) := by rw [← Rat.intCast_natCast]; exact Rat.intCast_le_intCast.2 (by omega)
  have h5 : -(k : Rat) ≤ (K : Rat) := by rw [← Rat.intCast_natCast, ← Rat.intCast_neg]; exact Rat.intCast_le_intCast.2 (by omega)
  have h6 : (0 : Rat) ≤ (K : Rat) := Rat.natCast_nonneg
  constructor
  · refine Rat.not_lt.1 fun h => ?_
    have := Rat.mul_le_mul_of_nonneg_left h3 (Rat.le_trans h6 (Rat.le_of_lt h))
    grind
  · refine Rat.not_lt.1 fun h => ?_
    have := Rat.mul_le_mul_of_nonneg_left h3 (Rat.le_trans h6 (Rat.le_of_lt h))
    grind
theorem cast_le_two {K n : Nat} (h : K ≤ 2 ^ n) : (K : Rat) ≤ two n := Rat.natCast_le_natCast.2 h
theorem Dy.moderate {e K : Nat} {q : Rat} (h : Dy e K q) (hK : K ≤ 2 ^ 53) : Moderate q := by
  have h1 := h.size
  have h2 : (K : Rat) ≤ two 1000 := Rat.le_trans (cast_le_two hK) (two_le (by omega))
  exact ⟨Rat.le_trans h1.1 h2, Rat.le_trans h1.2 h2⟩

theorem rep_nat {k e : Nat} (hk : k < 2 ^ 53) (he : e ≤ 1000) {q : Rat} (h : q * two e = (k : Rat)) : Rep q := by
  have hl : e ≤ lpn := by unfold lpn; omega
  by_cases h0 : k = 0
  · have : q = 0 := by
      have h1 : q * two e = 0 := by rw [h, h0]; rfl
      rcases Rat.mul_eq_zero.1 h1 with h | h
      · exact h
      · exact absurd h (Rat.ne_of_gt (two_pos e))
    rw [this]; exact rep_zero
  · have e2 : double.fractionBits = 52 := by decide
    have e3 : double.binade = 4503599627370496 := by decide
    have hl53 : k.log2 < 53 := (Nat.log2_lt h0).2 hk
    have hv := rung_of (f := double) (k := k) (q := lpn - e) h0 (by rw [e3]; omega) (by rw [e2]; unfold lpn; omega)
    rw [e2, e3] at hv
    have hhi := Nat.lt_log2_self (n := k)
    have h53 : k * 2 ^ (52 - k.log2) ≤ 2 ^ (k.log2 + 1) * 2 ^ (52 - k.log2) := Nat.mul_le_mul_right _ (Nat.le_of_lt hhi)
    rw [← Nat.pow_add, show k.log2 + 1 + (52 - k.log2) = 53 by omega] at h53
    have hlt : (lpn - e + k.log2 - 52) * 4503599627370496 + k * 2 ^ (52 - k.log2) < double.infRung := by
      rw [ir64]
      have : lpn - e + k.log2 - 52 ≤ 1100 := by unfold lpn; omega
      omega
    have hr := rep_rq hlt
    have : rq ((lpn - e + k.log2 - 52) * 4503599627370496 + k * 2 ^ (52 - k.log2)) = q := by
      have hs : two lpn = two e * two (lpn - e) := by rw [← two_add, Nat.add_sub_cancel' hl]
      unfold rq
      rw [hv, Rat.natCast_mul, ← h, hs]
      show q * two e * two (lpn - e) / (two e * two (lpn - e)) = q
      have h1 := Rat.mul_inv_cancel _ (Rat.ne_of_gt (two_pos e))
      have h2 := Rat.mul_inv_cancel _ (Rat.ne_of_gt (two_pos (lpn - e)))
      rw [Rat.div_def, Rat.inv_mul_rev]; grind
    rw [this] at hr
    exact hr
theorem Dy.rep {e K : Nat} {q : Rat} (h : Dy e K q) (hK : K < 2 ^ 53) (he : e ≤ 1000) : Rep q := by
  obtain ⟨k, h1, h2⟩ := h
  by_cases hk : 0 ≤ k
  · obtain ⟨n, rfl⟩ : ∃ n : Nat, k = (n : Int) := ⟨k.natAbs, by omega⟩
    exact rep_nat (k := n) (by omega) he (by rw [h2, Rat.intCast_natCast])
  · obtain ⟨n, rfl⟩ : ∃ n : Nat, k = -(n : Int) := ⟨k.natAbs, by omega⟩
    have := rep_neg (rep_nat (k := n) (q := -q) (by omega) he (by rw [Rat.intCast_neg, Rat.intCast_natCast] at h2; grind))
    rwa [Rat.neg_neg] at this

section
variable {a b : Option Nat} {p q : Rat} {e K : Nat}
theorem Dy.fv_add (h : Dy e K (p + q)) (hK : K < 2 ^ 53) (he : e ≤ 1000) (ha : Fv a p) (hb : Fv b q) : Fv (fop .add .f64 a b) (p + q) := by
  obtain ⟨r, h1, h2⟩ := Flt.fv_add ha hb (h.moderate (by omega))
  rw [h2.exact (h.rep hK he)] at h1; exact h1
theorem Dy.fv_sub (h : Dy e K (p - q)) (hK : K < 2 ^ 53) (he : e ≤ 1000) (ha : Fv a p) (hb : Fv b q) : Fv (fop .sub .f64 a b) (p - q) := by
  obtain ⟨r, h1, h2⟩ := Flt.fv_sub ha hb (h.moderate (by omega))
  rw [h2.exact (h.rep hK he)] at h1; exact h1
theorem Dy.fv_mul (h : Dy e K (p * q)) (hK : K < 2 ^ 53) (he : e ≤ 1000) (ha : Fv a p) (hb : Fv b q) : Fv (fop .mul .f64 a b) (p * q) := by
  obtain ⟨r, h1, h2⟩ := Flt.fv_mul ha hb (h.moderate (by omega))
  rw [h2.exact (h.rep hK he)] at h1; exact h1
theorem Dy.fv_div (h : Dy e K (p / q)) (hK : K < 2 ^ 53) (he : e ≤ 1000) (hq : q ≠ 0) (ha : Fv a p) (hb : Fv b q) : Fv (fop .quo .f64 a b) (p / q) := by
  obtain ⟨r, h1, h2⟩ := Flt.fv_div ha hb hq (h.moderate (by omega))
  rw [h2.exact (h.rep hK he)] at h1; exact h1
theorem fv_int_exact {n : Int} (h : n.natAbs < 2 ^ 53) : Fv (some (floatOfInt .f64 n)) (n : Rat) := by
  have hd := Dy.of_int (n := n) (Nat.le_refl _)
  obtain ⟨r, h1, h2⟩ := fv_int (hd.moderate (by omega))
  rw [h2.exact (hd.rep h (by omega))] at h1; exact h1
end

/-- A sum of rational numbers. -/
def psum (p : Nat → Rat) : Nat → Rat
  | 0 => 0
  | n + 1 => psum p n + p n
theorem psum_dy {p : Nat → Rat} {e K n : Nat} (h : ∀ i, i < n → Dy e K (p i)) : Dy e (n * K) (psum p n) := by
  induction n with
  | zero => exact Dy.zero _ _
  | succ n ih =>
    rw [Nat.add_mul, Nat.one_mul]
    exact (ih fun i hi => h i (by omega)).add (h n (by omega))

/-- Sums of numbers with few digits are exact. -/
theorem sumO_dy {z : Nat → Option Nat} {p : Nat → Rat} {e K n : Nat} (hz : ∀ i, i < n → Fv (z i) (p i)) (h : ∀ i, i < n → Dy e K (p i)) (hK : n * K < 2 ^ 53) (he : e ≤ 1000) (hn : 0 < n) : Fv (sumO z n) (psum p n) := by
  induction n with
  | zero => omega
  | succ n ih =>
    unfold sumO
    by_cases h0 : n = 0
    · subst h0
      rw [if_pos rfl]
      show Fv (z 0) (0 + p 0)
      rw [Rat.zero_add]
      exact hz 0 (by omega)
    · rw [if_neg h0]
      have hle : n * K ≤ (n + 1) * K := Nat.mul_le_mul_right _ (by omega)
      exact (psum_dy h).fv_add hK he (ih (fun i hi => hz i (by omega)) (fun i hi => h i (by omega)) (by omega) (by omega)) (hz n (by omega))

end Flt
end Go.Proofs.Ytocjhanehphibaa
/-
  Sums of rational numbers; sums of floats that are near. No program.
-/
set_option linter.unusedVariables false
set_option linter.unusedSimpArgs false
namespace Go.Proofs.Ytocjhanehphibaa
open Go Flt
namespace Flt

theorem psum_succ (p : Nat → Rat) (n : Nat) : psum p (n + 1) = psum p n + p n := rfl
theorem psum_congr {p q : Nat → Rat} {n : Nat} (h : ∀ i, i < n → p i = q i) : psum p n = psum q n := by
  induction n with
  | zero => rfl
  | succ n ih => rw [psum_succ, psum_succ, ih fun i hi => h i (by omega), h n (by omega)]
theorem psum_nonneg {p : Nat → Rat} {n : Nat} (h : ∀ i, i < n → 0 ≤ p i) : 0 ≤ psum p n := by
  induction n with
  | zero => exact Rat.le_refl
  | succ n ih => rw [psum_succ]; exact Rat.add_nonneg (ih fun i hi => h i (by omega)) (h n (by omega))
theorem psum_mono {p : Nat → Rat} {m n : Nat} (h : ∀ i, i < n → 0 ≤ p i) (hm : m ≤ n) : psum p m ≤ psum p n := by
  induction n with
  | zero => rw [show m = 0 by omega]; exact Rat.le_refl
  | succ n ih =>
    by_cases hmn : m = n + 1
    · rw [hmn]; exact Rat.le_refl
    · have h1 := ih (fun i hi => h i (by omega)) (by omega)
      have h2 := h n (by omega)
      rw [psum_succ]; grind
theorem psum_term {p : Nat → Rat} {n t : Nat} (h : ∀ i, i < n → 0 ≤ p i) (ht : t < n) : p t ≤ psum p n := by
  have h1 := psum_mono (m := t + 1) h (by omega)
  have h2 := psum_nonneg (p := p) (n := t) fun i hi => h i (by omega)
  rw [psum_succ] at h1; grind
theorem psum_mul (p : Nat → Rat) (c : Rat) (n : Nat) : psum (fun i => p i * c) n = psum p n * c := by
  induction n with
  | zero => exact (Rat.zero_mul _).symm
  | succ n ih => rw [psum_succ, psum_succ, ih]; grind

/-- Sums of numbers that are known nearly. -/
theorem sumO_near {z : Nat → Option Nat} {r p : Nat → Rat} {e B : Rat} {n : Nat} (hz : ∀ i, i < n → Fv (z i) (r i)) (hr : ∀ i, i < n → Near (r i) (p i) e)
    (he : 0 ≤ e) (hB : B ≤ two 1000) (hB0 : 0 ≤ B) (hs : ∀ k, k < n → Size (psum p (k + 1)) (B - ((k : Rat) + 1) * (e + (B / two 52 + tiny)))) (hn : 0 < n) :
    ∃ s, Fv (sumO z n) s ∧ Near s (psum p n) ((n : Rat) * (e + (B / two 52 + tiny))) := by
  have hd0 : 0 ≤ B / two 52 + tiny := by
    have h1 : 0 ≤ B / two 52 := by rw [Rat.div_def]; exact Rat.mul_nonneg hB0 (Rat.le_of_lt (Rat.inv_pos.2 (two_pos _)))
    exact Rat.add_nonneg h1 (Rat.le_of_lt tiny_pos)
  generalize hd : B / two 52 + tiny = d at *
  induction n with
  | zero => omega
  | succ n ih =>
    by_cases h0 : n = 0
    · subst h0
      refine ⟨r 0, hz 0 (by omega), ?_⟩
      have h1 := hr 0 (by omega)
      show Near (r 0) (0 + p 0) (((0 + 1 : Nat) : Rat) * (e + d))
      rw [Rat.zero_add, show ((0 + 1 : Nat) : Rat) = 1 from rfl, Rat.one_mul]
      unfold Near at *
      grind
    · obtain ⟨s, h1, h2⟩ := ih (fun i hi => hz i (by omega)) (fun i hi => hr i (by omega)) (by omega) (fun k hk => hs k (by omega))
      have h3 := hs n (by omega)
      have h4 := hr n (by omega)
      have ec : ((n + 1 : Nat) : Rat) = (n : Rat) + 1 := by rw [Rat.natCast_add]; rfl
      have hX : ((n : Rat) + 1) * (e + d) = (n : Rat) * (e + d) + (e + d) := by grind
      have hsz : Size (s + r n) B := by
        rw [psum_succ, hX] at h3
        obtain ⟨a1, a2⟩ := h2
        obtain ⟨b1, b2⟩ := h3
        obtain ⟨c1, c2⟩ := h4
        generalize (n : Rat) * (e + d) = X at *
        clear hs hr hz ih hd hX
        constructor <;> grind
      obtain ⟨t, h5, h6⟩ := fv_add h1 (hz n (by omega)) ⟨Rat.le_trans hsz.1 hB, Rat.le_trans hsz.2 hB⟩
      refine ⟨t, ?_, ?_⟩
      · unfold sumO; rw [if_neg h0]; exact h5
      · have h7 := h6.near hsz
        rw [hd] at h7
        rw [ec, psum_succ, hX]
        obtain ⟨a1, a2⟩ := h2
        obtain ⟨b1, b2⟩ := h7
        obtain ⟨c1, c2⟩ := h4
        generalize (n : Rat) * (e + d) = X at *
        clear hs hr hz ih hd hX h3 hsz h5 h6
        constructor <;> grind

end Flt
end Go.Proofs.Ytocjhanehphibaa
/-
  Words with a value, and the operations on them. No program.
-/
set_option linter.unusedVariables false
set_option linter.unusedSimpArgs false
namespace Go.Proofs.Ytocjhanehphibaa
open Go.RowKit Flt

/-- A word with a value. -/
def Has (u : Nat) (q : Rat) : Prop := Fin u ∧ fq u = q
theorem Has.lt {u : Nat} {q : Rat} (h : Has u q) : u < 18446744073709551616 := h.1.1
theorem Has.isF {u : Nat} {q : Rat} (h : Has u q) : IsF u (some u) := by
  refine IsF.lit ?_ h.1.1
  show nan Ieee.double u = false
  rw [nan64]
  have := h.1.2
  simp; omega
theorem Has.fv {u : Nat} {q : Rat} (h : Has u q) : Fv (some u) q := ⟨u, rfl, h.1, h.2⟩
theorem Has.of {u : Nat} {z : Option Nat} {q : Rat} (h : IsF u z) (hz : Fv z q) : Has u q := Fv.of_isF h hz
theorem has_int {u : Nat} {n : Int} (h : n.natAbs < 2 ^ 53) (e : floatOfInt .f64 n = u) : Has u (n : Rat) := by
  obtain ⟨x, e1, h1, h2⟩ := fv_int_exact h
  cases e1
  rw [e] at h1 h2
  exact ⟨h1, h2⟩
theorem has_one : Has 4607182418800017408 1 := has_int (n := 1) (by decide) (by decide)
theorem has_three : Has 4613937818241073152 3 := has_int (n := 3) (by decide) (by decide)
theorem has_eight : Has 4620693217682128896 8 := has_int (n := 8) (by decide) (by decide)
theorem has_zero : Has 0 0 := has_int (n := 0) (by decide) (by decide)

theorem has_neg {u : Nat} {q : Rat} (h : Has u q) : Has (Op.negFloat .f64 u) (-q) := by
  have e : Op.negFloat .f64 u = u ^^^ 2 ^ 63 := rfl
  obtain ⟨h1, rfl⟩ := h
  obtain ⟨neg, r, hr, rfl⟩ := fin_parts h1
  have hs : Ieee.double.signWeight = 9223372036854775808 := by decide
  have hr' := hr
  rw [ir64] at hr'
  have e2 : Op.negFloat .f64 (Ieee.double.word neg r) = Ieee.double.word (!neg) r := by
    show Ieee.double.word neg r ^^^ 2 ^ 63 = _
    unfold Ieee.Format.word
    rw [hs]
    cases neg
    · simp only [Bool.false_eq_true, if_false, Bool.not_false, if_true]
      rw [neg64_lo (x := r) (by omega)]; omega
    · simp only [Bool.not_true, Bool.false_eq_true, if_false, if_true]
      rw [neg64_hi (x := 9223372036854775808 + r) (by omega) (by omega)]; omega
  rw [e2]
  refine ⟨fin_word _ hr, ?_⟩
  rw [fq_word _ hr, fq_word _ hr]
  cases neg
  · rfl
  · simp only [Bool.not_true, Bool.false_eq_true, if_false, if_true]; rw [Rat.neg_neg]

theorem run_has {op : BinOp} (hop : op = .add ∨ op = .sub ∨ op = .mul ∨ op = .quo) {x y : Nat} {r : Rat} (hr : Fv (fop op .f64 (some x) (some y)) r) :
    ∃ d, Has d r ∧ ∀ (P : Program) (t : TypeId) (w : World), (binOp op t (.float .f64 x) (.float .f64 y)).run P w = .ok (.float .f64 d) w := by
  obtain ⟨d, e, h1, h2⟩ := hr
  have e' : floatBits op .f64 x y = some d := e
  refine ⟨d, ⟨h1, h2⟩, fun P t w => ?_⟩
  have f1 : fres op .f64 x y w = d := by unfold fres; rw [e']
  have f2 : fcnt op .f64 x y = 0 := by unfold fcnt; rw [e']
  rcases hop with rfl | rfl | rfl | rfl
  · rw [run_fadd, f1, f2]; rfl
  · rw [run_fsub, f1, f2]; rfl
  · rw [run_fmul, f1, f2]; rfl
  · rw [run_fquo, f1, f2]; rfl

theorem eq_has {x y : Nat} {q : Rat} (hx : Has x q) (hy : Has y q) : (FloatKind.f64.format.order x y == some .eq) = true := by
  have := order_eq_q hx.1 hy.1 (by rw [hx.2, hy.2])
  show (Ieee.double.order x y == some .eq) = true
  rw [this]; rfl

end Go.Proofs.Ytocjhanehphibaa
/-
  Convolutions of sixteenths are exact: their numbers as integers. No program.
-/
set_option linter.unusedVariables false
set_option linter.unusedSimpArgs false
namespace Go.Proofs.Ytocjhanehphibaa
open Go.RowKit Flt Fast

/-- A float (up to NaN) is k / 2^e, k no greater than K. -/
def IV (e K : Nat) (z : Option Nat) (k : Int) : Prop := k.natAbs ≤ K ∧ ∃ q, Fv z q ∧ q * two e = (k : Rat)
theorem IV.mono {e K L : Nat} {z : Option Nat} {k : Int} (h : IV e K z k) (hl : K ≤ L) : IV e L z k := ⟨Nat.le_trans h.1 hl, h.2⟩
theorem IV.add {e K L : Nat} {a b : Option Nat} {k l : Int} (h : IV e K a k) (h' : IV e L b l) (hs : K + L < 2 ^ 53) (he : e ≤ 1000) : IV e (K + L) (fop .add .f64 a b) (k + l) := by
  obtain ⟨h1, q, hq, e1⟩ := h
  obtain ⟨h2, r, hr, e2⟩ := h'
  have d1 : Dy e K q := ⟨k, h1, e1⟩
  have d2 : Dy e L r := ⟨l, h2, e2⟩
  exact ⟨by omega, q + r, (d1.add d2).fv_add hs he hq hr, by rw [Rat.intCast_add, ← e1, ← e2]; grind⟩
theorem IV.sub {e K L : Nat} {a b : Option Nat} {k l : Int} (h : IV e K a k) (h' : IV e L b l) (hs : K + L < 2 ^ 53) (he : e ≤ 1000) : IV e (K + L) (fop .sub .f64 a b) (k - l) := by
  obtain ⟨h1, q, hq, e1⟩ := h
  obtain ⟨h2, r, hr, e2⟩ := h'
  have d1 : Dy e K q := ⟨k, h1, e1⟩
  have d2 : Dy e L r := ⟨l, h2, e2⟩
  exact ⟨by omega, q - r, (d1.sub d2).fv_sub hs he hq hr, by rw [Rat.intCast_sub, ← e1, ← e2]; grind⟩
theorem IV.mul {e f K L : Nat} {a b : Option Nat} {k l : Int} (h : IV e K a k) (h' : IV f L b l) (hs : K * L < 2 ^ 53) (he : e + f ≤ 1000) : IV (e + f) (K * L) (fop .mul .f64 a b) (k * l) := by
  obtain ⟨h1, q, hq, e1⟩ := h
  obtain ⟨h2, r, hr, e2⟩ := h'
  have d1 : Dy e K q := ⟨k, h1, e1⟩
  have d2 : Dy f L r := ⟨l, h2, e2⟩
  exact ⟨by rw [Int.natAbs_mul]; exact Nat.mul_le_mul h1 h2, q * r, (d1.mul d2).fv_mul hs he hq hr, by rw [Rat.intCast_mul, ← e1, ← e2, two_add]; grind⟩

abbrev KK := Int × Int
def mulK (a b : KK) : KK := (a.1 * b.1 - a.2 * b.2, a.1 * b.2 + a.2 * b.1)
def addK (a b : KK) : KK := (a.1 + b.1, a.2 + b.2)
theorem mulK_comm (a b : KK) : mulK a b = mulK b a := by unfold mulK; refine Prod.ext ?_ ?_ <;> simp only <;> grind
theorem mulK_zero (a : KK) : mulK a (0, 0) = (0, 0) := by simp [mulK]
theorem zero_mulK (a : KK) : mulK (0, 0) a = (0, 0) := by simp [mulK]
theorem addK_zero (a : KK) : addK a (0, 0) = a := by simp [addK]
theorem zero_addK (a : KK) : addK (0, 0) a = a := by simp [addK]
theorem addK_comm (a b : KK) : addK a b = addK b a := by unfold addK; rw [Int.add_comm, Int.add_comm b.2]
theorem addK_assoc (a b c : KK) : addK (addK a b) c = addK a (addK b c) := by simp [addK, Int.add_assoc]
theorem addK_four (a b c d : KK) : addK (addK a b) (addK c d) = addK (addK a c) (addK b d) := by unfold addK; refine Prod.ext ?_ ?_ <;> simp only <;> omega
def sumK (t : Nat → KK) : Nat → KK
  | 0 => (0, 0)
  | n + 1 => addK (sumK t n) (t n)
theorem sumK_congr {s t : Nat → KK} {n : Nat} (h : ∀ i, i < n → s i = t i) : sumK s n = sumK t n := by
  induction n with
  | zero => rfl
  | succ n ih => show addK _ _ = addK _ _; rw [ih (fun i hi => h i (by omega)), h n (by omega)]
theorem sumK_zero {t : Nat → KK} {n : Nat} (h : ∀ i, i < n → t i = (0, 0)) : sumK t n = (0, 0) := by
  induction n with
  | zero => rfl
  | succ n ih => show addK _ _ = _; rw [ih (fun i hi => h i (by omega)), h n (by omega), addK_zero]
theorem sumK_split (t : Nat → KK) (a b : Nat) : sumK t (a + b) = addK (sumK t a) (sumK (fun i => t (a + i)) b) := by
  induction b with
  | zero => exact (addK_zero _).symm
  | succ b ih => show addK (sumK t (a + b)) (t (a + b)) = addK _ (addK _ _); rw [ih, addK_assoc]
theorem sumK_add (s t : Nat → KK) (n : Nat) : sumK (fun i => addK (s i) (t i)) n = addK (sumK s n) (sumK t n) := by
  induction n with
  | zero => rfl
  | succ n ih => show addK _ _ = addK (addK _ _) (addK _ _); rw [ih, addK_four]
theorem sumK_first (t : Nat → KK) (n : Nat) : sumK t (n + 1) = addK (t 0) (sumK (fun i => t (i + 1)) n) := by
  rw [show n + 1 = 1 + n by omega, sumK_split]
  show addK (addK (0, 0) (t 0)) _ = _
  rw [zero_addK]
  congr 1
  exact sumK_congr fun i _ => by rw [Nat.add_comm]
theorem sumK_rev (t : Nat → KK) (n : Nat) : sumK t (n + 1) = sumK (fun i => t (n - i)) (n + 1) := by
  induction n generalizing t with
  | zero => rfl
  | succ n ih =>
    rw [sumK_first, ih (fun i => t (i + 1))]
    show addK (t 0) (sumK _ (n + 1)) = addK (sumK _ (n + 1)) (t (n + 1 - (n + 1)))
    rw [addK_comm, Nat.sub_self]
    congr 1
    exact sumK_congr fun i hi => by rw [show n + 1 - i = n - i + 1 by omega]
/-- Zeros on both sides of a window. -/
theorem sumK_window {t : Nat → KK} {lo c M : Nat} (h1 : ∀ k, k < lo → t k = (0, 0)) (h2 : ∀ k, lo + c ≤ k → k < M → t k = (0, 0)) (h : lo + c ≤ M) : sumK t M = sumK (fun j => t (lo + j)) c := by
  obtain ⟨d, rfl⟩ : ∃ d, M = lo + (c + d) := ⟨M - (lo + c), by omega⟩
  rw [sumK_split, sumK_zero h1, zero_addK, sumK_split, sumK_zero (t := fun i => t (lo + (c + i))) (fun i hi => h2 _ (by omega) (by omega)), addK_zero]
theorem sumK_single {t : Nat → KK} {r m : Nat} (hr : r < m) (h : ∀ k, k < m → k ≠ r → t k = (0, 0)) : sumK t m = t r := by
  rw [sumK_window (lo := r) (c := 1) (fun k hk => h k (by omega) (by omega)) (fun k hk hm => h k hm (by omega)) (by omega)]
  show addK (0, 0) (t (r + 0)) = _
  rw [zero_addK, Nat.add_zero]
theorem sumK_stride {t : Nat → KK} {r m : Nat} (hr : r < m) (h : ∀ k, k % m ≠ r → t k = (0, 0)) (J : Nat) : sumK t (m * J) = sumK (fun j => t (r + m * j)) J := by
  induction J with
  | zero => rfl
  | succ J ih =>
    rw [Nat.mul_succ, sumK_split, ih, sumK_single hr (t := fun i => t (m * J + i)) (fun k hk hne => h _ (by rw [Nat.mul_add_mod, Nat.mod_eq_of_lt hk]; exact hne))]
    show addK _ (t (m * J + r)) = addK _ (t (r + m * J))
    rw [Nat.add_comm r]

/-- A complex number is k / 2^e. -/
def IVC (e K : Nat) (z : Z) (k : KK) : Prop := IV e K z.1 k.1 ∧ IV e K z.2 k.2
theorem IVC.mono {e K L : Nat} {z : Z} {k : KK} (h : IVC e K z k) (hl : K ≤ L) : IVC e L z k := ⟨h.1.mono hl, h.2.mono hl⟩
theorem IVC.add {e K L : Nat} {a b : Z} {k l : KK} (h : IVC e K a k) (h' : IVC e L b l) (hs : K + L < 2 ^ 53) (he : e ≤ 1000) : IVC e (K + L) (addZ a b) (addK k l) := ⟨h.1.add h'.1 hs he, h.2.add h'.2 hs he⟩
theorem IVC.mul {e f K L : Nat} {a b : Z} {k l : KK} (h : IVC e K a k) (h' : IVC f L b l) (hs : 2 * (K * L) < 2 ^ 53) (he : e + f ≤ 1000) : IVC (e + f) (2 * (K * L)) (mulZ a b) (mulK k l) := by
  rw [Nat.two_mul]
  exact ⟨(h.1.mul h'.1 (by omega) he).sub (h.2.mul h'.2 (by omega) he) (by omega) he, (h.1.mul h'.2 (by omega) he).add (h.2.mul h'.1 (by omega) he) (by omega) he⟩
theorem iv_zero (e K : Nat) : IV e K (some 0) 0 := ⟨by simp, 0, ⟨0, rfl, has_zero⟩, by rw [Rat.zero_mul]; rfl⟩
theorem ivc_zero (e K : Nat) : IVC e K z0 (0, 0) := ⟨iv_zero e K, iv_zero e K⟩
theorem ivc_sum {z : Nat → Z} {t : Nat → KK} {e K n : Nat} (h : ∀ i, i < n → IVC e K (z i) (t i)) (hs : n * K < 2 ^ 53) (he : e ≤ 1000) : IVC e (n * K) (sumC z n) (sumK t n) := by
  induction n with
  | zero => exact ivc_zero _ _
  | succ n ih =>
    rw [Nat.succ_mul] at hs ⊢
    have h1 := ih (fun i hi => h i (by omega)) (by omega)
    by_cases h0 : n = 0
    · subst h0
      show IVC e _ (z 0) (addK (0, 0) (t 0))
      rw [zero_addK]
      exact (h 0 (by omega)).mono (by omega)
    · rw [sumC_succ _ h0]
      exact h1.add (h n (by omega)) hs he
/-- The same integer, the same number. -/
theorem IV.eq {e K L : Nat} {a b : Nat} {z z' : Option Nat} {k : Int} (ha : IsF a z) (hb : IsF b z') (h : IV e K z k) (h' : IV e L z' k) : (FloatKind.f64.format.order a b == some .eq) = true := by
  obtain ⟨-, q, hq, e1⟩ := h
  obtain ⟨-, r, hr, e2⟩ := h'
  have : q = r := by
    have h0 := Rat.ne_of_gt (two_pos e)
    have h1 : q * two e = r * two e := by rw [e1, e2]
    have h2 := Rat.mul_inv_cancel _ h0
    calc q = q * two e * (two e)⁻¹ := by rw [Rat.mul_assoc, h2, Rat.mul_one]
      _ = r * two e * (two e)⁻¹ := by rw [h1]
      _ = r := by rw [Rat.mul_assoc, h2, Rat.mul_one]
  subst this
  exact eq_has (Has.of ha hq) (Has.of hb hr)

/-- Sixteenths. -/
def kOf (p : Nat) : Int := (fq p * 16).num
def Sx (p : Nat) : Prop := (kOf p).natAbs ≤ 64 ∧ Has p ((kOf p : Rat) / 16)
def kC (p : C) : KK := (kOf p.1, kOf p.2)
theorem sx_of {p : Nat} {k : Int} (h : k.natAbs ≤ 64) (hp : Has p ((k : Rat) / 16)) : Sx p ∧ kOf p = k := by
  have e : kOf p = k := by
    unfold kOf
    rw [hp.2, Rat.div_mul_cancel (by decide)]
    rfl
  exact ⟨⟨by rw [e]; exact h, by rw [e]; exact hp⟩, e⟩
theorem sx_zero : Sx 0 ∧ kOf 0 = 0 := sx_of (k := 0) (by decide) (by rw [show ((0 : Int) : Rat) / 16 = 0 by decide +kernel]; exact has_zero)
theorem Sx.lt {p : Nat} (h : Sx p) : p < 18446744073709551616 := h.2.lt
theorem Sx.iv {p : Nat} (h : Sx p) : IV 4 64 (cn .f64 p) (kOf p) := by
  have : cn .f64 p = some p := h.2.isF.1
  rw [this]
  exact ⟨h.1, _, h.2.fv, by rw [show two 4 = 16 from rfl]; exact Rat.div_mul_cancel (by decide)⟩
def PlainC (xs : List C) : Prop := ∀ u ∈ xs, Sx u.1 ∧ Sx u.2
theorem PlainC.wf {xs : List C} (h : PlainC xs) : WfC xs := fun u hu => ⟨(h u hu).1.lt, (h u hu).2.lt⟩
theorem plainC_snoc {xs : List C} {p q : Nat} (h : PlainC xs) (hp : Sx p) (hq : Sx q) : PlainC (xs ++ [(p, q)]) := by
  intro u hu
  rcases List.mem_append.1 hu with h1 | h1
  · exact h u h1
  · rw [List.mem_singleton.1 h1]; exact ⟨hp, hq⟩
/-- The numbers of a signal as integers; 0 outside of it. -/
def kAt (xs : List C) (i : Nat) : KK := kC (xs.getD i (0, 0))
theorem kAt_out {xs : List C} {i : Nat} (h : xs.length ≤ i) : kAt xs i = (0, 0) := by
  have : xs.getD i (0, 0) = (0, 0) := by simp [List.getD, List.getElem?_eq_none h]
  unfold kAt kC; rw [this, sx_zero.2]
theorem PlainC.at {xs : List C} (h : PlainC xs) (i : Nat) : IVC 4 64 ((zsOf xs).getD i z0) (kAt xs i) := by
  by_cases hi : i < xs.length
  · rw [zsOf_getD hi]
    have hm : xs.getD i (0, 0) ∈ xs := by simp [List.getD, hi]
    exact ⟨(h _ hm).1.iv, (h _ hm).2.iv⟩
  · rw [kAt_out (by omega), show (zsOf xs).getD i z0 = z0 by simp [List.getD, List.getElem?_eq_none, zsOf_length, Nat.le_of_not_lt hi]]
    exact ivc_zero _ _

/-- The number of a convolution as an integer. -/
def cvK (kx kh : Nat → KK) (n M : Nat) : KK := sumK (fun k => if k ≤ n then mulK (kh k) (kx (n - k)) else (0, 0)) M
/-- Numbers that are sixteenths, and 0 outside. -/
structure Ks (X : List Z) (kx : Nat → KK) : Prop where
  at_ : ∀ i, IVC 4 64 (X.getD i z0) (kx i)
  out : ∀ i, X.length ≤ i → kx i = (0, 0)
theorem PlainC.ks {xs : List C} (h : PlainC xs) : Ks (zsOf xs) (kAt xs) := ⟨h.at, fun i hi => kAt_out (by rwa [zsOf_length] at hi)⟩
theorem cvAt_iv {X H : List Z} {kx kh : Nat → KK} (hx : Ks X kx) (hh : Ks H kh) {n M : Nat} (hn : n < cvLen X.length H.length) (hM : H.length ≤ M) (hb : H.length ≤ 1000) :
    IVC 8 (1000 * 8192) (cvAt X H n) (cvK kx kh n M) := by
  have hlc := cvLo_cnt hn
  have hcb := cvCnt_le X.length H.length n
  have e : cvK kx kh n M = sumK (fun j => mulK (kh (cvLo X.length n + j)) (kx (n - (cvLo X.length n + j)))) (cvCnt X.length H.length n) := by
    unfold cvK
    rw [sumK_window (lo := cvLo X.length n) (c := cvCnt X.length H.length n)]
    · exact sumK_congr fun j hj => if_pos (cvIn hj).2.1
    · intro k hk
      show (if k ≤ n then _ else _) = _
      split
      · rw [hx.out _ (by unfold cvLo at hk; omega), mulK_zero]
      · rfl
    · intro k hk hkM
      show (if k ≤ n then _ else _) = _
      split
      · rw [hh.out _ (by omega), zero_mulK]
      · rfl
    · omega
  rw [e]
  unfold cvAt cvSum
  refine (ivc_sum (e := 8) (K := 8192) (fun j hj => ?_) (by omega) (by omega)).mono (by omega)
  exact ((hh.at_ _).mul (hx.at_ _) (by decide) (by decide))
theorem cvK_comm (kx kh : Nat → KK) (n : Nat) : cvK kx kh n (n + 1) = cvK kh kx n (n + 1) := by
  unfold cvK
  rw [sumK_rev]
  refine sumK_congr fun k hk => ?_
  show (if n - k ≤ n then _ else _) = (if k ≤ n then _ else _)
  rw [if_pos (by omega), if_pos (by omega), mulK_comm, show n - (n - k) = k by omega]
theorem cvK_more {kx kh : Nat → KK} {L : Nat} (h0 : ∀ i, L ≤ i → kh i = (0, 0)) (n M M' : Nat) (hM : L ≤ M ∨ n < M) (hM' : L ≤ M' ∨ n < M') : cvK kx kh n M = cvK kx kh n M' := by
  have aux : ∀ M d, (L ≤ M ∨ n < M) → cvK kx kh n (M + d) = cvK kx kh n M := fun M d hM => by
    unfold cvK
    rw [sumK_split, sumK_zero (t := fun i => if M + i ≤ n then _ else _), addK_zero]
    intro i hi
    show (if M + i ≤ n then _ else _) = _
    split
    · rw [h0 _ (by omega), zero_mulK]
    · rfl
  rcases Nat.le_total M M' with h1 | h1
  · obtain ⟨d, rfl⟩ := Nat.exists_eq_add_of_le h1; exact (aux M d hM).symm
  · obtain ⟨d, rfl⟩ := Nat.exists_eq_add_of_le h1; exact aux M' d hM'

end Go.Proofs.Ytocjhanehphibaa
