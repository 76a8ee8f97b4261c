import Derived.Test.YtpobbicbfnglaaaFv
/-
  The operations on floats of 64 bits as operations on rational numbers, rounded. No program.
-/
set_option linter.unusedVariables false
set_option linter.unusedSimpArgs false
namespace Go.Proofs.Ytpobbicbfnglaaa
open Go Flt
namespace Flt
open Ieee (double Format Datum signed)

/-- The least that is lost. -/
def tiny : Rat := 1 / two (lpn + 1)
theorem tiny_pos : 0 < tiny := by
  unfold tiny
  rw [Rat.div_def, Rat.one_mul]
  exact Rat.inv_pos.2 (two_pos _)

/-- Two numbers are no farther apart than e. -/
def Near (a b e : Rat) : Prop := a - b ≤ e ∧ b - a ≤ e
/-- A number is no greater than B, whatever its sign. -/
def Size (a B : Rat) : Prop := a ≤ B ∧ -a ≤ B

theorem Rnd.near {t r B : Rat} (h : Rnd t r) (hb : Size t B) : Near r t (B / two 52 + tiny) := by
  obtain ⟨h0, h1, h2, -, -⟩ := h
  obtain ⟨b1, b2⟩ := hb
  have hp : (0 : Rat) < two 52 := two_pos 52
  have s1 : slack t ≤ B / two 52 + tiny := by
    have := div_le_div hp b1
    unfold slack tiny; grind
  have s2 : slack (-t) ≤ B / two 52 + tiny := by
    have := div_le_div hp b2
    unfold slack tiny; grind
  constructor
  · rcases h1 with h | h <;> exact Rat.le_trans h (by assumption)
  · rcases h2 with h | h <;> exact Rat.le_trans h (by assumption)

/-- A number of a datum, in units of the last place. -/
def dq (neg : Bool) (m : Nat) (p : Int) : Rat := (signed neg m (p + lpn).toNat : Rat) / two lpn

theorem read_dq {x : Nat} (h : Fin x) : ∃ s m p, double.read x = .number s m p ∧ -(lpn : Int) ≤ p ∧ fq x = dq s m p := by
  have hs : double.signWeight = 9223372036854775808 := by decide
  obtain ⟨m, p, e, l, v⟩ := read_fin double (x := x) (by rw [hs, ir64]; exact h.2)
  rw [lpn_eq] at l v
  refine ⟨_, m, p, e, l, ?_⟩
  unfold fq dq rsv sval
  rw [signed_eq, show p + (lpn : Int) = p - -(lpn : Int) by omega, v]

theorem dq_neg (s : Bool) (m : Nat) (p : Int) : dq (!s) m p = -dq s m p := by
  unfold dq
  rw [signed_eq, signed_eq]
  cases s
  · simp only [Bool.not_false, if_true, Bool.false_eq_true, if_false, Rat.intCast_neg]; grind
  · simp only [Bool.not_true, if_true, Bool.false_eq_true, if_false, Rat.intCast_neg]; grind

/-- What is written of a number. -/
theorem write_rnd {neg : Bool} {m : Nat} {p : Int} {b R : Nat} {t : Rat} (hb : lpn ≤ b) (hp : -(b : Int) ≤ p) (hR : R < double.infRung)
    (ht : t = (if neg then -(((at_ m p (-(b : Int)) : Nat) : Rat) / two b) else ((at_ m p (-(b : Int)) : Nat) : Rat) / two b)) (hB : Size t (rq R)) :
    Fin (double.nearest neg m p) ∧ Rnd t (fq (double.nearest neg m p)) := by
  have hB' : ((at_ m p (-(b : Int)) : Nat) : Rat) / two b ≤ rq R := by
    obtain ⟨b1, b2⟩ := hB
    cases neg
    · rw [ht] at b1; exact b1
    · rw [ht] at b2
      simp only [if_true, Rat.neg_neg] at b2
      exact b2
  obtain ⟨h1, h2, -, -⟩ := rung_rnd hb hp hR hB'
  rw [nearest_rung]
  refine ⟨fin_word _ h1, ?_⟩
  rw [fq_word _ h1, ht]
  cases neg
  · exact h2
  · exact h2.neg

/-- A sum of two data. -/
theorem sum_rnd {s t : Bool} {m n : Nat} {i j : Int} {R : Nat} (hi : -(lpn : Int) ≤ i) (hj : -(lpn : Int) ≤ j) (hR : R < double.infRung) (hB : Size (dq s m i + dq t n j) (rq R)) :
    ∃ r, ((Datum.number s m i).sum (.number t n j)).map double.write = some r ∧ Fin r ∧ Rnd (dq s m i + dq t n j) (fq r) := by
  simp only [Datum.sum, Option.map_some, Format.write]
  obtain ⟨b, hb⟩ : ∃ b, min i j = b := ⟨_, rfl⟩
  rw [hb]
  have hbl : -(lpn : Int) ≤ b := by omega
  have e1 : signed s m (i + lpn).toNat = signed s m (i - b).toNat * (2 ^ (b + lpn).toNat : Nat) := by
    rw [← signed_scale]; congr 1; omega
  have e2 : signed t n (j + lpn).toNat = signed t n (j - b).toNat * (2 ^ (b + lpn).toNat : Nat) := by
    rw [← signed_scale]; congr 1; omega
  have hq : dq s m i + dq t n j = (((signed s m (i - b).toNat + signed t n (j - b).toNat) * (2 ^ (b + lpn).toNat : Nat) : Int) : Rat) / two lpn := by
    unfold dq
    rw [e1, e2, Int.add_mul, Rat.intCast_add]
    generalize ((signed s m (i - b).toNat * (2 ^ (b + lpn).toNat : Nat) : Int) : Rat) = x
    generalize ((signed t n (j - b).toNat * (2 ^ (b + lpn).toNat : Nat) : Int) : Rat) = y
    grind
  rw [hq] at hB ⊢
  generalize signed s m (i - b).toNat + signed t n (j - b).toNat = T at *
  clear e1 e2 hq hb
  refine ⟨_, rfl, write_rnd (b := lpn) (Nat.le_refl _) hbl hR ?_ hB⟩
  have ea : at_ T.natAbs b (-(lpn : Int)) = T.natAbs * 2 ^ (b + lpn).toNat := by
    unfold at_; congr 2; try omega
  rw [ea]
  by_cases h0 : T = 0
  · subst h0
    rw [if_pos rfl]
    have e0 : ((((0 : Int) * (2 ^ (b + lpn).toNat : Nat) : Int)) : Rat) / two lpn = 0 := by
      rw [Int.zero_mul, Rat.div_def]; exact Rat.zero_mul _
    have e1 : (((Int.natAbs 0 * 2 ^ (b + lpn).toNat : Nat)) : Rat) / two lpn = 0 := by
      rw [show Int.natAbs 0 = 0 from rfl, Nat.zero_mul, Rat.div_def]; exact Rat.zero_mul _
    rw [e0, e1]
    split <;> grind
  · rw [if_neg h0]
    by_cases hn : T < 0
    · rw [decide_eq_true hn, if_pos rfl]
      obtain ⟨k, hk⟩ : ∃ k : Nat, T = -(k : Int) := ⟨T.natAbs, by omega⟩
      subst hk
      rw [show (-(k : Int)).natAbs = k by omega, Int.neg_mul, Rat.intCast_neg, ← Int.natCast_mul, Rat.intCast_natCast]
      grind
    · rw [decide_eq_false hn]
      simp only [Bool.false_eq_true, if_false]
      obtain ⟨k, hk⟩ : ∃ k : Nat, T = (k : Int) := ⟨T.natAbs, by omega⟩
      subst hk
      rw [show ((k : Int)).natAbs = k by omega, ← Int.natCast_mul, Rat.intCast_natCast]

theorem add_rnd {x y R : Nat} (hx : Fin x) (hy : Fin y) (hR : R < double.infRung) (hB : Size (fq x + fq y) (rq R)) :
    ∃ r, double.add x y = some r ∧ Fin r ∧ Rnd (fq x + fq y) (fq r) := by
  obtain ⟨s, m, i, e1, l1, v1⟩ := read_dq hx
  obtain ⟨t, n, j, e2, l2, v2⟩ := read_dq hy
  unfold Format.add
  rw [v1, v2] at hB ⊢
  rw [e1, e2]
  exact sum_rnd l1 l2 hR hB
theorem sub_rnd {x y R : Nat} (hx : Fin x) (hy : Fin y) (hR : R < double.infRung) (hB : Size (fq x - fq y) (rq R)) :
    ∃ r, double.sub x y = some r ∧ Fin r ∧ Rnd (fq x - fq y) (fq r) := by
  obtain ⟨s, m, i, e1, l1, v1⟩ := read_dq hx
  obtain ⟨t, n, j, e2, l2, v2⟩ := read_dq hy
  unfold Format.sub
  have e : fq x - fq y = dq s m i + dq (!t) n j := by rw [v1, v2, dq_neg]; grind
  rw [e] at hB ⊢
  rw [e1, e2]
  exact sum_rnd l1 l2 hR hB

theorem dq_abs (s : Bool) (m : Nat) (p : Int) : dq s m p = if s then -(((m * 2 ^ (p + lpn).toNat : Nat) : Rat) / two lpn) else ((m * 2 ^ (p + lpn).toNat : Nat) : Rat) / two lpn := by
  unfold dq
  rw [signed_eq]
  cases s
  · simp only [Bool.false_eq_true, if_false, Rat.intCast_natCast]
  · simp only [if_true, Rat.intCast_neg, Rat.intCast_natCast]; grind

theorem mul_rnd {x y R : Nat} (hx : Fin x) (hy : Fin y) (hR : R < double.infRung) (hB : Size (fq x * fq y) (rq R)) :
    ∃ r, double.mul x y = some r ∧ Fin r ∧ Rnd (fq x * fq y) (fq r) := by
  obtain ⟨s, m, i, e1, l1, v1⟩ := read_dq hx
  obtain ⟨t, n, j, e2, l2, v2⟩ := read_dq hy
  unfold Format.mul
  rw [e1, e2]
  simp only [Datum.product, Option.map_some, Format.write]
  refine ⟨_, rfl, write_rnd (b := lpn + lpn) (by omega) (by omega) hR ?_ hB⟩
  have ea : at_ (m * n) (i + j) (-((lpn + lpn : Nat) : Int)) = (m * 2 ^ (i + lpn).toNat) * (n * 2 ^ (j + lpn).toNat) := by
    unfold at_
    rw [Nat.mul_mul_mul_comm, ← Nat.pow_add]
    congr 2; omega
  rw [ea, v1, v2, dq_abs, dq_abs, two_add, Rat.natCast_mul (m * 2 ^ (i + lpn).toNat) (n * 2 ^ (j + lpn).toNat)]
  generalize ((m * 2 ^ (i + lpn).toNat : Nat) : Rat) = a
  generalize ((n * 2 ^ (j + lpn).toNat : Nat) : Rat) = c
  have hl := Rat.mul_inv_cancel _ (Rat.ne_of_gt (two_pos lpn))
  have e : a * c / (two lpn * two lpn) = (a / two lpn) * (c / two lpn) := by
    rw [Rat.div_def, Rat.div_def, Rat.div_def, Rat.inv_mul_rev]; grind
  rw [e]
  generalize a / two lpn = a
  generalize c / two lpn = c
  cases s <;> cases t <;> simp only [Bool.xor_false, Bool.xor_true, Bool.not_true, Bool.not_false, Bool.false_eq_true, if_true, if_false] <;> grind

/-- An integer. -/
theorem int_rnd {n : Int} {R : Nat} (hR : R < double.infRung) (hB : Size (n : Rat) (rq R)) : Fin (floatOfInt .f64 n) ∧ Rnd (n : Rat) (fq (floatOfInt .f64 n)) := by
  have e : floatOfInt .f64 n = double.nearest (decide (n < 0)) n.natAbs 0 := rfl
  rw [e]
  refine write_rnd (b := lpn) (Nat.le_refl _) (by omega) hR ?_ hB
  have ea : at_ n.natAbs 0 (-(lpn : Int)) = n.natAbs * 2 ^ lpn := by unfold at_; congr 2; try omega
  have hl := Rat.mul_inv_cancel _ (Rat.ne_of_gt (two_pos lpn))
  rw [ea, Rat.natCast_mul]
  show _ = if decide (n < 0) = true then -((n.natAbs : Rat) * two lpn / two lpn) else (n.natAbs : Rat) * two lpn / two lpn
  have e2 : (n.natAbs : Rat) * two lpn / two lpn = (n.natAbs : Rat) := by rw [Rat.div_def]; grind
  rw [e2]
  by_cases hn : n < 0
  · obtain ⟨k, rfl⟩ : ∃ k : Nat, n = -(k : Int) := ⟨n.natAbs, by omega⟩
    rw [decide_eq_true hn, if_pos rfl, show (-(k : Int)).natAbs = k by omega, Rat.intCast_neg, Rat.intCast_natCast]
  · obtain ⟨k, rfl⟩ : ∃ k : Nat, n = (k : Int) := ⟨n.natAbs, by omega⟩
    rw [decide_eq_false hn, show ((k : Int)).natAbs = k by omega, Rat.intCast_natCast]
    rfl

/-- How two finite words stand. -/
theorem order_q {x y : Nat} (hx : Fin x) (hy : Fin y) : double.order x y = some (compare (rsv double x) (rsv double y)) := by
  have hs : double.signWeight = 9223372036854775808 := by decide
  rw [order_fin double (x := x) (y := y) (by rw [hs, ir64]; exact hx.2) (by rw [hs, ir64]; exact hy.2), place_eq, place_eq, ← compare_sval]
  rfl
theorem fq_lt {x y : Nat} : fq x < fq y ↔ rsv double x < rsv double y := by
  have h : ∀ a b : Nat, fq a ≤ fq b ↔ rsv double a ≤ rsv double b := fun a b =>
    ⟨fun h => Rat.intCast_le_intCast.1 (le_of_div (two_pos _) h), fun h => div_le_div (two_pos _) (Rat.intCast_le_intCast.2 h)⟩
  rw [← Rat.not_le, h]; omega
theorem order_lt {x y : Nat} (hx : Fin x) (hy : Fin y) (h : fq x < fq y) : double.order x y = some .lt := by
  rw [order_q hx hy, Int.compare_eq_lt.2 (fq_lt.1 h)]
theorem order_gt {x y : Nat} (hx : Fin x) (hy : Fin y) (h : fq y < fq x) : double.order x y = some .gt := by
  rw [order_q hx hy, Int.compare_eq_gt.2 (fq_lt.1 h)]
theorem order_eq_q {x y : Nat} (hx : Fin x) (hy : Fin y) (h : fq x = fq y) : double.order x y = some .eq := by
  have h1 : ¬ rsv double x < rsv double y := fun k => by have := fq_lt.2 k; rw [h] at this; exact Rat.lt_irrefl this
  have h2 : ¬ rsv double y < rsv double x := fun k => by have := fq_lt.2 k; rw [h] at this; exact Rat.lt_irrefl this
  rw [order_q hx hy, Int.compare_eq_eq.2 (by omega)]

end Flt
end Go.Proofs.Ytpobbicbfnglaaa
