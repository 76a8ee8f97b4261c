import Derived.Test.YtpobbicbfnglaaaFvD
import Derived.Test.YtpobbicbfnglaaaSums
/-
  Floats that have a rational value; exact sums of numbers with few digits; sums that are near. No program.
-/
set_option linter.unusedVariables false
set_option linter.unusedSimpArgs false
namespace Go.Proofs.Ytpobbicbfnglaaa
open Go Flt
namespace Flt
open Ieee (double Format Datum signed)

theorem one_div_two_le {a b : Nat} (h : a ≤ b) : 1 / two b ≤ 1 / two a := by
  have h1 := two_le h
  have ha := two_pos a
  have hb := two_pos b
  have i1 := Rat.inv_pos.2 ha
  have i2 := Rat.inv_pos.2 hb
  have c1 := Rat.mul_inv_cancel _ (Rat.ne_of_gt ha)
  have c2 := Rat.mul_inv_cancel _ (Rat.ne_of_gt hb)
  have h2 := Rat.mul_le_mul_of_nonneg_right h1 (Rat.le_of_lt (Rat.mul_pos i1 i2))
  have e1 : two a * ((two a)⁻¹ * (two b)⁻¹) = (two b)⁻¹ := by rw [← Rat.mul_assoc, c1, Rat.one_mul]
  have e2 : two b * ((two a)⁻¹ * (two b)⁻¹) = (two a)⁻¹ := by rw [Rat.mul_comm (two a)⁻¹, ← Rat.mul_assoc, c2, Rat.one_mul]
  rw [e1, e2] at h2
  rw [Rat.div_def, Rat.div_def, Rat.one_mul, Rat.one_mul]
  exact h2
theorem tiny_le : tiny ≤ 1 / 1267650600228229401496703205376 := by
  have : (1267650600228229401496703205376 : Rat) = two 100 := rfl
  rw [this]
  exact one_div_two_le (by unfold lpn; omega)

/-- A rung that is greater than all that is met. -/
def bigR : Nat := 9110782046170513408
theorem bigR_lt : bigR < double.infRung := by rw [ir64]; decide
theorem bigR_q : rq bigR = two 1000 := by
  have h := rung_of (f := double) (k := 1) (q := lpn + 1000) (by decide) (by decide) (by
    have : double.fractionBits = 52 := by decide
    rw [this]; unfold lpn; omega)
  have e1 : (1 : Nat).log2 = 0 := by decide
  have e2 : double.fractionBits = 52 := by decide
  have e3 : double.binade = 4503599627370496 := by decide
  rw [e1, e2, e3] at h
  have e4 : (lpn + 1000 + 0 - 52) * 4503599627370496 + 1 * 2 ^ (52 - 0) = bigR := by unfold lpn bigR; decide
  rw [e4] at h
  unfold rq
  rw [h, Nat.one_mul, ← two_nat, Nat.add_comm, two_add]
  rw [Rat.div_def, Rat.mul_assoc, Rat.mul_inv_cancel _ (Rat.ne_of_gt (two_pos lpn)), Rat.mul_one]

/-- A float with the value q. -/
def Fv (z : Option Nat) (q : Rat) : Prop := ∃ x, z = some x ∧ Fin x ∧ fq x = q

theorem Fv.rep {z : Option Nat} {q : Rat} (h : Fv z q) : Rep q := by
  obtain ⟨x, -, h1, h2⟩ := h
  exact ⟨x, h1, h2⟩
theorem Fv.of_isF {u : Nat} {z : Option Nat} {q : Rat} (h : IsF u z) (hz : Fv z q) : Fin u ∧ fq u = q := by
  obtain ⟨x, rfl, h1, h2⟩ := hz
  have h3 := h.cn
  unfold Flt.cn at h3
  split at h3
  · cases h3
  · cases h3
    exact ⟨h1, h2⟩
theorem Fv.mk {u : Nat} (h : Fin u) : Fv (some u) (fq u) := ⟨u, rfl, h, rfl⟩

def Moderate (t : Rat) : Prop := Size t (two 1000)
theorem Moderate.big {t : Rat} (h : Moderate t) : Size t (rq bigR) := by rw [bigR_q]; exact h

section
variable {a b : Option Nat} {p q : Rat}
theorem fv_add (ha : Fv a p) (hb : Fv b q) (hB : Moderate (p + q)) : ∃ r, Fv (fop .add .f64 a b) r ∧ Rnd (p + q) r := by
  obtain ⟨x, rfl, h1, rfl⟩ := ha
  obtain ⟨y, rfl, h2, rfl⟩ := hb
  obtain ⟨r, e, h3, h4⟩ := add_rnd h1 h2 bigR_lt hB.big
  exact ⟨fq r, ⟨r, e, h3, rfl⟩, h4⟩
theorem fv_sub (ha : Fv a p) (hb : Fv b q) (hB : Moderate (p - q)) : ∃ r, Fv (fop .sub .f64 a b) r ∧ Rnd (p - q) r := by
  obtain ⟨x, rfl, h1, rfl⟩ := ha
  obtain ⟨y, rfl, h2, rfl⟩ := hb
  obtain ⟨r, e, h3, h4⟩ := sub_rnd h1 h2 bigR_lt hB.big
  exact ⟨fq r, ⟨r, e, h3, rfl⟩, h4⟩
theorem fv_mul (ha : Fv a p) (hb : Fv b q) (hB : Moderate (p * q)) : ∃ r, Fv (fop .mul .f64 a b) r ∧ Rnd (p * q) r := by
  obtain ⟨x, rfl, h1, rfl⟩ := ha
  obtain ⟨y, rfl, h2, rfl⟩ := hb
  obtain ⟨r, e, h3, h4⟩ := mul_rnd h1 h2 bigR_lt hB.big
  exact ⟨fq r, ⟨r, e, h3, rfl⟩, h4⟩
theorem fv_div (ha : Fv a p) (hb : Fv b q) (hq : q ≠ 0) (hB : Moderate (p / q)) : ∃ r, Fv (fop .quo .f64 a b) r ∧ Rnd (p / q) r := by
  obtain ⟨x, rfl, h1, rfl⟩ := ha
  obtain ⟨y, rfl, h2, rfl⟩ := hb
  obtain ⟨r, e, h3, h4⟩ := div_rnd h1 h2 hq bigR_lt hB.big
  exact ⟨fq r, ⟨r, e, h3, rfl⟩, h4⟩
theorem fv_int {n : Int} (hB : Moderate (n : Rat)) : ∃ r, Fv (some (floatOfInt .f64 n)) r ∧ Rnd (n : Rat) r := by
  obtain ⟨h1, h2⟩ := int_rnd bigR_lt hB.big
  exact ⟨_, Fv.mk h1, h2⟩
end

/-- A number with few digits: k / 2^e, k no greater than K. -/
def Dy (e K : Nat) (q : Rat) : Prop := ∃ k : Int, k.natAbs ≤ K ∧ q * two e = (k : Rat)

theorem Dy.mono {e K L : Nat} {q : Rat} (h : Dy e K q) (hl : K ≤ L) : Dy e L q := by
  obtain ⟨k, h1, h2⟩ := h
  exact ⟨k, by omega, h2⟩
theorem Dy.zero (e K : Nat) : Dy e K 0 := ⟨0, by simp, by rw [Rat.zero_mul]; rfl⟩
theorem Dy.add {e K L : Nat} {p q : Rat} (h : Dy e K p) (h' : Dy e L q) : Dy e (K + L) (p + q) := by
  obtain ⟨k, h1, h2⟩ := h
  obtain ⟨l, h3, h4⟩ := h'
  refine ⟨k + l, by omega, ?_⟩
  rw [Rat.intCast_add, ← h2, ← h4]; grind
theorem Dy.neg {e K : Nat} {p : Rat} (h : Dy e K p) : Dy e K (-p) := by
  obtain ⟨k, h1, h2⟩ := h
  refine ⟨-k, by omega, ?_⟩
  rw [Rat.intCast_neg, ← h2]; grind
theorem Dy.sub {e K L : Nat} {p q : Rat} (h : Dy e K p) (h' : Dy e L q) : Dy e (K + L) (p - q) := by
  rw [Rat.sub_eq_add_neg]; exact h.add h'.neg
theorem Dy.mul {e f K L : Nat} {p q : Rat} (h : Dy e K p) (h' : Dy f L q) : Dy (e + f) (K * L) (p * q) := by
  obtain ⟨k, h1, h2⟩ := h
  obtain ⟨l, h3, h4⟩ := h'
  refine ⟨k * l, by rw [Int.natAbs_mul]; exact Nat.mul_le_mul h1 h3, ?_⟩
  rw [Rat.intCast_mul, ← h2, ← h4, two_add]; grind
theorem Dy.of_int {n : Int} {K : Nat} (h : n.natAbs ≤ K) : Dy 0 K (n : Rat) := ⟨n, h, by rw [two_zero, Rat.mul_one]⟩
theorem Dy.size {e K : Nat} {q : Rat} (h : Dy e K q) : Size q (K : Rat) := by
  obtain ⟨k, h1, h2⟩ := h
  have h3 : (1 : Rat) ≤ two e := by rw [← two_zero]; exact two_le (Nat.zero_le _)
  have h4 : (k : Rat) ≤ (K : Rat) := by rw [← Rat.intCast_natCast]; exact Rat.intCast_le_intCast.2 (by omega)
  have h5 : -(k : Rat) ≤ (K : Rat) := by rw [← Rat.intCast_natCast, ← Rat.intCast_neg]; exact Rat.intCast_le_intCast.2 (by omega)
  have h6 : (0 : Rat) ≤ (K : Rat) := Rat.natCast_nonneg
  constructor
  · refine Rat.not_lt.1 fun h => ?_
    have := Rat.mul_le_mul_of_nonneg_left h3 (Rat.le_trans h6 (Rat.le_of_lt h))
    grind
  · refine Rat.not_lt.1 fun h => ?_
    have := Rat.mul_le_mul_of_nonneg_left h3 (Rat.le_trans h6 (Rat.le_of_lt h))
    grind
theorem cast_le_two {K n : Nat} (h : K ≤ 2 ^ n) : (K : Rat) ≤ two n := Rat.natCast_le_natCast.2 h
theorem Dy.moderate {e K : Nat} {q : Rat} (h : Dy e K q) (hK : K ≤ 2 ^ 53) : Moderate q := by
  have h1 := h.size
  have h2 : (K : Rat) ≤ two 1000 := Rat.le_trans (cast_le_two hK) (two_le (by omega))
  exact ⟨Rat.le_trans h1.1 h2, Rat.le_trans h1.2 h2⟩

theorem rep_nat {k e : Nat} (hk : k < 2 ^ 53) (he : e ≤ 1000) {q : Rat} (h : q * two e = (k : Rat)) : Rep q := by
  have hl : e ≤ lpn := by unfold lpn; omega
  by_cases h0 : k = 0
  · have : q = 0 := by
      have h1 : q * two e = 0 := by rw [h, h0]; rfl
      rcases Rat.mul_eq_zero.1 h1 with h | h
      · exact h
      · exact absurd h (Rat.ne_of_gt (two_pos e))
    rw [this]; exact rep_zero
  · have e2 : double.fractionBits = 52 := by decide
    have e3 : double.binade = 4503599627370496 := by decide
    have hl53 : k.log2 < 53 := (Nat.log2_lt h0).2 hk
    have hv := rung_of (f := double) (k := k) (q := lpn - e) h0 (by rw [e3]; omega) (by rw [e2]; unfold lpn; omega)
    rw [e2, e3] at hv
    have hhi := Nat.lt_log2_self (n := k)
    have h53 : k * 2 ^ (52 - k.log2) ≤ 2 ^ (k.log2 + 1) * 2 ^ (52 - k.log2) := Nat.mul_le_mul_right _ (Nat.le_of_lt hhi)
    rw [← Nat.pow_add, show k.log2 + 1 + (52 - k.log2) = 53 by omega] at h53
    have hlt : (lpn - e + k.log2 - 52) * 4503599627370496 + k * 2 ^ (52 - k.log2) < double.infRung := by
      rw [ir64]
      have : lpn - e + k.log2 - 52 ≤ 1100 := by unfold lpn; omega
      omega
    have hr := rep_rq hlt
    have : rq ((lpn - e + k.log2 - 52) * 4503599627370496 + k * 2 ^ (52 - k.log2)) = q := by
      have hs : two lpn = two e * two (lpn - e) := by rw [← two_add, Nat.add_sub_cancel' hl]
      unfold rq
      rw [hv, Rat.natCast_mul, ← h, hs]
      show q * two e * two (lpn - e) / (two e * two (lpn - e)) = q
      have h1 := Rat.mul_inv_cancel _ (Rat.ne_of_gt (two_pos e))
      have h2 := Rat.mul_inv_cancel _ (Rat.ne_of_gt (two_pos (lpn - e)))
      rw [Rat.div_def, Rat.inv_mul_rev]; grind
    rw [this] at hr
    exact hr
theorem Dy.rep {e K : Nat} {q : Rat} (h : Dy e K q) (hK : K < 2 ^ 53) (he : e ≤ 1000) : Rep q := by
  obtain ⟨k, h1, h2⟩ := h
  by_cases hk : 0 ≤ k
  · obtain ⟨n, rfl⟩ : ∃ n : Nat, k = (n : Int) := ⟨k.natAbs, by omega⟩
    exact rep_nat (k := n) (by omega) he (by rw [h2, Rat.intCast_natCast])
  · obtain ⟨n, rfl⟩ : ∃ n : Nat, k = -(n : Int) := ⟨k.natAbs, by omega⟩
    have := rep_neg (rep_nat (k := n) (q := -q) (by omega) he (by rw [Rat.intCast_neg, Rat.intCast_natCast] at h2; grind))
    rwa [Rat.neg_neg] at this

section
variable {a b : Option Nat} {p q : Rat} {e K : Nat}
theorem Dy.fv_add (h : Dy e K (p + q)) (hK : K < 2 ^ 53) (he : e ≤ 1000) (ha : Fv a p) (hb : Fv b q) : Fv (fop .add .f64 a b) (p + q) := by
  obtain ⟨r, h1, h2⟩ := Flt.fv_add ha hb (h.moderate (by omega))
  rw [h2.exact (h.rep hK he)] at h1; exact h1
theorem Dy.fv_sub (h : Dy e K (p - q)) (hK : K < 2 ^ 53) (he : e ≤ 1000) (ha : Fv a p) (hb : Fv b q) : Fv (fop .sub .f64 a b) (p - q) := by
  obtain ⟨r, h1, h2⟩ := Flt.fv_sub ha hb (h.moderate (by omega))
  rw [h2.exact (h.rep hK he)] at h1; exact h1
theorem Dy.fv_mul (h : Dy e K (p * q)) (hK : K < 2 ^ 53) (he : e ≤ 1000) (ha : Fv a p) (hb : Fv b q) : Fv (fop .mul .f64 a b) (p * q) := by
  obtain ⟨r, h1, h2⟩ := Flt.fv_mul ha hb (h.moderate (by omega))
  rw [h2.exact (h.rep hK he)] at h1; exact h1
theorem Dy.fv_div (h : Dy e K (p / q)) (hK : K < 2 ^ 53) (he : e ≤ 1000) (hq : q ≠ 0) (ha : Fv a p) (hb : Fv b q) : Fv (fop .quo .f64 a b) (p / q) := by
  obtain ⟨r, h1, h2⟩ := Flt.fv_div ha hb hq (h.moderate (by omega))
  rw [h2.exact (h.rep hK he)] at h1; exact h1
theorem fv_int_exact {n : Int} (h : n.natAbs < 2 ^ 53) : Fv (some (floatOfInt .f64 n)) (n : Rat) := by
  have hd := Dy.of_int (n := n) (Nat.le_refl _)
  obtain ⟨r, h1, h2⟩ := fv_int (hd.moderate (by omega))
  rw [h2.exact (hd.rep h (by omega))] at h1; exact h1
end

/-- A sum of rational numbers. -/
def psum (p : Nat → Rat) : Nat → Rat
  | 0 => 0
  | n + 1 => psum p n + p n
theorem psum_dy {p : Nat → Rat} {e K n : Nat} (h : ∀ i, i < n → Dy e K (p i)) : Dy e (n * K) (psum p n) := by
  induction n with
  | zero => exact Dy.zero _ _
  | succ n ih =>
    rw [Nat.add_mul, Nat.one_mul]
    exact (ih fun i hi => h i (by omega)).add (h n (by omega))

/-- Sums of numbers with few digits are exact. -/
theorem sumO_dy {z : Nat → Option Nat} {p : Nat → Rat} {e K n : Nat} (hz : ∀ i, i < n → Fv (z i) (p i)) (h : ∀ i, i < n → Dy e K (p i)) (hK : n * K < 2 ^ 53) (he : e ≤ 1000) (hn : 0 < n) : Fv (sumO z n) (psum p n) := by
  induction n with
  | zero => omega
  | succ n ih =>
    unfold sumO
    by_cases h0 : n = 0
    · subst h0
      rw [if_pos rfl]
      show Fv (z 0) (0 + p 0)
      rw [Rat.zero_add]
      exact hz 0 (by omega)
    · rw [if_neg h0]
      have hle : n * K ≤ (n + 1) * K := Nat.mul_le_mul_right _ (by omega)
      exact (psum_dy h).fv_add hK he (ih (fun i hi => hz i (by omega)) (fun i hi => h i (by omega)) (by omega) (by omega)) (hz n (by omega))

end Flt
end Go.Proofs.Ytpobbicbfnglaaa
