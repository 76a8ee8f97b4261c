import Derived.Test.YtgolfdngpphndaaFs
import Derived.Test.YtgolfdngpphndaaPSum
/-
  Conversions between both widths. No program.
-/
set_option linter.unusedVariables false
set_option linter.unusedSimpArgs false
namespace Go.Proofs.Ytgolfdngpphndaa
open Go Flt
namespace Flt.Nar
open Ieee (double single Format Datum signed)

/-- A rung that is great enough for all that is narrowed. -/
def bigR : Nat := 1904214016
theorem bigR_lt : bigR < single.infRung := by rw [ir32]; decide
theorem bigR_q : rq bigR = two 100 := by
  have h := rung_of (f := single) (k := 1) (q := lps + 100) (by decide) (by decide) (by
    have : single.fractionBits = 23 := by decide
    rw [this]; unfold lps; omega)
  have e1 : (1 : Nat).log2 = 0 := by decide
  have e2 : single.fractionBits = 23 := by decide
  have e3 : single.binade = 8388608 := by decide
  rw [e1, e2, e3] at h
  have e4 : (lps + 100 + 0 - 23) * 8388608 + 1 * 2 ^ (23 - 0) = bigR := by unfold lps bigR; decide
  rw [e4] at h
  unfold rq
  rw [h, Nat.one_mul, ← two_nat, Nat.add_comm, two_add]
  rw [Rat.div_def, Rat.mul_assoc, Rat.mul_inv_cancel _ (Rat.ne_of_gt (two_pos lps)), Rat.mul_one]

/-- A wide number that is narrowed. -/
theorem narrow_rnd {x : Nat} (hx : Flt.Fin x) (hB : Size (Flt.fq x) (two 100)) :
    ∃ u, floatToFloatBits .f64 x .f32 = some u ∧ Fin u ∧ Rnd (Flt.fq x) (fq u) := by
  obtain ⟨s, m, p, e, l, v⟩ := Flt.read_dq hx
  have hb : lps ≤ lpn := by unfold lps lpn; omega
  have ea : at_ m p (-(lpn : Int)) = m * 2 ^ (p + lpn).toNat := by unfold at_; congr 2; try omega
  obtain ⟨h1, h2⟩ := write_rnd (neg := s) (m := m) (p := p) (b := lpn) (R := bigR) (t := Flt.fq x) hb l bigR_lt (by rw [v, Flt.dq_abs, ea]) (by rw [bigR_q]; exact hB)
  refine ⟨single.nearest s m p, ?_, h1, h2⟩
  obtain ⟨s', m', p', e', -, -⟩ := read_dq h1
  unfold floatToFloatBits
  rw [if_neg (by decide)]
  have d1 : FloatKind.f64.decode x = .number s m p := e
  rw [d1]
  have d2 : FloatKind.f32.encode (.number s m p) = single.nearest s m p := rfl
  simp only [d2]
  have d3 : FloatKind.f32.decode (single.nearest s m p) = .number s' m' p' := e'
  rw [d3]
  rfl

/-- A narrow number that is widened keeps its value. -/
theorem widen_fq {u : Nat} (hu : Fin u) : ∃ x, floatToFloatBits .f32 u .f64 = some x ∧ Flt.Fin x ∧ Flt.fq x = fq u := by
  obtain ⟨r, h1, h2, h3⟩ := widen_fin hu.2
  have h1' : r < double.infRung := by rw [ir64]; exact h1
  refine ⟨_, h3, Flt.fin_word _ h1', ?_⟩
  rw [Flt.fq_word _ h1']
  have e1 : Flt.rq r = (val single (u % 2147483648) : Rat) / two lps := by
    unfold Flt.rq
    rw [h2, Rat.natCast_mul]
    have hs : two lpn = two lps * two wideUp := by rw [← two_add]; rfl
    rw [hs]
    show _ * two wideUp / _ = _
    have c1 := Rat.mul_inv_cancel _ (Rat.ne_of_gt (two_pos wideUp))
    have c2 := Rat.mul_inv_cancel _ (Rat.ne_of_gt (two_pos lps))
    rw [Rat.div_def, Rat.div_def, Rat.inv_mul_rev]; grind
  rw [e1]
  have hsw : single.signWeight = 2147483648 := by decide
  unfold fq rsv sval
  rw [hsw]
  split
  · rw [Rat.intCast_neg, Rat.intCast_natCast]; rw [Rat.div_def, Rat.div_def]; grind
  · rw [Rat.intCast_natCast]

theorem rep_nat {k e : Nat} (hk : k < 2 ^ 24) (he : e ≤ 100) {q : Rat} (h : q * two e = (k : Rat)) : Rep q := by
  have hl : e ≤ lps := by unfold lps; omega
  by_cases h0 : k = 0
  · have : q = 0 := by
      have h1 : q * two e = 0 := by rw [h, h0]; rfl
      rcases Rat.mul_eq_zero.1 h1 with h | h
      · exact h
      · exact absurd h (Rat.ne_of_gt (two_pos e))
    rw [this]; exact rep_zero
  · have e2 : single.fractionBits = 23 := by decide
    have e3 : single.binade = 8388608 := by decide
    have hl53 : k.log2 < 24 := (Nat.log2_lt h0).2 hk
    have hv := rung_of (f := single) (k := k) (q := lps - e) h0 (by rw [e3]; omega) (by rw [e2]; unfold lps; omega)
    rw [e2, e3] at hv
    have hhi := Nat.lt_log2_self (n := k)
    have h53 : k * 2 ^ (23 - k.log2) ≤ 2 ^ (k.log2 + 1) * 2 ^ (23 - k.log2) := Nat.mul_le_mul_right _ (Nat.le_of_lt hhi)
    rw [← Nat.pow_add, show k.log2 + 1 + (23 - k.log2) = 24 by omega] at h53
    have hlt : (lps - e + k.log2 - 23) * 8388608 + k * 2 ^ (23 - k.log2) < single.infRung := by
      rw [ir32]
      have : lps - e + k.log2 - 23 ≤ 150 := by unfold lps; omega
      omega
    have hr := rep_rq hlt
    have : rq ((lps - e + k.log2 - 23) * 8388608 + k * 2 ^ (23 - k.log2)) = q := by
      have hs : two lps = two e * two (lps - e) := two_cut hl
      unfold rq
      rw [hv, Rat.natCast_mul, ← h, hs]
      show q * two e * two (lps - e) / (two e * two (lps - e)) = q
      have h1 := Rat.mul_inv_cancel _ (Rat.ne_of_gt (two_pos e))
      have h2 := Rat.mul_inv_cancel _ (Rat.ne_of_gt (two_pos (lps - e)))
      rw [Rat.div_def, Rat.inv_mul_rev]; grind
    rw [this] at hr
    exact hr
theorem rep_int {k : Int} {e : Nat} (hk : k.natAbs < 2 ^ 24) (he : e ≤ 100) {q : Rat} (h : q * two e = (k : Rat)) : Rep q := by
  by_cases h0 : 0 ≤ k
  · obtain ⟨n, rfl⟩ : ∃ n : Nat, k = (n : Int) := ⟨k.natAbs, by omega⟩
    exact rep_nat (k := n) (by omega) he (by rw [h, Rat.intCast_natCast])
  · obtain ⟨n, rfl⟩ : ∃ n : Nat, k = -(n : Int) := ⟨k.natAbs, by omega⟩
    have := rep_neg (rep_nat (k := n) (q := -q) (by omega) he (by rw [Rat.intCast_neg, Rat.intCast_natCast] at h; grind))
    rwa [Rat.neg_neg] at this

end Flt.Nar
end Go.Proofs.Ytgolfdngpphndaa
