import Derived.Test.YtgolfdngpphndaaTurnW
/-
  Each turn is near the exact one, by the rules. No program.
-/
set_option linter.unusedVariables false
set_option linter.unusedSimpArgs false
namespace Go.Proofs.Ytgolfdngpphndaa
open Go Flt
namespace Flt
open Turn

theorem fv_neg {z : O} {q : Rat} (h : Fv z q) : Fv (fneg .f64 z) (-q) := by
  obtain ⟨u, rfl, h1, rfl⟩ := h
  obtain ⟨neg, r, hr, rfl⟩ := fin_parts h1
  have hs : Ieee.double.signWeight = 9223372036854775808 := by decide
  have hr' := hr
  rw [ir64] at hr'
  have e2 : Op.negFloat .f64 (Ieee.double.word neg r) = Ieee.double.word (!neg) r := by
    show Ieee.double.word neg r ^^^ 2 ^ 63 = _
    unfold Ieee.Format.word
    rw [hs]
    cases neg
    · simp only [Bool.false_eq_true, if_false, Bool.not_false, if_true]
      rw [neg64_lo (x := r) (by omega)]; omega
    · simp only [Bool.not_true, Bool.false_eq_true, if_false, if_true]
      rw [neg64_hi (x := 9223372036854775808 + r) (by omega) (by omega)]; omega
  refine ⟨Ieee.double.word (!neg) r, by show some _ = some _; rw [e2], fin_word _ hr, ?_⟩
  rw [fq_word _ hr, fq_word _ hr]
  cases neg
  · rfl
  · simp only [Bool.not_true, Bool.false_eq_true, if_false, if_true]; rw [Rat.neg_neg]

theorem Near.neg {a b e : Rat} (h : Near a b e) : Near (-a) (-b) e := by
  obtain ⟨h1, h2⟩ := h
  constructor <;> grind
theorem Near.trans {a b c e f : Rat} (h : Near a b e) (k : Near b c f) : Near a c (e + f) := by
  obtain ⟨h1, h2⟩ := h
  obtain ⟨k1, k2⟩ := k
  constructor <;> grind
theorem Near.symm {a b e : Rat} (h : Near a b e) : Near b a e := ⟨h.2, h.1⟩
theorem Near.mono {a b e f : Rat} (h : Near a b e) (k : e ≤ f) : Near a b f := ⟨Rat.le_trans h.1 k, Rat.le_trans h.2 k⟩
theorem Near.refl (a : Rat) {e : Rat} (h : 0 ≤ e) : Near a a e := by constructor <;> grind

/-- A turn that is near the exact one. -/
def TurnAt (z : O × O) (q e : Rat) : Prop := ∃ r s, Fv z.1 r ∧ Fv z.2 s ∧ Near r (cq q) e ∧ Near s (sq q) e

theorem part_size {n k : Nat} (hn : 0 < n) (hk : k ≤ n) : Size ((k : Rat) / (n : Rat)) 1 := by
  have n0 : (0 : Rat) < (n : Rat) := Rat.natCast_pos.2 hn
  have h1 := div_le_div n0 (Rat.natCast_le_natCast.2 hk)
  have h2 : (n : Rat) / (n : Rat) = 1 := by rw [Rat.div_def]; exact Rat.mul_inv_cancel _ (Rat.ne_of_gt n0)
  rw [h2] at h1
  refine Size.of_nonneg ?_ h1
  rw [Rat.div_def]
  exact Rat.mul_nonneg Rat.natCast_nonneg (Rat.le_of_lt (Rat.inv_pos.2 n0))

theorem part_red {n k : Nat} (hn : 0 < n) : ((k / n.gcd k : Nat) : Rat) / ((n / n.gcd k : Nat) : Rat) = (k : Rat) / (n : Rat) := by
  have hg : 0 < n.gcd k := Nat.gcd_pos_of_pos_left _ hn
  obtain ⟨a, ha⟩ := Nat.gcd_dvd_left n k
  obtain ⟨b, hb⟩ := Nat.gcd_dvd_right n k
  generalize hG : n.gcd k = g at *
  subst ha hb
  rw [Nat.mul_div_cancel_left _ hg, Nat.mul_div_cancel_left _ hg, Rat.natCast_mul, Rat.natCast_mul]
  have g0 := Rat.mul_inv_cancel _ (Rat.ne_of_gt (Rat.natCast_pos.2 hg))
  rw [Rat.div_def, Rat.div_def, Rat.inv_mul_rev]
  grind

theorem turn_rec (r : Nat) : ∀ n k : Nat, rank n k ≤ r → r ≤ 3 → 0 < n → n * 8 ^ r ≤ 1048576 → k ≤ n → TurnAt (turn n k) ((k : Rat) / (n : Rat)) (13 * ulp + (r : Rat) * (5 * dl)) := by
  have u0 : 0 ≤ ulp := by decide +kernel
  have d0 : 0 ≤ dl := by decide +kernel
  induction r with
  | zero =>
    intro n k hr _ hn hb hk
    rw [turn_red hn, ← part_red hn]
    have hg : 0 < n.gcd k := Nat.gcd_pos_of_pos_left _ hn
    have hn1 : 0 < n / n.gcd k := Nat.div_pos (Nat.le_of_dvd hn (Nat.gcd_dvd_left n k)) hg
    have hn2 : n / n.gcd k ≤ n := Nat.div_le_self _ _
    have hgg : (n / n.gcd k).gcd (k / n.gcd k) = 1 := by
      rw [Nat.gcd_div (Nat.gcd_dvd_left n k) (Nat.gcd_dvd_right n k)]
      exact Nat.div_self hg
    rw [← rank_red hn] at hr
    generalize n / n.gcd k = n1 at *
    generalize k / n.gcd k = k1 at *
    have h8 : 8 * k1 ≤ n1 := by
      apply Classical.byContradiction; intro hc
      unfold rank at hr
      rw [if_neg hc] at hr
      split at hr
      · omega
      · split at hr <;> omega
    rw [show (((0 : Nat) : Rat)) = 0 from rfl, Rat.zero_mul, Rat.add_zero]
    have e13 : ulp ≤ 13 * ulp := by grind
    by_cases h0 : k1 = 0
    · rw [turn_zero hgg h0, h0]
      have : ((0 : Nat) : Rat) / (n1 : Rat) = 0 := by rw [show (((0 : Nat) : Rat)) = 0 from rfl, Rat.div_def, Rat.zero_mul]
      rw [this]
      refine ⟨1, 0, one_fv, zero_fv, ?_, ?_⟩
      · rw [cq_zero.1]; exact Near.refl _ (by grind)
      · rw [cq_zero.2]; exact Near.refl _ (by grind)
    · by_cases he : 8 * k1 = n1
      · rw [turn_eighth hgg h0 (by omega) (by omega) (by omega) he]
        have : (k1 : Rat) / (n1 : Rat) = 1 / 8 := by
          have k0 := Rat.mul_inv_cancel _ (Rat.ne_of_gt (Rat.natCast_pos.2 (Nat.pos_of_ne_zero h0)))
          rw [← he, Rat.natCast_mul, Rat.div_def, Rat.inv_mul_rev, ← Rat.mul_assoc, k0, Rat.one_mul, Rat.div_def, Rat.one_mul]; rfl
        rw [this]
        exact ⟨_, _, half_fv, half_fv, half_near.1.mono e13, half_near.2.mono e13⟩
      · rw [turn_series hgg h0 (by omega) (by omega) (by omega) he]
        exact ser_near (Nat.pos_of_ne_zero h0) h8 (by omega)
  | succ r ih =>
    intro n k hr hr3 hn hb hk
    have hb' : n * 8 ^ r * 8 ≤ 1048576 := by rw [Nat.pow_succ, ← Nat.mul_assoc] at hb; exact hb
    have er : (((r + 1 : Nat) : Rat)) * (5 * dl) = (r : Rat) * (5 * dl) + 5 * dl := by rw [Rat.natCast_add]; show ((r : Rat) + 1) * _ = _; grind
    have elt : 13 * ulp + (r : Rat) * (5 * dl) ≤ 13 * ulp + (((r + 1 : Nat) : Rat)) * (5 * dl) := by rw [er]; grind
    rw [turn_red hn, ← part_red hn]
    have hg : 0 < n.gcd k := Nat.gcd_pos_of_pos_left _ hn
    have hn1 : 0 < n / n.gcd k := Nat.div_pos (Nat.le_of_dvd hn (Nat.gcd_dvd_left n k)) hg
    have hn2 : n / n.gcd k ≤ n := Nat.div_le_self _ _
    have hk1 : k / n.gcd k ≤ n / n.gcd k := Nat.div_le_div_right hk
    have hgg : (n / n.gcd k).gcd (k / n.gcd k) = 1 := by
      rw [Nat.gcd_div (Nat.gcd_dvd_left n k) (Nat.gcd_dvd_right n k)]
      exact Nat.div_self hg
    rw [← rank_red hn] at hr
    have hb1 : n / n.gcd k * 8 ^ r * 8 ≤ 1048576 := Nat.le_trans (Nat.mul_le_mul_right _ (Nat.mul_le_mul_right _ hn2)) hb'
    generalize n / n.gcd k = n1 at *
    generalize k / n.gcd k = k1 at *
    have n0 : (0 : Rat) < (n1 : Rat) := Rat.natCast_pos.2 hn1
    have ni := Rat.mul_inv_cancel _ (Rat.ne_of_gt n0)
    have hsz := part_size hn1 hk1
    by_cases hlow : rank n1 k1 ≤ r
    · obtain ⟨x, y, x1, y1, x2, y2⟩ := ih n1 k1 hlow (by omega) hn1 (by omega) hk1
      exact ⟨x, y, x1, y1, x2.mono elt, y2.mono elt⟩
    · have hr1 : rank n1 k1 = r + 1 := by omega
      have h0 : k1 ≠ 0 := by
        rintro rfl
        unfold rank at hr1
        rw [if_pos (by omega)] at hr1; omega
      unfold rank at hr1
      rw [er, ← Rat.add_assoc]
      by_cases h2 : n1 < 2 * k1
      · rw [turn_two hgg h0 hn1 hk1 h2]
        have hr2 : rank n1 (n1 - k1) ≤ r := by
          rw [if_neg (by omega), if_neg (by omega), if_neg (by omega)] at hr1
          unfold rank
          split <;> (try split) <;> (try split) <;> omega
        obtain ⟨x, y, x1, y1, x2, y2⟩ := ih n1 (n1 - k1) hr2 (by omega) hn1 (by omega) (by omega)
        have e : ((n1 - k1 : Nat) : Rat) / (n1 : Rat) = 1 - (k1 : Rat) / (n1 : Rat) := by
          have h : ((n1 - k1 : Nat) : Rat) + (k1 : Rat) = (n1 : Rat) := by rw [← Rat.natCast_add]; exact congrArg _ (by omega)
          rw [Rat.div_def, Rat.div_def]; grind
        rw [e] at x2 y2
        obtain ⟨m1, m2⟩ := cq_mirror hsz
        refine ⟨x, -y, x1, fv_neg y1, x2.trans m1, ?_⟩
        have := (y2.trans m2).neg
        rwa [Rat.neg_neg] at this
      · by_cases h4 : n1 < 4 * k1
        · rw [turn_four hgg h0 hn1 h2 h4]
          have hr2 : rank (2 * n1) (n1 - 2 * k1) ≤ r := by
            rw [if_neg (by omega), if_neg (by omega), if_pos (by omega)] at hr1
            unfold rank
            split <;> (try split) <;> (try split) <;> omega
          obtain ⟨x, y, x1, y1, x2, y2⟩ := ih (2 * n1) (n1 - 2 * k1) hr2 (by omega) (by omega) (by rw [Nat.mul_assoc]; omega) (by omega)
          have e : ((n1 - 2 * k1 : Nat) : Rat) / ((2 * n1 : Nat) : Rat) = 1 / 2 - (k1 : Rat) / (n1 : Rat) := by
            have h : ((n1 - 2 * k1 : Nat) : Rat) + 2 * (k1 : Rat) = (n1 : Rat) := by
              have h3 : ((2 * k1 : Nat) : Rat) = 2 * (k1 : Rat) := by rw [Rat.natCast_mul]; rfl
              rw [← h3, ← Rat.natCast_add]; exact congrArg _ (by omega)
            rw [Rat.natCast_mul, Rat.div_def, Rat.inv_mul_rev, Rat.div_def]
            show _ * (_ * (2 : Rat)⁻¹) = _
            grind
          rw [e] at x2 y2
          obtain ⟨m1, m2⟩ := cq_opp hsz
          refine ⟨-x, y, fv_neg x1, y1, ?_, y2.trans m2⟩
          have := (x2.trans m1).neg
          rwa [Rat.neg_neg] at this
        · have h8 : n1 < 8 * k1 := by
            apply Nat.lt_of_not_le; intro hc
            rw [if_pos hc] at hr1; omega
          rw [turn_eight hgg h0 hn1 h2 h4 h8]
          have hr2 : rank (4 * n1) (n1 - 4 * k1) ≤ r := by
            rw [if_neg (by omega), if_pos (by omega)] at hr1
            unfold rank
            split <;> (try split) <;> (try split) <;> omega
          obtain ⟨x, y, x1, y1, x2, y2⟩ := ih (4 * n1) (n1 - 4 * k1) hr2 (by omega) (by omega) (by rw [Nat.mul_assoc]; omega) (by omega)
          have e : ((n1 - 4 * k1 : Nat) : Rat) / ((4 * n1 : Nat) : Rat) = 1 / 4 - (k1 : Rat) / (n1 : Rat) := by
            have h : ((n1 - 4 * k1 : Nat) : Rat) + 4 * (k1 : Rat) = (n1 : Rat) := by
              have h3 : ((4 * k1 : Nat) : Rat) = 4 * (k1 : Rat) := by rw [Rat.natCast_mul]; rfl
              rw [← h3, ← Rat.natCast_add]; exact congrArg _ (by omega)
            rw [Rat.natCast_mul, Rat.div_def, Rat.inv_mul_rev, Rat.div_def]
            show _ * (_ * (4 : Rat)⁻¹) = _
            grind
          rw [e] at x2 y2
          obtain ⟨m1, m2⟩ := cq_quart hsz
          exact ⟨y, x, y1, x1, y2.trans m2, x2.trans m1⟩

/-- EACH TURN IS NEAR THE EXACT ONE. -/
theorem turn_near {n k : Nat} (hn : 0 < n) (hn2 : n ≤ 2048) (hk : k ≤ n) : TurnAt (turn n k) ((k : Rat) / (n : Rat)) (14 * ulp) := by
  obtain ⟨x, y, x1, y1, x2, y2⟩ := turn_rec 3 n k (rank_le n k) (Nat.le_refl _) hn (by omega) hk
  have e : 13 * ulp + (((3 : Nat) : Rat)) * (5 * dl) ≤ 14 * ulp := by decide +kernel
  exact ⟨x, y, x1, y1, x2.mono e, y2.mono e⟩

end Flt
end Go.Proofs.Ytgolfdngpphndaa
