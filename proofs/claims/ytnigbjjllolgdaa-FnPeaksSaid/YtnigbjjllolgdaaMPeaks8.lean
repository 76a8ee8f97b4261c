/-
  Several texts of this claim, one behind the other; each says what it holds.
-/
import Derived.Test.YtnigbjjllolgdaaMPeaks7
import Derived.Shelf.GgSortMore.Stable
/-
  FnPeaks: differences either way round; quotients; a peak's top.
-/
set_option linter.unusedVariables false
set_option linter.unusedSimpArgs false
namespace Go.Proofs.Ytnigbjjllolgdaa
open Go.RowKit Flt

theorem nearest_abs (b b' : Bool) (m : Nat) (p : Int) : Ieee.double.nearest b m p % 9223372036854775808 = Ieee.double.nearest b' m p % 9223372036854775808 := by
  have hw : ∀ c r, r ≤ Ieee.double.infRung → Ieee.double.word c r % 9223372036854775808 = r := by
    intro c r h
    have hs : Ieee.double.signWeight = 9223372036854775808 := by decide
    have h1 : r < 9223372036854775808 := Nat.lt_of_le_of_lt h (by decide)
    unfold Ieee.Format.word
    rw [hs]
    cases c <;> simp <;> omega
  have hr : rungOf Ieee.double m p ≤ Ieee.double.infRung := by
    unfold rungOf
    split
    · exact Nat.zero_le _
    · exact Nat.min_le_right _ _
  rw [nearest_rung, nearest_rung, hw _ _ hr, hw _ _ hr]

/-- The size of a difference, either way round. -/
theorem abs_sub_comm {x y : Nat} (hx : Flt.Fin x) (hy : Flt.Fin y) : absO (fop .sub .f64 (some x) (some y)) = absO (fop .sub .f64 (some y) (some x)) := by
  obtain ⟨s, m, i, e1, -, -⟩ := read_dq hx
  obtain ⟨t, n, j, e2, -, -⟩ := read_dq hy
  show absO (Option.map Ieee.double.write ((Ieee.double.read x).sum (Ieee.double.read y).opposite)) = absO (Option.map Ieee.double.write ((Ieee.double.read y).sum (Ieee.double.read x).opposite))
  rw [e1, e2]
  simp only [Ieee.Datum.opposite, Ieee.Datum.sum, Option.map_some, absO, Ieee.Format.write]
  rw [Int.min_comm j i]
  obtain ⟨T, hT⟩ : ∃ T, Ieee.signed s m (i - min i j).toNat + Ieee.signed (!t) n (j - min i j).toNat = T := ⟨_, rfl⟩
  have hU : Ieee.signed t n (j - min i j).toNat + Ieee.signed (!s) m (i - min i j).toNat = -T := by
    rw [← hT]
    unfold Ieee.signed
    cases s <;> cases t <;> simp <;> omega
  rw [hT, hU, Int.natAbs_neg]
  exact congrArg some (nearest_abs _ _ _ _)

theorem fv_abs {z : Option Nat} {q B : Rat} (h : Fv z q) (hB : Size q B) : ∃ r, Fv (absO z) r ∧ 0 ≤ r ∧ r ≤ B ∧ (q = 0 → r = 0) := by
  obtain ⟨x, rfl, hx, e⟩ := h
  obtain ⟨neg, r, hr, rfl⟩ := fin_parts hx
  have hw : Ieee.double.word neg r % 9223372036854775808 = Ieee.double.word false r := by
    have hs : Ieee.double.signWeight = 9223372036854775808 := by decide
    have h1 : r < 9223372036854775808 := Nat.lt_trans hr (by decide)
    unfold Ieee.Format.word
    rw [hs]
    cases neg <;> simp <;> omega
  have hf := fq_word neg hr
  have hg := fq_word false hr
  rw [hf] at e
  refine ⟨rq r, ⟨_, rfl, ?_, ?_⟩, rq_nonneg r, ?_, ?_⟩
  · rw [hw]; exact fin_word _ hr
  · rw [hw, hg]; rfl
  · obtain ⟨b1, b2⟩ := hB
    cases neg
    · simp at e; rw [e]; exact b1
    · simp at e; rw [← e] at b2; grind
  · intro h0
    cases neg <;> simp at e <;> grind

theorem quo_le_neg {x y c : Rat} (hy : y < 0) (h : c * y ≤ x) : x / y ≤ c := by
  apply Rat.not_lt.1
  intro hc
  have h1 : 0 < (x / y - c) * (-y) := Rat.mul_pos (by grind) (by grind)
  have h2 : x / y * y = x := Rat.div_mul_cancel (by grind)
  grind
theorem quo_ge_neg {x y c : Rat} (hy : y < 0) (h : x ≤ c * y) : c ≤ x / y := by
  apply Rat.not_lt.1
  intro hc
  have h1 : 0 < (c - x / y) * (-y) := Rat.mul_pos (by grind) (by grind)
  have h2 : x / y * y = x := Rat.div_mul_cancel (by grind)
  grind
theorem quo_le_pos {x y c : Rat} (hy : 0 < y) (h : x ≤ c * y) : x / y ≤ c := by
  apply Rat.not_lt.1
  intro hc
  have h1 : 0 < (x / y - c) * y := Rat.mul_pos (by grind) hy
  have h2 : x / y * y = x := Rat.div_mul_cancel (by grind)
  grind
theorem quo_ge_pos {x y c : Rat} (hy : 0 < y) (h : c * y ≤ x) : c ≤ x / y := by
  apply Rat.not_lt.1
  intro hc
  have h1 : 0 < (c - x / y) * y := Rat.mul_pos (by grind) hy
  have h2 : x / y * y = x := Rat.div_mul_cancel (by grind)
  grind

theorem th_mulR (a : Int) : th a = (a : Rat) * (1 / 32) := by unfold th; rw [Rat.div_def, Rat.div_def]; grind
theorem big_two : (1000000 : Rat) ≤ two 1000 := by
  have h : (1000000 : Nat) ≤ 2 ^ 1000 := by decide +kernel
  exact Rat.natCast_le_natCast.2 h
theorem mod_of {t B : Rat} (h : Size t B) (hB : B ≤ 1000000) : Moderate t := ⟨Rat.le_trans h.1 (Rat.le_trans hB big_two), Rat.le_trans h.2 (Rat.le_trans hB big_two)⟩
theorem rep_th {k : Int} (h : k.natAbs ≤ 1073741824) : Rep (th k) := (th_dy h).rep (by decide) (by decide)
theorem has_two : Has 4611686018427387904 (th 64) := ⟨⟨by decide, by decide⟩, by decide +kernel⟩
theorem has_halfP : Has 4602678819172646912 (th 16) := ⟨⟨by decide, by decide⟩, by decide +kernel⟩
theorem has_quarter : Has 4598175219545276416 (th 8) := ⟨⟨by decide, by decide⟩, by decide +kernel⟩

theorem th_neg' (k : Int) : -th k = th (-k) := by unfold th; rw [Rat.intCast_neg, Rat.div_def, Rat.div_def]; grind
theorem has_gt_f' {u v : Nat} {p q : Rat} (hu : Has u p) (hv : Has v q) (h : p ≤ q) : (FloatKind.f64.format.order u v == some .gt) = false := by
  show (Ieee.double.order u v == some .gt) = false
  rcases Rat.le_iff_lt_or_eq.1 h with h1 | h1
  · rw [order_lt hu.1 hv.1 (by rw [hu.2, hv.2]; exact h1)]; rfl
  · rw [order_eq_q hu.1 hv.1 (by rw [hu.2, hv.2]; exact h1)]; rfl
theorem has_lt_f' {u v : Nat} {p q : Rat} (hu : Has u p) (hv : Has v q) (h : q ≤ p) : (FloatKind.f64.format.order u v == some .lt) = false := by
  show (Ieee.double.order u v == some .lt) = false
  rcases Rat.le_iff_lt_or_eq.1 h with h1 | h1
  · rw [order_gt hu.1 hv.1 (by rw [hu.2, hv.2]; exact h1)]; rfl
  · rw [order_eq_q hu.1 hv.1 (by rw [hu.2, hv.2]; exact h1.symm)]; rfl
theorem has_ge_f' {u v : Nat} {p q : Rat} (hu : Has u p) (hv : Has v q) (h : p < q) : (FloatKind.f64.format.order u v == some .gt || FloatKind.f64.format.order u v == some .eq) = false := by
  show (Ieee.double.order u v == some .gt || Ieee.double.order u v == some .eq) = false
  rw [order_lt hu.1 hv.1 (by rw [hu.2, hv.2]; exact h)]; rfl
theorem has_ge_t {u v : Nat} {p q : Rat} (hu : Has u p) (hv : Has v q) (h : q ≤ p) : (FloatKind.f64.format.order u v == some .gt || FloatKind.f64.format.order u v == some .eq) = true := by
  show (Ieee.double.order u v == some .gt || Ieee.double.order u v == some .eq) = true
  rcases Rat.le_iff_lt_or_eq.1 h with h1 | h1
  · rw [order_gt hu.1 hv.1 (by rw [hu.2, hv.2]; exact h1)]; rfl
  · rw [order_eq_q hu.1 hv.1 (by rw [hu.2, hv.2]; exact h1.symm)]; rfl
theorem has_le_t {u v : Nat} {p q : Rat} (hu : Has u p) (hv : Has v q) (h : p ≤ q) : (FloatKind.f64.format.order u v == some .lt || FloatKind.f64.format.order u v == some .eq) = true := by
  show (Ieee.double.order u v == some .lt || Ieee.double.order u v == some .eq) = true
  rcases Rat.le_iff_lt_or_eq.1 h with h1 | h1
  · rw [order_lt hu.1 hv.1 (by rw [hu.2, hv.2]; exact h1)]; rfl
  · rw [order_eq_q hu.1 hv.1 (by rw [hu.2, hv.2]; exact h1)]; rfl
theorem has_le_f {u v : Nat} {p q : Rat} (hu : Has u p) (hv : Has v q) (h : q < p) : (FloatKind.f64.format.order u v == some .lt || FloatKind.f64.format.order u v == some .eq) = false := by
  show (Ieee.double.order u v == some .lt || Ieee.double.order u v == some .eq) = false
  rw [order_gt hu.1 hv.1 (by rw [hu.2, hv.2]; exact h)]; rfl

end Go.Proofs.Ytnigbjjllolgdaa
/-
  FnPeaks: the top of a peak.
-/
set_option linter.unusedVariables false
set_option linter.unusedSimpArgs false
namespace Go.Proofs.Ytnigbjjllolgdaa
open Go.RowKit Flt

theorem th_two (k : Int) : th 64 * th k = th (2 * k) := by
  rw [th_mulR, th_mulR, th_mulR, Rat.intCast_mul]
  show (64 : Rat) * (1 / 32) * ((k : Rat) * (1 / 32)) = (2 : Rat) * k * (1 / 32)
  grind
theorem th_half (k : Int) : th 16 * th (2 * k) = th k := by
  rw [th_mulR, th_mulR, th_mulR, Rat.intCast_mul]
  show (16 : Rat) * (1 / 32) * ((2 : Rat) * k * (1 / 32)) = k * (1 / 32)
  grind
theorem th_quarter (k : Int) : th 8 * th (4 * k) = th k := by
  rw [th_mulR, th_mulR, th_mulR, Rat.intCast_mul]
  show (8 : Rat) * (1 / 32) * ((4 : Rat) * k * (1 / 32)) = k * (1 / 32)
  grind
theorem th_16_mul (k : Int) : th 16 * th k = (k : Rat) * (1 / 64) := by
  rw [th_mulR, th_mulR]
  show (16 : Rat) * (1 / 32) * ((k : Rat) * (1 / 32)) = (k : Rat) * (1 / 64)
  grind
theorem th_0 : th 0 = 0 := by decide +kernel
theorem th_16 : th 16 = 1 / 2 := by decide +kernel

theorem off_fv {x y z : Option Nat} {A B C : Int} (hx : Fv x (th (4 * A))) (hy : Fv y (th (4 * B))) (hz : Fv z (th (4 * C))) (a0 : 1 ≤ A ∧ A ≤ 64) (b0 : 1 ≤ B ∧ B ≤ 64) (c0 : 1 ≤ C ∧ C ≤ 64) (hA : A < B) (hC : C < B) :
    ∃ o, Fv (offO x y z) o ∧ -(1 / 2) ≤ o ∧ o ≤ 1 / 2 ∧ (A ≤ C → 0 ≤ o) ∧ (C ≤ A → o ≤ 0) := by
  have h1 : Fv (fop .mul .f64 (some 4611686018427387904) y) (th (8 * B)) := by
    have e : th 64 * th (4 * B) = th (8 * B) := by rw [th_two]; congr 1; omega
    rw [← e]
    exact Dy.fv_mul (e := 5) (K := 1000) (by rw [e]; exact th_dy (by omega)) (by decide) (by decide) has_two.fv hy
  have h2 := fv_th_sub (by omega) hx h1
  have h3 : Fv (bendO x y z) (th (4 * A - 8 * B + 4 * C)) := fv_th_add (by omega) h2 hz
  have h4 : Fv (fop .sub .f64 x z) (th (4 * A - 4 * C)) := fv_th_sub (by omega) hx hz
  have h5 : Fv (fop .mul .f64 (some 4602678819172646912) (fop .sub .f64 x z)) (th (2 * (A - C))) := by
    have e : th 16 * th (4 * A - 4 * C) = th (2 * (A - C)) := by rw [show 4 * A - 4 * C = 2 * (2 * (A - C)) by omega, th_half]
    rw [← e]
    exact Dy.fv_mul (e := 5) (K := 1000) (by rw [e]; exact th_dy (by omega)) (by decide) (by decide) has_halfP.fv h4
  obtain ⟨D, hD⟩ : ∃ D, 4 * A - 8 * B + 4 * C = D := ⟨_, rfl⟩
  rw [hD] at h3
  have hneg : th D < 0 := by rw [← th_0]; exact th_lt (by omega)
  have t1 : th (2 * (A - C)) / th D ≤ 1 / 2 := quo_le_neg hneg (by
    have : (1 / 2 : Rat) * th D = th (2 * A - 4 * B + 2 * C) := by rw [← th_16, show D = 2 * (2 * A - 4 * B + 2 * C) by omega, th_half]
    rw [this]; exact th_le (by omega))
  have t2 : -(1 / 2) ≤ th (2 * (A - C)) / th D := quo_ge_neg hneg (by
    have : (-(1 / 2) : Rat) * th D = th (-(2 * A - 4 * B + 2 * C)) := by
      rw [← th_16, show D = 2 * (2 * A - 4 * B + 2 * C) by omega]
      have := th_half (2 * A - 4 * B + 2 * C)
      rw [← th_neg']
      grind
    rw [this]; exact th_le (by omega))
  obtain ⟨r, hr, hR⟩ := fv_div h5 h3 (by grind) (mod_of (B := 1) ⟨by grind, by grind⟩ (by grind))
  have rh : Rep (1 / 2 : Rat) := by rw [← th_16]; exact rep_th (by decide)
  refine ⟨r, hr, hR.ge _ (rep_neg rh) t2, hR.le _ rh t1, fun h => hR.nonneg (quo_ge_neg hneg (by rw [Rat.zero_mul, ← th_0]; exact th_le (by omega))), fun h => hR.le 0 rep_zero (quo_le_neg hneg (by rw [Rat.zero_mul, ← th_0]; exact th_le (by omega)))⟩

theorem top_fv {x y z : Option Nat} {A B C : Int} (hx : Fv x (th (4 * A))) (hy : Fv y (th (4 * B))) (hz : Fv z (th (4 * C))) (a0 : 1 ≤ A ∧ A ≤ 64) (b0 : 1 ≤ B ∧ B ≤ 64) (c0 : 1 ≤ C ∧ C ≤ 64) (hA : A < B) (hC : C < B) :
    ∃ o t, Fv (offO x y z) o ∧ -(1 / 2) ≤ o ∧ o ≤ 1 / 2 ∧ Fv (topO x y z) t ∧ th (4 * B) ≤ t := by
  obtain ⟨o, ho, o1, o2, o3, o4⟩ := off_fv hx hy hz a0 b0 c0 hA hC
  have h4 : Fv (fop .sub .f64 x z) (th (4 * A - 4 * C)) := fv_th_sub (by omega) hx hz
  have h5 : Fv (fop .mul .f64 (some 4598175219545276416) (fop .sub .f64 x z)) (th (A - C)) := by
    have e : th 8 * th (4 * A - 4 * C) = th (A - C) := by rw [show 4 * A - 4 * C = 4 * (A - C) by omega, th_quarter]
    rw [← e]
    exact Dy.fv_mul (e := 5) (K := 1000) (by rw [e]; exact th_dy (by omega)) (by decide) (by decide) has_quarter.fv h4
  have s1 : th (A - C) ≤ th 64 := th_le (by omega)
  have s2 : th (-64) ≤ th (A - C) := th_le (by omega)
  rw [show th 64 = 2 by decide +kernel] at s1
  rw [show th (-64) = -2 by decide +kernel] at s2
  -- the product is at most 0
  have sgn : th (A - C) * o ≤ 0 ∧ -1 ≤ th (A - C) * o := by
    rcases Int.le_total A C with h | h
    · have p1 := o3 h
      have p2 : th (A - C) ≤ 0 := by rw [← th_0]; exact th_le (by omega)
      generalize th (A - C) = q at *
      have m1 : 0 ≤ (-q) * o := Rat.mul_nonneg (by grind) p1
      have m2 : 0 ≤ (2 + q) * o := Rat.mul_nonneg (by grind) p1
      constructor <;> grind
    · have p1 := o4 h
      have p2 : 0 ≤ th (A - C) := by rw [← th_0]; exact th_le (by omega)
      generalize th (A - C) = q at *
      have m1 : 0 ≤ q * (-o) := Rat.mul_nonneg p2 (by grind)
      have m2 : 0 ≤ (2 - q) * (-o) := Rat.mul_nonneg (by grind) (by grind)
      constructor <;> grind
  obtain ⟨r, hr, hR⟩ := fv_mul h5 ho (mod_of (B := 1) ⟨by grind, by grind⟩ (by grind))
  have r1 : r ≤ 0 := hR.le 0 rep_zero sgn.1
  have rh : Rep (-1 : Rat) := by rw [show (-1 : Rat) = th (-32) by decide +kernel]; exact rep_th (by decide)
  have r2 : -1 ≤ r := hR.ge _ rh sgn.2
  have b1 : th (4 * B) ≤ th 256 := th_le (by omega)
  have b2 : 0 ≤ th (4 * B) := by rw [← th_0]; exact th_le (by omega)
  rw [show th 256 = 8 by decide +kernel] at b1
  obtain ⟨t, ht, hT⟩ := fv_sub hy hr (mod_of (B := 10) ⟨by grind, by grind⟩ (by grind))
  exact ⟨o, t, ho, o1, o2, ht, hT.ge _ (rep_th (by omega)) (by grind)⟩

theorem unit_small {z : Option Nat} {q : Rat} (h : Fv z q) (h1 : -1 ≤ q) (h2 : q ≤ 1) : inUnit z = true := by
  obtain ⟨x, rfl, hx, e⟩ := h
  obtain ⟨neg, r, hr, rfl⟩ := fin_parts hx
  have hw : Ieee.double.word neg r % 9223372036854775808 = r := by
    have hs : Ieee.double.signWeight = 9223372036854775808 := by decide
    have h1 : r < 9223372036854775808 := Nat.lt_trans hr (by decide)
    unfold Ieee.Format.word
    rw [hs]
    cases neg <;> simp <;> omega
  show decide (Ieee.double.word neg r % 9223372036854775808 ≤ 4607182418800017408) = true
  rw [hw]
  apply decide_eq_true
  have ho : rq 4607182418800017408 = 1 := by
    have := fq_word false (r := 4607182418800017408) (by decide)
    rw [show Ieee.double.word false 4607182418800017408 = 4607182418800017408 by decide, has_one.2] at this
    exact this.symm
  apply rq_le.1
  rw [ho]
  rw [fq_word neg hr] at e
  cases neg <;> simp at e <;> grind

theorem pk_fv {xs : List Nat} {E : Nat → Int} (hK : PkL xs E) {i : Nat} (hi : i < xs.length) : Fv (wO xs i) (th (4 * E i)) := by
  have h := hK.2 i hi
  have e := h.isF.cn
  show Fv (Flt.cn .f64 (xs.getD i 0)) _
  rw [e]; exact h.fv

theorem gt_pk {xs : List Nat} {E : Nat → Int} (hK : PkL xs E) {i j : Nat} (hi : i < xs.length) (hj : j < xs.length) (h : gtO (wO xs i) (wO xs j) = true) : E j < E i := by
  have h1 := hK.2 i hi
  have h2 := hK.2 j hj
  have e1 : wO xs i = some (xs.getD i 0) := h1.isF.cn
  have e2 : wO xs j = some (xs.getD j 0) := h2.isF.cn
  rw [e1, e2] at h
  apply Int.not_le.1
  intro hc
  have := has_gt_f' h1 h2 (th_le (show 4 * E i ≤ 4 * E j by omega))
  rw [show gtO (some (xs.getD i 0)) (some (xs.getD j 0)) = (FloatKind.f64.format.order (xs.getD i 0) (xs.getD j 0) == some .gt) from rfl, this] at h
  cases h

theorem peak_vals {xs : List Nat} {E : Nat → Int} (hK : PkL xs E) {k : Nat} (hk : k < xs.length) (h : hiB xs k = true) :
    ∃ o t, Fv (hillO xs k) o ∧ -(1 / 2) ≤ o ∧ o ≤ 1 / 2 ∧ Fv (hillV xs k) t ∧ th (4 * E k) ≤ t := by
  unfold hiB at h
  obtain ⟨h1, h2⟩ := Bool.and_eq_true_iff.1 h
  have p := prv_lt hk
  have q := nxt_lt hk
  exact top_fv (pk_fv hK p) (pk_fv hK hk) (pk_fv hK q) (hK.1 _) (hK.1 _) (hK.1 _) (gt_pk hK hk p h1) (gt_pk hK hk q h2)

theorem pks_mem {xs : List Nat} {f : Option Nat} {m : Nat} : ∀ {z : Int}, z ∈ pks xs f m → ∃ j : Nat, z = (j : Int) ∧ j < m ∧ pkB xs f j = true := by
  induction m with
  | zero => intro z h; unfold pks at h; cases h
  | succ m ih =>
    intro z h
    unfold pks at h
    split at h
    · rename_i hp
      rcases List.mem_append.1 h with h | h
      · obtain ⟨j, e, hj, hb⟩ := ih h; exact ⟨j, e, by omega, hb⟩
      · rw [List.mem_singleton] at h; exact ⟨m, h, by omega, hp⟩
    · obtain ⟨j, e, hj, hb⟩ := ih h; exact ⟨j, e, by omega, hb⟩

/-- What is found at a place of a list of peaks. -/
theorem pk_at {xs : List Nat} {E : Nat → Int} (hK : PkL xs E) (h3 : ringK xs.length = 0) {i : Nat} (hi : i < (pksR xs (some 4611686018427387904)).length) :
    ∃ k : Nat, (pksR xs (some 4611686018427387904)).getD i 0 = (k : Int) ∧ k < xs.length ∧ th 64 ≤ th (4 * E k) ∧ pbK xs (k : Int) = 0 ∧ ∃ o t, Fv (pbO xs (k : Int)) o ∧ -(1 / 2) ≤ o ∧ o ≤ 1 / 2 ∧ Fv (pbV xs (k : Int)) t ∧ th (4 * E k) ≤ t := by
  have hm : (pksR xs (some 4611686018427387904)).getD i 0 ∈ pksR xs (some 4611686018427387904) := by
    rw [show (pksR xs (some 4611686018427387904)).getD i 0 = (pksR xs (some 4611686018427387904))[i] by simp [List.getD, hi]]
    exact List.getElem_mem _
  have er : pksR xs (some 4611686018427387904) = pks xs (some 4611686018427387904) xs.length := if_pos h3
  rw [er] at hm
  obtain ⟨k, e, hk, hb⟩ := pks_mem hm
  rw [← er] at e
  unfold pkB at hb
  obtain ⟨h1, h2⟩ := Bool.and_eq_true_iff.1 hb
  obtain ⟨o, t, a1, a2, a3, a4, a5⟩ := peak_vals hK hk h1
  have hge : th 64 ≤ th (4 * E k) := by
    apply Rat.not_lt.1
    intro hc
    have hh := hK.2 k hk
    have e1 : wO xs k = some (xs.getD k 0) := hh.isF.cn
    rw [e1] at h2
    have := has_ge_f' hh has_two hc
    rw [show geO (some (xs.getD k 0)) (some 4611686018427387904) = (FloatKind.f64.format.order (xs.getD k 0) 4611686018427387904 == some .gt || FloatKind.f64.format.order (xs.getD k 0) 4611686018427387904 == some .eq) from rfl, this] at h2
    cases h2
  have hu : inUnit (hillO xs k) = true := unit_small a1 (by grind) (by grind)
  have hp : pbK xs (k : Int) = 0 := by
    unfold pbK
    rw [if_pos h3, if_pos ⟨by omega, by omega⟩, Int.toNat_natCast, if_pos hu]
  have eo : pbO xs (k : Int) = hillO xs k := by unfold pbO; rw [if_pos hp, Int.toNat_natCast]
  have ev : pbV xs (k : Int) = hillV xs k := by unfold pbV; rw [if_pos hp, Int.toNat_natCast]
  exact ⟨k, e, hk, hge, hp, o, t, by rw [eo]; exact a1, a2, a3, by rw [ev]; exact a4, a5⟩

end Go.Proofs.Ytnigbjjllolgdaa
/-
  FnPeaks: the middle of powers; sums of sizes; sums over a ring.
-/
set_option linter.unusedVariables false
set_option linter.unusedSimpArgs false
namespace Go.Proofs.Ytnigbjjllolgdaa
open Go.RowKit Flt

def isum (f : Nat → Int) : Nat → Int
  | 0 => 0
  | n + 1 => isum f n + f n
theorem isum_congr {f g : Nat → Int} {n : Nat} (h : ∀ i, i < n → f i = g i) : isum f n = isum g n := by
  induction n with
  | zero => rfl
  | succ n ih => unfold isum; rw [ih (fun i hi => h i (by omega)), h n (by omega)]
theorem isum_mul (c : Int) (f : Nat → Int) (n : Nat) : isum (fun i => c * f i) n = c * isum f n := by
  induction n with
  | zero => simp [isum]
  | succ n ih => unfold isum; rw [ih, Int.mul_add]
theorem isum_add (f g : Nat → Int) (n : Nat) : isum (fun i => f i + g i) n = isum f n + isum g n := by
  induction n with
  | zero => rfl
  | succ n ih => unfold isum; rw [ih]; omega
theorem isum_const (c : Int) (n : Nat) : isum (fun _ => c) n = n * c := by
  induction n with
  | zero => simp [isum]
  | succ n ih => unfold isum; rw [ih]; push_cast; grind
theorem isum_swap (f : Nat → Nat → Int) (m n : Nat) : isum (fun k => isum (fun i => f k i) m) n = isum (fun i => isum (fun k => f k i) n) m := by
  induction n with
  | zero => simp only [isum]; rw [isum_const]; simp
  | succ n ih =>
    show isum _ n + isum (fun i => f n i) m = isum (fun i => isum (fun k => f k i) n + f n i) m
    rw [ih, isum_add]
theorem isum_shift (g : Nat → Int) (n : Nat) : isum (fun k => g (k + 1)) n = isum g n + g n - g 0 := by
  induction n with
  | zero => simp [isum]
  | succ n ih => show isum _ n + g (n + 1) = isum g n + g n + g (n + 1) - g 0; rw [ih]; omega
/-- Once round the ring, from wherever. -/
theorem isum_rot (f : Nat → Int) (n c : Nat) (hn : 0 < n) : isum (fun k => f ((k + c) % n)) n = isum f n := by
  induction c with
  | zero => exact isum_congr fun i hi => by rw [Nat.add_zero, Nat.mod_eq_of_lt hi]
  | succ c ih =>
    have h := isum_shift (fun k => f ((k + c) % n)) n
    rw [ih] at h
    simp only [Nat.add_mod_left, Nat.zero_add] at h
    have e : isum (fun k => f ((k + (c + 1)) % n)) n = isum (fun k => f ((k + 1 + c) % n)) n := isum_congr fun i hi => by
      rw [show i + (c + 1) = i + 1 + c by omega]
    rw [e, h]
    omega
theorem isum_le {f g : Nat → Int} {n : Nat} (h : ∀ i, i < n → f i ≤ g i) : isum f n ≤ isum g n := by
  induction n with
  | zero => exact Int.le_refl _
  | succ n ih => have := ih (fun i hi => h i (by omega)); have := h n (by omega); unfold isum; omega

theorem psum_th (f : Nat → Int) (n : Nat) : psum (fun i => th (f i)) n = th (isum f n) := by
  induction n with
  | zero => exact th_0.symm
  | succ n ih => rw [psum_succ, ih, th_add]; rfl

theorem pk_sum {xs : List Nat} {E : Nat → Int} (hK : PkL xs E) {n : Nat} (hx : xs.length = n) (h3 : 3 ≤ n) (h14 : n ≤ 14) : Fv (sumO (wO xs) n) (th (4 * isum E n)) := by
  rw [← isum_mul, ← psum_th]
  exact sumO_dy (e := 5) (K := 256) (fun i hi => pk_fv hK (by omega)) (fun i hi => th_dy (by have := hK.1 i; omega)) (by omega) (by decide) (by omega)

theorem isum_pk {E : Nat → Int} (h : ∀ i, 1 ≤ E i ∧ E i ≤ 64) (n : Nat) : (n : Int) ≤ isum E n ∧ isum E n ≤ 64 * n := by
  have h1 := isum_le (f := fun _ => 1) (g := E) (n := n) fun i _ => (h i).1
  have h2 := isum_le (f := E) (g := fun _ => 64) (n := n) fun i _ => (h i).2
  rw [isum_const] at h1 h2
  omega

theorem int_th (i k : Int) : (i : Rat) * th k = th (i * k) := by
  rw [th_mulR, th_mulR, Rat.intCast_mul]; grind

theorem nat_mul_le {i E : Int} {n : Nat} (h0 : 0 ≤ i) (h1 : i ≤ n) (h2 : 1 ≤ E) : 0 ≤ i * (4 * E) ∧ i * (4 * E) ≤ n * (4 * E) :=
  ⟨Int.mul_nonneg h0 (by omega), Int.mul_le_mul_of_nonneg_right h1 (by omega)⟩

theorem cen_fv {xs : List Nat} {E : Nat → Int} (hK : PkL xs E) {n : Nat} (hx : xs.length = n) (h3 : 3 ≤ n) (h14 : n ≤ 14) : cenK xs = 0 ∧ ∃ c, Fv (cenR xs) c ∧ 0 ≤ c ∧ c ≤ ((n : Int) : Rat) := by
  have hs := pk_sum hK hx h3 h14
  have hb := isum_pk hK.1 n
  have hc : Fv (sumO (cenZ xs) n) (th (isum (fun i => (i : Int) * (4 * E i)) n)) := by
    rw [← psum_th]
    refine sumO_dy (e := 5) (K := 4096) (fun i hi => ?_) (fun i hi => ?_) (by omega) (by decide) (by omega)
    · unfold cenZ
      rw [← int_th]
      have hE := hK.1 i
      have := nat_mul_le (i := (i : Int)) (E := E i) (n := 14) (by omega) (by omega) hE.1
      exact Dy.fv_mul (e := 5) (K := 4096) (by rw [int_th]; exact th_dy (by omega)) (by decide) (by decide) (fv_int_exact (by omega)) (pk_fv hK (by omega))
    · have hE := hK.1 i
      have := nat_mul_le (i := (i : Int)) (E := E i) (n := 14) (by omega) (by omega) hE.1
      exact th_dy (by omega)
  have hc0 : 0 ≤ isum (fun i => (i : Int) * (4 * E i)) n := by
    have := isum_le (f := fun _ => 0) (g := fun i => (i : Int) * (4 * E i)) (n := n) fun i _ => (nat_mul_le (i := (i : Int)) (n := i) (by omega) (by omega) (hK.1 i).1).1
    rw [isum_const] at this; omega
  have hc1 : isum (fun i => (i : Int) * (4 * E i)) n ≤ n * (4 * isum E n) := by
    have := isum_le (f := fun i => (i : Int) * (4 * E i)) (g := fun i => (n : Int) * (4 * E i)) (n := n) fun i hi => (nat_mul_le (i := (i : Int)) (n := n) (by omega) (by omega) (hK.1 i).1).2
    rw [isum_mul, isum_mul] at this; exact this
  have hpos : 0 < th (4 * isum E n) := by rw [← th_0]; exact th_lt (by omega)
  have hz : zeroO (sumO (wO xs) n) = false := by
    obtain ⟨s, e, hs, hq⟩ := hs
    rw [e]
    show (Ieee.double.order s 0 == some .eq) = false
    rw [order_gt hs has_zero.1 (by rw [hq, has_zero.2]; exact hpos)]; rfl
  have hk : cenK xs = 0 := by
    unfold cenK
    rw [if_neg (by omega), hx, hz]; rfl
  refine ⟨hk, ?_⟩
  have q1 : 0 ≤ th (isum (fun i => (i : Int) * (4 * E i)) n) / th (4 * isum E n) := quo_ge_pos hpos (by rw [Rat.zero_mul, ← th_0]; exact th_le hc0)
  have q2 : th (isum (fun i => (i : Int) * (4 * E i)) n) / th (4 * isum E n) ≤ ((n : Int) : Rat) := quo_le_pos hpos (by rw [int_th]; exact th_le hc1)
  have hn14 : ((n : Int) : Rat) ≤ 14 := Rat.intCast_le_intCast.2 (show (n : Int) ≤ 14 by omega)
  obtain ⟨c, hc, hR⟩ := fv_div hc hs (by grind) (mod_of (B := 14) ⟨by grind, by grind⟩ (by grind))
  refine ⟨c, ?_, hR.nonneg q1, hR.le _ (by rw [th_int]; exact rep_th (by omega)) q2⟩
  unfold cenR
  rw [if_pos hk, hx]
  exact hc

/-- A sum of a few sizes is a size. -/
theorem sum_sizes {z : Nat → Option Nat} {n : Nat} (h14 : n ≤ 14) (hz : ∀ i, i < n → ∃ q, Fv (z i) q ∧ 0 ≤ q ∧ q ≤ 128) : ∀ k, k ≤ n → 0 < k → ∃ s, Fv (sumO z k) s ∧ 0 ≤ s ∧ s ≤ th (8192 * (k : Int)) := by
  intro k
  induction k with
  | zero => intro _ h; omega
  | succ k ih =>
    intro hk _
    obtain ⟨q, hq, q0, q1⟩ := hz k (by omega)
    have e128 : (128 : Rat) = th 4096 := by decide +kernel
    by_cases h0 : k = 0
    · subst h0
      refine ⟨q, hq, q0, Rat.le_trans q1 ?_⟩
      rw [e128]; exact th_le (by omega)
    · obtain ⟨s, hs, s0, s1⟩ := ih (by omega) (by omega)
      have hb : s + q ≤ th (8192 * ((k + 1 : Nat) : Int)) := by
        have e : th (8192 * (k : Int)) + th 4096 ≤ th (8192 * ((k + 1 : Nat) : Int)) := by rw [th_add]; exact th_le (by omega)
        grind
      have hb2 : th (8192 * ((k + 1 : Nat) : Int)) ≤ 4000 := by rw [show (4000 : Rat) = th 128000 by decide +kernel]; exact th_le (by omega)
      obtain ⟨t, ht, hT⟩ := fv_add hs hq (mod_of (B := 4000) ⟨by grind, by grind⟩ (by grind))
      refine ⟨t, ?_, hT.nonneg (by grind), hT.le _ (rep_th (by omega)) hb⟩
      unfold sumO
      rw [if_neg h0]
      exact ht

theorem ap_fv {xs ys : List Nat} {p q : Rat} {i : Nat} (hx : Fv (wO xs i) p) (hy : Fv (wO ys i) q) (p0 : 0 ≤ p) (p1 : p ≤ 64) (q0 : 0 ≤ q) (q1 : q ≤ 64) :
    (∃ r, Fv (apO xs ys i) r ∧ 0 ≤ r ∧ r ≤ 128) ∧ apO ys xs i = apO xs ys i := by
  constructor
  · obtain ⟨d, hd, hR⟩ := fv_sub hx hy (mod_of (B := 64) ⟨by grind, by grind⟩ (by grind))
    have r1 : Rep (128 : Rat) := by rw [show (128 : Rat) = th 4096 by decide +kernel]; exact rep_th (by decide)
    obtain ⟨r, a, b, c, -⟩ := fv_abs (B := 128) hd ⟨hR.le _ r1 (by grind), by have := hR.ge _ (rep_neg r1) (by grind); grind⟩
    exact ⟨r, a, b, c⟩
  · obtain ⟨x, ex, fx, -⟩ := hx
    obtain ⟨y, ey, fy, -⟩ := hy
    unfold apO
    rw [ex, ey]
    exact abs_sub_comm fy fx
theorem ap_self {xs : List Nat} {k : Int} {i : Nat} (hx : Fv (wO xs i) (th k)) : Fv (apO xs xs i) 0 := by
  have h := fv_th_sub (by omega) hx hx
  rw [Int.sub_self, th_0] at h
  obtain ⟨r, a, b, c, d⟩ := fv_abs (B := 1) h ⟨by grind, by grind⟩
  rw [d rfl] at a
  exact a
theorem psum_zero (n : Nat) : psum (fun _ => 0) n = 0 := by
  induction n with
  | zero => rfl
  | succ n ih => rw [psum_succ, ih]; grind
theorem zero_dy : Dy 5 1 (0 : Rat) := by rw [← th_0]; exact th_dy (by decide)
theorem ap_zero {xs : List Nat} {E : Nat → Int} (hK : PkL xs E) {n : Nat} (hx : xs.length = n) (h3 : 3 ≤ n) (h14 : n ≤ 14) : apK n n = 0 ∧ Fv (apR xs xs) 0 := by
  have hk : apK n n = 0 := by unfold apK; rw [if_neg (by omega), if_neg (by omega)]
  refine ⟨hk, ?_⟩
  unfold apR
  rw [hx, if_pos hk]
  have := sumO_dy (z := apO xs xs) (p := fun _ => 0) (e := 5) (K := 1) (n := n) (fun i hi => ap_self (pk_fv hK (by omega))) (fun i _ => zero_dy) (by omega) (by decide) (by omega)
  rwa [psum_zero] at this

end Go.Proofs.Ytnigbjjllolgdaa
/-
  FnPeaks: smooth powers, and their sum.
-/
set_option linter.unusedVariables false
set_option linter.unusedSimpArgs false
namespace Go.Proofs.Ytnigbjjllolgdaa
open Go.RowKit Flt

/-- What is summed for a smooth power. -/
def smW (E : Nat → Int) (n r k : Nat) : Int := isum (fun i => E (smI n r k i)) (2 * r + 1)
/-- The exact smooth power. -/
def smQ (E : Nat → Int) (n r k : Nat) : Rat := th (4 * smW E n r k) / (((2 * r + 1 : Nat) : Int) : Rat)

theorem smW_sum (E : Nat → Int) (n r : Nat) (hr : r < n) : isum (fun k => smW E n r k) n = (2 * r + 1 : Nat) * isum E n := by
  unfold smW
  rw [isum_swap]
  have e : ∀ i, isum (fun k => E (smI n r k i)) n = isum E n := fun i => by
    rw [← isum_rot E n (i + n - r) (by omega)]
    refine isum_congr fun k _ => ?_
    unfold smI
    rw [show k + i + n - r = k + (i + n - r) by omega]
  rw [show (fun i => isum (fun k => E (smI n r k i)) n) = fun _ => isum E n from funext e, isum_const]

theorem smQ_sum (E : Nat → Int) (n r : Nat) (hr : r < n) : psum (fun k => smQ E n r k) n = th (4 * isum E n) := by
  have hp : (0 : Rat) < (((2 * r + 1 : Nat) : Int) : Rat) := Rat.intCast_lt_intCast.2 (show (0 : Int) < ((2 * r + 1 : Nat) : Int) by omega)
  unfold smQ
  rw [show (fun k => th (4 * smW E n r k) / (((2 * r + 1 : Nat) : Int) : Rat)) = fun k => th (4 * smW E n r k) * (((2 * r + 1 : Nat) : Int) : Rat)⁻¹ by funext k; rw [Rat.div_def], psum_mul, psum_th, isum_mul, smW_sum E n r hr,
    show 4 * (((2 * r + 1 : Nat) : Int) * isum E n) = ((2 * r + 1 : Nat) : Int) * (4 * isum E n) by grind, ← int_th, ← Rat.div_def]
  generalize (((2 * r + 1 : Nat) : Int) : Rat) = c at *
  generalize th (4 * isum E n) = x
  have h2 : c * x / c * c = c * x := Rat.div_mul_cancel (by grind)
  rw [Rat.div_def] at *
  have h3 : c⁻¹ * c = 1 := Rat.inv_mul_cancel c (by grind)
  grind

theorem smQ_range {E : Nat → Int} (hE : ∀ i, 1 ≤ E i ∧ E i ≤ 64) (n r k : Nat) : 0 ≤ smQ E n r k ∧ smQ E n r k ≤ 8 := by
  have h := isum_pk (E := fun i => E (smI n r k i)) (fun i => hE _) (2 * r + 1)
  have hp : (0 : Rat) < (((2 * r + 1 : Nat) : Int) : Rat) := Rat.intCast_lt_intCast.2 (show (0 : Int) < ((2 * r + 1 : Nat) : Int) by omega)
  unfold smQ smW
  constructor
  · exact quo_ge_pos hp (by rw [Rat.zero_mul, ← th_0]; exact th_le (by omega))
  · refine quo_le_pos hp ?_
    rw [show (8 : Rat) = th 256 by decide +kernel, Rat.mul_comm, int_th]
    exact th_le (by omega)

/-- The error of a smooth power, and of a sum's step. -/
def eps0 : Rat := 64 / two 52 + tiny
def eps1 : Rat := eps0 + (512 / two 52 + tiny)

theorem smooth_fv {xs : List Nat} {E : Nat → Int} (hK : PkL xs E) {n r : Nat} (hx : xs.length = n) (h3 : 3 ≤ n) (h14 : n ≤ 14) (hr : r < n) (k : Nat) :
    ∃ s, Fv (smO xs r k) s ∧ Near s (smQ E n r k) eps0 ∧ 0 ≤ s ∧ s ≤ 64 := by
  have hs : Fv (sumO (smZ xs r k) (2 * r + 1)) (th (4 * smW E n r k)) := by
    unfold smW
    rw [← isum_mul, ← psum_th]
    refine sumO_dy (e := 5) (K := 256) (fun i hi => ?_) (fun i hi => th_dy (by have := hK.1 (smI n r k i); omega)) (by omega) (by decide) (by omega)
    unfold smZ
    rw [hx]
    exact pk_fv hK (by rw [hx]; exact smI_lt _ _ _ (by omega))
  obtain ⟨q0, q1⟩ := smQ_range hK.1 n r k
  have hp : (((2 * r + 1 : Nat) : Int) : Rat) ≠ 0 := by
    have : (0 : Rat) < (((2 * r + 1 : Nat) : Int) : Rat) := Rat.intCast_lt_intCast.2 (show (0 : Int) < ((2 * r + 1 : Nat) : Int) by omega)
    grind
  have hz : Size (smQ E n r k) 64 := ⟨by grind, by grind⟩
  obtain ⟨s, hs', hR⟩ := fv_div hs (fv_int_exact (n := ((2 * r + 1 : Nat) : Int)) (by omega)) hp (mod_of hz (by grind))
  refine ⟨s, hs', hR.near hz, hR.nonneg q0, hR.le _ ?_ (show smQ E n r k ≤ 64 by grind)⟩
  rw [show (64 : Rat) = th 2048 by decide +kernel]; exact rep_th (by decide)

theorem eps_small : eps1 ≤ 1 / 1073741824 := by
  have h := tiny_le
  unfold eps1 eps0
  rw [two52]
  generalize tiny = t at *
  have e1 : (64 : Rat) / 4503599627370496 ≤ 1 / 8589934592 := by decide +kernel
  have e2 : (512 : Rat) / 4503599627370496 ≤ 1 / 8589934592 := by decide +kernel
  have e3 : (1 : Rat) / 1267650600228229401496703205376 ≤ 1 / 8589934592 := by decide +kernel
  have e4 : (1 : Rat) / 8589934592 + 1 / 8589934592 + (1 / 8589934592 + 1 / 8589934592) ≤ 1 / 1073741824 := by decide +kernel
  grind

/-- A step of the sum of all smooth powers. -/
theorem all_step {u v : Nat} {s r S q : Rat} {k : Nat} (hk : k < 14) (hu : Has u s) (hv : Has v r) (hS : Near s S ((k : Rat) * eps1)) (hr : Near r q eps0) (S0 : 0 ≤ S) (S1 : S ≤ 112) (q0 : 0 ≤ q) (q1 : q ≤ 8) :
    ∃ a t, Has a t ∧ Near t (S + q) (((k + 1 : Nat) : Rat) * eps1) ∧ ∀ (P : Program) (ty : TypeId) (w : World), (binOp .add ty (.float .f64 u) (.float .f64 v)).run P w = .ok (.float .f64 a) w := by
  have he := eps_small
  have e0 : (0 : Rat) ≤ eps0 := by
    unfold eps0; rw [two52]; have := tiny_pos
    have : (0 : Rat) ≤ 64 / 4503599627370496 := by decide +kernel
    grind
  have e01 : eps0 ≤ eps1 := by
    unfold eps1; rw [two52]; have := tiny_pos
    have : (0 : Rat) ≤ 512 / 4503599627370496 := by decide +kernel
    grind
  have hk14 : (k : Rat) * eps1 ≤ 14 * eps1 := Rat.mul_le_mul_of_nonneg_right (Rat.natCast_le_natCast.2 (show k ≤ 14 by omega)) (by grind)
  have hk0 : 0 ≤ (k : Rat) * eps1 := Rat.mul_nonneg (Rat.natCast_le_natCast.2 (Nat.zero_le k)) (by grind)
  have e14 : (14 : Rat) * eps1 ≤ 1 := by
    have : (14 : Rat) * (1 / 1073741824) ≤ 1 := by decide +kernel
    grind
  have ec : ((k + 1 : Nat) : Rat) = (k : Rat) + 1 := by rw [Rat.natCast_add]; rfl
  obtain ⟨h1, h2⟩ := hS
  obtain ⟨h3, h4⟩ := hr
  have hz : Size (s + r) 512 := ⟨by grind, by grind⟩
  obtain ⟨t, ht, hR⟩ := fv_add hu.fv hv.fv (mod_of hz (by grind))
  obtain ⟨n1, n2⟩ := hR.near hz
  obtain ⟨a, ha, hrun⟩ := run_has (.inl rfl) ht
  refine ⟨a, t, ha, ?_, hrun⟩
  rw [ec]
  have e1 : eps1 = eps0 + (512 / two 52 + tiny) := rfl
  generalize (512 / two 52 + tiny) = d at *
  constructor <;> grind

/-- The difference of both sums is small. -/
theorem all_diff {u v : Nat} {s S : Rat} {n : Nat} (h14 : n ≤ 14) (hu : Has u s) (hv : Has v S) (h : Near s S ((n : Rat) * eps1)) :
    ∃ a t, Has a t ∧ -(1 / 2097152) ≤ t ∧ t ≤ 1 / 2097152 ∧ ∀ (P : Program) (ty : TypeId) (w : World), (binOp .sub ty (.float .f64 u) (.float .f64 v)).run P w = .ok (.float .f64 a) w := by
  have he := eps_small
  have e0 : (0 : Rat) ≤ eps1 := by
    unfold eps1 eps0; rw [two52]; have := tiny_pos
    have : (0 : Rat) ≤ 512 / 4503599627370496 := by decide +kernel
    have : (0 : Rat) ≤ 64 / 4503599627370496 := by decide +kernel
    grind
  have hk14 : (n : Rat) * eps1 ≤ 14 * eps1 := Rat.mul_le_mul_of_nonneg_right (Rat.natCast_le_natCast.2 (show n ≤ 14 by omega)) (by grind)
  have e14 : (14 : Rat) * eps1 ≤ 1 / 2097152 := by
    have : (14 : Rat) * (1 / 1073741824) ≤ 1 / 2097152 := by decide +kernel
    grind
  have rh : Rep (1 / 2097152 : Rat) := Dy.rep (e := 21) (K := 1) ⟨1, by decide, by decide +kernel⟩ (by decide) (by decide)
  obtain ⟨h1, h2⟩ := h
  have hz : Size (s - S) 1 := ⟨by grind, by grind⟩
  obtain ⟨t, ht, hR⟩ := fv_sub hu.fv hv.fv (mod_of hz (by grind))
  obtain ⟨a, ha, hrun⟩ := run_has (.inr (.inl rfl)) ht
  exact ⟨a, t, ha, hR.ge _ (rep_neg rh) (by grind), hR.le _ rh (by grind), hrun⟩

set_option maxRecDepth 100000 in
/-- f6abs of a small number is at most a millionth. -/
theorem f6abs_small (u : Nat) (q : Rat) (h : Has u q) (h1 : -(1 / 2097152) ≤ q) (h2 : q ≤ 1 / 2097152) : ∃ v, (FloatKind.f64.format.order v 4517329193108106637 == some .lt || FloatKind.f64.format.order v 4517329193108106637 == some .eq) = true ∧ ∀ w,
    Calls Try.prog 12 #[.float .f64 u] w fun e w' => e = .returned (.float .f64 v) ∧ w' = w := by
  have hc : Has 4517329193108106637 (fq 4517329193108106637) := ⟨⟨by decide, by decide⟩, rfl⟩
  have hq : (1 / 2097152 : Rat) ≤ fq 4517329193108106637 := by decide +kernel
  by_cases hn : q < 0
  · have g : (FloatKind.f64.format.order u 0 == some .lt) = true := by
      show (Ieee.double.order u 0 == some .lt) = true
      rw [order_lt h.1 has_zero.1 (by rw [h.2, has_zero.2]; exact hn)]; rfl
    refine ⟨Op.negFloat .f64 u, has_le_t (has_neg h) hc (by grind), fun w => ?_⟩
    clear h
    go_enter Try.func12, Try.ntmps12
    go_wp2
    go_ret
    exact ⟨rfl, rfl⟩
  · have g : (FloatKind.f64.format.order u 0 == some .lt) = false := has_lt_f' h has_zero (by grind)
    refine ⟨u, has_le_t h hc (by grind), fun w => ?_⟩
    clear h
    go_enter Try.func12, Try.ntmps12
    go_wp2
    go_ret
    exact ⟨rfl, rfl⟩

end Go.Proofs.Ytnigbjjllolgdaa
/-
  sort.SliceStable's contract at this program (the numbers are this seat's: lay-shelf.mjs and lay-plain.mjs wrote the rows).
-/
namespace Go.Proofs
open Go.Shelf
def Try.laysGt8_ren : Go.Shelf.Ren := ⟨fun | 8 => 46 | 13 => 64 | 14 => 65 | 16 => 67 | 15 => 66 | 29 => 80 | 30 => 81 | 42 => 83 | 49 => 86 | n => n, fun | 20 => 20 | 26 => 62 | 36 => 76 | 0 => 0 | 38 => 78 | 42 => 82 | 3 => 3 | 4 => 4 | 47 => 85 | 17 => 17 | 33 => 73 | 34 => 74 | 89 => 108 | 12 => 12 | 56 => 100 | 82 => 101 | 5 => 5 | 83 => 102 | 84 => 103 | 85 => 104 | 86 => 105 | 87 => 106 | n => n, fun | n => n⟩
theorem Try.laysGt8 : Go.Proofs.LaysGt.n8 Try.prog Try.laysGt8_ren := {
  mixed := by kernel_rfl
  f8 := Try.func46.trans (congrArg some (by kernel_rfl))
  f13 := Try.func64.trans (congrArg some (by kernel_rfl))
  f14 := Try.func65.trans (congrArg some (by kernel_rfl))
  f15 := Try.func66.trans (congrArg some (by kernel_rfl))
  f16 := Try.func67.trans (congrArg some (by kernel_rfl))
  f29 := Try.func80.trans (congrArg some (by kernel_rfl))
  f30 := Try.func81.trans (congrArg some (by kernel_rfl))
  f42 := Try.func83.trans (congrArg some (by kernel_rfl))
  f49 := Try.func86.trans (congrArg some (by kernel_rfl))
  t0 := Try.underlying0
  a0 := Try.isAgg0
  z0 := Try.sizeOf0
  v0 := Try.zeroValue0
  i0 := by kernel_rfl
  t3 := Try.underlying3
  a3 := Try.isAgg3
  z3 := Try.sizeOf3
  v3 := Try.zeroValue3
  i3 := by kernel_rfl
  t4 := Try.underlying4
  a4 := Try.isAgg4
  z4 := Try.sizeOf4
  v4 := Try.zeroValue4
  i4 := by kernel_rfl
  t5 := Try.underlying5
  a5 := Try.isAgg5
  z5 := Try.sizeOf5
  v5 := Try.zeroValue5
  i5 := by kernel_rfl
  t12 := Try.underlying12
  a12 := Try.isAgg12
  z12 := Try.sizeOf12
  v12 := Try.zeroValue12
  i12 := by kernel_rfl
  t17 := Try.underlying17
  a17 := Try.isAgg17
  z17 := Try.sizeOf17
  v17 := Try.zeroValue17
  i17 := by kernel_rfl
  t20 := Try.underlying20
  a20 := Try.isAgg20
  z20 := Try.sizeOf20
  v20 := Try.zeroValue20
  i20 := by kernel_rfl
  t26 := Try.underlying62
  a26 := Try.isAgg62
  z26 := Try.sizeOf62
  v26 := Try.zeroValue62
  i26 := by kernel_rfl
  t33 := Try.underlying73
  a33 := Try.isAgg73
  z33 := Try.sizeOf73
  v33 := Try.zeroValue73
  i33 := by kernel_rfl
  t34 := Try.underlying74
  a34 := Try.isAgg74
  z34 := Try.sizeOf74
  v34 := Try.zeroValue74
  i34 := by kernel_rfl
  t36 := Try.underlying76
  a36 := Try.isAgg76
  z36 := Try.sizeOf76
  v36 := Try.zeroValue76
  i36 := by kernel_rfl
  t38 := Try.underlying78
  a38 := Try.isAgg78
  z38 := Try.sizeOf78
  v38 := Try.zeroValue78
  i38 := by kernel_rfl
  t42 := Try.underlying82
  a42 := Try.isAgg82
  z42 := Try.sizeOf82
  v42 := Try.zeroValue82
  i42 := by kernel_rfl
  t47 := Try.underlying85
  a47 := Try.isAgg85
  z47 := Try.sizeOf85
  v47 := Try.zeroValue85
  i47 := by kernel_rfl
  t56 := Try.underlying100
  a56 := Try.isAgg100
  z56 := Try.sizeOf100
  v56 := Try.zeroValue100
  i56 := by kernel_rfl
  t82 := Try.underlying101
  a82 := Try.isAgg101
  z82 := Try.sizeOf101
  v82 := Try.zeroValue101
  i82 := by kernel_rfl
  t83 := Try.underlying102
  a83 := Try.isAgg102
  z83 := Try.sizeOf102
  v83 := Try.zeroValue102
  i83 := by kernel_rfl
  t84 := Try.underlying103
  a84 := Try.isAgg103
  z84 := Try.sizeOf103
  v84 := Try.zeroValue103
  i84 := by kernel_rfl
  t85 := Try.underlying104
  a85 := Try.isAgg104
  z85 := Try.sizeOf104
  v85 := Try.zeroValue104
  i85 := by kernel_rfl
  t86 := Try.underlying105
  a86 := Try.isAgg105
  z86 := Try.sizeOf105
  v86 := Try.zeroValue105
  i86 := by kernel_rfl
  t87 := Try.underlying106
  a87 := Try.isAgg106
  z87 := Try.sizeOf106
  v87 := Try.zeroValue106
  i87 := by kernel_rfl
  t89 := Try.underlying108
  a89 := Try.isAgg108
  z89 := Try.sizeOf108
  v89 := Try.zeroValue108
  i89 := by kernel_rfl }
end Go.Proofs
/-
  What MedianOf does ahead of sorting: is there a NaN; a copy; and what the sort asks.
-/
set_option linter.unusedVariables false
set_option linter.unusedSimpArgs false
namespace Go.Proofs.Ytnigbjjllolgdaa
open Go.RowKit Flt

theorem fin_num' {s : Nat} (h : Flt.Fin s) : nan FloatKind.f64.format s = false := by
  have h2 := h.2
  unfold nan
  simp only [FloatKind.format]
  apply decide_eq_false
  show ¬ (9218868437227405312 < s % 9223372036854775808)
  omega

theorem enter_isNaN (args : Array Value) (w : World) : (callFunc 42 args).run Try.prog w = .ok (.enter 42 args) w := by kernel_rfl

theorem isNaN_num (x : Nat) (h : nan FloatKind.f64.format x = false) (w : World) :
    Calls Try.prog 42 #[.float .f64 x] w fun e w' => e = .returned (.bool false) ∧ w' = w := by
  have o1 := ord_eq h h rfl
  clear h
  go_enter Try.func42, Try.ntmps42
  go_wp2
  go_ret
  exact ⟨rfl, rfl⟩

set_option maxRecDepth 100000 in
set_option maxHeartbeats 4000000 in
theorem indexNaN (xs : List Nat) (c : Nat) (hx : xs.length = c) (hc : c ≤ 256) (hnum : ∀ i, i < c → nan FloatKind.f64.format (xs.getD i 0) = false) (v : Value) (w : World) (h : Reads w v (flts xs)) :
    Calls Try.prog 63 #[v, .func (.func 42) #[] #[]] w fun e w' => e = .returned (.int .i64 (-1)) ∧ w' = w := by
  have hrd := fl_reads h
  obtain ⟨a, cap, rfl⟩ := fl_form h
  rw [flts_length, hx] at hrd ⊢
  have HRD := Lib.hid hrd
  have HF := Lib.hid (fun i hi w => isNaN_num (xs.getD i 0) (hnum i hi) w)
  have hfn := enter_isNaN
  clear h hrd hnum hx
  go_enter Try.func63, Try.ntmps63
  go_wp2
  go_loopw [8] (fun i wr => ∃ b : Nat, i = .int .i64 b ∧ b ≤ c ∧ wr = w) (fun i _ => c - (intOf i).toNat)
  case atStart => exact ⟨0, rfl, Nat.zero_le _, rfl⟩
  case round =>
    obtain ⟨b, rfl, hb, rfl⟩ := hrel
    by_cases hbc : b < c
    · obtain ⟨g, rfl, hg, hcb⟩ := HRD.out _ _ _ rfl b hbc
      have HX := Lib.hid (HF.out b hbc)
      obtain ⟨x, hxx⟩ : ∃ x, xs.getD b 0 = x := ⟨_, rfl⟩
      rw [hxx] at hcb HX
      clear hg hxx
      go_wp2_with fail
      with_reducible refine (HX.out _).mono ?_
      rintro e w' ⟨rfl, rfl⟩
      go_wp2
      go_roundw
      case rel => exact ⟨b + 1, by go_num, by omega, (by first | rfl | trivial)⟩
      case measure => simp [intOf]; omega
    · have e : b = c := by omega
      subst e
      go_wp2
      go_ret
      exact ⟨rfl, rfl⟩

set_option maxRecDepth 100000 in
theorem containsNaN (xs : List Nat) (c : Nat) (hx : xs.length = c) (hc : c ≤ 256) (hnum : ∀ i, i < c → nan FloatKind.f64.format (xs.getD i 0) = false) (v : Value) (w : World) (h : Reads w v (flts xs)) :
    Calls Try.prog 44 #[v, .func (.func 42) #[] #[]] w fun e w' => e = .returned (.bool false) ∧ w' = w := by
  have I := Lib.hid (indexNaN xs c hx hc hnum v w h)
  clear h hnum hx
  go_enter Try.func44, Try.ntmps44
  go_wp2_with fail
  with_reducible refine I.out.mono ?_
  rintro e w' ⟨rfl, rfl⟩
  go_wp2
  go_ret
  exact ⟨rfl, rfl⟩

set_option maxRecDepth 100000 in
set_option maxHeartbeats 4000000 in
/-- A copy of numbers, at least one. -/
theorem cloneF_any (xs : List Nat) (L : Nat) (hx : xs.length = L) (h0 : 0 < L) (hl : L ≤ 1000) (v : Value) (w : World) (h : Reads w v (flts xs)) :
    Calls Try.prog 45 #[v] w fun e w' => ∃ u, e = .returned u ∧ Row w' w.heap.size 30 u (flts xs) ∧ Below w.heap.size w w' := by
  obtain ⟨i0, hi, hz0, hz1, hz2⟩ := info_parts info_f64'
  have hrd := fl_reads h
  have hcp := fl_cap h
  obtain ⟨a, cap, rfl⟩ := fl_form h
  rw [flts_length, hx] at hrd hcp ⊢
  obtain ⟨g, rfl, hg, -⟩ := hrd _ _ _ rfl 0 h0
  have hn : ∀ (nn : Nat) (j : Nat) (u : Value), (flts xs)[j]? = some u → ((w.drewN nn).alloc (.cells #[] 30)).cell? ((⟨g, 0, none⟩ : Addr).add j) = some u := by
    intro nn j u hu
    have hj : j < xs.length := by have := (List.getElem?_eq_some_iff.1 hu).1; rwa [flts_length] at this
    obtain ⟨g', e, hg', hc⟩ := hrd _ _ _ rfl j (by omega)
    cases e
    rw [show (⟨g, 0, none⟩ : Addr).add j = ⟨g, j, none⟩ by unfold Addr.add; split <;> simp_all]
    have hb : Below w.heap.size w ((w.drewN nn).alloc (.cells #[] 30)) := (below_draws (Below.refl _ _) nn).alloc (Nat.le_refl _) _
    rw [hb.cell hg', hc, ← flts_getD hj]
    simp [List.getD, hu]
  have hone : ∀ u ∈ flts xs, u.oneCell' = true := by
    intro u hu
    obtain ⟨p, -, rfl⟩ := List.mem_map.1 hu
    rfl
  have hcl : (flts xs).length = L * 1 := by rw [flts_length, Nat.mul_one, hx]
  have HN := Lib.hid (hn 0)
  have HON := Lib.hid hone
  have HCL := Lib.hid hcl
  have hmax : (L : Int) ≤ 9223372036854775807 := by omega
  have hq : ∀ w, (binOp .eql 24 (.slice (some ⟨g, 0, none⟩) L cap) (.slice none 0 0)).run Try.prog w = .ok (.bool false) w := fun w => Lib.run_eql_slice_nil w _ _ (some ⟨g, 0, none⟩) L cap 0 0 Try.underlying24
  clear h hrd hcp hn hone hcl hx hg
  go_enter Try.func45, Try.ntmps45
  go_wp2_with (at_builtin; refine wpList_append_own _ rfl _ _ 24 rfl w.heap.size 30 i0 (.float .f64 0) 1 8 Try.underlying24 hi hz0 hz1 hz2 rfl (by decide) _ 0 [] rfl (World.ownsRow_lit w #[] 0 (Nat.le_refl _) (by unfold maxLen; omega) rfl) ⟨g, 0, none⟩ L cap (flts xs) rfl HCL.out HN.out HON.out (by simp only [maxLen]; omega) (by omega) (by simp) ?_)
  intro v' w1 hown' hgrow _
  have HO : Hid (Row w1 w.heap.size 30 v' (flts xs)) := by
    show w1.ownsRow _ _ _ _ _ _
    rw [HCL.out, Nat.mul_one]
    simpa using hown'
  have HB : Hid (Below w.heap.size w w1) := ((Below.refl w.heap.size w).alloc (Nat.le_refl _) _).grown hgrow (by simp) (fun b e => by simp [Value.ownBlock] at e; omega)
  clear hown' hgrow
  go_wp2
  go_ret
  exact ⟨_, rfl, HO.out, HB.out⟩

set_option maxRecDepth 100000 in
set_option maxHeartbeats 2000000 in
theorem less_med (blk c Bs size : Nat) (W : World) (G : Nat → Nat) (hf : ∀ t, t < size → Flt.Fin (G t)) (hs : W.cell? ⟨Bs, 0, none⟩ = some (.slice (some ⟨blk, 0, none⟩) size c))
    (hc : ∀ t, t < size → W.cell? ⟨blk, t, none⟩ = some (.float .f64 (G t))) (i j : Nat) (hi : i < size) (hj : j < size) (_hsz : size < 4611686018427387904) :
    Calls Try.prog 47 #[.int .i64 i, .int .i64 j, .pointer (some ⟨Bs, 0, none⟩)] W fun e w' => e = .returned (.bool (decide (fq (G i) < fq (G j)))) ∧ ∃ q, w' = W.drewN q := by
  have ci := hc i hi
  have cj := hc j hj
  have g : (FloatKind.f64.format.order (G i) (G j) == some .lt) = decide (fq (G i) < fq (G j)) := by
    show (Ieee.double.order (G i) (G j) == some .lt) = _
    by_cases h1 : fq (G i) < fq (G j)
    · rw [order_lt (hf i hi) (hf j hj) h1, decide_eq_true h1]; rfl
    · rw [decide_eq_false h1]
      rcases Rat.le_iff_lt_or_eq.1 (Rat.not_lt.1 h1) with h2 | h2
      · rw [order_gt (hf i hi) (hf j hj) h2]; rfl
      · rw [order_eq_q (hf i hi) (hf j hj) h2.symm]; rfl
  generalize decide (fq (G i) < fq (G j)) = b at *
  clear hf hc
  have hi3 : (i : Int) < (size : Int) := by omega
  have hj3 : (j : Int) < (size : Int) := by omega
  go_enter Try.func47, Try.ntmps47
  go_wp2
  go_quiet (fail)
  go_wp2
  go_ret
  exact ⟨by first | rw [g] | rfl, nq, rfl⟩

end Go.Proofs.Ytnigbjjllolgdaa
/-
  MedianOf of 2 to 20 finite numbers: a sorted list with the same numbers, and the number in its middle.
-/
set_option linter.unusedVariables false
set_option linter.unusedSimpArgs false
namespace Go.Proofs.Ytnigbjjllolgdaa
open Go.RowKit Flt

/-- Finite numbers. -/
abbrev FW := { x : Nat // Flt.Fin x }
instance : Inhabited FW := ⟨⟨0, by decide, by decide⟩⟩
def encW (x : FW) : Value := .float .f64 x.1
def ltW (x y : FW) : Bool := decide (fq x.1 < fq y.1)
theorem ltW_swo : Sort.SWO ltW where
  irrefl := fun x => decide_eq_false (Rat.not_lt.2 Rat.le_refl)
  trans := fun x y z h1 h2 => decide_eq_true (by have a := of_decide_eq_true h1; have b := of_decide_eq_true h2; grind)
  ntrans := fun x y z h1 h2 => decide_eq_false (Rat.not_lt.2 (Rat.le_trans (Rat.not_lt.1 (of_decide_eq_false h2)) (Rat.not_lt.1 (of_decide_eq_false h1))))

noncomputable def siT : TypeInfo := (Try.prog.info? 24).get (by kernel_rfl)
noncomputable def siE : TypeInfo := (Try.prog.info? 30).get (by kernel_rfl)
theorem siK (n : Nat) (h2 : 2 ≤ n) : Lib.swapperK n siE 14 = 5 := by
  have a : siE.hasPointers = false := by kernel_rfl
  have b : siE.bytes = 8 := by kernel_rfl
  have c : (n == 0) = false := by simp; omega
  have d : (n == 1) = false := by simp; omega
  simp [Lib.swapperK, a, b, c, d]

theorem sort_med (g c : Nat) (d : Array FW) (h2 : 2 ≤ d.size) (h20 : d.size ≤ 20) (b : Nat) (W : World) (hb : W.cell? ⟨b, 0, none⟩ = some (.slice (some ⟨g, 0, none⟩) d.size c)) (hne : b ≠ g) (hbW : b < W.heap.size) (hH : Sort.Holds encW W g 0 d) (hgW : g < W.heap.size) :
    Calls Try.prog 46 #[.iface 24 (.slice (some ⟨g, 0, none⟩) d.size c), .func (.func 47) #[] #[.pointer (some ⟨b, 0, none⟩)]] W fun e w' =>
      e = .returned (.tuple #[]) ∧ ∃ d' m os, Sort.PermIn 0 d.size d d' ∧ Sort.SortedIn ltW 0 d.size d' ∧ w' = Sort.grow (Sort.putRow encW (Sort.ahead W m) g 0 d') os := by
  have hless : LessReads Try.prog 47 #[.pointer (some ⟨b, 0, none⟩)] encW ltW g 0 d.size W := by
    intro m os dk hs i j hi hj
    have e : sortWorld encW W g 0 m dk os = Sort.putRow encW (Sort.grow (Sort.ahead W m) os) g 0 dk := by
      unfold sortWorld; rw [Sort.putRow_grow _ (Sort.ahead W m) _ g 0 _ hgW]
    have hHg : Sort.Holds encW (Sort.grow (Sort.ahead W m) os) g 0 d := Sort.holds_grow _ _ _ g 0 d hgW (Sort.holds_ahead _ _ _ _ _ _ hH)
    refine less_med g c b d.size _ (fun t => (dk[t]!).1) (fun t _ => (dk[t]!).2) ?_ (fun t ht => ?_) i j hi hj (by omega)
    · rw [e, Sort.cell?_putRow_other _ _ g 0 dk _ (Or.inl hne), Sort.cell?_grow _ _ _ hbW]
      exact hb
    · rw [e]
      have := Sort.cell?_putRow _ _ g 0 d dk hHg hs t (by omega)
      rw [Nat.zero_add] at this
      exact this
  exact Any.sort_SliceStable_small_sorted Try.laysGt8 24 30 siT siE (by kernel_rfl) (by kernel_rfl) (by kernel_rfl) (by kernel_rfl) 14 (fun _ => by kernel_rfl) (by kernel_rfl) (fun _ => by kernel_rfl) encW (fun _ => rfl) ltW ltW_swo 47 _
    (enters_of Try.func47 (by kernel_rfl) rfl) g 0 c d h2 h20 75 (by rw [siK _ h2]; kernel_rfl) true
    (fun args W => run_callFunc_extern Try.func75 (by kernel_rfl) (by kernel_rfl) (by kernel_rfl) (e := Extern.ReflectliteSwapper.swap true) (by kernel_rfl) args W) _ hless hH hgW

theorem below_sorted {B : Nat} {w W : World} {g : Nat} (h : Below B w W) (hB : B ≤ W.heap.size) (hg : B ≤ g) (n : Nat) (d : Array FW) (os : Array Obj) : Below B w (Sort.grow (Sort.putRow encW (Sort.ahead W n) g 0 d) os) := by
  refine ⟨h.os, h.tape, h.output, ?_, fun k hk => ?_⟩
  · have := h.size
    simp [Sort.putRow, Sort.mapBlock, Sort.ahead]
    omega
  · rw [Sort.heap_grow_old _ _ (by simp [Sort.putRow, Sort.mapBlock, Sort.ahead]; omega)]
    have hne : g ≠ k := by omega
    simp only [Sort.putRow, Sort.mapBlock, Sort.ahead, Array.getElem?_modify, hne, if_false]
    exact h.block k hk

/-- The number in the middle of the sorted list. -/
def MedOf (xs : List Nat) (m : Nat) : Prop :=
  ∃ ys : List Nat, ys.Perm xs ∧ (∀ i j, i < j → j < ys.length → fq (ys.getD i 0) ≤ fq (ys.getD j 0)) ∧ m = ys.getD ((xs.length - 1) / 2) 0

def fwA (xs : List Nat) (hf : ∀ z ∈ xs, Flt.Fin z) : Array FW := (xs.pmap (fun x h => (⟨x, h⟩ : FW)) hf).toArray
theorem fwA_size (xs : List Nat) (hf : ∀ z ∈ xs, Flt.Fin z) : (fwA xs hf).size = xs.length := by simp [fwA]
theorem fwA_at (xs : List Nat) (hf : ∀ z ∈ xs, Flt.Fin z) {j : Nat} (hj : j < xs.length) : ((fwA xs hf)[j]!).1 = xs.getD j 0 := by
  rw [getElem!_pos _ j (by rw [fwA_size]; exact hj)]
  simp [fwA, List.getD, hj]
theorem fwA_map (xs : List Nat) (hf : ∀ z ∈ xs, Flt.Fin z) : (fwA xs hf).toList.map Subtype.val = xs := by
  simp [fwA, List.map_pmap]

theorem medOf_sorted (xs : List Nat) (hf : ∀ z ∈ xs, Flt.Fin z) (n : Nat) (hn : xs.length = n) (h0 : 0 < n) (d' : Array FW) (h1 : Sort.PermIn 0 n (fwA xs hf) d') (h2 : Sort.SortedIn ltW 0 n d') :
    d'.size = n ∧ MedOf xs (d'[(n - 1) / 2]!).1 := by
  obtain ⟨hs, -, hp⟩ := h1
  rw [fwA_size, hn] at hs
  have e1 : (fwA xs hf).extract 0 n = fwA xs hf := by
    have : n = (fwA xs hf).size := by rw [fwA_size, hn]
    rw [this]; simp
  have e2 : d'.extract 0 n = d' := by rw [← hs]; simp
  rw [e1, e2] at hp
  have hat : ∀ i, i < n → (d'.toList.map Subtype.val).getD i 0 = (d'[i]!).1 := by
    intro i hi
    rw [getElem!_pos _ i (by omega)]
    simp [List.getD, hs, hi]
  refine ⟨hs, d'.toList.map Subtype.val, ?_, fun i j hij hj => ?_, ?_⟩
  · have := hp.map Subtype.val
    rwa [fwA_map] at this
  · have hj' : j < n := by simpa [hs] using hj
    rw [hat i (by omega), hat j hj']
    exact Rat.not_lt.1 (of_decide_eq_false (h2 i j (Nat.zero_le _) hij hj'))
  · rw [hn, hat _ (by omega)]

set_option maxRecDepth 100000 in
set_option maxHeartbeats 4000000 in
theorem median_any (xs : List Nat) (n : Nat) (hx : xs.length = n) (h2 : 2 ≤ n) (h20 : n ≤ 20) (hf : ∀ z ∈ xs, Flt.Fin z) (v : Value) (w : World) (h : Reads w v (flts xs)) :
    Calls Try.prog 21 #[v] w fun e w' => ∃ m, MedOf xs m ∧ Flt.Fin m ∧ e = .returned (.tuple #[.float .f64 m, .int .i64 0]) ∧ Below w.heap.size w w' := by
  have hnum : ∀ i, i < n → nan FloatKind.f64.format (xs.getD i 0) = false := fun i hi => fin_num' (hf _ (by
    rw [show xs.getD i 0 = xs[i]'(by omega) by simp [List.getD, show i < xs.length by omega]]
    exact List.getElem_mem _))
  have HC := Lib.hid (containsNaN xs n hx (by omega) hnum v w h)
  have HK := Lib.hid (cloneF_any xs n hx (by omega) (by omega) v w h)
  obtain ⟨a, cap, rfl⟩ := fl_form h
  rw [flts_length, hx] at HC HK ⊢
  have hz : fwA xs hf = fwA xs hf := rfl
  have hsz := fwA_size xs hf
  rw [hx] at hsz
  have hal : ∀ j, j < n → encW (fwA xs hf)[j]! = .float .f64 (xs.getD j 0) := fun j hj => by unfold encW; rw [fwA_at xs hf (by omega)]
  have hmo := medOf_sorted xs hf n hx (by omega)
  obtain ⟨d, hd⟩ : ∃ d, fwA xs hf = d := ⟨_, rfl⟩
  rw [hd] at hsz hal hmo
  have HSRT : Hid (∀ (w1 : World) (g c : Nat), w.heap.size ≤ g → g < w1.heap.size → Below w.heap.size w w1 → Row w1 w.heap.size 30 (.slice (some ⟨g, 0, none⟩) n c) (flts xs) →
      Calls Try.prog 46 #[.iface 24 (.slice (some ⟨g, 0, none⟩) n c), .func (.func 47) #[] #[.pointer (some ⟨w1.heap.size, 0, none⟩)]] (w1.alloc (.cells #[.slice (some ⟨g, 0, none⟩) n c] 24)) fun e w' =>
        e = .returned (.tuple #[]) ∧ ∃ m, MedOf xs m ∧ Flt.Fin m ∧ Below w.heap.size w w' ∧ w'.cell? ⟨w1.heap.size, 0, none⟩ = some (.slice (some ⟨g, 0, none⟩) n c) ∧ w'.cell? ⟨g, (n - 1) / 2, none⟩ = some (.float .f64 m)) := by
    refine Lib.hid fun w1 g c hg hgw hb hr => ?_
    have hr2 := hr.alloc (.cells #[.slice (some ⟨g, 0, none⟩) n c] 24)
    have hH : Sort.Holds encW (w1.alloc (.cells #[.slice (some ⟨g, 0, none⟩) n c] 24)) g 0 d := by
      intro j hj
      rw [hsz] at hj
      rw [Nat.zero_add]
      refine ⟨?_, hr2.frozenAt j⟩
      rw [hr2.cellAt hj, flts_getD (by omega), hal j hj]
    have hcell : (w1.alloc (.cells #[.slice (some ⟨g, 0, none⟩) n c] 24)).cell? ⟨w1.heap.size, 0, none⟩ = some (.slice (some ⟨g, 0, none⟩) n c) := by simp
    have hsz1 : (w1.alloc (.cells #[.slice (some ⟨g, 0, none⟩) n c] 24)).heap.size = w1.heap.size + 1 := by simp
    have S := sort_med g c d (by omega) (by omega) w1.heap.size (w1.alloc (.cells #[.slice (some ⟨g, 0, none⟩) n c] 24)) (by rw [hsz]; exact hcell) (by omega) (by omega) hH (by omega)
    rw [hsz] at S
    refine S.mono ?_
    rintro e w' ⟨rfl, d', m, os, hp, hso, rfl⟩
    obtain ⟨hs', hmed⟩ := hmo d' hp hso
    refine ⟨rfl, _, hmed, (d'[(n - 1) / 2]!).2, below_sorted (hb.alloc hb.size _) (by have := hb.size; omega) hg _ _ _, ?_, ?_⟩
    · rw [Sort.cell?_grow _ _ _ (by simp [Sort.putRow, Sort.mapBlock, Sort.ahead]), Sort.cell?_putRow_other _ _ g 0 d' _ (Or.inl (by show w1.heap.size ≠ g; omega))]
      exact hcell
    · rw [Sort.cell?_grow _ _ _ (by simp [Sort.putRow, Sort.mapBlock, Sort.ahead]; omega)]
      have := Sort.cell?_putRow encW (Sort.ahead (w1.alloc (.cells #[.slice (some ⟨g, 0, none⟩) n c] 24)) m) g 0 d d' hH (by omega) ((n - 1) / 2) (by omega)
      rw [Nat.zero_add] at this
      exact this
  clear hz hsz hal hmo hd hnum hf h
  obtain ⟨q, hq⟩ : ∃ q, (n - 1) / 2 = q := ⟨_, rfl⟩
  have hq2 : ((n : Int) - 1).tdiv 2 = (q : Int) := by rw [Int.tdiv_eq_ediv_of_nonneg (by omega)]; omega
  have hq3 : ((n : Int) - 1) / 2 = (q : Int) := by omega
  have hq4 : (q : Int) < (n : Int) := by omega
  rw [hq] at HSRT
  have g256 : decide (256 < (n : Int)) = false := by simp; omega
  have gz : ((n : Int) == 0) = false := by simp; omega
  have HB0 := Lib.hid hx
  clear hq hx
  go_enter Try.func21, Try.ntmps21
  go_wp2_with fail
  with_reducible refine HC.out.mono ?_
  rintro e w' ⟨rfl, rfl⟩
  clear HC
  go_wp2_with fail
  with_reducible refine HK.out.mono ?_
  rintro e w1 ⟨u, rfl, hr, hb⟩
  clear HK
  rcases hr.shape with ⟨a1, c1, -, e0⟩ | ⟨g, c1, rfl, -, hg1, hg2, hg3, hg4⟩
  · exfalso
    have := congrArg List.length e0
    rw [flts_length, HB0.out] at this
    simp at this; omega
  rw [flts_length, HB0.out] at hr hg3 ⊢
  have hfr : w1.frozen? ⟨g, q, none⟩ = false := hr.frozenAt q
  have HS := Lib.hid (HSRT.out w1 g c1 hg1 hg2 hb hr)
  clear HSRT hr hb hg1
  go_wp2_with (first | (go_at_call 46; with_reducible refine HS.out.mono ?_; rintro e w' ⟨rfl, m, hm, hfm, hb', hc1, hc2⟩))
  go_ret2
  exact ⟨_, hm, hfm, rfl, hb'⟩

end Go.Proofs.Ytnigbjjllolgdaa
