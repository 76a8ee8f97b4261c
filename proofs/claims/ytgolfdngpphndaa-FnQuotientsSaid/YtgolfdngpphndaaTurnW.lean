import Derived.Test.YtgolfdngpphndaaTurnV
/-
  Each turn is near the exact one. No program.
-/
set_option linter.unusedVariables false
set_option linter.unusedSimpArgs false
namespace Go.Proofs.Ytgolfdngpphndaa
open Go Flt
namespace Flt
open Turn

theorem word_fv {k e r : Nat} (h1 : 4503599627370496 ≤ k) (h2 : k < 9007199254740992) (he : e ≤ 1000) (hr : r = (1074 - e) * 4503599627370496 + k) : Fv (some r) ((k : Rat) / two e) := by
  have e2 : Ieee.double.fractionBits = 52 := by decide
  have e3 : Ieee.double.binade = 4503599627370496 := by decide
  have h0 : k ≠ 0 := by omega
  have hl : k.log2 = 52 := by
    have a1 : k.log2 < 53 := (Nat.log2_lt h0).2 (by omega)
    have a2 : 52 ≤ k.log2 := (Nat.le_log2 h0).2 (by omega)
    omega
  have hv := rung_of (f := Ieee.double) (k := k) (q := lpn - e) h0 (by rw [e3]; omega) (by rw [e2]; unfold lpn; omega)
  rw [e2, e3, hl] at hv
  have er : (lpn - e + 52 - 52) * 4503599627370496 + k * 2 ^ (52 - 52) = r := by rw [hr]; unfold lpn; omega
  rw [er] at hv
  have hlt : r < Ieee.double.infRung := by rw [ir64, hr]; omega
  have hs : two lpn = two e * two (lpn - e) := by rw [← two_add, Nat.add_sub_cancel' (by unfold lpn; omega)]
  have hq : fq r = (k : Rat) / two e := by
    have h3 : fq r = rq r := fq_word false hlt
    rw [h3]
    unfold rq
    rw [hv, Rat.natCast_mul, hs]
    show (k : Rat) * two (lpn - e) / (two e * two (lpn - e)) = _
    have c1 := Rat.mul_inv_cancel _ (Rat.ne_of_gt (two_pos e))
    have c2 := Rat.mul_inv_cancel _ (Rat.ne_of_gt (two_pos (lpn - e)))
    rw [Rat.div_def, Rat.div_def, Rat.inv_mul_rev]; grind
  exact ⟨r, rfl, fin_word false hlt, hq⟩

def tw : Rat := 7074237752028440 / 1125899906842624
theorem twoPi_fv : Fv twoPi tw := by
  have := word_fv (k := 7074237752028440) (e := 50) (r := 4618760256179416344) (by decide) (by decide) (by decide) (by decide)
  exact this
theorem tw_near : Near tw tau (2 * ulp) ∧ 0 ≤ tw ∧ tw ≤ 63 / 10 ∧ 0 ≤ tau ∧ tau ≤ 63 / 10 := by unfold Near; decide +kernel
def hr' : Rat := 6369051672525773 / 9007199254740992
theorem half_fv : Fv halfRoot hr' := by
  have := word_fv (k := 6369051672525773) (e := 53) (r := 4604544271217802189) (by decide) (by decide) (by decide) (by decide)
  exact this
theorem half_near : Near hr' (cq (1 / 8)) ulp ∧ Near hr' (sq (1 / 8)) ulp := by unfold Near cq sq; decide +kernel

theorem arg_near {n k : Nat} (hk : 0 < k) (h8 : 8 * k ≤ n) (hn : n ≤ 1048576) :
    ∃ x, Fv (argO n k) x ∧ Near x (tau * ((k : Rat) / (n : Rat))) (17 / 8 * ulp) ∧ 0 ≤ tau * ((k : Rat) / (n : Rat)) ∧ tau * ((k : Rat) / (n : Rat)) ≤ 4 / 5 := by
  have hu := ulp_val
  have hti := tiny_le
  have ht0 := tiny_pos
  obtain ⟨⟨w1, w2⟩, w3, w4, w5, w6⟩ := tw_near
  have hkF := fv_int_exact (n := (k : Int)) (by omega)
  have hnF := fv_int_exact (n := (n : Int)) (by omega)
  rw [Rat.intCast_natCast] at hkF hnF
  have k1 : (1 : Rat) ≤ (k : Rat) := Rat.natCast_le_natCast.2 hk
  have n1 : (1 : Rat) ≤ (n : Rat) := Rat.natCast_le_natCast.2 (show 1 ≤ n by omega)
  have kn : 8 * (k : Rat) ≤ (n : Rat) := by
    have := Rat.natCast_le_natCast.2 h8
    rwa [Rat.natCast_mul] at this
  have n2 : (n : Rat) ≤ 1048576 := Rat.natCast_le_natCast.2 hn
  have n0 : (0 : Rat) < (n : Rat) := by grind
  have ni := Rat.mul_inv_cancel _ (Rat.ne_of_gt n0)
  have np := Rat.inv_pos.2 n0
  unfold argO
  generalize (k : Rat) = K at *
  generalize (n : Rat) = M at *
  rw [Rat.div_def]
  have hq : 0 ≤ K * M⁻¹ ∧ K * M⁻¹ ≤ 1 / 8 := by
    have a1 := Rat.mul_nonneg (show 0 ≤ K by grind) (Rat.le_of_lt np)
    have a2 := Rat.mul_le_mul_of_nonneg_right kn (Rat.le_of_lt np)
    rw [ni] at a2
    exact ⟨a1, by grind⟩
  have hM1 : M⁻¹ ≤ 1 := by
    have := Rat.mul_le_mul_of_nonneg_right n1 (Rat.le_of_lt np)
    rw [ni] at this; grind
  -- the product
  have p1 : Size (tw * K) (7 * K) := by
    have := (Size.of_nonneg w3 w4).mul (Size.of_nonneg (show 0 ≤ K by grind) Rat.le_refl)
    exact this.mono (by grind)
  have p1b : 7 * K ≤ 1152921504606846976 := by grind
  obtain ⟨p, p2, p3⟩ := fv_mul twoPi_fv hkF (size_1000 p1 (le_1000 p1b))
  have p4 := p3.near p1
  rw [two52] at p4
  have e1 : 7 * K / 4503599627370496 = 7 * K * ulp := by
    have : ulp = 1 / 4503599627370496 := rfl
    rw [this, Rat.div_def, Rat.div_def, Rat.one_mul]
  rw [e1] at p4
  -- divided
  have d1 : Near (p * M⁻¹) (tw * K * M⁻¹) ((7 * K * ulp + tiny) * M⁻¹) := near_mul p4 (Size.of_nonneg (Rat.le_of_lt np) Rat.le_refl)
  obtain ⟨q1, q2⟩ := hq
  obtain ⟨Q, hQ⟩ : ∃ Q, K * M⁻¹ = Q := ⟨_, rfl⟩
  have e2 : tw * K * M⁻¹ = tw * Q := by rw [← hQ]; grind
  have e3 : (7 * K * ulp + tiny) * M⁻¹ = 7 * Q * ulp + tiny * M⁻¹ := by rw [← hQ]; grind
  rw [e2, e3] at d1
  rw [hQ] at q1 q2 ⊢
  have t1 := Rat.mul_le_mul_of_nonneg_left hM1 (Rat.le_of_lt ht0)
  have u0 : 0 ≤ ulp := by decide +kernel
  have qu := Rat.mul_le_mul_of_nonneg_right q2 u0
  have tq : Near (tw * Q) (tau * Q) (2 * ulp * (1 / 8)) := near_mul ⟨w1, w2⟩ (Size.of_nonneg q1 q2)
  have xq : 0 ≤ tau * Q ∧ tau * Q ≤ 63 / 80 := by
    have a1 := Rat.mul_nonneg w5 q1
    have a2 := Rat.mul_le_mul_of_nonneg_left q2 w5
    exact ⟨a1, by grind⟩
  clear e2 e3 e1 w1 w2 w3 w4 w5 w6 p3 p4 k1 kn n1 n2 ni
  have d2 : Near (p * M⁻¹) (tau * Q) (9 / 8 * ulp + tiny) := by
    obtain ⟨a1, a2⟩ := d1
    obtain ⟨b1, b2⟩ := tq
    constructor <;> grind
  obtain ⟨x1, x2⟩ := xq
  have d3 : Size (p * M⁻¹) (4 / 5) := by
    obtain ⟨a1, a2⟩ := d2
    constructor <;> grind
  rw [show p * M⁻¹ = p / M from (Rat.div_def _ _).symm] at d2 d3
  obtain ⟨x, x3, x4⟩ := fv_div p2 hnF (Rat.ne_of_gt n0) (size_1000 d3 (le_1000 (by decide +kernel)))
  have x5 := x4.near d3
  rw [two52] at x5
  refine ⟨x, x3, ?_, x1, by grind⟩
  obtain ⟨a1, a2⟩ := x5
  obtain ⟨b1, b2⟩ := d2
  constructor <;> grind

theorem c_range {j : Nat} (h : j < 9) : (2 ≤ cI (9 - (j : Int)) ∧ cI (9 - (j : Int)) ≤ 400) ∧ (2 ≤ sI (9 - (j : Int)) ∧ sI (9 - (j : Int)) ≤ 400) := by
  have : j = 0 ∨ j = 1 ∨ j = 2 ∨ j = 3 ∨ j = 4 ∨ j = 5 ∨ j = 6 ∨ j = 7 ∨ j = 8 := by omega
  rcases this with rfl | rfl | rfl | rfl | rfl | rfl | rfl | rfl | rfl <;> decide

theorem cosR_near {y : O} {yv Y : Rat} (hy : Fv y yv) (hyn : Near yv Y (5 * ulp)) (hY : 0 ≤ Y ∧ Y ≤ 16 / 25) (j : Nat) (hj : j ≤ 9) :
    ∃ t, Fv (cosR y j) t ∧ Near t (cosT Y j) (10 * ulp) ∧ 0 ≤ cosT Y j ∧ cosT Y j ≤ 1 := by
  induction j with
  | zero => exact ⟨1, one_fv, by show Near 1 1 _; unfold Near; decide +kernel, by show (0 : Rat) ≤ 1; decide, Rat.le_refl⟩
  | succ j ih =>
    obtain ⟨t, t1, t2, t3⟩ := ih (by omega)
    exact round_near hy hyn hY t1 t2 t3 (c_range (by omega)).1
theorem sinR_near {y : O} {yv Y : Rat} (hy : Fv y yv) (hyn : Near yv Y (5 * ulp)) (hY : 0 ≤ Y ∧ Y ≤ 16 / 25) (j : Nat) (hj : j ≤ 9) :
    ∃ t, Fv (sinR y j) t ∧ Near t (sinT Y j) (10 * ulp) ∧ 0 ≤ sinT Y j ∧ sinT Y j ≤ 1 := by
  induction j with
  | zero => exact ⟨1, one_fv, by show Near 1 1 _; unfold Near; decide +kernel, by show (0 : Rat) ≤ 1; decide, Rat.le_refl⟩
  | succ j ih =>
    obtain ⟨t, t1, t2, t3⟩ := ih (by omega)
    exact round_near hy hyn hY t1 t2 t3 (c_range (by omega)).2

theorem ser_near {n k : Nat} (hk : 0 < k) (h8 : 8 * k ≤ n) (hn : n ≤ 1048576) :
    ∃ r s, Fv (serO n k).1 r ∧ Fv (serO n k).2 s ∧ Near r (cq ((k : Rat) / (n : Rat))) (13 * ulp) ∧ Near s (sq ((k : Rat) / (n : Rat))) (13 * ulp) := by
  have hu := ulp_val
  have hti := tiny_le
  have ht0 := tiny_pos
  obtain ⟨x, x1, x2, x3, x4⟩ := arg_near hk h8 hn
  unfold serO
  simp only []
  unfold cq sq
  generalize tau * ((k : Rat) / (n : Rat)) = X at *
  obtain ⟨c1, c2⟩ := cos_short (Size.of_nonneg x3 x4)
  rw [← cosT_eq] at c1
  rw [← sinT_eq] at c2
  have xs : Size x (81 / 100) := by obtain ⟨a1, a2⟩ := x2; constructor <;> grind
  have XX : 0 ≤ X * X ∧ X * X ≤ 16 / 25 := by
    have a1 := Rat.mul_nonneg x3 x3
    have a2 := Rat.mul_le_mul_of_nonneg_left x4 x3
    exact ⟨a1, by grind⟩
  -- the square
  have y1 : Near (x * x) (X * X) (5 * ulp - ulp * (7 / 10) - tiny) := by
    have a1 := near_mul x2 xs
    have a2 := near_mul x2 (Size.of_nonneg x3 x4)
    obtain ⟨b1, b2⟩ := a1
    obtain ⟨b3, b4⟩ := a2
    rw [Rat.mul_comm x X] at b3 b4
    constructor <;> grind
  have y2 : Size (x * x) (7 / 10) := by obtain ⟨a1, a2⟩ := y1; constructor <;> grind
  obtain ⟨yv, y3, y4⟩ := fv_mul x1 x1 (size_1000 y2 (le_1000 (by decide +kernel)))
  have y5 := y4.near y2
  rw [two52] at y5
  have y6 : Near yv (X * X) (5 * ulp) := by
    obtain ⟨a1, a2⟩ := y5
    obtain ⟨b1, b2⟩ := y1
    constructor <;> grind
  obtain ⟨r, r1, r2, -, -⟩ := cosR_near y3 y6 XX 9 (by omega)
  obtain ⟨t, t1, t2, t3, t4⟩ := sinR_near y3 y6 XX 9 (by omega)
  clear y1 y2 y4 y5
  have p1 : Near (t * x) (sinT (X * X) 9 * X) (11 * ulp) := by
    have a1 := near_mul t2 xs
    have a2 := near_mul x2 (Size.of_nonneg t3 t4)
    obtain ⟨b1, b2⟩ := a1
    obtain ⟨b3, b4⟩ := a2
    rw [Rat.mul_comm x, Rat.mul_comm X] at b3 b4
    constructor <;> grind
  have p2 : Size (t * x) 1 := by
    have ts : Size t (101 / 100) := by obtain ⟨a1, a2⟩ := t2; constructor <;> grind
    exact (ts.mul xs).mono (by decide +kernel)
  obtain ⟨s, s1, s2⟩ := fv_mul t1 x1 (size_1000 p2 (le_1000 (by decide +kernel)))
  have s3 := s2.near p2
  rw [two52] at s3
  refine ⟨r, s, r1, s1, ?_, ?_⟩
  · obtain ⟨a1, a2⟩ := c1
    obtain ⟨b1, b2⟩ := r2
    clear x1 x2 x3 x4 c2 xs XX y3 y6 t1 t2 t3 t4 p1 p2 s1 s2 s3 r1
    constructor <;> grind
  · obtain ⟨a1, a2⟩ := c2
    obtain ⟨b1, b2⟩ := s3
    obtain ⟨d1, d2⟩ := p1
    clear x1 x2 x3 x4 c1 xs XX y3 y6 t1 t2 t3 t4 p2 s1 s2 r1 r2
    constructor <;> grind

end Flt
end Go.Proofs.Ytgolfdngpphndaa
