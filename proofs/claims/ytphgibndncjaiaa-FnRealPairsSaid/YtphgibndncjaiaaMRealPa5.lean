/-
  Several texts of this claim, one behind the other; each says what it holds.
-/
import Derived.Test.YtphgibndncjaiaaMRealPa4
/-
  The turns that are found are near the exact ones. No program.
-/
set_option linter.unusedVariables false
set_option linter.unusedSimpArgs false
namespace Go.Proofs.Ytphgibndncjaiaa
open Go Flt
namespace Flt
open Turn

/-- A part of the last place of numbers from 1 to 2. -/
def ulp : Rat := 1 / 4503599627370496
theorem ulp_val : 4503599627370496 * ulp = 1 := by decide +kernel

theorem cos_short {x : Rat} (h : Size x (4 / 5)) : Near (cosN 80 x) (cosN 20 x) (1 / 1152921504606846976) ∧ Near (sinN 80 x) (sinN 20 x) (1 / 1152921504606846976) := by
  have hb : (60 : Rat) * ex (4 / 5) 20 ≤ 1 / 1152921504606846976 := by decide +kernel
  have ht : ∀ (g : Nat → Rat), (∀ m, Size (g m) 1) → Size (psum (fun j => g (20 + j) * ex x (20 + j)) 60) (1 / 1152921504606846976) := fun g hg => by
    have := psum_size (p := fun j => g (20 + j) * ex x (20 + j)) (B := ex (4 / 5) 20) (n := 60) fun j _ => by
      have h1 := (hg (20 + j)).mul (ex_size h (20 + j))
      rw [Rat.one_mul] at h1
      exact h1.mono (ex_down (by decide +kernel) (by decide +kernel) j)
    exact this.mono hb
  unfold cosN sinN
  rw [near_size, near_size, show (80 : Nat) = 20 + 60 from rfl, psum_split _ 20 60, psum_split _ 20 60]
  rw [show ∀ a b : Rat, a + b - a = b from fun a b => by grind, show ∀ a b : Rat, a + b - a = b from fun a b => by grind]
  exact ⟨ht sgC fun m => (sg_size m).1, ht sgS fun m => (sg_size m).2⟩

/-- The series of exact numbers, as they are found. -/
def cosT (y : Rat) : Nat → Rat
  | 0 => 1
  | j + 1 => 1 - y / ((cI (9 - (j : Int)) : Int) : Rat) * cosT y j
def sinT (y : Rat) : Nat → Rat
  | 0 => 1
  | j + 1 => 1 - y / ((sI (9 - (j : Int)) : Int) : Rat) * sinT y j

theorem cosT_eq (x : Rat) : cosT (x * x) 9 = cosN 20 x := by
  have e : ∀ c : Nat, c < 9 → True := fun _ _ => trivial
  have c8 : ((cI (9 - ((8 : Nat) : Int)) : Int) : Rat) = 2 := by decide +kernel
  have c7 : ((cI (9 - ((7 : Nat) : Int)) : Int) : Rat) = 12 := by decide +kernel
  have c6 : ((cI (9 - ((6 : Nat) : Int)) : Int) : Rat) = 30 := by decide +kernel
  have c5 : ((cI (9 - ((5 : Nat) : Int)) : Int) : Rat) = 56 := by decide +kernel
  have c4 : ((cI (9 - ((4 : Nat) : Int)) : Int) : Rat) = 90 := by decide +kernel
  have c3 : ((cI (9 - ((3 : Nat) : Int)) : Int) : Rat) = 132 := by decide +kernel
  have c2 : ((cI (9 - ((2 : Nat) : Int)) : Int) : Rat) = 182 := by decide +kernel
  have c1 : ((cI (9 - ((1 : Nat) : Int)) : Int) : Rat) = 240 := by decide +kernel
  have c0 : ((cI (9 - ((0 : Nat) : Int)) : Int) : Rat) = 306 := by decide +kernel
  unfold cosN
  simp only [cosT, psum, sgC, ex, c0, c1, c2, c3, c4, c5, c6, c7, c8]
  simp
  grind
theorem sinT_eq (x : Rat) : sinT (x * x) 9 * x = sinN 20 x := by
  have c8 : ((sI (9 - ((8 : Nat) : Int)) : Int) : Rat) = 6 := by decide +kernel
  have c7 : ((sI (9 - ((7 : Nat) : Int)) : Int) : Rat) = 20 := by decide +kernel
  have c6 : ((sI (9 - ((6 : Nat) : Int)) : Int) : Rat) = 42 := by decide +kernel
  have c5 : ((sI (9 - ((5 : Nat) : Int)) : Int) : Rat) = 72 := by decide +kernel
  have c4 : ((sI (9 - ((4 : Nat) : Int)) : Int) : Rat) = 110 := by decide +kernel
  have c3 : ((sI (9 - ((3 : Nat) : Int)) : Int) : Rat) = 156 := by decide +kernel
  have c2 : ((sI (9 - ((2 : Nat) : Int)) : Int) : Rat) = 210 := by decide +kernel
  have c1 : ((sI (9 - ((1 : Nat) : Int)) : Int) : Rat) = 272 := by decide +kernel
  have c0 : ((sI (9 - ((0 : Nat) : Int)) : Int) : Rat) = 342 := by decide +kernel
  unfold sinN
  simp only [sinT, psum, sgS, ex, c0, c1, c2, c3, c4, c5, c6, c7, c8]
  simp
  grind

theorem one_fv : Fv oneO 1 := by
  have := fv_int_exact (n := 1) (by decide)
  have e : floatOfInt .f64 1 = 4607182418800017408 := by decide
  rw [e] at this
  exact this
theorem zero_fv : Fv zeroO 0 := by
  have := fv_int_exact (n := 0) (by decide)
  have e : floatOfInt .f64 0 = 0 := by decide
  rw [e] at this
  exact this
theorem size_1000 {x B : Rat} (h : Size x B) (hB : B ≤ two 1000) : Moderate x := h.mono hB
theorem le_1000 {B : Rat} (h : B ≤ 1152921504606846976) : B ≤ two 1000 :=
  Rat.le_trans h (by rw [show (1152921504606846976 : Rat) = two 60 from rfl]; exact two_le (by omega))

/-- One round of a series. -/
theorem round_near {y t : O} {Y T yv tv : Rat} {c : Int} (hy : Fv y yv) (hyn : Near yv Y (5 * ulp)) (hY : 0 ≤ Y ∧ Y ≤ 16 / 25) (ht : Fv t tv) (htn : Near tv T (10 * ulp)) (hT : 0 ≤ T ∧ T ≤ 1) (hc : 2 ≤ c ∧ c ≤ 400) :
    ∃ r, Fv (fop .sub .f64 oneO (fop .mul .f64 (fop .quo .f64 y (ofI c)) t)) r ∧ Near r (1 - Y / (c : Rat) * T) (10 * ulp) ∧ 0 ≤ 1 - Y / (c : Rat) * T ∧ 1 - Y / (c : Rat) * T ≤ 1 := by
  have hti := tiny_le
  have ht0 := tiny_pos
  have hc2 : (2 : Rat) ≤ (c : Rat) := Rat.intCast_le_intCast.2 hc.1
  have hc0 : (0 : Rat) < (c : Rat) := by grind
  have hci := Rat.mul_inv_cancel _ (Rat.ne_of_gt hc0)
  have hcp := Rat.inv_pos.2 hc0
  have hch : (c : Rat)⁻¹ ≤ 1 / 2 := by
    have := Rat.mul_le_mul_of_nonneg_right hc2 (Rat.le_of_lt hcp)
    rw [hci] at this; grind
  have hcF := fv_int_exact (n := c) (by omega)
  rw [Rat.div_def]
  generalize hd : (c : Rat)⁻¹ = d at *
  -- the quotient
  have hu := ulp_val
  obtain ⟨y1, y2⟩ := hyn
  obtain ⟨Y1, Y2⟩ := hY
  obtain ⟨T1, T2⟩ := hT
  have hds : Size d (1 / 2) := Size.of_nonneg (Rat.le_of_lt hcp) hch
  have hys : Size yv 1 := by constructor <;> grind
  have hq : yv / (c : Rat) = yv * d := by rw [Rat.div_def, hd]
  have hqs := hys.mul hds
  obtain ⟨qv, q1, q2⟩ := fv_div hy hcF (Rat.ne_of_gt hc0) (by rw [hq]; exact size_1000 hqs (le_1000 (by decide +kernel)))
  rw [hq] at q2
  have q3 := q2.near hqs
  have q4 : Near (yv * d) (Y * d) (5 * ulp * (1 / 2)) := near_mul ⟨y1, y2⟩ hds
  rw [two52] at q3
  have q5 : Near qv (Y * d) (3 * ulp + 1 / 1267650600228229401496703205376) := by
    obtain ⟨a1, a2⟩ := q3
    obtain ⟨b1, b2⟩ := q4
    constructor <;> grind
  have hQ : 0 ≤ Y * d ∧ Y * d ≤ 8 / 25 := by
    have h1 := Rat.mul_nonneg Y1 (Rat.le_of_lt hcp)
    have h2 := Rat.mul_le_mul_of_nonneg_left hch Y1
    exact ⟨h1, by grind⟩
  generalize hQe : Y * d = Q at *
  clear q2 q3 q4 hq hqs hys hcF hci hch hds hcp hc0 hc2
  -- the product
  have t1 : Size tv (101 / 100) := by obtain ⟨a1, a2⟩ := htn; constructor <;> grind
  have p1 := near_mul q5 t1
  have p2 : Near (Q * tv) (Q * T) (10 * ulp * (8 / 25)) := by
    have := near_mul htn (Size.of_nonneg hQ.1 hQ.2)
    rwa [Rat.mul_comm tv, Rat.mul_comm T] at this
  have p3 : Near (qv * tv) (Q * T) (7 * ulp) := by
    obtain ⟨a1, a2⟩ := p1
    obtain ⟨b1, b2⟩ := p2
    constructor <;> grind
  have hQT : 0 ≤ Q * T ∧ Q * T ≤ 8 / 25 := by
    have h1 := Rat.mul_nonneg hQ.1 T1
    have h2 := Rat.mul_le_mul_of_nonneg_left T2 hQ.1
    exact ⟨h1, by grind⟩
  have p4 : Size (qv * tv) 1 := by obtain ⟨a1, a2⟩ := p3; constructor <;> grind
  obtain ⟨m, m1, m2⟩ := fv_mul q1 ht (size_1000 p4 (le_1000 (by decide +kernel)))
  have p5 : Size (qv * tv) (1 / 2) := by obtain ⟨a1, a2⟩ := p3; constructor <;> grind
  have m3 := m2.near p5
  rw [two52] at m3
  have m4 : Near m (Q * T) (8 * ulp) := by
    obtain ⟨a1, a2⟩ := m3
    obtain ⟨b1, b2⟩ := p3
    constructor <;> grind
  have s1 : Size (1 - m) (101 / 100) := by obtain ⟨a1, a2⟩ := m4; constructor <;> grind
  obtain ⟨r, r1, r2⟩ := fv_sub one_fv m1 (size_1000 s1 (le_1000 (by decide +kernel)))
  have r3 := r2.near s1
  rw [two52] at r3
  refine ⟨r, r1, ?_, by grind, by grind⟩
  obtain ⟨a1, a2⟩ := r3
  obtain ⟨b1, b2⟩ := m4
  constructor <;> grind

end Flt
end Go.Proofs.Ytphgibndncjaiaa
/-
  Each turn is near the exact one. No program.
-/
set_option linter.unusedVariables false
set_option linter.unusedSimpArgs false
namespace Go.Proofs.Ytphgibndncjaiaa
open Go Flt
namespace Flt
open Turn

theorem word_fv {k e r : Nat} (h1 : 4503599627370496 ≤ k) (h2 : k < 9007199254740992) (he : e ≤ 1000) (hr : r = (1074 - e) * 4503599627370496 + k) : Fv (some r) ((k : Rat) / two e) := by
  have e2 : Ieee.double.fractionBits = 52 := by decide
  have e3 : Ieee.double.binade = 4503599627370496 := by decide
  have h0 : k ≠ 0 := by omega
  have hl : k.log2 = 52 := by
    have a1 : k.log2 < 53 := (Nat.log2_lt h0).2 (by omega)
    have a2 : 52 ≤ k.log2 := (Nat.le_log2 h0).2 (by omega)
    omega
  have hv := rung_of (f := Ieee.double) (k := k) (q := lpn - e) h0 (by rw [e3]; omega) (by rw [e2]; unfold lpn; omega)
  rw [e2, e3, hl] at hv
  have er : (lpn - e + 52 - 52) * 4503599627370496 + k * 2 ^ (52 - 52) = r := by rw [hr]; unfold lpn; omega
  rw [er] at hv
  have hlt : r < Ieee.double.infRung := by rw [ir64, hr]; omega
  have hs : two lpn = two e * two (lpn - e) := by rw [← two_add, Nat.add_sub_cancel' (by unfold lpn; omega)]
  have hq : fq r = (k : Rat) / two e := by
    have h3 : fq r = rq r := fq_word false hlt
    rw [h3]
    unfold rq
    rw [hv, Rat.natCast_mul, hs]
    show (k : Rat) * two (lpn - e) / (two e * two (lpn - e)) = _
    have c1 := Rat.mul_inv_cancel _ (Rat.ne_of_gt (two_pos e))
    have c2 := Rat.mul_inv_cancel _ (Rat.ne_of_gt (two_pos (lpn - e)))
    rw [Rat.div_def, Rat.div_def, Rat.inv_mul_rev]; grind
  exact ⟨r, rfl, fin_word false hlt, hq⟩

def tw : Rat := 7074237752028440 / 1125899906842624
theorem twoPi_fv : Fv twoPi tw := by
  have := word_fv (k := 7074237752028440) (e := 50) (r := 4618760256179416344) (by decide) (by decide) (by decide) (by decide)
  exact this
theorem tw_near : Near tw tau (2 * ulp) ∧ 0 ≤ tw ∧ tw ≤ 63 / 10 ∧ 0 ≤ tau ∧ tau ≤ 63 / 10 := by unfold Near; decide +kernel
def hr' : Rat := 6369051672525773 / 9007199254740992
theorem half_fv : Fv halfRoot hr' := by
  have := word_fv (k := 6369051672525773) (e := 53) (r := 4604544271217802189) (by decide) (by decide) (by decide) (by decide)
  exact this
theorem half_near : Near hr' (cq (1 / 8)) ulp ∧ Near hr' (sq (1 / 8)) ulp := by unfold Near cq sq; decide +kernel

theorem arg_near {n k : Nat} (hk : 0 < k) (h8 : 8 * k ≤ n) (hn : n ≤ 1048576) :
    ∃ x, Fv (argO n k) x ∧ Near x (tau * ((k : Rat) / (n : Rat))) (17 / 8 * ulp) ∧ 0 ≤ tau * ((k : Rat) / (n : Rat)) ∧ tau * ((k : Rat) / (n : Rat)) ≤ 4 / 5 := by
  have hu := ulp_val
  have hti := tiny_le
  have ht0 := tiny_pos
  obtain ⟨⟨w1, w2⟩, w3, w4, w5, w6⟩ := tw_near
  have hkF := fv_int_exact (n := (k : Int)) (by omega)
  have hnF := fv_int_exact (n := (n : Int)) (by omega)
  rw [Rat.intCast_natCast] at hkF hnF
  have k1 : (1 : Rat) ≤ (k : Rat) := Rat.natCast_le_natCast.2 hk
  have n1 : (1 : Rat) ≤ (n : Rat) := Rat.natCast_le_natCast.2 (show 1 ≤ n by omega)
  have kn : 8 * (k : Rat) ≤ (n : Rat) := by
    have := Rat.natCast_le_natCast.2 h8
    rwa [Rat.natCast_mul] at this
  have n2 : (n : Rat) ≤ 1048576 := Rat.natCast_le_natCast.2 hn
  have n0 : (0 : Rat) < (n : Rat) := by grind
  have ni := Rat.mul_inv_cancel _ (Rat.ne_of_gt n0)
  have np := Rat.inv_pos.2 n0
  unfold argO
  generalize (k : Rat) = K at *
  generalize (n : Rat) = M at *
  rw [Rat.div_def]
  have hq : 0 ≤ K * M⁻¹ ∧ K * M⁻¹ ≤ 1 / 8 := by
    have a1 := Rat.mul_nonneg (show 0 ≤ K by grind) (Rat.le_of_lt np)
    have a2 := Rat.mul_le_mul_of_nonneg_right kn (Rat.le_of_lt np)
    rw [ni] at a2
    exact ⟨a1, by grind⟩
  have hM1 : M⁻¹ ≤ 1 := by
    have := Rat.mul_le_mul_of_nonneg_right n1 (Rat.le_of_lt np)
    rw [ni] at this; grind
  -- the product
  have p1 : Size (tw * K) (7 * K) := by
    have := (Size.of_nonneg w3 w4).mul (Size.of_nonneg (show 0 ≤ K by grind) Rat.le_refl)
    exact this.mono (by grind)
  have p1b : 7 * K ≤ 1152921504606846976 := by grind
  obtain ⟨p, p2, p3⟩ := fv_mul twoPi_fv hkF (size_1000 p1 (le_1000 p1b))
  have p4 := p3.near p1
  rw [two52] at p4
  have e1 : 7 * K / 4503599627370496 = 7 * K * ulp := by
    have : ulp = 1 / 4503599627370496 := rfl
    rw [this, Rat.div_def, Rat.div_def, Rat.one_mul]
  rw [e1] at p4
  -- divided
  have d1 : Near (p * M⁻¹) (tw * K * M⁻¹) ((7 * K * ulp + tiny) * M⁻¹) := near_mul p4 (Size.of_nonneg (Rat.le_of_lt np) Rat.le_refl)
  obtain ⟨q1, q2⟩ := hq
  obtain ⟨Q, hQ⟩ : ∃ Q, K * M⁻¹ = Q := ⟨_, rfl⟩
  have e2 : tw * K * M⁻¹ = tw * Q := by rw [← hQ]; grind
  have e3 : (7 * K * ulp + tiny) * M⁻¹ = 7 * Q * ulp + tiny * M⁻¹ := by rw [← hQ]; grind
  rw [e2, e3] at d1
  rw [hQ] at q1 q2 ⊢
  have t1 := Rat.mul_le_mul_of_nonneg_left hM1 (Rat.le_of_lt ht0)
  have u0 : 0 ≤ ulp := by decide +kernel
  have qu := Rat.mul_le_mul_of_nonneg_right q2 u0
  have tq : Near (tw * Q) (tau * Q) (2 * ulp * (1 / 8)) := near_mul ⟨w1, w2⟩ (Size.of_nonneg q1 q2)
  have xq : 0 ≤ tau * Q ∧ tau * Q ≤ 63 / 80 := by
    have a1 := Rat.mul_nonneg w5 q1
    have a2 := Rat.mul_le_mul_of_nonneg_left q2 w5
    exact ⟨a1, by grind⟩
  clear e2 e3 e1 w1 w2 w3 w4 w5 w6 p3 p4 k1 kn n1 n2 ni
  have d2 : Near (p * M⁻¹) (tau * Q) (9 / 8 * ulp + tiny) := by
    obtain ⟨a1, a2⟩ := d1
    obtain ⟨b1, b2⟩ := tq
    constructor <;> grind
  obtain ⟨x1, x2⟩ := xq
  have d3 : Size (p * M⁻¹) (4 / 5) := by
    obtain ⟨a1, a2⟩ := d2
    constructor <;> grind
  rw [show p * M⁻¹ = p / M from (Rat.div_def _ _).symm] at d2 d3
  obtain ⟨x, x3, x4⟩ := fv_div p2 hnF (Rat.ne_of_gt n0) (size_1000 d3 (le_1000 (by decide +kernel)))
  have x5 := x4.near d3
  rw [two52] at x5
  refine ⟨x, x3, ?_, x1, by grind⟩
  obtain ⟨a1, a2⟩ := x5
  obtain ⟨b1, b2⟩ := d2
  constructor <;> grind

theorem c_range {j : Nat} (h : j < 9) : (2 ≤ cI (9 - (j : Int)) ∧ cI (9 - (j : Int)) ≤ 400) ∧ (2 ≤ sI (9 - (j : Int)) ∧ sI (9 - (j : Int)) ≤ 400) := by
  have : j = 0 ∨ j = 1 ∨ j = 2 ∨ j = 3 ∨ j = 4 ∨ j = 5 ∨ j = 6 ∨ j = 7 ∨ j = 8 := by omega
  rcases this with rfl | rfl | rfl | rfl | rfl | rfl | rfl | rfl | rfl <;> decide

theorem cosR_near {y : O} {yv Y : Rat} (hy : Fv y yv) (hyn : Near yv Y (5 * ulp)) (hY : 0 ≤ Y ∧ Y ≤ 16 / 25) (j : Nat) (hj : j ≤ 9) :
    ∃ t, Fv (cosR y j) t ∧ Near t (cosT Y j) (10 * ulp) ∧ 0 ≤ cosT Y j ∧ cosT Y j ≤ 1 := by
  induction j with
  | zero => exact ⟨1, one_fv, by show Near 1 1 _; unfold Near; decide +kernel, by show (0 : Rat) ≤ 1; decide, Rat.le_refl⟩
  | succ j ih =>
    obtain ⟨t, t1, t2, t3⟩ := ih (by omega)
    exact round_near hy hyn hY t1 t2 t3 (c_range (by omega)).1
theorem sinR_near {y : O} {yv Y : Rat} (hy : Fv y yv) (hyn : Near yv Y (5 * ulp)) (hY : 0 ≤ Y ∧ Y ≤ 16 / 25) (j : Nat) (hj : j ≤ 9) :
    ∃ t, Fv (sinR y j) t ∧ Near t (sinT Y j) (10 * ulp) ∧ 0 ≤ sinT Y j ∧ sinT Y j ≤ 1 := by
  induction j with
  | zero => exact ⟨1, one_fv, by show Near 1 1 _; unfold Near; decide +kernel, by show (0 : Rat) ≤ 1; decide, Rat.le_refl⟩
  | succ j ih =>
    obtain ⟨t, t1, t2, t3⟩ := ih (by omega)
    exact round_near hy hyn hY t1 t2 t3 (c_range (by omega)).2

theorem ser_near {n k : Nat} (hk : 0 < k) (h8 : 8 * k ≤ n) (hn : n ≤ 1048576) :
    ∃ r s, Fv (serO n k).1 r ∧ Fv (serO n k).2 s ∧ Near r (cq ((k : Rat) / (n : Rat))) (13 * ulp) ∧ Near s (sq ((k : Rat) / (n : Rat))) (13 * ulp) := by
  have hu := ulp_val
  have hti := tiny_le
  have ht0 := tiny_pos
  obtain ⟨x, x1, x2, x3, x4⟩ := arg_near hk h8 hn
  unfold serO
  simp only []
  unfold cq sq
  generalize tau * ((k : Rat) / (n : Rat)) = X at *
  obtain ⟨c1, c2⟩ := cos_short (Size.of_nonneg x3 x4)
  rw [← cosT_eq] at c1
  rw [← sinT_eq] at c2
  have xs : Size x (81 / 100) := by obtain ⟨a1, a2⟩ := x2; constructor <;> grind
  have XX : 0 ≤ X * X ∧ X * X ≤ 16 / 25 := by
    have a1 := Rat.mul_nonneg x3 x3
    have a2 := Rat.mul_le_mul_of_nonneg_left x4 x3
    exact ⟨a1, by grind⟩
  -- the square
  have y1 : Near (x * x) (X * X) (5 * ulp - ulp * (7 / 10) - tiny) := by
    have a1 := near_mul x2 xs
    have a2 := near_mul x2 (Size.of_nonneg x3 x4)
    obtain ⟨b1, b2⟩ := a1
    obtain ⟨b3, b4⟩ := a2
    rw [Rat.mul_comm x X] at b3 b4
    constructor <;> grind
  have y2 : Size (x * x) (7 / 10) := by obtain ⟨a1, a2⟩ := y1; constructor <;> grind
  obtain ⟨yv, y3, y4⟩ := fv_mul x1 x1 (size_1000 y2 (le_1000 (by decide +kernel)))
  have y5 := y4.near y2
  rw [two52] at y5
  have y6 : Near yv (X * X) (5 * ulp) := by
    obtain ⟨a1, a2⟩ := y5
    obtain ⟨b1, b2⟩ := y1
    constructor <;> grind
  obtain ⟨r, r1, r2, -, -⟩ := cosR_near y3 y6 XX 9 (by omega)
  obtain ⟨t, t1, t2, t3, t4⟩ := sinR_near y3 y6 XX 9 (by omega)
  clear y1 y2 y4 y5
  have p1 : Near (t * x) (sinT (X * X) 9 * X) (11 * ulp) := by
    have a1 := near_mul t2 xs
    have a2 := near_mul x2 (Size.of_nonneg t3 t4)
    obtain ⟨b1, b2⟩ := a1
    obtain ⟨b3, b4⟩ := a2
    rw [Rat.mul_comm x, Rat.mul_comm X] at b3 b4
    constructor <;> grind
  have p2 : Size (t * x) 1 := by
    have ts : Size t (101 / 100) := by obtain ⟨a1, a2⟩ := t2; constructor <;> grind
    exact (ts.mul xs).mono (by decide +kernel)
  obtain ⟨s, s1, s2⟩ := fv_mul t1 x1 (size_1000 p2 (le_1000 (by decide +kernel)))
  have s3 := s2.near p2
  rw [two52] at s3
  refine ⟨r, s, r1, s1, ?_, ?_⟩
  · obtain ⟨a1, a2⟩ := c1
    obtain ⟨b1, b2⟩ := r2
    clear x1 x2 x3 x4 c2 xs XX y3 y6 t1 t2 t3 t4 p1 p2 s1 s2 s3 r1
    constructor <;> grind
  · obtain ⟨a1, a2⟩ := c2
    obtain ⟨b1, b2⟩ := s3
    obtain ⟨d1, d2⟩ := p1
    clear x1 x2 x3 x4 c1 xs XX y3 y6 t1 t2 t3 t4 p2 s1 s2 r1 r2
    constructor <;> grind

end Flt
end Go.Proofs.Ytphgibndncjaiaa
/-
  Each turn is near the exact one, by the rules. No program.
-/
set_option linter.unusedVariables false
set_option linter.unusedSimpArgs false
namespace Go.Proofs.Ytphgibndncjaiaa
open Go Flt
namespace Flt
open Turn

theorem fv_neg {z : O} {q : Rat} (h : Fv z q) : Fv (fneg .f64 z) (-q) := by
  obtain ⟨u, rfl, h1, rfl⟩ := h
  obtain ⟨neg, r, hr, rfl⟩ := fin_parts h1
  have hs : Ieee.double.signWeight = 9223372036854775808 := by decide
  have hr' := hr
  rw [ir64] at hr'
  have e2 : Op.negFloat .f64 (Ieee.double.word neg r) = Ieee.double.word (!neg) r := by
    show Ieee.double.word neg r ^^^ 2 ^ 63 = _
    unfold Ieee.Format.word
    rw [hs]
    cases neg
    · simp only [Bool.false_eq_true, if_false, Bool.not_false, if_true]
      rw [neg64_lo (x := r) (by omega)]; omega
    · simp only [Bool.not_true, Bool.false_eq_true, if_false, if_true]
      rw [neg64_hi (x := 9223372036854775808 + r) (by omega) (by omega)]; omega
  refine ⟨Ieee.double.word (!neg) r, by show some _ = some _; rw [e2], fin_word _ hr, ?_⟩
  rw [fq_word _ hr, fq_word _ hr]
  cases neg
  · rfl
  · simp only [Bool.not_true, Bool.false_eq_true, if_false, if_true]; rw [Rat.neg_neg]

theorem Near.neg {a b e : Rat} (h : Near a b e) : Near (-a) (-b) e := by
  obtain ⟨h1, h2⟩ := h
  constructor <;> grind
theorem Near.trans {a b c e f : Rat} (h : Near a b e) (k : Near b c f) : Near a c (e + f) := by
  obtain ⟨h1, h2⟩ := h
  obtain ⟨k1, k2⟩ := k
  constructor <;> grind
theorem Near.symm {a b e : Rat} (h : Near a b e) : Near b a e := ⟨h.2, h.1⟩
theorem Near.mono {a b e f : Rat} (h : Near a b e) (k : e ≤ f) : Near a b f := ⟨Rat.le_trans h.1 k, Rat.le_trans h.2 k⟩
theorem Near.refl (a : Rat) {e : Rat} (h : 0 ≤ e) : Near a a e := by constructor <;> grind

/-- A turn that is near the exact one. -/
def TurnAt (z : O × O) (q e : Rat) : Prop := ∃ r s, Fv z.1 r ∧ Fv z.2 s ∧ Near r (cq q) e ∧ Near s (sq q) e

theorem part_size {n k : Nat} (hn : 0 < n) (hk : k ≤ n) : Size ((k : Rat) / (n : Rat)) 1 := by
  have n0 : (0 : Rat) < (n : Rat) := Rat.natCast_pos.2 hn
  have h1 := div_le_div n0 (Rat.natCast_le_natCast.2 hk)
  have h2 : (n : Rat) / (n : Rat) = 1 := by rw [Rat.div_def]; exact Rat.mul_inv_cancel _ (Rat.ne_of_gt n0)
  rw [h2] at h1
  refine Size.of_nonneg ?_ h1
  rw [Rat.div_def]
  exact Rat.mul_nonneg Rat.natCast_nonneg (Rat.le_of_lt (Rat.inv_pos.2 n0))

theorem part_red {n k : Nat} (hn : 0 < n) : ((k / n.gcd k : Nat) : Rat) / ((n / n.gcd k : Nat) : Rat) = (k : Rat) / (n : Rat) := by
  have hg : 0 < n.gcd k := Nat.gcd_pos_of_pos_left _ hn
  obtain ⟨a, ha⟩ := Nat.gcd_dvd_left n k
  obtain ⟨b, hb⟩ := Nat.gcd_dvd_right n k
  generalize hG : n.gcd k = g at *
  subst ha hb
  rw [Nat.mul_div_cancel_left _ hg, Nat.mul_div_cancel_left _ hg, Rat.natCast_mul, Rat.natCast_mul]
  have g0 := Rat.mul_inv_cancel _ (Rat.ne_of_gt (Rat.natCast_pos.2 hg))
  rw [Rat.div_def, Rat.div_def, Rat.inv_mul_rev]
  grind

theorem turn_rec (r : Nat) : ∀ n k : Nat, rank n k ≤ r → r ≤ 3 → 0 < n → n * 8 ^ r ≤ 1048576 → k ≤ n → TurnAt (turn n k) ((k : Rat) / (n : Rat)) (13 * ulp + (r : Rat) * (5 * dl)) := by
  have u0 : 0 ≤ ulp := by decide +kernel
  have d0 : 0 ≤ dl := by decide +kernel
  induction r with
  | zero =>
    intro n k hr _ hn hb hk
    rw [turn_red hn, ← part_red hn]
    have hg : 0 < n.gcd k := Nat.gcd_pos_of_pos_left _ hn
    have hn1 : 0 < n / n.gcd k := Nat.div_pos (Nat.le_of_dvd hn (Nat.gcd_dvd_left n k)) hg
    have hn2 : n / n.gcd k ≤ n := Nat.div_le_self _ _
    have hgg : (n / n.gcd k).gcd (k / n.gcd k) = 1 := by
      rw [Nat.gcd_div (Nat.gcd_dvd_left n k) (Nat.gcd_dvd_right n k)]
      exact Nat.div_self hg
    rw [← rank_red hn] at hr
    generalize n / n.gcd k = n1 at *
    generalize k / n.gcd k = k1 at *
    have h8 : 8 * k1 ≤ n1 := by
      apply Classical.byContradiction; intro hc
      unfold rank at hr
      rw [if_neg hc] at hr
      split at hr
      · omega
      · split at hr <;> omega
    rw [show (((0 : Nat) : Rat)) = 0 from rfl, Rat.zero_mul, Rat.add_zero]
    have e13 : ulp ≤ 13 * ulp := by grind
    by_cases h0 : k1 = 0
    · rw [turn_zero hgg h0, h0]
      have : ((0 : Nat) : Rat) / (n1 : Rat) = 0 := by rw [show (((0 : Nat) : Rat)) = 0 from rfl, Rat.div_def, Rat.zero_mul]
      rw [this]
      refine ⟨1, 0, one_fv, zero_fv, ?_, ?_⟩
      · rw [cq_zero.1]; exact Near.refl _ (by grind)
      · rw [cq_zero.2]; exact Near.refl _ (by grind)
    · by_cases he : 8 * k1 = n1
      · rw [turn_eighth hgg h0 (by omega) (by omega) (by omega) he]
        have : (k1 : Rat) / (n1 : Rat) = 1 / 8 := by
          have k0 := Rat.mul_inv_cancel _ (Rat.ne_of_gt (Rat.natCast_pos.2 (Nat.pos_of_ne_zero h0)))
          rw [← he, Rat.natCast_mul, Rat.div_def, Rat.inv_mul_rev, ← Rat.mul_assoc, k0, Rat.one_mul, Rat.div_def, Rat.one_mul]; rfl
        rw [this]
        exact ⟨_, _, half_fv, half_fv, half_near.1.mono e13, half_near.2.mono e13⟩
      · rw [turn_series hgg h0 (by omega) (by omega) (by omega) he]
        exact ser_near (Nat.pos_of_ne_zero h0) h8 (by omega)
  | succ r ih =>
    intro n k hr hr3 hn hb hk
    have hb' : n * 8 ^ r * 8 ≤ 1048576 := by rw [Nat.pow_succ, ← Nat.mul_assoc] at hb; exact hb
    have er : (((r + 1 : Nat) : Rat)) * (5 * dl) = (r : Rat) * (5 * dl) + 5 * dl := by rw [Rat.natCast_add]; show ((r : Rat) + 1) * _ = _; grind
    have elt : 13 * ulp + (r : Rat) * (5 * dl) ≤ 13 * ulp + (((r + 1 : Nat) : Rat)) * (5 * dl) := by rw [er]; grind
    rw [turn_red hn, ← part_red hn]
    have hg : 0 < n.gcd k := Nat.gcd_pos_of_pos_left _ hn
    have hn1 : 0 < n / n.gcd k := Nat.div_pos (Nat.le_of_dvd hn (Nat.gcd_dvd_left n k)) hg
    have hn2 : n / n.gcd k ≤ n := Nat.div_le_self _ _
    have hk1 : k / n.gcd k ≤ n / n.gcd k := Nat.div_le_div_right hk
    have hgg : (n / n.gcd k).gcd (k / n.gcd k) = 1 := by
      rw [Nat.gcd_div (Nat.gcd_dvd_left n k) (Nat.gcd_dvd_right n k)]
      exact Nat.div_self hg
    rw [← rank_red hn] at hr
    have hb1 : n / n.gcd k * 8 ^ r * 8 ≤ 1048576 := Nat.le_trans (Nat.mul_le_mul_right _ (Nat.mul_le_mul_right _ hn2)) hb'
    generalize n / n.gcd k = n1 at *
    generalize k / n.gcd k = k1 at *
    have n0 : (0 : Rat) < (n1 : Rat) := Rat.natCast_pos.2 hn1
    have ni := Rat.mul_inv_cancel _ (Rat.ne_of_gt n0)
    have hsz := part_size hn1 hk1
    by_cases hlow : rank n1 k1 ≤ r
    · obtain ⟨x, y, x1, y1, x2, y2⟩ := ih n1 k1 hlow (by omega) hn1 (by omega) hk1
      exact ⟨x, y, x1, y1, x2.mono elt, y2.mono elt⟩
    · have hr1 : rank n1 k1 = r + 1 := by omega
      have h0 : k1 ≠ 0 := by
        rintro rfl
        unfold rank at hr1
        rw [if_pos (by omega)] at hr1; omega
      unfold rank at hr1
      rw [er, ← Rat.add_assoc]
      by_cases h2 : n1 < 2 * k1
      · rw [turn_two hgg h0 hn1 hk1 h2]
        have hr2 : rank n1 (n1 - k1) ≤ r := by
          rw [if_neg (by omega), if_neg (by omega), if_neg (by omega)] at hr1
          unfold rank
          split <;> (try split) <;> (try split) <;> omega
        obtain ⟨x, y, x1, y1, x2, y2⟩ := ih n1 (n1 - k1) hr2 (by omega) hn1 (by omega) (by omega)
        have e : ((n1 - k1 : Nat) : Rat) / (n1 : Rat) = 1 - (k1 : Rat) / (n1 : Rat) := by
          have h : ((n1 - k1 : Nat) : Rat) + (k1 : Rat) = (n1 : Rat) := by rw [← Rat.natCast_add]; exact congrArg _ (by omega)
          rw [Rat.div_def, Rat.div_def]; grind
        rw [e] at x2 y2
        obtain ⟨m1, m2⟩ := cq_mirror hsz
        refine ⟨x, -y, x1, fv_neg y1, x2.trans m1, ?_⟩
        have := (y2.trans m2).neg
        rwa [Rat.neg_neg] at this
      · by_cases h4 : n1 < 4 * k1
        · rw [turn_four hgg h0 hn1 h2 h4]
          have hr2 : rank (2 * n1) (n1 - 2 * k1) ≤ r := by
            rw [if_neg (by omega), if_neg (by omega), if_pos (by omega)] at hr1
            unfold rank
            split <;> (try split) <;> (try split) <;> omega
          obtain ⟨x, y, x1, y1, x2, y2⟩ := ih (2 * n1) (n1 - 2 * k1) hr2 (by omega) (by omega) (by rw [Nat.mul_assoc]; omega) (by omega)
          have e : ((n1 - 2 * k1 : Nat) : Rat) / ((2 * n1 : Nat) : Rat) = 1 / 2 - (k1 : Rat) / (n1 : Rat) := by
            have h : ((n1 - 2 * k1 : Nat) : Rat) + 2 * (k1 : Rat) = (n1 : Rat) := by
              have h3 : ((2 * k1 : Nat) : Rat) = 2 * (k1 : Rat) := by rw [Rat.natCast_mul]; rfl
              rw [← h3, ← Rat.natCast_add]; exact congrArg _ (by omega)
            rw [Rat.natCast_mul, Rat.div_def, Rat.inv_mul_rev, Rat.div_def]
            show _ * (_ * (2 : Rat)⁻¹) = _
            grind
          rw [e] at x2 y2
          obtain ⟨m1, m2⟩ := cq_opp hsz
          refine ⟨-x, y, fv_neg x1, y1, ?_, y2.trans m2⟩
          have := (x2.trans m1).neg
          rwa [Rat.neg_neg] at this
        · have h8 : n1 < 8 * k1 := by
            apply Nat.lt_of_not_le; intro hc
            rw [if_pos hc] at hr1; omega
          rw [turn_eight hgg h0 hn1 h2 h4 h8]
          have hr2 : rank (4 * n1) (n1 - 4 * k1) ≤ r := by
            rw [if_neg (by omega), if_pos (by omega)] at hr1
            unfold rank
            split <;> (try split) <;> (try split) <;> omega
          obtain ⟨x, y, x1, y1, x2, y2⟩ := ih (4 * n1) (n1 - 4 * k1) hr2 (by omega) (by omega) (by rw [Nat.mul_assoc]; omega) (by omega)
          have e : ((n1 - 4 * k1 : Nat) : Rat) / ((4 * n1 : Nat) : Rat) = 1 / 4 - (k1 : Rat) / (n1 : Rat) := by
            have h : ((n1 - 4 * k1 : Nat) : Rat) + 4 * (k1 : Rat) = (n1 : Rat) := by
              have h3 : ((4 * k1 : Nat) : Rat) = 4 * (k1 : Rat) := by rw [Rat.natCast_mul]; rfl
              rw [← h3, ← Rat.natCast_add]; exact congrArg _ (by omega)
            rw [Rat.natCast_mul, Rat.div_def, Rat.inv_mul_rev, Rat.div_def]
            show _ * (_ * (4 : Rat)⁻¹) = _
            grind
          rw [e] at x2 y2
          obtain ⟨m1, m2⟩ := cq_quart hsz
          exact ⟨y, x, y1, x1, y2.trans m2, x2.trans m1⟩

/-- EACH TURN IS NEAR THE EXACT ONE. -/
theorem turn_near {n k : Nat} (hn : 0 < n) (hn2 : n ≤ 2048) (hk : k ≤ n) : TurnAt (turn n k) ((k : Rat) / (n : Rat)) (14 * ulp) := by
  obtain ⟨x, y, x1, y1, x2, y2⟩ := turn_rec 3 n k (rank_le n k) (Nat.le_refl _) hn (by omega) hk
  have e : 13 * ulp + (((3 : Nat) : Rat)) * (5 * dl) ≤ 14 * ulp := by decide +kernel
  exact ⟨x, y, x1, y1, x2.mono e, y2.mono e⟩

end Flt
end Go.Proofs.Ytphgibndncjaiaa
/-
  Turns that are mirrored, opposite and written otherwise, by their values; products of turns. No program.
-/
set_option linter.unusedVariables false
set_option linter.unusedSimpArgs false
namespace Go.Proofs.Ytphgibndncjaiaa
open Go Flt
namespace Flt
open Turn

/-- A turn with its values. -/
def TV (n k : Nat) (r s : Rat) : Prop := Fv (turn n k).1 r ∧ Fv (turn n k).2 s

theorem Fv.uniq {z : O} {p q : Rat} (h : Fv z p) (k : Fv z q) : p = q := by
  obtain ⟨x, e1, -, rfl⟩ := h
  obtain ⟨y, e2, -, rfl⟩ := k
  rw [e1] at e2; cases e2; rfl
theorem TV.ex {n k : Nat} (hn : 0 < n) (hn2 : n ≤ 2048) (hk : k ≤ n) : ∃ r s, TV n k r s := by
  obtain ⟨r, s, h1, h2, -, -⟩ := turn_near hn hn2 hk
  exact ⟨r, s, h1, h2⟩
theorem TV.near {n k : Nat} {r s : Rat} (h : TV n k r s) (hn : 0 < n) (hn2 : n ≤ 2048) (hk : k ≤ n) : Near r (cq ((k : Rat) / (n : Rat))) (14 * ulp) ∧ Near s (sq ((k : Rat) / (n : Rat))) (14 * ulp) := by
  obtain ⟨r', s', h1, h2, h3, h4⟩ := turn_near hn hn2 hk
  rw [h.1.uniq h1, h.2.uniq h2]
  exact ⟨h3, h4⟩

/-- The same fraction, written otherwise. -/
theorem turn_scale {n k g : Nat} (hg : 0 < g) (hn : 0 < n) : turn (g * n) (g * k) = turn n k := by
  rw [turn_red (n := g * n) (Nat.mul_pos hg hn), turn_red hn, Nat.gcd_mul_left, Nat.mul_div_mul_left _ _ hg, Nat.mul_div_mul_left _ _ hg]

theorem lowest {n k : Nat} (hn : 0 < n) : ∃ g a b, 0 < g ∧ n = g * a ∧ k = g * b ∧ a.gcd b = 1 ∧ 0 < a ∧ turn n k = turn a b := by
  have hg : 0 < n.gcd k := Nat.gcd_pos_of_pos_left _ hn
  refine ⟨n.gcd k, n / n.gcd k, k / n.gcd k, hg, (Nat.mul_div_cancel' (Nat.gcd_dvd_left n k)).symm, (Nat.mul_div_cancel' (Nat.gcd_dvd_right n k)).symm, ?_, Nat.div_pos (Nat.le_of_dvd hn (Nat.gcd_dvd_left n k)) hg, turn_red hn⟩
  rw [Nat.gcd_div (Nat.gcd_dvd_left n k) (Nat.gcd_dvd_right n k)]
  exact Nat.div_self hg

/-- What stands at some parts. -/
theorem TV.zero {n : Nat} (hn : 0 < n) : TV n 0 1 0 := by
  have h : turn n 0 = (oneO, zeroO) := by
    rw [turn_red hn, Nat.gcd_zero_right, Nat.zero_div]
    exact turn_zero (by rw [Nat.gcd_zero_right]; exact Nat.div_self hn) rfl
  unfold TV; rw [h]; exact ⟨one_fv, zero_fv⟩
theorem TV.half : TV 2 1 (-1) 0 := by
  have h : turn 2 1 = (fneg .f64 (turn 4 0).1, (turn 4 0).2) := turn_four (by decide) (by decide) (by decide) (by decide) (by decide)
  have h0 : TV 4 0 1 0 := TV.zero (by decide)
  unfold TV at *
  rw [h]; exact ⟨fv_neg h0.1, h0.2⟩
theorem TV.quart : TV 4 1 0 1 := by
  have h : turn 4 1 = ((turn 16 0).2, (turn 16 0).1) := turn_eight (by decide) (by decide) (by decide) (by decide) (by decide) (by decide)
  have h0 : TV 16 0 1 0 := TV.zero (by decide)
  unfold TV at *
  rw [h]; exact ⟨h0.2, h0.1⟩

/-- The mirrored turn. -/
theorem TV.conj {n k : Nat} {r s : Rat} (h : TV n k r s) (hn : 0 < n) (hk0 : 0 < k) (hk : k < n) : TV n (n - k) r (-s) := by
  obtain ⟨g, a, b, hg, e1, e2, hab, ha, ht⟩ := lowest (n := n) (k := k) hn
  have hb : b < a := by
    apply Nat.lt_of_mul_lt_mul_left (a := g)
    omega
  have hb0 : b ≠ 0 := by rintro rfl; omega
  have e3 : n - k = g * (a - b) := by rw [Nat.mul_sub, ← e1, ← e2]
  have ht2 : turn n (n - k) = turn a (a - b) := by rw [e3, e1]; exact turn_scale hg ha
  unfold TV at *
  rw [ht] at h
  rw [ht2]
  have hg2 : a.gcd (a - b) = 1 := by rw [Nat.gcd_self_sub_right (Nat.le_of_lt hb)]; exact hab
  by_cases c1 : a < 2 * b
  · have := turn_two hab hb0 ha (Nat.le_of_lt hb) c1
    rw [this] at h
    have h2 := fv_neg h.2
    refine ⟨h.1, ?_⟩
    obtain ⟨u, e, h3, h4⟩ := h.2
    obtain ⟨v, ev⟩ : ∃ v, (turn a (a - b)).2 = some v := by
      cases hz : (turn a (a - b)).2 with
      | none => rw [hz] at e; cases e
      | some v => exact ⟨v, rfl⟩
    have hx : ∃ q, Fv (turn a (a - b)).2 q := by
      rw [ev] at e ⊢
      cases e
      have hf : Fin (Op.negFloat .f64 (Op.negFloat .f64 v)) := by
        obtain ⟨z, ez, hz1, hz2⟩ := fv_neg (z := some (Op.negFloat .f64 v)) ⟨_, rfl, h3, rfl⟩
        cases ez; exact hz1
      have hvv : Op.negFloat .f64 (Op.negFloat .f64 v) = v := by
        show (v ^^^ 2 ^ 63) ^^^ 2 ^ 63 = v
        rw [Nat.xor_assoc, Nat.xor_self, Nat.xor_zero]
      rw [hvv] at hf
      exact ⟨_, v, rfl, hf, rfl⟩
    obtain ⟨q, hq⟩ := hx
    have := (fv_neg hq).uniq h.2
    rw [← this, Rat.neg_neg]; exact hq
  · by_cases c2 : a = 2 * b
    · have hb1 : b = 1 := by
        rw [c2, Nat.gcd_comm, Nat.gcd_mul_left_right] at hab; exact hab
      subst hb1
      have ha2 : a = 2 := by omega
      subst ha2
      have hh := TV.half
      unfold TV at hh
      have : s = 0 := h.2.uniq hh.2
      subst this
      rw [show -(0 : Rat) = 0 by decide]
      exact ⟨h.1, h.2⟩
    · have := turn_two hg2 (by omega) ha (by omega) (show a < 2 * (a - b) by omega)
      rw [show a - (a - b) = b by omega] at this
      rw [this]
      exact ⟨h.1, fv_neg h.2⟩

/-- The turn that stands on the other side of a quarter. -/
theorem TV.across {H j : Nat} {r s : Rat} (h : TV (2 * H) j r s) (hH : 0 < H) (hj : j ≤ H) : TV (2 * H) (H - j) (-r) s := by
  -- beyond a quarter the rule itself says so
  have rule : ∀ i : Nat, i ≤ H → 4 * i > 2 * H → turn (2 * H) i = (fneg .f64 (turn (2 * H) (H - i)).1, (turn (2 * H) (H - i)).2) := by
    intro i hi h4
    obtain ⟨g, a, b, hg, e1, e2, hab, ha, ht⟩ := lowest (n := 2 * H) (k := i) (by omega)
    have b4 : a < 4 * b := by
      apply Nat.lt_of_mul_lt_mul_left (a := g)
      rw [← e1, Nat.mul_left_comm, ← e2]; omega
    have b2 : ¬ a < 2 * b := by
      intro hc
      have := Nat.mul_lt_mul_of_pos_left hc hg
      rw [← e1, Nat.mul_left_comm, ← e2] at this; omega
    have hb0 : b ≠ 0 := by rintro rfl; omega
    rw [ht, turn_four hab hb0 ha b2 b4]
    have e3 : turn (2 * a) (a - 2 * b) = turn (2 * H) (H - i) := by
      rw [← turn_scale (n := 2 * a) (k := a - 2 * b) hg (by omega), ← turn_scale (n := 2 * H) (k := H - i) (g := 2) (by decide) (by omega)]
      have f1 : g * (2 * a) = 2 * (2 * H) := by rw [Nat.mul_left_comm, ← e1]
      have f2 : g * (a - 2 * b) = 2 * (H - i) := by rw [Nat.mul_sub, ← e1, Nat.mul_left_comm, ← e2]; omega
      rw [f1, f2]
    rw [e3]
  unfold TV at *
  by_cases c1 : 4 * j > 2 * H
  · rw [rule j hj c1] at h
    refine ⟨?_, h.2⟩
    obtain ⟨u, e, h3, h4⟩ := h.1
    obtain ⟨v, ev⟩ : ∃ v, (turn (2 * H) (H - j)).1 = some v := by
      cases hz : (turn (2 * H) (H - j)).1 with
      | none => simp only [] at e; rw [hz] at e; cases e
      | some v => exact ⟨v, rfl⟩
    have hx : ∃ q, Fv (turn (2 * H) (H - j)).1 q := by
      simp only [] at e
      rw [ev] at e ⊢
      cases e
      have hf : Fin (Op.negFloat .f64 (Op.negFloat .f64 v)) := by
        obtain ⟨z, ez, hz1, hz2⟩ := fv_neg (z := some (Op.negFloat .f64 v)) ⟨_, rfl, h3, rfl⟩
        cases ez; exact hz1
      have hvv : Op.negFloat .f64 (Op.negFloat .f64 v) = v := by
        show (v ^^^ 2 ^ 63) ^^^ 2 ^ 63 = v
        rw [Nat.xor_assoc, Nat.xor_self, Nat.xor_zero]
      rw [hvv] at hf
      exact ⟨_, v, rfl, hf, rfl⟩
    obtain ⟨q, hq⟩ := hx
    have := (fv_neg hq).uniq h.1
    rw [← this, Rat.neg_neg]; exact hq
  · by_cases c2 : 4 * j = 2 * H
    · have e : turn (2 * H) j = turn 4 1 := by
        have := turn_scale (n := 4) (k := 1) (g := j) (by omega) (by decide)
        rw [Nat.mul_one] at this
        rw [← this, Nat.mul_comm j 4, c2]
      rw [show H - j = j by omega]
      rw [e] at h ⊢
      have hh := TV.quart
      unfold TV at hh
      have : r = 0 := h.1.uniq hh.1
      subst this
      rw [show -(0 : Rat) = 0 by decide]
      exact h
    · rw [rule (H - j) (by omega) (by omega), show H - (H - j) = j by omega]
      exact ⟨fv_neg h.1, h.2⟩

/-- The turn on the other side. -/
theorem TV.opp {H j : Nat} {r s : Rat} (h : TV (2 * H) j r s) (hH : 0 < H) (hH2 : H ≤ 1024) (hj : j < 2 * H) : TV (2 * H) ((j + H) % (2 * H)) (-r) (-s) := by
  have half : ∀ i r s, i < H → TV (2 * H) i r s → TV (2 * H) (i + H) (-r) (-s) := by
    intro i r s hi h
    have h1 := h.across hH (by omega)
    have h2 := h1.conj (by omega) (by omega) (by omega)
    rwa [show 2 * H - (H - i) = i + H by omega] at h2
  by_cases c : j < H
  · rw [Nat.mod_eq_of_lt (by omega)]
    exact half j r s c h
  · obtain ⟨i, rfl⟩ : ∃ i, j = i + H := ⟨j - H, by omega⟩
    have e : (i + H + H) % (2 * H) = i := by
      rw [show i + H + H = i + 2 * H by omega, Nat.add_mod_right, Nat.mod_eq_of_lt (by omega)]
    rw [e]
    obtain ⟨r', s', h'⟩ := TV.ex (n := 2 * H) (k := i) (by omega) (by omega) (by omega)
    have h2 := half i r' s' (by omega) h'
    have e1 := h.1.uniq h2.1
    have e2 := h.2.uniq h2.2
    subst e1 e2
    rw [Rat.neg_neg, Rat.neg_neg]
    exact h'

/-- Turns are multiplied as they are added. -/
theorem TV.mul {n j k : Nat} {r s r' s' r'' s'' : Rat} (hn : 0 < n) (hn2 : n ≤ 2048) (hj : j < n) (hk : k < n) (h : TV n j r s) (h' : TV n k r' s') (h'' : TV n ((j + k) % n) r'' s'') :
    Near (r * r' - s * s') r'' (100 * ulp) ∧ Near (r * s' + s * r') s'' (100 * ulp) := by
  have u0 : 0 ≤ ulp := by decide +kernel
  have dlu : 10 * dl ≤ ulp := by decide +kernel
  have hu := ulp_val
  obtain ⟨x1, x2⟩ := h.near hn hn2 (Nat.le_of_lt hj)
  obtain ⟨y1, y2⟩ := h'.near hn hn2 (Nat.le_of_lt hk)
  obtain ⟨z1, z2⟩ := h''.near hn hn2 (Nat.le_of_lt (Nat.mod_lt _ hn))
  have sj := part_size hn (Nat.le_of_lt hj)
  have sk := part_size hn (Nat.le_of_lt hk)
  have sm := part_size hn (Nat.le_of_lt (Nat.mod_lt (j + k) hn))
  obtain ⟨a1, a2⟩ := cq_add sj sk
  -- beyond a whole turn
  have hz : Near (cq ((j : Rat) / (n : Rat) + (k : Rat) / (n : Rat))) (cq (((j + k) % n : Nat) / (n : Rat))) (5 * dl) ∧ Near (sq ((j : Rat) / (n : Rat) + (k : Rat) / (n : Rat))) (sq (((j + k) % n : Nat) / (n : Rat))) (5 * dl) := by
    have d0 : 0 ≤ 5 * dl := by decide +kernel
    have e0 : (j : Rat) / (n : Rat) + (k : Rat) / (n : Rat) = ((j + k : Nat) : Rat) / (n : Rat) := by rw [Rat.natCast_add, Rat.div_def, Rat.div_def, Rat.div_def]; grind
    rw [e0]
    by_cases c : j + k < n
    · rw [Nat.mod_eq_of_lt c]
      exact ⟨Near.refl _ d0, Near.refl _ d0⟩
    · have em : (j + k) % n = j + k - n := by rw [Nat.mod_eq_sub_mod (by omega), Nat.mod_eq_of_lt (by omega)]
      have e1 : ((j + k : Nat) : Rat) / (n : Rat) = 1 + (((j + k) % n : Nat) : Rat) / (n : Rat) := by
        have n0 := Rat.mul_inv_cancel _ (Rat.ne_of_gt (Rat.natCast_pos.2 hn))
        have : ((j + k : Nat) : Rat) = (n : Rat) + (((j + k) % n : Nat) : Rat) := by rw [← Rat.natCast_add, em]; exact congrArg _ (by omega)
        rw [this, Rat.div_def, Rat.div_def]; grind
      rw [e1]
      exact cq_turn sm
  obtain ⟨b1, b2⟩ := hz
  obtain ⟨sx, sx'⟩ := cq_size sj
  obtain ⟨sy, sy'⟩ := cq_size sk
  generalize cq ((j : Rat) / (n : Rat)) = C at *
  generalize sq ((j : Rat) / (n : Rat)) = S at *
  generalize cq ((k : Rat) / (n : Rat)) = D at *
  generalize sq ((k : Rat) / (n : Rat)) = T at *
  have one : 1 + dl ≤ 101 / 100 := by decide +kernel
  have rs : Size r' (102 / 100) := by
    obtain ⟨p1, p2⟩ := y1
    obtain ⟨q1, q2⟩ := sy
    constructor <;> grind
  have ss : Size s' (102 / 100) := by
    obtain ⟨p1, p2⟩ := y2
    obtain ⟨q1, q2⟩ := sy'
    constructor <;> grind
  have cs := sx.mono one
  have cs' := sx'.mono one
  have m1 := near_mul x1 rs
  have m2 := near_mul x2 ss
  have m3 := near_mul x1 ss
  have m4 := near_mul x2 rs
  have n1 := near_mul y1 cs
  have n2 := near_mul y2 cs'
  have n3 := near_mul y2 cs
  have n4 := near_mul y1 cs'
  rw [Rat.mul_comm r', Rat.mul_comm D] at n1 n4
  rw [Rat.mul_comm s', Rat.mul_comm T] at n2 n3
  clear sj sk sm sx sx' sy sy' rs ss cs cs' x1 x2 y1 y2 h h' h'' one
  generalize r * r' = v1 at *
  generalize s * s' = v2 at *
  generalize r * s' = v3 at *
  generalize s * r' = v4 at *
  generalize C * r' = v5 at *
  generalize S * s' = v6 at *
  generalize C * s' = v7 at *
  generalize S * r' = v8 at *
  generalize C * D = w1 at *
  generalize S * T = w2 at *
  generalize C * T = w3 at *
  generalize S * D = w4 at *
  unfold Near at *
  constructor <;> constructor <;> grind

end Flt
end Go.Proofs.Ytphgibndncjaiaa
/-
  The factors of a number, as lists of naturals: no program.
-/
set_option linter.unusedVariables false
namespace Go.Proofs.Ytphgibndncjaiaa
namespace Fac

/-- p is the least divisor from 2 on. -/
structure Least (n p : Nat) : Prop where
  two : 2 ≤ p
  dvd : n % p = 0
  least : ∀ q, 2 ≤ q → q < p → n % q ≠ 0

theorem Least.unique {n p q : Nat} (h : Least n p) (h' : Least n q) : p = q := by
  rcases Nat.lt_trichotomy p q with a | a | a
  · exact absurd h.dvd (h'.least p h.two a)
  · exact a
  · exact absurd h'.dvd (h.least q h'.two a)

theorem Least.le {n p : Nat} (h : Least n p) (hn : 1 < n) : p ≤ n :=
  Nat.le_of_not_lt fun hlt => h.least n hn hlt (Nat.mod_self n)

/-- xs are the prime factors of n, each the least one of what is left. -/
inductive Facs : Nat → List Nat → Prop
  | one : Facs 1 []
  | more {n p : Nat} {xs : List Nat} (hn : 1 < n) (hp : Least n p) (h : Facs (n / p) xs) : Facs n (p :: xs)

theorem Facs.unique {n : Nat} {xs ys : List Nat} (h : Facs n xs) (h' : Facs n ys) : xs = ys := by
  induction h generalizing ys with
  | one =>
    cases h' with
    | one => rfl
    | more hn => omega
  | more hn hp _ ih =>
    cases h' with
    | one => omega
    | more hn' hp' h' =>
      obtain rfl := hp.unique hp'
      rw [ih h']

theorem Facs.pos {n : Nat} {xs : List Nat} (h : Facs n xs) : 1 ≤ n := by cases h <;> omega

theorem dvd_trans_mod {a b c : Nat} (h : a % b = 0) (h' : b % c = 0) : a % c = 0 :=
  Nat.mod_eq_zero_of_dvd (Nat.dvd_trans (Nat.dvd_of_mod_eq_zero h') (Nat.dvd_of_mod_eq_zero h))

theorem div_dvd {n p : Nat} (h : n % p = 0) : n % (n / p) = 0 :=
  Nat.mod_eq_zero_of_dvd (Nat.div_dvd_of_dvd (Nat.dvd_of_mod_eq_zero h))

theorem Facs.len {n : Nat} {xs : List Nat} (h : Facs n xs) : 2 ^ xs.length ≤ n := by
  induction h with
  | one => simp
  | @more n p xs hn hp _ ih =>
    have e : n / p * p = n := Nat.div_mul_cancel (Nat.dvd_of_mod_eq_zero hp.dvd)
    have : n / p * 2 ≤ n / p * p := Nat.mul_le_mul_left _ hp.two
    simp only [List.length_cons, Nat.pow_succ]
    omega

theorem Facs.len_le {n : Nat} {xs : List Nat} (h : Facs n xs) (hn : n ≤ 1024) : xs.length ≤ 10 := by
  have := h.len
  apply Nat.le_of_not_lt
  intro hc
  have h1 : 2 ^ 11 ≤ 2 ^ xs.length := Nat.pow_le_pow_right (by omega) hc
  have h2 : (2 : Nat) ^ 11 = 2048 := by decide
  omega

/-- Each factor divides the number, is 2 or more, and has no divisor of its own. -/
theorem Facs.each {n : Nat} {xs : List Nat} (h : Facs n xs) : ∀ x ∈ xs, 2 ≤ x ∧ n % x = 0 ∧ ∀ d, 2 ≤ d → d < x → x % d ≠ 0 := by
  induction h with
  | one => intro x hx; cases hx
  | @more n p xs hn hp _ ih =>
    intro x hx
    rcases List.mem_cons.1 hx with rfl | hx
    · exact ⟨hp.two, hp.dvd, fun d h2 hd he => hp.least d h2 hd (dvd_trans_mod hp.dvd he)⟩
    · obtain ⟨a, b, c⟩ := ih x hx
      exact ⟨a, dvd_trans_mod (div_dvd hp.dvd) b, c⟩

theorem Facs.rises {n : Nat} {xs : List Nat} (h : Facs n xs) : ∀ i, i + 1 < xs.length → xs.getD i 0 ≤ xs.getD (i + 1) 0 := by
  induction h with
  | one => intro i hi; simp at hi
  | @more n p xs hn hp ht ih =>
    intro i hi
    cases i with
    | zero =>
      cases xs with
      | nil => simp at hi
      | cons q ys =>
        simp only [List.getD_cons_zero, List.getD_cons_succ]
        obtain ⟨a, b, _⟩ := ht.each q (by simp)
        exact Nat.le_of_not_lt fun hlt => hp.least q a hlt (dvd_trans_mod (div_dvd hp.dvd) b)
    | succ i =>
      simp only [List.getD_cons_succ]
      exact ih i (by simpa using hi)

/-- The product of the first k. -/
def prod (xs : List Nat) (k : Nat) : Nat := (xs.take k).foldl (· * ·) 1

theorem foldl_mul (xs : List Nat) : ∀ a, xs.foldl (· * ·) a = a * xs.foldl (· * ·) 1 := by
  induction xs with
  | nil => intro a; simp
  | cons x xs ih => intro a; simp only [List.foldl_cons]; rw [ih (a * x), ih (1 * x), Nat.one_mul, Nat.mul_assoc]

theorem prod_zero (xs : List Nat) : prod xs 0 = 1 := rfl

theorem prod_succ {xs : List Nat} {k : Nat} (h : k < xs.length) : prod xs (k + 1) = prod xs k * xs.getD k 0 := by
  unfold prod
  rw [List.take_add_one, List.foldl_append]
  have e : xs[k]? = some (xs.getD k 0) := by simp [List.getD, h]
  rw [e]; rfl

theorem Facs.product {n : Nat} {xs : List Nat} (h : Facs n xs) : xs.foldl (· * ·) 1 = n := by
  induction h with
  | one => rfl
  | @more n p xs hn hp _ ih =>
    simp only [List.foldl_cons]
    rw [foldl_mul, ih, Nat.one_mul, Nat.mul_comm]
    exact Nat.div_mul_cancel (Nat.dvd_of_mod_eq_zero hp.dvd)

theorem Facs.prod_all {n : Nat} {xs : List Nat} (h : Facs n xs) : prod xs xs.length = n := by
  unfold prod; rw [List.take_length]; exact h.product

theorem Facs.prod_le {n : Nat} {xs : List Nat} (h : Facs n xs) (k : Nat) : prod xs k ≤ n := by
  have hn := h.pos
  have e : xs.foldl (· * ·) 1 = prod xs k * (xs.drop k).foldl (· * ·) 1 := by
    unfold prod
    rw [← foldl_mul, ← List.foldl_append, List.take_append_drop]
  rw [h.product] at e
  exact Nat.le_of_dvd (by omega) ⟨_, e⟩

end Fac
end Go.Proofs.Ytphgibndncjaiaa
/-
  The fast transform as a plain relation between lists. No program.
-/
set_option linter.unusedVariables false
set_option linter.unusedSimpArgs false
namespace Go.Proofs.Ytphgibndncjaiaa
open Go Flt Turn
namespace Fast

/-- The rest of -j by division by n. -/
def rst (n j : Nat) : Nat := (n - j % n) % n
def twid (n j : Nat) : Z := turn n (rst n j)

/-- The numbers at r, r + p, r + 2 * p and so on. -/
def every (xs : List Z) (r p : Nat) : List Z := (List.range ((xs.length - r + p - 1) / p)).map fun i => xs.getD (r + i * p) z0

/-- The terms of a place. -/
def term (n : Nat) (ys : Nat → List Z) (k r : Nat) : Z := if r = 0 then (ys 0).getD k z0 else mulZ ((ys r).getD k z0) (twid n (r * k))

/-- The sum of the first j terms, turned. -/
def sumT (t : Nat → Z) (p q : Nat) : Nat → Z
  | 0 => t 0
  | j + 1 => if j = 0 then t 0 else addZ (sumT t p q j) (mulZ (t j) (twid p (j * q)))

def outP (n p : Nat) (ys : Nat → List Z) (k q : Nat) : Z :=
  if p = 2 then (if q = 0 then addZ (term n ys k 0) (term n ys k 1) else subZ (term n ys k 0) (term n ys k 1))
  else sumT (term n ys k) p q p

def joinP (n p : Nat) (ys : Nat → List Z) : List Z := (List.range n).map fun i => outP n p ys (i % (n / p)) (i / (n / p))

inductive Fast : List Z → List Z → Prop
  | small {xs : List Z} (h : xs.length ≤ 1) : Fast xs xs
  | step {xs : List Z} {p : Nat} {ys : Nat → List Z} (hn : 1 < xs.length) (hp : Fac.Least xs.length p) (h : ∀ r, r < p → Fast (every xs r p) (ys r)) : Fast xs (joinP xs.length p ys)

theorem term_congr {n p : Nat} {ys ys' : Nat → List Z} (h : ∀ r, r < p → ys r = ys' r) {k r : Nat} (hr : r < p) (hp : 0 < p) : term n ys k r = term n ys' k r := by
  unfold term
  split
  · rw [h 0 hp]
  · rw [h r hr]

theorem sumT_congr {t t' : Nat → Z} {p q : Nat} (hp : 0 < p) (h : ∀ r, r < p → t r = t' r) : ∀ j, j ≤ p → sumT t p q j = sumT t' p q j
  | 0, _ => h 0 hp
  | j + 1, hj => by
    unfold sumT
    split
    · exact h 0 hp
    · rw [sumT_congr hp h j (by omega), h j (by omega)]

theorem joinP_congr {n p : Nat} {ys ys' : Nat → List Z} (h : ∀ r, r < p → ys r = ys' r) (hp : 2 ≤ p) : joinP n p ys = joinP n p ys' := by
  unfold joinP
  congr 1
  funext i
  unfold outP
  split
  · rw [term_congr h (by omega) (by omega), term_congr h (r := 1) (by omega) (by omega)]
  · exact sumT_congr (by omega) (fun r hr => term_congr h hr (by omega)) p (Nat.le_refl _)

theorem Fast.unique {xs ys zs : List Z} (h : Fast xs ys) (h' : Fast xs zs) : ys = zs := by
  induction h generalizing zs with
  | small h =>
    cases h' with
    | small => rfl
    | step hn => omega
  | step hn hp _ ih =>
    cases h' with
    | small h => omega
    | step hn' hp' h' =>
      obtain rfl := hp.unique hp'
      exact joinP_congr (fun r hr => ih r hr (h' r hr)) hp.two

theorem joinP_length (n p : Nat) (ys : Nat → List Z) : (joinP n p ys).length = n := by simp [joinP]
theorem Fast.length {xs ys : List Z} (h : Fast xs ys) : ys.length = xs.length := by
  cases h with
  | small => rfl
  | step => exact joinP_length _ _ _

theorem joinP_getD {n p : Nat} {ys : Nat → List Z} {i : Nat} (h : i < n) : (joinP n p ys).getD i z0 = outP n p ys (i % (n / p)) (i / (n / p)) := by
  simp [joinP, List.getD, h]

/-- How many numbers a part has. -/
theorem every_length {xs : List Z} {r p m : Nat} (hp : 0 < p) (hn : xs.length = p * m) (hr : r < p) : (every xs r p).length = m := by
  unfold every
  rw [List.length_map, List.length_range, hn]
  by_cases hm : m = 0
  · subst hm
    rw [Nat.mul_zero, Nat.zero_sub, Nat.zero_add]
    exact Nat.div_eq_of_lt (by omega)
  · have h1 : p ≤ p * m := Nat.le_mul_of_pos_right _ (by omega)
    have e : p * m - r + p - 1 = (p - 1 - r) + m * p := by rw [Nat.mul_comm m p]; omega
    rw [e, Nat.add_mul_div_right _ _ hp, Nat.div_eq_of_lt (by omega), Nat.zero_add]

theorem every_getD {xs : List Z} {r p m i : Nat} (hp : 0 < p) (hn : xs.length = p * m) (hr : r < p) (hi : i < m) : (every xs r p).getD i z0 = xs.getD (r + i * p) z0 := by
  have hl := every_length hp hn hr
  unfold every at hl ⊢
  rw [List.length_map, List.length_range] at hl
  rw [hl]
  simp [List.getD, hi]

end Fast
end Go.Proofs.Ytphgibndncjaiaa
/-
  Complex numbers as pairs of rational ones: products, sums, how near they are. No program.
-/
set_option linter.unusedVariables false
set_option linter.unusedSimpArgs false
namespace Go.Proofs.Ytphgibndncjaiaa
open Go Flt
namespace Flt
open Turn Fast

abbrev Q2 := Rat × Rat
def mulQ (a b : Q2) : Q2 := (a.1 * b.1 - a.2 * b.2, a.1 * b.2 + a.2 * b.1)
def addQ (a b : Q2) : Q2 := (a.1 + b.1, a.2 + b.2)
def subQ (a b : Q2) : Q2 := (a.1 - b.1, a.2 - b.2)
def sumQ (t : Nat → Q2) : Nat → Q2
  | 0 => (0, 0)
  | n + 1 => addQ (sumQ t n) (t n)
structure NearQ (a b : Q2) (e : Rat) : Prop where
  re : Near a.1 b.1 e
  im : Near a.2 b.2 e
structure SizeQ (a : Q2) (B : Rat) : Prop where
  re : Size a.1 B
  im : Size a.2 B
/-- The absolute value; the sum of those of both parts. -/
def ab (x : Rat) : Rat := if 0 ≤ x then x else -x
def nrm (z : Q2) : Rat := ab z.1 + ab z.2

theorem ab_nonneg (x : Rat) : 0 ≤ ab x := by unfold ab; split <;> grind
theorem ab_size (x : Rat) : Size x (ab x) := by unfold ab; constructor <;> split <;> grind
theorem ab_le {x B : Rat} (h : Size x B) : ab x ≤ B := by
  obtain ⟨h1, h2⟩ := h
  unfold ab; split <;> grind
theorem nrm_nonneg (z : Q2) : 0 ≤ nrm z := by
  have := ab_nonneg z.1
  have := ab_nonneg z.2
  unfold nrm; grind
theorem nrm_le {z : Q2} {B : Rat} (h : SizeQ z B) : nrm z ≤ 2 * B := by
  have := ab_le h.re
  have := ab_le h.im
  unfold nrm; grind
theorem size_nrm (z : Q2) : SizeQ z (nrm z) := by
  have a1 := ab_size z.1
  have a2 := ab_size z.2
  have b1 := ab_nonneg z.1
  have b2 := ab_nonneg z.2
  obtain ⟨c1, c2⟩ := a1
  obtain ⟨d1, d2⟩ := a2
  unfold nrm
  exact ⟨⟨by grind, by grind⟩, ⟨by grind, by grind⟩⟩
theorem SizeQ.mono {a : Q2} {B C : Rat} (h : SizeQ a B) (hl : B ≤ C) : SizeQ a C := ⟨h.re.mono hl, h.im.mono hl⟩
theorem NearQ.mono {a b : Q2} {e f : Rat} (h : NearQ a b e) (hl : e ≤ f) : NearQ a b f := ⟨h.re.mono hl, h.im.mono hl⟩
theorem NearQ.trans {a b c : Q2} {e f : Rat} (h : NearQ a b e) (k : NearQ b c f) : NearQ a c (e + f) := ⟨h.re.trans k.re, h.im.trans k.im⟩
theorem NearQ.symm {a b : Q2} {e : Rat} (h : NearQ a b e) : NearQ b a e := ⟨h.re.symm, h.im.symm⟩
theorem NearQ.refl (a : Q2) {e : Rat} (h : 0 ≤ e) : NearQ a a e := ⟨Near.refl _ h, Near.refl _ h⟩
theorem NearQ.add {a b c d : Q2} {e f : Rat} (h : NearQ a b e) (k : NearQ c d f) : NearQ (addQ a c) (addQ b d) (e + f) := by
  obtain ⟨⟨h1, h2⟩, h3, h4⟩ := h
  obtain ⟨⟨k1, k2⟩, k3, k4⟩ := k
  unfold addQ
  exact ⟨⟨by simp only; grind, by simp only; grind⟩, ⟨by simp only; grind, by simp only; grind⟩⟩
theorem NearQ.sub {a b c d : Q2} {e f : Rat} (h : NearQ a b e) (k : NearQ c d f) : NearQ (subQ a c) (subQ b d) (e + f) := by
  obtain ⟨⟨h1, h2⟩, h3, h4⟩ := h
  obtain ⟨⟨k1, k2⟩, k3, k4⟩ := k
  unfold subQ
  exact ⟨⟨by simp only; grind, by simp only; grind⟩, ⟨by simp only; grind, by simp only; grind⟩⟩
theorem SizeQ.add {a b : Q2} {A B : Rat} (h : SizeQ a A) (k : SizeQ b B) : SizeQ (addQ a b) (A + B) := by
  obtain ⟨⟨h1, h2⟩, h3, h4⟩ := h
  obtain ⟨⟨k1, k2⟩, k3, k4⟩ := k
  unfold addQ
  exact ⟨⟨by simp only; grind, by simp only; grind⟩, ⟨by simp only; grind, by simp only; grind⟩⟩
theorem SizeQ.sub {a b : Q2} {A B : Rat} (h : SizeQ a A) (k : SizeQ b B) : SizeQ (subQ a b) (A + B) := by
  obtain ⟨⟨h1, h2⟩, h3, h4⟩ := h
  obtain ⟨⟨k1, k2⟩, k3, k4⟩ := k
  unfold subQ
  exact ⟨⟨by simp only; grind, by simp only; grind⟩, ⟨by simp only; grind, by simp only; grind⟩⟩
theorem NearQ.size {a b : Q2} {e B : Rat} (h : NearQ a b e) (k : SizeQ b B) : SizeQ a (B + e) := by
  obtain ⟨⟨h1, h2⟩, h3, h4⟩ := h
  obtain ⟨⟨k1, k2⟩, k3, k4⟩ := k
  exact ⟨⟨by grind, by grind⟩, ⟨by grind, by grind⟩⟩

theorem ab_mul {x y B : Rat} (h : Size y B) : Size (x * y) (ab x * B) := (ab_size x).mul h
/-- The size of a product, by the sum of the parts of one. -/
theorem mulQ_size {a b : Q2} {N B : Rat} (ha : nrm a ≤ N) (hb : SizeQ b B) (hB : 0 ≤ B) : SizeQ (mulQ a b) (N * B) := by
  have h1 := ab_mul (x := a.1) hb.re
  have h2 := ab_mul (x := a.2) hb.im
  have h3 := ab_mul (x := a.1) hb.im
  have h4 := ab_mul (x := a.2) hb.re
  have h5 : (ab a.1 + ab a.2) * B ≤ N * B := Rat.mul_le_mul_of_nonneg_right ha hB
  rw [Rat.add_mul] at h5
  obtain ⟨c1, c2⟩ := h1
  obtain ⟨d1, d2⟩ := h2
  obtain ⟨e1, e2⟩ := h3
  obtain ⟨f1, f2⟩ := h4
  unfold mulQ
  generalize a.1 * b.1 = p1 at *
  generalize a.2 * b.2 = p2 at *
  generalize a.1 * b.2 = p3 at *
  generalize a.2 * b.1 = p4 at *
  generalize ab a.1 * B = q1 at *
  generalize ab a.2 * B = q2 at *
  generalize N * B = q3 at *
  exact ⟨⟨by simp only; grind, by simp only; grind⟩, ⟨by simp only; grind, by simp only; grind⟩⟩
theorem mulQ_comm (a b : Q2) : mulQ a b = mulQ b a := by unfold mulQ; refine Prod.ext ?_ ?_ <;> simp only <;> grind
theorem mulQ_assoc (a b c : Q2) : mulQ (mulQ a b) c = mulQ a (mulQ b c) := by unfold mulQ; refine Prod.ext ?_ ?_ <;> simp only <;> grind
theorem addQ_mul (a b c : Q2) : mulQ (addQ a b) c = addQ (mulQ a c) (mulQ b c) := by unfold mulQ addQ; refine Prod.ext ?_ ?_ <;> simp only <;> grind
theorem subQ_mul (a b c : Q2) : mulQ (subQ a b) c = subQ (mulQ a c) (mulQ b c) := by unfold mulQ subQ; refine Prod.ext ?_ ?_ <;> simp only <;> grind
theorem mulQ_one (a : Q2) : mulQ a (1, 0) = a := by unfold mulQ; refine Prod.ext ?_ ?_ <;> simp only <;> grind
theorem addQ_zero (a : Q2) : addQ a (0, 0) = a := by unfold addQ; refine Prod.ext ?_ ?_ <;> simp only <;> grind
theorem zero_addQ (a : Q2) : addQ (0, 0) a = a := by unfold addQ; refine Prod.ext ?_ ?_ <;> simp only <;> grind
theorem addQ_assoc (a b c : Q2) : addQ (addQ a b) c = addQ a (addQ b c) := by unfold addQ; refine Prod.ext ?_ ?_ <;> simp only <;> grind
theorem addQ_four (a b c d : Q2) : addQ (addQ a b) (addQ c d) = addQ (addQ a c) (addQ b d) := by unfold addQ; refine Prod.ext ?_ ?_ <;> simp only <;> grind
theorem zero_mulQ (a : Q2) : mulQ (0, 0) a = (0, 0) := by unfold mulQ; refine Prod.ext ?_ ?_ <;> simp only <;> grind

/-- An error in the first one, and one in the second one. -/
theorem mulQ_near_l {a b c : Q2} {e g : Rat} (h : NearQ a b e) (hg : nrm c ≤ g) (he : 0 ≤ e) : NearQ (mulQ a c) (mulQ b c) (e * g) := by
  have hs : SizeQ (subQ a b) e := by
    obtain ⟨⟨h1, h2⟩, h3, h4⟩ := h
    unfold subQ
    exact ⟨⟨by simp only; grind, by simp only; grind⟩, ⟨by simp only; grind, by simp only; grind⟩⟩
  have h1 := mulQ_size hg hs he
  rw [mulQ_comm, subQ_mul, Rat.mul_comm] at h1
  obtain ⟨⟨c1, c2⟩, c3, c4⟩ := h1
  unfold subQ at *
  exact ⟨⟨by simp only at *; grind, by simp only at *; grind⟩, ⟨by simp only at *; grind, by simp only at *; grind⟩⟩
theorem mulQ_near_r {a b c : Q2} {d N : Rat} (h : NearQ b c d) (hn : nrm a ≤ N) (hd : 0 ≤ d) : NearQ (mulQ a b) (mulQ a c) (N * d) := by
  have := mulQ_near_l h hn hd
  rw [mulQ_comm b, mulQ_comm c, Rat.mul_comm] at this
  exact this

theorem sumQ_congr {s t : Nat → Q2} {n : Nat} (h : ∀ i, i < n → s i = t i) : sumQ s n = sumQ t n := by
  induction n with
  | zero => rfl
  | succ n ih => show addQ _ _ = addQ _ _; rw [ih (fun i hi => h i (by omega)), h n (by omega)]
theorem sumQ_mul (t : Nat → Q2) (c : Q2) (n : Nat) : mulQ (sumQ t n) c = sumQ (fun i => mulQ (t i) c) n := by
  induction n with
  | zero => exact zero_mulQ c
  | succ n ih => show mulQ (addQ _ _) c = addQ _ _; rw [addQ_mul, ih]
theorem sumQ_near {s t : Nat → Q2} {e : Nat → Rat} {n : Nat} (h : ∀ i, i < n → NearQ (s i) (t i) (e i)) : NearQ (sumQ s n) (sumQ t n) (psum e n) := by
  induction n with
  | zero => exact NearQ.refl _ (Rat.le_refl)
  | succ n ih => exact (ih fun i hi => h i (by omega)).add (h n (by omega))
theorem sumQ_size {t : Nat → Q2} {B : Nat → Rat} {n : Nat} (h : ∀ i, i < n → SizeQ (t i) (B i)) : SizeQ (sumQ t n) (psum B n) := by
  induction n with
  | zero => exact ⟨⟨by show (0 : Rat) ≤ 0; exact Rat.le_refl, by show -(0 : Rat) ≤ 0; decide⟩, ⟨by show (0 : Rat) ≤ 0; exact Rat.le_refl, by show -(0 : Rat) ≤ 0; decide⟩⟩
  | succ n ih => exact (ih fun i hi => h i (by omega)).add (h n (by omega))
theorem sumQ_split (t : Nat → Q2) (a b : Nat) : sumQ t (a + b) = addQ (sumQ t a) (sumQ (fun i => t (a + i)) b) := by
  induction b with
  | zero => exact (addQ_zero _).symm
  | succ b ih => show addQ (sumQ t (a + b)) (t (a + b)) = addQ _ (addQ _ _); rw [ih, addQ_assoc]
theorem sumQ_add (s t : Nat → Q2) (n : Nat) : sumQ (fun i => addQ (s i) (t i)) n = addQ (sumQ s n) (sumQ t n) := by
  induction n with
  | zero => exact (addQ_zero _).symm
  | succ n ih => show addQ _ _ = addQ (addQ _ _) (addQ _ _); rw [ih, addQ_four]
/-- Sums of sums, the other way round. -/
theorem sumQ_swap (f : Nat → Nat → Q2) (a b : Nat) : sumQ (fun i => sumQ (fun j => f i j) b) a = sumQ (fun j => sumQ (fun i => f i j) a) b := by
  induction a with
  | zero =>
    induction b with
    | zero => rfl
    | succ b ih => show _ = addQ _ _; rw [← ih]; exact (addQ_zero _).symm
  | succ a ih =>
    show addQ (sumQ _ a) (sumQ _ b) = sumQ (fun j => addQ (sumQ (fun i => f i j) a) (f a j)) b
    rw [ih, sumQ_add]
/-- All places, by their rests. -/
theorem sumQ_rests (f : Nat → Q2) (p m : Nat) : sumQ (fun r => sumQ (fun i => f (r + i * p)) m) p = sumQ f (p * m) := by
  rw [sumQ_swap]
  induction m with
  | zero => rfl
  | succ m ih =>
    show addQ (sumQ _ m) (sumQ (fun r => f (r + m * p)) p) = _
    rw [ih, Nat.mul_succ, sumQ_split]
    congr 1
    exact sumQ_congr fun r _ => by rw [Nat.add_comm, Nat.mul_comm]
theorem psum_rests (f : Nat → Rat) (p m : Nat) : psum (fun r => psum (fun i => f (r + i * p)) m) p = psum f (p * m) := by
  have h := sumQ_rests (fun i => (f i, (0 : Rat))) p m
  have e : ∀ (g : Nat → Rat) (n : Nat), (sumQ (fun i => (g i, (0 : Rat))) n).1 = psum g n := fun g n => by
    induction n with
    | zero => rfl
    | succ n ih => show (sumQ _ n).1 + g n = psum g n + g n; rw [ih]
  have e2 : ∀ (n : Nat), (sumQ (fun r => sumQ (fun i => (f (r + i * p), (0 : Rat))) m) n).1 = psum (fun r => psum (fun i => f (r + i * p)) m) n := fun n => by
    induction n with
    | zero => rfl
    | succ n ih => show (sumQ _ n).1 + (sumQ _ m).1 = psum _ n + _; rw [ih, e (fun i => f (n + i * p))]
  rw [← e2, h, e]

end Flt
end Go.Proofs.Ytphgibndncjaiaa
