import Derived.Test.YtgolfdngpphndaaCis
import Derived.Test.YtgolfdngpphndaaTurnP
/-
  The turns that are found are near the exact ones. No program.
-/
set_option linter.unusedVariables false
set_option linter.unusedSimpArgs false
namespace Go.Proofs.Ytgolfdngpphndaa
open Go Flt
namespace Flt
open Turn

/-- A part of the last place of numbers from 1 to 2. -/
def ulp : Rat := 1 / 4503599627370496
theorem ulp_val : 4503599627370496 * ulp = 1 := by decide +kernel

theorem cos_short {x : Rat} (h : Size x (4 / 5)) : Near (cosN 80 x) (cosN 20 x) (1 / 1152921504606846976) ∧ Near (sinN 80 x) (sinN 20 x) (1 / 1152921504606846976) := by
  have hb : (60 : Rat) * ex (4 / 5) 20 ≤ 1 / 1152921504606846976 := by decide +kernel
  have ht : ∀ (g : Nat → Rat), (∀ m, Size (g m) 1) → Size (psum (fun j => g (20 + j) * ex x (20 + j)) 60) (1 / 1152921504606846976) := fun g hg => by
    have := psum_size (p := fun j => g (20 + j) * ex x (20 + j)) (B := ex (4 / 5) 20) (n := 60) fun j _ => by
      have h1 := (hg (20 + j)).mul (ex_size h (20 + j))
      rw [Rat.one_mul] at h1
      exact h1.mono (ex_down (by decide +kernel) (by decide +kernel) j)
    exact this.mono hb
  unfold cosN sinN
  rw [near_size, near_size, show (80 : Nat) = 20 + 60 from rfl, psum_split _ 20 60, psum_split _ 20 60]
  rw [show ∀ a b : Rat, a + b - a = b from fun a b => by grind, show ∀ a b : Rat, a + b - a = b from fun a b => by grind]
  exact ⟨ht sgC fun m => (sg_size m).1, ht sgS fun m => (sg_size m).2⟩

/-- The series of exact numbers, as they are found. -/
def cosT (y : Rat) : Nat → Rat
  | 0 => 1
  | j + 1 => 1 - y / ((cI (9 - (j : Int)) : Int) : Rat) * cosT y j
def sinT (y : Rat) : Nat → Rat
  | 0 => 1
  | j + 1 => 1 - y / ((sI (9 - (j : Int)) : Int) : Rat) * sinT y j

theorem cosT_eq (x : Rat) : cosT (x * x) 9 = cosN 20 x := by
  have e : ∀ c : Nat, c < 9 → True := fun _ _ => trivial
  have c8 : ((cI (9 - ((8 : Nat) : Int)) : Int) : Rat) = 2 := by decide +kernel
  have c7 : ((cI (9 - ((7 : Nat) : Int)) : Int) : Rat) = 12 := by decide +kernel
  have c6 : ((cI (9 - ((6 : Nat) : Int)) : Int) : Rat) = 30 := by decide +kernel
  have c5 : ((cI (9 - ((5 : Nat) : Int)) : Int) : Rat) = 56 := by decide +kernel
  have c4 : ((cI (9 - ((4 : Nat) : Int)) : Int) : Rat) = 90 := by decide +kernel
  have c3 : ((cI (9 - ((3 : Nat) : Int)) : Int) : Rat) = 132 := by decide +kernel
  have c2 : ((cI (9 - ((2 : Nat) : Int)) : Int) : Rat) = 182 := by decide +kernel
  have c1 : ((cI (9 - ((1 : Nat) : Int)) : Int) : Rat) = 240 := by decide +kernel
  have c0 : ((cI (9 - ((0 : Nat) : Int)) : Int) : Rat) = 306 := by decide +kernel
  unfold cosN
  simp only [cosT, psum, sgC, ex, c0, c1, c2, c3, c4, c5, c6, c7, c8]
  simp
  grind
theorem sinT_eq (x : Rat) : sinT (x * x) 9 * x = sinN 20 x := by
  have c8 : ((sI (9 - ((8 : Nat) : Int)) : Int) : Rat) = 6 := by decide +kernel
  have c7 : ((sI (9 - ((7 : Nat) : Int)) : Int) : Rat) = 20 := by decide +kernel
  have c6 : ((sI (9 - ((6 : Nat) : Int)) : Int) : Rat) = 42 := by decide +kernel
  have c5 : ((sI (9 - ((5 : Nat) : Int)) : Int) : Rat) = 72 := by decide +kernel
  have c4 : ((sI (9 - ((4 : Nat) : Int)) : Int) : Rat) = 110 := by decide +kernel
  have c3 : ((sI (9 - ((3 : Nat) : Int)) : Int) : Rat) = 156 := by decide +kernel
  have c2 : ((sI (9 - ((2 : Nat) : Int)) : Int) : Rat) = 210 := by decide +kernel
  have c1 : ((sI (9 - ((1 : Nat) : Int)) : Int) : Rat) = 272 := by decide +kernel
  have c0 : ((sI (9 - ((0 : Nat) : Int)) : Int) : Rat) = 342 := by decide +kernel
  unfold sinN
  simp only [sinT, psum, sgS, ex, c0, c1, c2, c3, c4, c5, c6, c7, c8]
  simp
  grind

theorem one_fv : Fv oneO 1 := by
  have := fv_int_exact (n := 1) (by decide)
  have e : floatOfInt .f64 1 = 4607182418800017408 := by decide
  rw [e] at this
  exact this
theorem zero_fv : Fv zeroO 0 := by
  have := fv_int_exact (n := 0) (by decide)
  have e : floatOfInt .f64 0 = 0 := by decide
  rw [e] at this
  exact this
theorem size_1000 {x B : Rat} (h : Size x B) (hB : B ≤ two 1000) : Moderate x := h.mono hB
theorem le_1000 {B : Rat} (h : B ≤ 1152921504606846976) : B ≤ two 1000 :=
  Rat.le_trans h (by rw [show (1152921504606846976 : Rat) = two 60 from rfl]; exact two_le (by omega))

/-- One round of a series. -/
theorem round_near {y t : O} {Y T yv tv : Rat} {c : Int} (hy : Fv y yv) (hyn : Near yv Y (5 * ulp)) (hY : 0 ≤ Y ∧ Y ≤ 16 / 25) (ht : Fv t tv) (htn : Near tv T (10 * ulp)) (hT : 0 ≤ T ∧ T ≤ 1) (hc : 2 ≤ c ∧ c ≤ 400) :
    ∃ r, Fv (fop .sub .f64 oneO (fop .mul .f64 (fop .quo .f64 y (ofI c)) t)) r ∧ Near r (1 - Y / (c : Rat) * T) (10 * ulp) ∧ 0 ≤ 1 - Y / (c : Rat) * T ∧ 1 - Y / (c : Rat) * T ≤ 1 := by
  have hti := tiny_le
  have ht0 := tiny_pos
  have hc2 : (2 : Rat) ≤ (c : Rat) := Rat.intCast_le_intCast.2 hc.1
  have hc0 : (0 : Rat) < (c : Rat) := by grind
  have hci := Rat.mul_inv_cancel _ (Rat.ne_of_gt hc0)
  have hcp := Rat.inv_pos.2 hc0
  have hch : (c : Rat)⁻¹ ≤ 1 / 2 := by
    have := Rat.mul_le_mul_of_nonneg_right hc2 (Rat.le_of_lt hcp)
    rw [hci] at this; grind
  have hcF := fv_int_exact (n := c) (by omega)
  rw [Rat.div_def]
  generalize hd : (c : Rat)⁻¹ = d at *
  -- the quotient
  have hu := ulp_val
  obtain ⟨y1, y2⟩ := hyn
  obtain ⟨Y1, Y2⟩ := hY
  obtain ⟨T1, T2⟩ := hT
  have hds : Size d (1 / 2) := Size.of_nonneg (Rat.le_of_lt hcp) hch
  have hys : Size yv 1 := by constructor <;> grind
  have hq : yv / (c : Rat) = yv * d := by rw [Rat.div_def, hd]
  have hqs := hys.mul hds
  obtain ⟨qv, q1, q2⟩ := fv_div hy hcF (Rat.ne_of_gt hc0) (by rw [hq]; exact size_1000 hqs (le_1000 (by decide +kernel)))
  rw [hq] at q2
  have q3 := q2.near hqs
  have q4 : Near (yv * d) (Y * d) (5 * ulp * (1 / 2)) := near_mul ⟨y1, y2⟩ hds
  rw [two52] at q3
  have q5 : Near qv (Y * d) (3 * ulp + 1 / 1267650600228229401496703205376) := by
    obtain ⟨a1, a2⟩ := q3
    obtain ⟨b1, b2⟩ := q4
    constructor <;> grind
  have hQ : 0 ≤ Y * d ∧ Y * d ≤ 8 / 25 := by
    have h1 := Rat.mul_nonneg Y1 (Rat.le_of_lt hcp)
    have h2 := Rat.mul_le_mul_of_nonneg_left hch Y1
    exact ⟨h1, by grind⟩
  generalize hQe : Y * d = Q at *
  clear q2 q3 q4 hq hqs hys hcF hci hch hds hcp hc0 hc2
  -- the product
  have t1 : Size tv (101 / 100) := by obtain ⟨a1, a2⟩ := htn; constructor <;> grind
  have p1 := near_mul q5 t1
  have p2 : Near (Q * tv) (Q * T) (10 * ulp * (8 / 25)) := by
    have := near_mul htn (Size.of_nonneg hQ.1 hQ.2)
    rwa [Rat.mul_comm tv, Rat.mul_comm T] at this
  have p3 : Near (qv * tv) (Q * T) (7 * ulp) := by
    obtain ⟨a1, a2⟩ := p1
    obtain ⟨b1, b2⟩ := p2
    constructor <;> grind
  have hQT : 0 ≤ Q * T ∧ Q * T ≤ 8 / 25 := by
    have h1 := Rat.mul_nonneg hQ.1 T1
    have h2 := Rat.mul_le_mul_of_nonneg_left T2 hQ.1
    exact ⟨h1, by grind⟩
  have p4 : Size (qv * tv) 1 := by obtain ⟨a1, a2⟩ := p3; constructor <;> grind
  obtain ⟨m, m1, m2⟩ := fv_mul q1 ht (size_1000 p4 (le_1000 (by decide +kernel)))
  have p5 : Size (qv * tv) (1 / 2) := by obtain ⟨a1, a2⟩ := p3; constructor <;> grind
  have m3 := m2.near p5
  rw [two52] at m3
  have m4 : Near m (Q * T) (8 * ulp) := by
    obtain ⟨a1, a2⟩ := m3
    obtain ⟨b1, b2⟩ := p3
    constructor <;> grind
  have s1 : Size (1 - m) (101 / 100) := by obtain ⟨a1, a2⟩ := m4; constructor <;> grind
  obtain ⟨r, r1, r2⟩ := fv_sub one_fv m1 (size_1000 s1 (le_1000 (by decide +kernel)))
  have r3 := r2.near s1
  rw [two52] at r3
  refine ⟨r, r1, ?_, by grind, by grind⟩
  obtain ⟨a1, a2⟩ := r3
  obtain ⟨b1, b2⟩ := m4
  constructor <;> grind

end Flt
end Go.Proofs.Ytgolfdngpphndaa
