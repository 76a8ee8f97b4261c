/-
  Several texts of this claim, one behind the other; each says what it holds.
-/
import Derived.Test.YteamnfockjnilaaMBins4
/-
  Cosines and sines as sums of rational numbers, and how they are added. No program.
-/
set_option linter.unusedVariables false
set_option linter.unusedSimpArgs false
namespace Go.Proofs.Yteamnfockjnilaa
open Go Flt
namespace Flt

theorem Size.mul {x y A B : Rat} (hx : Size x A) (hy : Size y B) : Size (x * y) (A * B) := by
  obtain ⟨x1, x2⟩ := hx
  obtain ⟨y1, y2⟩ := hy
  have a1 : 0 ≤ (A - x) * (B - y) := Rat.mul_nonneg (by grind) (by grind)
  have a2 : 0 ≤ (A + x) * (B + y) := Rat.mul_nonneg (by grind) (by grind)
  have a3 : 0 ≤ (A - x) * (B + y) := Rat.mul_nonneg (by grind) (by grind)
  have a4 : 0 ≤ (A + x) * (B - y) := Rat.mul_nonneg (by grind) (by grind)
  constructor <;> grind
theorem Size.add {x y A B : Rat} (hx : Size x A) (hy : Size y B) : Size (x + y) (A + B) := by
  obtain ⟨x1, x2⟩ := hx
  obtain ⟨y1, y2⟩ := hy
  constructor <;> grind
theorem Size.sub {x y A B : Rat} (hx : Size x A) (hy : Size y B) : Size (x - y) (A + B) := by
  obtain ⟨x1, x2⟩ := hx
  obtain ⟨y1, y2⟩ := hy
  constructor <;> grind
theorem Size.neg {x A : Rat} (hx : Size x A) : Size (-x) A := by
  obtain ⟨x1, x2⟩ := hx
  constructor <;> grind
theorem Size.mono {x A B : Rat} (hx : Size x A) (h : A ≤ B) : Size x B := ⟨Rat.le_trans hx.1 h, Rat.le_trans hx.2 h⟩
theorem Size.nonneg {x A : Rat} (hx : Size x A) : 0 ≤ A := by obtain ⟨x1, x2⟩ := hx; grind
theorem Size.of_nonneg {x A : Rat} (h0 : 0 ≤ x) (h : x ≤ A) : Size x A := ⟨h, by grind⟩
theorem near_size {x y e : Rat} : Near x y e ↔ Size (x - y) e := by
  unfold Near Size
  constructor
  · rintro ⟨h1, h2⟩; exact ⟨h1, by grind⟩
  · rintro ⟨h1, h2⟩; exact ⟨h1, by grind⟩

theorem psum_front (p : Nat → Rat) (n : Nat) : psum p (n + 1) = p 0 + psum (fun i => p (i + 1)) n := by
  induction n with
  | zero => show (0 : Rat) + p 0 = p 0 + 0; grind
  | succ n ih => rw [psum_succ, ih, psum_succ]; grind
theorem psum_add (p q : Nat → Rat) (n : Nat) : psum (fun i => p i + q i) n = psum p n + psum q n := by
  induction n with
  | zero => show (0 : Rat) = 0 + 0; grind
  | succ n ih => rw [psum_succ, psum_succ, psum_succ, ih]; grind
theorem psum_sub (p q : Nat → Rat) (n : Nat) : psum (fun i => p i - q i) n = psum p n - psum q n := by
  induction n with
  | zero => show (0 : Rat) = 0 - 0; grind
  | succ n ih => rw [psum_succ, psum_succ, psum_succ, ih]; grind
theorem psum_lmul (c : Rat) (p : Nat → Rat) (n : Nat) : psum (fun i => c * p i) n = c * psum p n := by
  induction n with
  | zero => show (0 : Rat) = c * 0; grind
  | succ n ih => rw [psum_succ, psum_succ, ih]; grind
theorem psum_split (p : Nat → Rat) (a b : Nat) : psum p (a + b) = psum p a + psum (fun j => p (a + j)) b := by
  induction b with
  | zero => show psum p a = psum p a + 0; grind
  | succ b ih => rw [← Nat.add_assoc, psum_succ, ih, psum_succ]; grind
theorem psum_size {p : Nat → Rat} {B : Rat} {n : Nat} (h : ∀ i, i < n → Size (p i) B) : Size (psum p n) ((n : Rat) * B) := by
  induction n with
  | zero => rw [show ((0 : Nat) : Rat) = 0 from rfl, Rat.zero_mul]; exact ⟨Rat.le_refl, by show -(0 : Rat) ≤ 0; grind⟩
  | succ n ih =>
    have h1 := (ih fun i hi => h i (by omega)).add (h n (by omega))
    rw [psum_succ, Rat.natCast_add, show ((1 : Nat) : Rat) = 1 from rfl, show ((n : Rat) + 1) * B = (n : Rat) * B + B by grind]
    exact h1
theorem psum_psum (p q : Nat → Rat) (n m : Nat) : psum p n * psum q m = psum (fun i => psum (fun j => p i * q j) m) n := by
  induction n with
  | zero => exact Rat.zero_mul _
  | succ n ih => rw [psum_succ, psum_succ, ← ih, psum_lmul]; grind

/-- t to the power j, divided by j!. -/
def ex (t : Rat) : Nat → Rat
  | 0 => 1
  | j + 1 => ex t j * t / ((j + 1 : Nat) : Rat)

theorem cast_succ_pos (j : Nat) : (0 : Rat) < ((j + 1 : Nat) : Rat) := Rat.natCast_pos.2 (Nat.succ_pos j)
theorem ex_succ (t : Rat) (j : Nat) : ex t (j + 1) * ((j + 1 : Nat) : Rat) = ex t j * t :=
  Rat.div_mul_cancel (Rat.ne_of_gt (cast_succ_pos j))

theorem ex_nonneg {t : Rat} (h : 0 ≤ t) (j : Nat) : 0 ≤ ex t j := by
  induction j with
  | zero => show (0 : Rat) ≤ 1; decide
  | succ j ih =>
    show 0 ≤ ex t j * t / _
    rw [Rat.div_def]
    exact Rat.mul_nonneg (Rat.mul_nonneg ih h) (Rat.le_of_lt (Rat.inv_pos.2 (cast_succ_pos j)))
theorem ex_size {t a : Rat} (h : Size t a) (j : Nat) : Size (ex t j) (ex a j) := by
  induction j with
  | zero => exact ⟨Rat.le_refl, by show -(1 : Rat) ≤ 1; decide⟩
  | succ j ih =>
    show Size (ex t j * t / _) (ex a j * a / _)
    rw [Rat.div_def, Rat.div_def]
    exact (ih.mul h).mul (Size.of_nonneg (Rat.le_of_lt (Rat.inv_pos.2 (cast_succ_pos j))) Rat.le_refl)
theorem ex_mono {s t : Rat} (h0 : 0 ≤ s) (h : s ≤ t) (j : Nat) : ex s j ≤ ex t j := (ex_size (Size.of_nonneg h0 h) j).1
theorem ex_down {t : Rat} {N : Nat} (h0 : 0 ≤ t) (hN : t ≤ (N : Rat)) (d : Nat) : ex t (N + d) ≤ ex t N := by
  induction d with
  | zero => exact Rat.le_refl
  | succ d ih =>
    refine Rat.le_trans ?_ ih
    have h1 := ex_succ t (N + d)
    have h2 := ex_nonneg h0 (N + d)
    have h3 := ex_nonneg h0 (N + d + 1)
    have h4 : (N : Rat) ≤ ((N + d + 1 : Nat) : Rat) := Rat.natCast_le_natCast.2 (by omega)
    have hp := cast_succ_pos (N + d)
    show ex t (N + d + 1) ≤ ex t (N + d)
    refine Rat.le_of_mul_le_mul_right ?_ hp
    rw [h1]
    exact Rat.mul_le_mul_of_nonneg_left (Rat.le_trans hN h4) h2

/-- Powers of a sum. -/
def conv (a b : Rat) (m : Nat) : Rat := psum (fun i => ex a i * ex b (m - i)) (m + 1)
theorem conv_eq (a b : Rat) (m : Nat) : conv a b m = ex (a + b) m := by
  induction m with
  | zero => show (0 : Rat) + 1 * 1 = 1; grind
  | succ m ih =>
    have hp := cast_succ_pos m
    have key : conv a b (m + 1) * ((m + 1 : Nat) : Rat) = (a + b) * conv a b m := by
      have e1 : conv a b (m + 1) * ((m + 1 : Nat) : Rat) = psum (fun i => (i : Rat) * (ex a i * ex b (m + 1 - i)) + ((m + 1 - i : Nat) : Rat) * (ex a i * ex b (m + 1 - i))) (m + 1 + 1) := by
        unfold conv
        rw [← psum_mul]
        refine psum_congr fun i hi => ?_
        have : ((m + 1 : Nat) : Rat) = (i : Rat) + ((m + 1 - i : Nat) : Rat) := by
          rw [← Rat.natCast_add]
          have : m + 1 = i + (m + 1 - i) := by omega
          exact congrArg _ this
        rw [this]; grind
      rw [e1, psum_add, psum_front (fun i => (i : Rat) * (ex a i * ex b (m + 1 - i))), psum_succ (fun i => ((m + 1 - i : Nat) : Rat) * (ex a i * ex b (m + 1 - i)))]
      have e2 : psum (fun i => (((i + 1 : Nat) : Rat)) * (ex a (i + 1) * ex b (m + 1 - (i + 1)))) (m + 1) = a * conv a b m := by
        unfold conv
        rw [← psum_lmul]
        refine psum_congr fun i hi => ?_
        have h1 := ex_succ a i
        rw [show m + 1 - (i + 1) = m - i by omega]
        generalize ex b (m - i) = y
        generalize ((i + 1 : Nat) : Rat) = z at *
        grind
      have e3 : psum (fun i => ((m + 1 - i : Nat) : Rat) * (ex a i * ex b (m + 1 - i))) (m + 1) = b * conv a b m := by
        unfold conv
        rw [← psum_lmul]
        refine psum_congr fun i hi => ?_
        have h1 := ex_succ b (m - i)
        rw [show m + 1 - i = m - i + 1 by omega]
        generalize ex a i = y
        generalize ((m - i + 1 : Nat) : Rat) = z at *
        grind
      rw [e2, e3, Nat.sub_self]
      rw [show ((0 : Nat) : Rat) = 0 from rfl]
      grind
    have h2 := ex_succ (a + b) m
    rw [ih] at key
    have h3 : conv a b (m + 1) * ((m + 1 : Nat) : Rat) = ex (a + b) (m + 1) * ((m + 1 : Nat) : Rat) := by rw [key, h2]; grind
    have h4 := Rat.mul_inv_cancel _ (Rat.ne_of_gt hp)
    generalize ((m + 1 : Nat) : Rat) = z at *
    have h5 : conv a b (m + 1) * z * z⁻¹ = ex (a + b) (m + 1) * z * z⁻¹ := by rw [h3]
    rw [Rat.mul_assoc, Rat.mul_assoc, h4, Rat.mul_one, Rat.mul_one] at h5
    exact h5

/-- A sum over a triangle, by rows and by diagonals. -/
theorem tri_sum (f : Nat → Nat → Rat) (N : Nat) : psum (fun i => psum (f i) (N - i)) N = psum (fun m => psum (fun i => f i (m - i)) (m + 1)) N := by
  induction N with
  | zero => rfl
  | succ N ih =>
    rw [psum_succ (fun m => psum (fun i => f i (m - i)) (m + 1)), ← ih]
    have e1 : psum (fun i => psum (f i) (N + 1 - i)) (N + 1) = psum (fun i => psum (f i) (N - i) + f i (N - i)) (N + 1) :=
      psum_congr fun i hi => by rw [show N + 1 - i = (N - i) + 1 by omega, psum_succ]
    rw [e1, psum_add, psum_succ (fun i => psum (f i) (N - i)), Nat.sub_self]
    show psum _ N + 0 + _ = _
    grind
/-- A sum over a square is near that over its half, if what is in the other half is small. -/
theorem sq_sum {f : Nat → Nat → Rat} {N : Nat} {B : Rat} (h : ∀ i j, i < N → j < N → N ≤ i + j → Size (f i j) B) (hB : 0 ≤ B) :
    Near (psum (fun i => psum (f i) N) N) (psum (fun m => psum (fun i => f i (m - i)) (m + 1)) N) ((N : Rat) * ((N : Rat) * B)) := by
  rw [near_size, ← tri_sum, ← psum_sub]
  refine psum_size fun i hi => ?_
  have e : psum (f i) N = psum (f i) (N - i) + psum (fun j => f i (N - i + j)) i := by
    rw [← psum_split]
    have : N = N - i + i := by omega
    exact congrArg _ this
  rw [e, show ∀ x y : Rat, x + y - x = y from fun x y => by grind]
  refine (psum_size (B := B) fun j hj => h i (N - i + j) hi (by omega) (by omega)).mono ?_
  exact Rat.mul_le_mul_of_nonneg_right (Rat.natCast_le_natCast.2 (by omega)) hB

/-- The signs of the terms. -/
def sgC (j : Nat) : Rat := if j % 4 = 0 then 1 else if j % 4 = 2 then -1 else 0
def sgS (j : Nat) : Rat := if j % 4 = 1 then 1 else if j % 4 = 3 then -1 else 0
theorem sg_size (j : Nat) : Size (sgC j) 1 ∧ Size (sgS j) 1 := by
  unfold sgC sgS
  constructor <;> (split <;> (try split)) <;> constructor <;> decide +kernel
theorem sg_add (i j : Nat) : sgC i * sgC j - sgS i * sgS j = sgC (i + j) ∧ sgS i * sgC j + sgC i * sgS j = sgS (i + j) := by
  have h1 : i % 4 = 0 ∨ i % 4 = 1 ∨ i % 4 = 2 ∨ i % 4 = 3 := by omega
  have h2 : j % 4 = 0 ∨ j % 4 = 1 ∨ j % 4 = 2 ∨ j % 4 = 3 := by omega
  unfold sgC sgS
  rw [Nat.add_mod]
  rcases h1 with h1 | h1 | h1 | h1 <;> rcases h2 with h2 | h2 | h2 | h2 <;> rw [h1, h2] <;> constructor <;> decide +kernel

def cosN (N : Nat) (t : Rat) : Rat := psum (fun j => sgC j * ex t j) N
def sinN (N : Nat) (t : Rat) : Rat := psum (fun j => sgS j * ex t j) N

/-- HOW COSINES AND SINES ARE ADDED. -/
theorem cis_add {a b A B : Rat} {N : Nat} (ha : Size a A) (hb : Size b B) (hN : A + B ≤ (N : Rat)) :
    Near (cosN N a * cosN N b - sinN N a * sinN N b) (cosN N (a + b)) ((N : Rat) * ((N : Rat) * ex (A + B) N)) ∧
    Near (sinN N a * cosN N b + cosN N a * sinN N b) (sinN N (a + b)) ((N : Rat) * ((N : Rat) * ex (A + B) N)) := by
  have hA := ha.nonneg
  have hB := hb.nonneg
  have hAB : 0 ≤ A + B := Rat.add_nonneg hA hB
  have hex : 0 ≤ ex (A + B) N := ex_nonneg hAB N
  -- each product is small where the places add up to N
  have small : ∀ g : Nat → Rat, (∀ m, Size (g m) 1) → ∀ i j, i < N → j < N → N ≤ i + j → Size (g (i + j) * (ex a i * ex b j)) (ex (A + B) N) := by
    intro g hg i j hi hj hij
    have h1 := (hg (i + j)).mul ((ex_size ha i).mul (ex_size hb j))
    refine h1.mono ?_
    rw [Rat.one_mul]
    have h2 : ex A i * ex B (i + j - i) ≤ conv A B (i + j) :=
      psum_term (p := fun l => ex A l * ex B (i + j - l)) (n := i + j + 1) (fun l _ => Rat.mul_nonneg (ex_nonneg hA _) (ex_nonneg hB _)) (by omega)
    rw [show i + j - i = j by omega, conv_eq] at h2
    have h3 := ex_down hAB hN (i + j - N)
    rw [show N + (i + j - N) = i + j by omega] at h3
    exact Rat.le_trans h2 h3
  have diag : ∀ g : Nat → Rat, psum (fun m => psum (fun i => g (i + (m - i)) * (ex a i * ex b (m - i))) (m + 1)) N = psum (fun m => g m * ex (a + b) m) N := by
    intro g
    refine psum_congr fun m hm => ?_
    rw [← conv_eq]
    unfold conv
    rw [← psum_lmul]
    exact psum_congr fun i hi => by rw [show i + (m - i) = m by omega]
  unfold cosN sinN
  constructor
  · rw [← diag sgC]
    have e : psum (fun j => sgC j * ex a j) N * psum (fun j => sgC j * ex b j) N - psum (fun j => sgS j * ex a j) N * psum (fun j => sgS j * ex b j) N = psum (fun i => psum (fun j => sgC (i + j) * (ex a i * ex b j)) N) N := by
      rw [psum_psum, psum_psum, ← psum_sub]
      refine psum_congr fun i hi => ?_
      rw [← psum_sub]
      refine psum_congr fun j hj => ?_
      rw [← (sg_add i j).1]; grind
    rw [e]
    exact sq_sum (f := fun i j => sgC (i + j) * (ex a i * ex b j)) (small sgC fun m => (sg_size m).1) hex
  · rw [← diag sgS]
    have e : psum (fun j => sgS j * ex a j) N * psum (fun j => sgC j * ex b j) N + psum (fun j => sgC j * ex a j) N * psum (fun j => sgS j * ex b j) N = psum (fun i => psum (fun j => sgS (i + j) * (ex a i * ex b j)) N) N := by
      rw [psum_psum, psum_psum, ← psum_add]
      refine psum_congr fun i hi => ?_
      rw [← psum_add]
      refine psum_congr fun j hj => ?_
      rw [← (sg_add i j).2]; grind
    rw [e]
    exact sq_sum (f := fun i j => sgS (i + j) * (ex a i * ex b j)) (small sgS fun m => (sg_size m).2) hex

end Flt
end Go.Proofs.Yteamnfockjnilaa
/-
  Exact turns: cosines and sines of parts of a whole turn, their sums and mirrors. No program.
-/
set_option linter.unusedVariables false
set_option linter.unusedSimpArgs false
namespace Go.Proofs.Yteamnfockjnilaa
open Go Flt
namespace Flt

/-- A whole turn. -/
def tau : Rat := 7964883625991394727376702227904 / 1267650600228229401496703205376
/-- The cosine and the sine of a part of a turn. -/
def cq (q : Rat) : Rat := cosN 80 (tau * q)
def sq (q : Rat) : Rat := sinN 80 (tau * q)
/-- How near sums are. -/
def dl : Rat := 1 / 1180591620717411303424

theorem tau_size : 0 ≤ tau ∧ tau ≤ 13 / 2 := by decide +kernel
theorem dl_le : (80 : Rat) * (80 * ex 13 80) ≤ dl := by decide +kernel

theorem tq_size {q : Rat} (h : Size q 1) : Size (tau * q) (13 / 2) := by
  have := (Size.of_nonneg tau_size.1 tau_size.2).mul h
  rwa [Rat.mul_one] at this
theorem cq_add {p q : Rat} (hp : Size p 1) (hq : Size q 1) :
    Near (cq p * cq q - sq p * sq q) (cq (p + q)) dl ∧ Near (sq p * cq q + cq p * sq q) (sq (p + q)) dl := by
  have h := cis_add (N := 80) (tq_size hp) (tq_size hq) (by decide +kernel)
  have e : (13 / 2 : Rat) + 13 / 2 = 13 := by decide +kernel
  have e2 : ((80 : Nat) : Rat) = 80 := rfl
  rw [e, e2, ← Rat.mul_add] at h
  exact ⟨⟨Rat.le_trans h.1.1 dl_le, Rat.le_trans h.1.2 dl_le⟩, ⟨Rat.le_trans h.2.1 dl_le, Rat.le_trans h.2.2 dl_le⟩⟩

theorem ex_neg (t : Rat) (j : Nat) : ex (-t) j = if j % 2 = 0 then ex t j else -ex t j := by
  induction j with
  | zero => rfl
  | succ j ih =>
    show ex (-t) j * -t / _ = _
    rw [ih]
    by_cases h : j % 2 = 0
    · rw [if_pos h, if_neg (by omega)]
      show _ = -(ex t j * t / _)
      rw [Rat.div_def, Rat.div_def]; grind
    · rw [if_neg h, if_pos (by omega)]
      show _ = ex t j * t / _
      rw [Rat.div_def, Rat.div_def]; grind
theorem cosN_neg (N : Nat) (t : Rat) : cosN N (-t) = cosN N t := by
  unfold cosN
  refine psum_congr fun j _ => ?_
  rw [ex_neg]
  by_cases h : j % 2 = 0
  · rw [if_pos h]
  · have : sgC j = 0 := by unfold sgC; rw [if_neg (by omega), if_neg (by omega)]
    rw [this]; grind
theorem sinN_neg (N : Nat) (t : Rat) : sinN N (-t) = -sinN N t := by
  unfold sinN
  have e : (fun j => sgS j * ex (-t) j) = fun j => -1 * (sgS j * ex t j) := by
    funext j
    rw [ex_neg]
    by_cases h : j % 2 = 0
    · have : sgS j = 0 := by unfold sgS; rw [if_neg (by omega), if_neg (by omega)]
      rw [this]; grind
    · rw [if_neg h]; grind
  rw [e, psum_lmul]; grind
theorem cq_neg (q : Rat) : cq (-q) = cq q := by unfold cq; rw [show tau * -q = -(tau * q) by grind, cosN_neg]
theorem sq_neg (q : Rat) : sq (-q) = -sq q := by unfold sq; rw [show tau * -q = -(tau * q) by grind, sinN_neg]

/-- What is known of some parts. -/
theorem cq_zero : cq 0 = 1 ∧ sq 0 = 0 := by unfold cq sq; decide +kernel
theorem cq_one : Near (cq 1) 1 dl ∧ Near (sq 1) 0 dl := by unfold Near cq sq; decide +kernel
theorem cq_half : Near (cq (1 / 2)) (-1) dl ∧ Near (sq (1 / 2)) 0 dl := by unfold Near cq sq; decide +kernel
theorem cq_quarter : Near (cq (1 / 4)) 0 dl ∧ Near (sq (1 / 4)) 1 dl := by unfold Near cq sq; decide +kernel

theorem dl_val : dl = 1 / 1180591620717411303424 := rfl

/-- The size of an exact turn is 1, nearly. -/
theorem cq_sq {q : Rat} (h : Size q 1) : Near (cq q * cq q + sq q * sq q) 1 dl := by
  have h1 := (cq_add h h.neg).1
  rw [cq_neg, sq_neg, show q + -q = 0 by grind, cq_zero.1] at h1
  have e : cq q * cq q - sq q * -sq q = cq q * cq q + sq q * sq q := by grind
  rwa [e] at h1
theorem sq_nonneg (a : Rat) : 0 ≤ a * a := by
  by_cases h : 0 ≤ a
  · exact Rat.mul_nonneg h h
  · have := Rat.mul_nonneg (show 0 ≤ -a by grind) (show 0 ≤ -a by grind)
    grind
theorem size_of_sq {a b d : Rat} (hd : 0 ≤ d) (h : a * a + b * b ≤ 1 + d) : Size a (1 + d) := by
  have hb := sq_nonneg b
  have h1 : ∀ c : Rat, c * c ≤ 1 + d → c ≤ 1 + d := fun c hc => by
    refine Rat.not_lt.1 fun hlt => ?_
    have h2 := Rat.mul_le_mul_of_nonneg_left (show 1 ≤ c by grind) (show 0 ≤ c by grind)
    grind
  exact ⟨h1 a (by grind), h1 (-a) (by grind)⟩
theorem cq_size {q : Rat} (h : Size q 1) : Size (cq q) (1 + dl) ∧ Size (sq q) (1 + dl) := by
  have h1 := (cq_sq h).1
  have hd : 0 ≤ dl := by decide +kernel
  exact ⟨size_of_sq hd (b := sq q) (by grind), size_of_sq hd (b := cq q) (by grind)⟩
theorem cq_size2 {q : Rat} (h : Size q 1) : Size (cq q) 2 ∧ Size (sq q) 2 := by
  have hd : 1 + dl ≤ 2 := by decide +kernel
  exact ⟨(cq_size h).1.mono hd, (cq_size h).2.mono hd⟩

/-- A number times one that is nearly w. -/
theorem near_mul {a w b B e : Rat} (h : Near a w e) (hb : Size b B) : Near (a * b) (w * b) (e * B) := by
  rw [near_size] at *
  have := h.mul hb
  rwa [show (a - w) * b = a * b - w * b by grind] at this

/-- The other way round from a part p whose turn is known: w + v i. -/
theorem cq_from {p q w v : Rat} (hp : Size p 1) (hq : Size q 1) (hw : Near (cq p) w dl) (hv : Near (sq p) v dl) :
    Near (cq (p + q)) (w * cq q - v * sq q) (5 * dl) ∧ Near (sq (p + q)) (v * cq q + w * sq q) (5 * dl) := by
  obtain ⟨h1, h2⟩ := cq_add hp hq
  obtain ⟨s1, s2⟩ := cq_size2 hq
  have a1 := near_mul hw s1
  have a2 := near_mul hv s2
  have a3 := near_mul hv s1
  have a4 := near_mul hw s2
  generalize cq (p + q) = x at *
  generalize sq (p + q) = y at *
  generalize cq p * cq q = t1 at *
  generalize sq p * sq q = t2 at *
  generalize sq p * cq q = t3 at *
  generalize cq p * sq q = t4 at *
  generalize w * cq q = u1 at *
  generalize v * sq q = u2 at *
  generalize v * cq q = u3 at *
  generalize w * sq q = u4 at *
  unfold Near at *
  constructor <;> constructor <;> grind

theorem cq_turn {q : Rat} (h : Size q 1) : Near (cq (1 + q)) (cq q) (5 * dl) ∧ Near (sq (1 + q)) (sq q) (5 * dl) := by
  have := cq_from (p := 1) (by constructor <;> decide +kernel) h cq_one.1 cq_one.2
  rw [show 1 * cq q - 0 * sq q = cq q by grind, show 0 * cq q + 1 * sq q = sq q by grind] at this
  exact this
theorem cq_mirror {q : Rat} (h : Size q 1) : Near (cq (1 - q)) (cq q) (5 * dl) ∧ Near (sq (1 - q)) (-sq q) (5 * dl) := by
  have := cq_turn h.neg
  rw [← Rat.sub_eq_add_neg, cq_neg, sq_neg] at this
  exact this
theorem cq_opp {q : Rat} (h : Size q 1) : Near (cq (1 / 2 - q)) (-cq q) (5 * dl) ∧ Near (sq (1 / 2 - q)) (sq q) (5 * dl) := by
  have := cq_from (p := 1 / 2) (by constructor <;> decide +kernel) h.neg cq_half.1 cq_half.2
  rw [← Rat.sub_eq_add_neg, cq_neg, sq_neg, show -1 * cq q - 0 * -sq q = -cq q by grind, show 0 * cq q + -1 * -sq q = sq q by grind] at this
  exact this
theorem cq_quart {q : Rat} (h : Size q 1) : Near (cq (1 / 4 - q)) (sq q) (5 * dl) ∧ Near (sq (1 / 4 - q)) (cq q) (5 * dl) := by
  have := cq_from (p := 1 / 4) (by constructor <;> decide +kernel) h.neg cq_quarter.1 cq_quarter.2
  rw [← Rat.sub_eq_add_neg, cq_neg, sq_neg, show 0 * cq q - 1 * -sq q = sq q by grind, show 1 * cq q + 0 * -sq q = cq q by grind] at this
  exact this

end Flt
end Go.Proofs.Yteamnfockjnilaa
/-
  Turns as a plain function of two naturals: no program.
-/
set_option linter.unusedVariables false
set_option linter.unusedSimpArgs false
namespace Go.Proofs.Yteamnfockjnilaa
open Go Flt
namespace Turn

abbrev O := Option Nat
def oneO : O := some 4607182418800017408
def zeroO : O := some 0
def halfRoot : O := some 4604544271217802189
def twoPi : O := some 4618760256179416344
def ofI (n : Int) : O := some (floatOfInt .f64 n)

def cI (m : Int) : Int := (2 * m - 1) * 2 * m
def sI (m : Int) : Int := 2 * m * (2 * m + 1)

/-- The series of the real part, behind j of its nine rounds. -/
def cosR (y : O) : Nat → O
  | 0 => oneO
  | j + 1 => fop .sub .f64 oneO (fop .mul .f64 (fop .quo .f64 y (ofI (cI (9 - (j : Int))))) (cosR y j))
/-- That of the imaginary part. -/
def sinR (y : O) : Nat → O
  | 0 => oneO
  | j + 1 => fop .sub .f64 oneO (fop .mul .f64 (fop .quo .f64 y (ofI (sI (9 - (j : Int))))) (sinR y j))

def argO (n k : Nat) : O := fop .quo .f64 (fop .mul .f64 twoPi (ofI k)) (ofI n)
def serO (n k : Nat) : O × O :=
  let x := argO n k
  let y := fop .mul .f64 x x
  (cosR y 9, fop .mul .f64 (sinR y 9) x)

/-- How many of the rules 2 to 4 are still to come, at most. -/
def rank (n k : Nat) : Nat := if 8 * k ≤ n then 0 else if 4 * k ≤ n then 1 else if 2 * k ≤ n then 2 else 3

/-- The turn of a fraction in lowest terms, rule by rule. -/
def low (rec : Nat → Nat → O × O) (n k : Nat) : O × O :=
  if k = 0 then (oneO, zeroO)
  else if n < 2 * k then let z := rec n (n - k); (z.1, fneg .f64 z.2)
  else if n < 4 * k then let z := rec (2 * n) (n - 2 * k); (fneg .f64 z.1, z.2)
  else if n < 8 * k then let z := rec (4 * n) (n - 4 * k); (z.2, z.1)
  else if 8 * k = n then (halfRoot, halfRoot)
  else serO n k

def turnF : Nat → Nat → Nat → O × O
  | 0, _, _ => (none, none)
  | f + 1, n, k => low (turnF f) (n / n.gcd k) (k / n.gcd k)

/-- The turn k of n. -/
def turn (n k : Nat) : O × O := turnF 4 n k

theorem rank_red {n k : Nat} (hn : 0 < n) : rank (n / n.gcd k) (k / n.gcd k) = rank n k := by
  have hg : 0 < n.gcd k := Nat.gcd_pos_of_pos_left _ hn
  obtain ⟨a, ha⟩ := Nat.gcd_dvd_left n k
  obtain ⟨b, hb⟩ := Nat.gcd_dvd_right n k
  generalize hG : n.gcd k = g at *
  subst ha hb
  rw [Nat.mul_div_cancel_left _ hg, Nat.mul_div_cancel_left _ hg]
  unfold rank
  have e : ∀ c : Nat, (c * (g * b) ≤ g * a) = (c * b ≤ a) := fun c => by
    rw [show c * (g * b) = g * (c * b) by rw [Nat.mul_left_comm]]
    exact propext (Nat.mul_le_mul_left_iff hg)
  simp only [e]

theorem rank_le (n k : Nat) : rank n k ≤ 3 := by unfold rank; split <;> (try split) <;> (try split) <;> omega

/-- The fuel does not matter if it is enough. -/
theorem turnF_fuel : ∀ (r f f' n k : Nat), rank n k ≤ r → r ≤ f → r ≤ f' → 0 < n → k ≤ n → turnF (f + 1) n k = turnF (f' + 1) n k := by
  intro r
  induction r with
  | zero =>
    intro f f' n k hr hf hf' hn hk
    have h := hr; rw [← rank_red hn] at h
    simp only [turnF]
    generalize n / n.gcd k = n1 at *
    generalize k / n.gcd k = k1 at *
    unfold rank at h
    have h8 : 8 * k1 ≤ n1 := by
      apply Classical.byContradiction; intro hc
      rw [if_neg hc] at h
      split at h
      · omega
      · split at h <;> omega
    unfold low
    split
    · rfl
    · have a2 : ¬ n1 < 2 * k1 := by omega
      have a4 : ¬ n1 < 4 * k1 := by omega
      have a8 : ¬ n1 < 8 * k1 := by omega
      simp only [if_neg a2, if_neg a4, if_neg a8]
  | succ r ih =>
    intro f f' n k hr hf hf' hn hk
    obtain ⟨f, rfl⟩ : ∃ g, f = g + 1 := ⟨f - 1, by omega⟩
    obtain ⟨f', rfl⟩ : ∃ g, f' = g + 1 := ⟨f' - 1, by omega⟩
    have h := hr; rw [← rank_red hn] at h
    have hg : 0 < n.gcd k := Nat.gcd_pos_of_pos_left _ hn
    have hn1 : 0 < n / n.gcd k := Nat.div_pos (Nat.le_of_dvd hn (Nat.gcd_dvd_left n k)) hg
    have hk1 : k / n.gcd k ≤ n / n.gcd k := Nat.div_le_div_right hk
    show low (turnF (f + 1)) _ _ = low (turnF (f' + 1)) _ _
    generalize n / n.gcd k = n1 at *
    generalize k / n.gcd k = k1 at *
    unfold low
    split
    · rfl
    · rename_i h0
      split
      · rename_i h2
        have hr2 : rank n1 (n1 - k1) ≤ r := by
          unfold rank at h ⊢
          rw [if_neg (by omega), if_neg (by omega), if_neg (by omega)] at h
          split <;> (try split) <;> (try split) <;> omega
        rw [ih f f' _ _ hr2 (by omega) (by omega) hn1 (by omega)]
      · rename_i h2
        split
        · rename_i h4
          have hr2 : rank (2 * n1) (n1 - 2 * k1) ≤ r := by
            unfold rank at h ⊢
            rw [if_neg (by omega), if_neg (by omega), if_pos (by omega)] at h
            split <;> (try split) <;> (try split) <;> omega
          rw [ih f f' _ _ hr2 (by omega) (by omega) (by omega) (by omega)]
        · rename_i h4
          split
          · rename_i h8
            have hr2 : rank (4 * n1) (n1 - 4 * k1) ≤ r := by
              unfold rank at h ⊢
              rw [if_neg (by omega), if_pos (by omega)] at h
              split <;> (try split) <;> (try split) <;> omega
            rw [ih f f' _ _ hr2 (by omega) (by omega) (by omega) (by omega)]
          · rfl

theorem turnF_eq {f n k : Nat} (hf : rank n k ≤ f) (hn : 0 < n) (hk : k ≤ n) : turnF (f + 1) n k = turn n k :=
  turnF_fuel (rank n k) f 3 n k (Nat.le_refl _) hf (rank_le n k) hn hk

/-- A fraction and the same in lowest terms. -/
theorem turn_red {n k : Nat} (hn : 0 < n) : turn n k = turn (n / n.gcd k) (k / n.gcd k) := by
  have hg : 0 < n.gcd k := Nat.gcd_pos_of_pos_left _ hn
  have e : (n / n.gcd k).gcd (k / n.gcd k) = 1 := by
    rw [Nat.gcd_div (Nat.gcd_dvd_left n k) (Nat.gcd_dvd_right n k)]
    exact Nat.div_self hg
  show low (turnF 3) _ _ = low (turnF 3) _ _
  rw [e, Nat.div_one, Nat.div_one]

theorem low_turn {n k : Nat} (hg : n.gcd k = 1) : turn n k = low (turnF 3) n k := by
  show low (turnF 3) (n / n.gcd k) (k / n.gcd k) = _
  rw [hg, Nat.div_one, Nat.div_one]

theorem turn_zero {n k : Nat} (hg : n.gcd k = 1) (h : k = 0) : turn n k = (oneO, zeroO) := by
  rw [low_turn hg]; unfold low; rw [if_pos h]
theorem turn_two {n k : Nat} (hg : n.gcd k = 1) (h0 : k ≠ 0) (hn : 0 < n) (hk : k ≤ n) (h : n < 2 * k) : turn n k = ((turn n (n - k)).1, fneg .f64 (turn n (n - k)).2) := by
  rw [low_turn hg]; unfold low; rw [if_neg h0, if_pos h]
  rw [turnF_eq (f := 2) (by unfold rank; split <;> (try split) <;> (try split) <;> omega) hn (by omega)]
theorem turn_four {n k : Nat} (hg : n.gcd k = 1) (h0 : k ≠ 0) (hn : 0 < n) (h2 : ¬ n < 2 * k) (h : n < 4 * k) : turn n k = (fneg .f64 (turn (2 * n) (n - 2 * k)).1, (turn (2 * n) (n - 2 * k)).2) := by
  rw [low_turn hg]; unfold low; rw [if_neg h0, if_neg h2, if_pos h]
  rw [turnF_eq (f := 2) (by unfold rank; split <;> (try split) <;> (try split) <;> omega) (by omega) (by omega)]
theorem turn_eight {n k : Nat} (hg : n.gcd k = 1) (h0 : k ≠ 0) (hn : 0 < n) (h2 : ¬ n < 2 * k) (h4 : ¬ n < 4 * k) (h : n < 8 * k) : turn n k = ((turn (4 * n) (n - 4 * k)).2, (turn (4 * n) (n - 4 * k)).1) := by
  rw [low_turn hg]; unfold low; rw [if_neg h0, if_neg h2, if_neg h4, if_pos h]
  rw [turnF_eq (f := 2) (by unfold rank; split <;> (try split) <;> (try split) <;> omega) (by omega) (by omega)]
theorem turn_eighth {n k : Nat} (hg : n.gcd k = 1) (h0 : k ≠ 0) (h2 : ¬ n < 2 * k) (h4 : ¬ n < 4 * k) (h8 : ¬ n < 8 * k) (h : 8 * k = n) : turn n k = (halfRoot, halfRoot) := by
  rw [low_turn hg]; unfold low; rw [if_neg h0, if_neg h2, if_neg h4, if_neg h8, if_pos h]
theorem turn_series {n k : Nat} (hg : n.gcd k = 1) (h0 : k ≠ 0) (h2 : ¬ n < 2 * k) (h4 : ¬ n < 4 * k) (h8 : ¬ n < 8 * k) (h : 8 * k ≠ n) : turn n k = serO n k := by
  rw [low_turn hg]; unfold low; rw [if_neg h0, if_neg h2, if_neg h4, if_neg h8, if_neg h]

end Turn
end Go.Proofs.Yteamnfockjnilaa
/-
  The turns that are found are near the exact ones. No program.
-/
set_option linter.unusedVariables false
set_option linter.unusedSimpArgs false
namespace Go.Proofs.Yteamnfockjnilaa
open Go Flt
namespace Flt
open Turn

/-- A part of the last place of numbers from 1 to 2. -/
def ulp : Rat := 1 / 4503599627370496
theorem ulp_val : 4503599627370496 * ulp = 1 := by decide +kernel

theorem cos_short {x : Rat} (h : Size x (4 / 5)) : Near (cosN 80 x) (cosN 20 x) (1 / 1152921504606846976) ∧ Near (sinN 80 x) (sinN 20 x) (1 / 1152921504606846976) := by
  have hb : (60 : Rat) * ex (4 / 5) 20 ≤ 1 / 1152921504606846976 := by decide +kernel
  have ht : ∀ (g : Nat → Rat), (∀ m, Size (g m) 1) → Size (psum (fun j => g (20 + j) * ex x (20 + j)) 60) (1 / 1152921504606846976) := fun g hg => by
    have := psum_size (p := fun j => g (20 + j) * ex x (20 + j)) (B := ex (4 / 5) 20) (n := 60) fun j _ => by
      have h1 := (hg (20 + j)).mul (ex_size h (20 + j))
      rw [Rat.one_mul] at h1
      exact h1.mono (ex_down (by decide +kernel) (by decide +kernel) j)
    exact this.mono hb
  unfold cosN sinN
  rw [near_size, near_size, show (80 : Nat) = 20 + 60 from rfl, psum_split _ 20 60, psum_split _ 20 60]
  rw [show ∀ a b : Rat, a + b - a = b from fun a b => by grind, show ∀ a b : Rat, a + b - a = b from fun a b => by grind]
  exact ⟨ht sgC fun m => (sg_size m).1, ht sgS fun m => (sg_size m).2⟩

/-- The series of exact numbers, as they are found. -/
def cosT (y : Rat) : Nat → Rat
  | 0 => 1
  | j + 1 => 1 - y / ((cI (9 - (j : Int)) : Int) : Rat) * cosT y j
def sinT (y : Rat) : Nat → Rat
  | 0 => 1
  | j + 1 => 1 - y / ((sI (9 - (j : Int)) : Int) : Rat) * sinT y j

theorem cosT_eq (x : Rat) : cosT (x * x) 9 = cosN 20 x := by
  have e : ∀ c : Nat, c < 9 → True := fun _ _ => trivial
  have c8 : ((cI (9 - ((8 : Nat) : Int)) : Int) : Rat) = 2 := by decide +kernel
  have c7 : ((cI (9 - ((7 : Nat) : Int)) : Int) : Rat) = 12 := by decide +kernel
  have c6 : ((cI (9 - ((6 : Nat) : Int)) : Int) : Rat) = 30 := by decide +kernel
  have c5 : ((cI (9 - ((5 : Nat) : Int)) : Int) : Rat) = 56 := by decide +kernel
  have c4 : ((cI (9 - ((4 : Nat) : Int)) : Int) : Rat) = 90 := by decide +kernel
  have c3 : ((cI (9 - ((3 : Nat) : Int)) : Int) : Rat) = 132 := by decide +kernel
  have c2 : ((cI (9 - ((2 : Nat) : Int)) : Int) : Rat) = 182 := by decide +kernel
  have c1 : ((cI (9 - ((1 : Nat) : Int)) : Int) : Rat) = 240 := by decide +kernel
  have c0 : ((cI (9 - ((0 : Nat) : Int)) : Int) : Rat) = 306 := by decide +kernel
  unfold cosN
  simp only [cosT, psum, sgC, ex, c0, c1, c2, c3, c4, c5, c6, c7, c8]
  simp
  grind
theorem sinT_eq (x : Rat) : sinT (x * x) 9 * x = sinN 20 x := by
  have c8 : ((sI (9 - ((8 : Nat) : Int)) : Int) : Rat) = 6 := by decide +kernel
  have c7 : ((sI (9 - ((7 : Nat) : Int)) : Int) : Rat) = 20 := by decide +kernel
  have c6 : ((sI (9 - ((6 : Nat) : Int)) : Int) : Rat) = 42 := by decide +kernel
  have c5 : ((sI (9 - ((5 : Nat) : Int)) : Int) : Rat) = 72 := by decide +kernel
  have c4 : ((sI (9 - ((4 : Nat) : Int)) : Int) : Rat) = 110 := by decide +kernel
  have c3 : ((sI (9 - ((3 : Nat) : Int)) : Int) : Rat) = 156 := by decide +kernel
  have c2 : ((sI (9 - ((2 : Nat) : Int)) : Int) : Rat) = 210 := by decide +kernel
  have c1 : ((sI (9 - ((1 : Nat) : Int)) : Int) : Rat) = 272 := by decide +kernel
  have c0 : ((sI (9 - ((0 : Nat) : Int)) : Int) : Rat) = 342 := by decide +kernel
  unfold sinN
  simp only [sinT, psum, sgS, ex, c0, c1, c2, c3, c4, c5, c6, c7, c8]
  simp
  grind

theorem one_fv : Fv oneO 1 := by
  have := fv_int_exact (n := 1) (by decide)
  have e : floatOfInt .f64 1 = 4607182418800017408 := by decide
  rw [e] at this
  exact this
theorem zero_fv : Fv zeroO 0 := by
  have := fv_int_exact (n := 0) (by decide)
  have e : floatOfInt .f64 0 = 0 := by decide
  rw [e] at this
  exact this
theorem size_1000 {x B : Rat} (h : Size x B) (hB : B ≤ two 1000) : Moderate x := h.mono hB
theorem le_1000 {B : Rat} (h : B ≤ 1152921504606846976) : B ≤ two 1000 :=
  Rat.le_trans h (by rw [show (1152921504606846976 : Rat) = two 60 from rfl]; exact two_le (by omega))

/-- One round of a series. -/
theorem round_near {y t : O} {Y T yv tv : Rat} {c : Int} (hy : Fv y yv) (hyn : Near yv Y (5 * ulp)) (hY : 0 ≤ Y ∧ Y ≤ 16 / 25) (ht : Fv t tv) (htn : Near tv T (10 * ulp)) (hT : 0 ≤ T ∧ T ≤ 1) (hc : 2 ≤ c ∧ c ≤ 400) :
    ∃ r, Fv (fop .sub .f64 oneO (fop .mul .f64 (fop .quo .f64 y (ofI c)) t)) r ∧ Near r (1 - Y / (c : Rat) * T) (10 * ulp) ∧ 0 ≤ 1 - Y / (c : Rat) * T ∧ 1 - Y / (c : Rat) * T ≤ 1 := by
  have hti := tiny_le
  have ht0 := tiny_pos
  have hc2 : (2 : Rat) ≤ (c : Rat) := Rat.intCast_le_intCast.2 hc.1
  have hc0 : (0 : Rat) < (c : Rat) := by grind
  have hci := Rat.mul_inv_cancel _ (Rat.ne_of_gt hc0)
  have hcp := Rat.inv_pos.2 hc0
  have hch : (c : Rat)⁻¹ ≤ 1 / 2 := by
    have := Rat.mul_le_mul_of_nonneg_right hc2 (Rat.le_of_lt hcp)
    rw [hci] at this; grind
  have hcF := fv_int_exact (n := c) (by omega)
  rw [Rat.div_def]
  generalize hd : (c : Rat)⁻¹ = d at *
  -- the quotient
  have hu := ulp_val
  obtain ⟨y1, y2⟩ := hyn
  obtain ⟨Y1, Y2⟩ := hY
  obtain ⟨T1, T2⟩ := hT
  have hds : Size d (1 / 2) := Size.of_nonneg (Rat.le_of_lt hcp) hch
  have hys : Size yv 1 := by constructor <;> grind
  have hq : yv / (c : Rat) = yv * d := by rw [Rat.div_def, hd]
  have hqs := hys.mul hds
  obtain ⟨qv, q1, q2⟩ := fv_div hy hcF (Rat.ne_of_gt hc0) (by rw [hq]; exact size_1000 hqs (le_1000 (by decide +kernel)))
  rw [hq] at q2
  have q3 := q2.near hqs
  have q4 : Near (yv * d) (Y * d) (5 * ulp * (1 / 2)) := near_mul ⟨y1, y2⟩ hds
  rw [two52] at q3
  have q5 : Near qv (Y * d) (3 * ulp + 1 / 1267650600228229401496703205376) := by
    obtain ⟨a1, a2⟩ := q3
    obtain ⟨b1, b2⟩ := q4
    constructor <;> grind
  have hQ : 0 ≤ Y * d ∧ Y * d ≤ 8 / 25 := by
    have h1 := Rat.mul_nonneg Y1 (Rat.le_of_lt hcp)
    have h2 := Rat.mul_le_mul_of_nonneg_left hch Y1
    exact ⟨h1, by grind⟩
  generalize hQe : Y * d = Q at *
  clear q2 q3 q4 hq hqs hys hcF hci hch hds hcp hc0 hc2
  -- the product
  have t1 : Size tv (101 / 100) := by obtain ⟨a1, a2⟩ := htn; constructor <;> grind
  have p1 := near_mul q5 t1
  have p2 : Near (Q * tv) (Q * T) (10 * ulp * (8 / 25)) := by
    have := near_mul htn (Size.of_nonneg hQ.1 hQ.2)
    rwa [Rat.mul_comm tv, Rat.mul_comm T] at this
  have p3 : Near (qv * tv) (Q * T) (7 * ulp) := by
    obtain ⟨a1, a2⟩ := p1
    obtain ⟨b1, b2⟩ := p2
    constructor <;> grind
  have hQT : 0 ≤ Q * T ∧ Q * T ≤ 8 / 25 := by
    have h1 := Rat.mul_nonneg hQ.1 T1
    have h2 := Rat.mul_le_mul_of_nonneg_left T2 hQ.1
    exact ⟨h1, by grind⟩
  have p4 : Size (qv * tv) 1 := by obtain ⟨a1, a2⟩ := p3; constructor <;> grind
  obtain ⟨m, m1, m2⟩ := fv_mul q1 ht (size_1000 p4 (le_1000 (by decide +kernel)))
  have p5 : Size (qv * tv) (1 / 2) := by obtain ⟨a1, a2⟩ := p3; constructor <;> grind
  have m3 := m2.near p5
  rw [two52] at m3
  have m4 : Near m (Q * T) (8 * ulp) := by
    obtain ⟨a1, a2⟩ := m3
    obtain ⟨b1, b2⟩ := p3
    constructor <;> grind
  have s1 : Size (1 - m) (101 / 100) := by obtain ⟨a1, a2⟩ := m4; constructor <;> grind
  obtain ⟨r, r1, r2⟩ := fv_sub one_fv m1 (size_1000 s1 (le_1000 (by decide +kernel)))
  have r3 := r2.near s1
  rw [two52] at r3
  refine ⟨r, r1, ?_, by grind, by grind⟩
  obtain ⟨a1, a2⟩ := r3
  obtain ⟨b1, b2⟩ := m4
  constructor <;> grind

end Flt
end Go.Proofs.Yteamnfockjnilaa
/-
  Each turn is near the exact one. No program.
-/
set_option linter.unusedVariables false
set_option linter.unusedSimpArgs false
namespace Go.Proofs.Yteamnfockjnilaa
open Go Flt
namespace Flt
open Turn

theorem word_fv {k e r : Nat} (h1 : 4503599627370496 ≤ k) (h2 : k < 9007199254740992) (he : e ≤ 1000) (hr : r = (1074 - e) * 4503599627370496 + k) : Fv (some r) ((k : Rat) / two e) := by
  have e2 : Ieee.double.fractionBits = 52 := by decide
  have e3 : Ieee.double.binade = 4503599627370496 := by decide
  have h0 : k ≠ 0 := by omega
  have hl : k.log2 = 52 := by
    have a1 : k.log2 < 53 := (Nat.log2_lt h0).2 (by omega)
    have a2 : 52 ≤ k.log2 := (Nat.le_log2 h0).2 (by omega)
    omega
  have hv := rung_of (f := Ieee.double) (k := k) (q := lpn - e) h0 (by rw [e3]; omega) (by rw [e2]; unfold lpn; omega)
  rw [e2, e3, hl] at hv
  have er : (lpn - e + 52 - 52) * 4503599627370496 + k * 2 ^ (52 - 52) = r := by rw [hr]; unfold lpn; omega
  rw [er] at hv
  have hlt : r < Ieee.double.infRung := by rw [ir64, hr]; omega
  have hs : two lpn = two e * two (lpn - e) := by rw [← two_add, Nat.add_sub_cancel' (by unfold lpn; omega)]
  have hq : fq r = (k : Rat) / two e := by
    have h3 : fq r = rq r := fq_word false hlt
    rw [h3]
    unfold rq
    rw [hv, Rat.natCast_mul, hs]
    show (k : Rat) * two (lpn - e) / (two e * two (lpn - e)) = _
    have c1 := Rat.mul_inv_cancel _ (Rat.ne_of_gt (two_pos e))
    have c2 := Rat.mul_inv_cancel _ (Rat.ne_of_gt (two_pos (lpn - e)))
    rw [Rat.div_def, Rat.div_def, Rat.inv_mul_rev]; grind
  exact ⟨r, rfl, fin_word false hlt, hq⟩

def tw : Rat := 7074237752028440 / 1125899906842624
theorem twoPi_fv : Fv twoPi tw := by
  have := word_fv (k := 7074237752028440) (e := 50) (r := 4618760256179416344) (by decide) (by decide) (by decide) (by decide)
  exact this
theorem tw_near : Near tw tau (2 * ulp) ∧ 0 ≤ tw ∧ tw ≤ 63 / 10 ∧ 0 ≤ tau ∧ tau ≤ 63 / 10 := by unfold Near; decide +kernel
def hr' : Rat := 6369051672525773 / 9007199254740992
theorem half_fv : Fv halfRoot hr' := by
  have := word_fv (k := 6369051672525773) (e := 53) (r := 4604544271217802189) (by decide) (by decide) (by decide) (by decide)
  exact this
theorem half_near : Near hr' (cq (1 / 8)) ulp ∧ Near hr' (sq (1 / 8)) ulp := by unfold Near cq sq; decide +kernel

theorem arg_near {n k : Nat} (hk : 0 < k) (h8 : 8 * k ≤ n) (hn : n ≤ 1048576) :
    ∃ x, Fv (argO n k) x ∧ Near x (tau * ((k : Rat) / (n : Rat))) (17 / 8 * ulp) ∧ 0 ≤ tau * ((k : Rat) / (n : Rat)) ∧ tau * ((k : Rat) / (n : Rat)) ≤ 4 / 5 := by
  have hu := ulp_val
  have hti := tiny_le
  have ht0 := tiny_pos
  obtain ⟨⟨w1, w2⟩, w3, w4, w5, w6⟩ := tw_near
  have hkF := fv_int_exact (n := (k : Int)) (by omega)
  have hnF := fv_int_exact (n := (n : Int)) (by omega)
  rw [Rat.intCast_natCast] at hkF hnF
  have k1 : (1 : Rat) ≤ (k : Rat) := Rat.natCast_le_natCast.2 hk
  have n1 : (1 : Rat) ≤ (n : Rat) := Rat.natCast_le_natCast.2 (show 1 ≤ n by omega)
  have kn : 8 * (k : Rat) ≤ (n : Rat) := by
    have := Rat.natCast_le_natCast.2 h8
    rwa [Rat.natCast_mul] at this
  have n2 : (n : Rat) ≤ 1048576 := Rat.natCast_le_natCast.2 hn
  have n0 : (0 : Rat) < (n : Rat) := by grind
  have ni := Rat.mul_inv_cancel _ (Rat.ne_of_gt n0)
  have np := Rat.inv_pos.2 n0
  unfold argO
  generalize (k : Rat) = K at *
  generalize (n : Rat) = M at *
  rw [Rat.div_def]
  have hq : 0 ≤ K * M⁻¹ ∧ K * M⁻¹ ≤ 1 / 8 := by
    have a1 := Rat.mul_nonneg (show 0 ≤ K by grind) (Rat.le_of_lt np)
    have a2 := Rat.mul_le_mul_of_nonneg_right kn (Rat.le_of_lt np)
    rw [ni] at a2
    exact ⟨a1, by grind⟩
  have hM1 : M⁻¹ ≤ 1 := by
    have := Rat.mul_le_mul_of_nonneg_right n1 (Rat.le_of_lt np)
    rw [ni] at this; grind
  -- the product
  have p1 : Size (tw * K) (7 * K) := by
    have := (Size.of_nonneg w3 w4).mul (Size.of_nonneg (show 0 ≤ K by grind) Rat.le_refl)
    exact this.mono (by grind)
  have p1b : 7 * K ≤ 1152921504606846976 := by grind
  obtain ⟨p, p2, p3⟩ := fv_mul twoPi_fv hkF (size_1000 p1 (le_1000 p1b))
  have p4 := p3.near p1
  rw [two52] at p4
  have e1 : 7 * K / 4503599627370496 = 7 * K * ulp := by
    have : ulp = 1 / 4503599627370496 := rfl
    rw [this, Rat.div_def, Rat.div_def, Rat.one_mul]
  rw [e1] at p4
  -- divided
  have d1 : Near (p * M⁻¹) (tw * K * M⁻¹) ((7 * K * ulp + tiny) * M⁻¹) := near_mul p4 (Size.of_nonneg (Rat.le_of_lt np) Rat.le_refl)
  obtain ⟨q1, q2⟩ := hq
  obtain ⟨Q, hQ⟩ : ∃ Q, K * M⁻¹ = Q := ⟨_, rfl⟩
  have e2 : tw * K * M⁻¹ = tw * Q := by rw [← hQ]; grind
  have e3 : (7 * K * ulp + tiny) * M⁻¹ = 7 * Q * ulp + tiny * M⁻¹ := by rw [← hQ]; grind
  rw [e2, e3] at d1
  rw [hQ] at q1 q2 ⊢
  have t1 := Rat.mul_le_mul_of_nonneg_left hM1 (Rat.le_of_lt ht0)
  have u0 : 0 ≤ ulp := by decide +kernel
  have qu := Rat.mul_le_mul_of_nonneg_right q2 u0
  have tq : Near (tw * Q) (tau * Q) (2 * ulp * (1 / 8)) := near_mul ⟨w1, w2⟩ (Size.of_nonneg q1 q2)
  have xq : 0 ≤ tau * Q ∧ tau * Q ≤ 63 / 80 := by
    have a1 := Rat.mul_nonneg w5 q1
    have a2 := Rat.mul_le_mul_of_nonneg_left q2 w5
    exact ⟨a1, by grind⟩
  clear e2 e3 e1 w1 w2 w3 w4 w5 w6 p3 p4 k1 kn n1 n2 ni
  have d2 : Near (p * M⁻¹) (tau * Q) (9 / 8 * ulp + tiny) := by
    obtain ⟨a1, a2⟩ := d1
    obtain ⟨b1, b2⟩ := tq
    constructor <;> grind
  obtain ⟨x1, x2⟩ := xq
  have d3 : Size (p * M⁻¹) (4 / 5) := by
    obtain ⟨a1, a2⟩ := d2
    constructor <;> grind
  rw [show p * M⁻¹ = p / M from (Rat.div_def _ _).symm] at d2 d3
  obtain ⟨x, x3, x4⟩ := fv_div p2 hnF (Rat.ne_of_gt n0) (size_1000 d3 (le_1000 (by decide +kernel)))
  have x5 := x4.near d3
  rw [two52] at x5
  refine ⟨x, x3, ?_, x1, by grind⟩
  obtain ⟨a1, a2⟩ := x5
  obtain ⟨b1, b2⟩ := d2
  constructor <;> grind

theorem c_range {j : Nat} (h : j < 9) : (2 ≤ cI (9 - (j : Int)) ∧ cI (9 - (j : Int)) ≤ 400) ∧ (2 ≤ sI (9 - (j : Int)) ∧ sI (9 - (j : Int)) ≤ 400) := by
  have : j = 0 ∨ j = 1 ∨ j = 2 ∨ j = 3 ∨ j = 4 ∨ j = 5 ∨ j = 6 ∨ j = 7 ∨ j = 8 := by omega
  rcases this with rfl | rfl | rfl | rfl | rfl | rfl | rfl | rfl | rfl <;> decide

theorem cosR_near {y : O} {yv Y : Rat} (hy : Fv y yv) (hyn : Near yv Y (5 * ulp)) (hY : 0 ≤ Y ∧ Y ≤ 16 / 25) (j : Nat) (hj : j ≤ 9) :
    ∃ t, Fv (cosR y j) t ∧ Near t (cosT Y j) (10 * ulp) ∧ 0 ≤ cosT Y j ∧ cosT Y j ≤ 1 := by
  induction j with
  | zero => exact ⟨1, one_fv, by show Near 1 1 _; unfold Near; decide +kernel, by show (0 : Rat) ≤ 1; decide, Rat.le_refl⟩
  | succ j ih =>
    obtain ⟨t, t1, t2, t3⟩ := ih (by omega)
    exact round_near hy hyn hY t1 t2 t3 (c_range (by omega)).1
theorem sinR_near {y : O} {yv Y : Rat} (hy : Fv y yv) (hyn : Near yv Y (5 * ulp)) (hY : 0 ≤ Y ∧ Y ≤ 16 / 25) (j : Nat) (hj : j ≤ 9) :
    ∃ t, Fv (sinR y j) t ∧ Near t (sinT Y j) (10 * ulp) ∧ 0 ≤ sinT Y j ∧ sinT Y j ≤ 1 := by
  induction j with
  | zero => exact ⟨1, one_fv, by show Near 1 1 _; unfold Near; decide +kernel, by show (0 : Rat) ≤ 1; decide, Rat.le_refl⟩
  | succ j ih =>
    obtain ⟨t, t1, t2, t3⟩ := ih (by omega)
    exact round_near hy hyn hY t1 t2 t3 (c_range (by omega)).2

theorem ser_near {n k : Nat} (hk : 0 < k) (h8 : 8 * k ≤ n) (hn : n ≤ 1048576) :
    ∃ r s, Fv (serO n k).1 r ∧ Fv (serO n k).2 s ∧ Near r (cq ((k : Rat) / (n : Rat))) (13 * ulp) ∧ Near s (sq ((k : Rat) / (n : Rat))) (13 * ulp) := by
  have hu := ulp_val
  have hti := tiny_le
  have ht0 := tiny_pos
  obtain ⟨x, x1, x2, x3, x4⟩ := arg_near hk h8 hn
  unfold serO
  simp only []
  unfold cq sq
  generalize tau * ((k : Rat) / (n : Rat)) = X at *
  obtain ⟨c1, c2⟩ := cos_short (Size.of_nonneg x3 x4)
  rw [← cosT_eq] at c1
  rw [← sinT_eq] at c2
  have xs : Size x (81 / 100) := by obtain ⟨a1, a2⟩ := x2; constructor <;> grind
  have XX : 0 ≤ X * X ∧ X * X ≤ 16 / 25 := by
    have a1 := Rat.mul_nonneg x3 x3
    have a2 := Rat.mul_le_mul_of_nonneg_left x4 x3
    exact ⟨a1, by grind⟩
  -- the square
  have y1 : Near (x * x) (X * X) (5 * ulp - ulp * (7 / 10) - tiny) := by
    have a1 := near_mul x2 xs
    have a2 := near_mul x2 (Size.of_nonneg x3 x4)
    obtain ⟨b1, b2⟩ := a1
    obtain ⟨b3, b4⟩ := a2
    rw [Rat.mul_comm x X] at b3 b4
    constructor <;> grind
  have y2 : Size (x * x) (7 / 10) := by obtain ⟨a1, a2⟩ := y1; constructor <;> grind
  obtain ⟨yv, y3, y4⟩ := fv_mul x1 x1 (size_1000 y2 (le_1000 (by decide +kernel)))
  have y5 := y4.near y2
  rw [two52] at y5
  have y6 : Near yv (X * X) (5 * ulp) := by
    obtain ⟨a1, a2⟩ := y5
    obtain ⟨b1, b2⟩ := y1
    constructor <;> grind
  obtain ⟨r, r1, r2, -, -⟩ := cosR_near y3 y6 XX 9 (by omega)
  obtain ⟨t, t1, t2, t3, t4⟩ := sinR_near y3 y6 XX 9 (by omega)
  clear y1 y2 y4 y5
  have p1 : Near (t * x) (sinT (X * X) 9 * X) (11 * ulp) := by
    have a1 := near_mul t2 xs
    have a2 := near_mul x2 (Size.of_nonneg t3 t4)
    obtain ⟨b1, b2⟩ := a1
    obtain ⟨b3, b4⟩ := a2
    rw [Rat.mul_comm x, Rat.mul_comm X] at b3 b4
    constructor <;> grind
  have p2 : Size (t * x) 1 := by
    have ts : Size t (101 / 100) := by obtain ⟨a1, a2⟩ := t2; constructor <;> grind
    exact (ts.mul xs).mono (by decide +kernel)
  obtain ⟨s, s1, s2⟩ := fv_mul t1 x1 (size_1000 p2 (le_1000 (by decide +kernel)))
  have s3 := s2.near p2
  rw [two52] at s3
  refine ⟨r, s, r1, s1, ?_, ?_⟩
  · obtain ⟨a1, a2⟩ := c1
    obtain ⟨b1, b2⟩ := r2
    clear x1 x2 x3 x4 c2 xs XX y3 y6 t1 t2 t3 t4 p1 p2 s1 s2 s3 r1
    constructor <;> grind
  · obtain ⟨a1, a2⟩ := c2
    obtain ⟨b1, b2⟩ := s3
    obtain ⟨d1, d2⟩ := p1
    clear x1 x2 x3 x4 c1 xs XX y3 y6 t1 t2 t3 t4 p2 s1 s2 r1 r2
    constructor <;> grind

end Flt
end Go.Proofs.Yteamnfockjnilaa
/-
  Each turn is near the exact one, by the rules. No program.
-/
set_option linter.unusedVariables false
set_option linter.unusedSimpArgs false
namespace Go.Proofs.Yteamnfockjnilaa
open Go Flt
namespace Flt
open Turn

theorem fv_neg {z : O} {q : Rat} (h : Fv z q) : Fv (fneg .f64 z) (-q) := by
  obtain ⟨u, rfl, h1, rfl⟩ := h
  obtain ⟨neg, r, hr, rfl⟩ := fin_parts h1
  have hs : Ieee.double.signWeight = 9223372036854775808 := by decide
  have hr' := hr
  rw [ir64] at hr'
  have e2 : Op.negFloat .f64 (Ieee.double.word neg r) = Ieee.double.word (!neg) r := by
    show Ieee.double.word neg r ^^^ 2 ^ 63 = _
    unfold Ieee.Format.word
    rw [hs]
    cases neg
    · simp only [Bool.false_eq_true, if_false, Bool.not_false, if_true]
      rw [neg64_lo (x := r) (by omega)]; omega
    · simp only [Bool.not_true, Bool.false_eq_true, if_false, if_true]
      rw [neg64_hi (x := 9223372036854775808 + r) (by omega) (by omega)]; omega
  refine ⟨Ieee.double.word (!neg) r, by show some _ = some _; rw [e2], fin_word _ hr, ?_⟩
  rw [fq_word _ hr, fq_word _ hr]
  cases neg
  · rfl
  · simp only [Bool.not_true, Bool.false_eq_true, if_false, if_true]; rw [Rat.neg_neg]

theorem Near.neg {a b e : Rat} (h : Near a b e) : Near (-a) (-b) e := by
  obtain ⟨h1, h2⟩ := h
  constructor <;> grind
theorem Near.trans {a b c e f : Rat} (h : Near a b e) (k : Near b c f) : Near a c (e + f) := by
  obtain ⟨h1, h2⟩ := h
  obtain ⟨k1, k2⟩ := k
  constructor <;> grind
theorem Near.symm {a b e : Rat} (h : Near a b e) : Near b a e := ⟨h.2, h.1⟩
theorem Near.mono {a b e f : Rat} (h : Near a b e) (k : e ≤ f) : Near a b f := ⟨Rat.le_trans h.1 k, Rat.le_trans h.2 k⟩
theorem Near.refl (a : Rat) {e : Rat} (h : 0 ≤ e) : Near a a e := by constructor <;> grind

/-- A turn that is near the exact one. -/
def TurnAt (z : O × O) (q e : Rat) : Prop := ∃ r s, Fv z.1 r ∧ Fv z.2 s ∧ Near r (cq q) e ∧ Near s (sq q) e

theorem part_size {n k : Nat} (hn : 0 < n) (hk : k ≤ n) : Size ((k : Rat) / (n : Rat)) 1 := by
  have n0 : (0 : Rat) < (n : Rat) := Rat.natCast_pos.2 hn
  have h1 := div_le_div n0 (Rat.natCast_le_natCast.2 hk)
  have h2 : (n : Rat) / (n : Rat) = 1 := by rw [Rat.div_def]; exact Rat.mul_inv_cancel _ (Rat.ne_of_gt n0)
  rw [h2] at h1
  refine Size.of_nonneg ?_ h1
  rw [Rat.div_def]
  exact Rat.mul_nonneg Rat.natCast_nonneg (Rat.le_of_lt (Rat.inv_pos.2 n0))

theorem part_red {n k : Nat} (hn : 0 < n) : ((k / n.gcd k : Nat) : Rat) / ((n / n.gcd k : Nat) : Rat) = (k : Rat) / (n : Rat) := by
  have hg : 0 < n.gcd k := Nat.gcd_pos_of_pos_left _ hn
  obtain ⟨a, ha⟩ := Nat.gcd_dvd_left n k
  obtain ⟨b, hb⟩ := Nat.gcd_dvd_right n k
  generalize hG : n.gcd k = g at *
  subst ha hb
  rw [Nat.mul_div_cancel_left _ hg, Nat.mul_div_cancel_left _ hg, Rat.natCast_mul, Rat.natCast_mul]
  have g0 := Rat.mul_inv_cancel _ (Rat.ne_of_gt (Rat.natCast_pos.2 hg))
  rw [Rat.div_def, Rat.div_def, Rat.inv_mul_rev]
  grind

theorem turn_rec (r : Nat) : ∀ n k : Nat, rank n k ≤ r → r ≤ 3 → 0 < n → n * 8 ^ r ≤ 1048576 → k ≤ n → TurnAt (turn n k) ((k : Rat) / (n : Rat)) (13 * ulp + (r : Rat) * (5 * dl)) := by
  have u0 : 0 ≤ ulp := by decide +kernel
  have d0 : 0 ≤ dl := by decide +kernel
  induction r with
  | zero =>
    intro n k hr _ hn hb hk
    rw [turn_red hn, ← part_red hn]
    have hg : 0 < n.gcd k := Nat.gcd_pos_of_pos_left _ hn
    have hn1 : 0 < n / n.gcd k := Nat.div_pos (Nat.le_of_dvd hn (Nat.gcd_dvd_left n k)) hg
    have hn2 : n / n.gcd k ≤ n := Nat.div_le_self _ _
    have hgg : (n / n.gcd k).gcd (k / n.gcd k) = 1 := by
      rw [Nat.gcd_div (Nat.gcd_dvd_left n k) (Nat.gcd_dvd_right n k)]
      exact Nat.div_self hg
    rw [← rank_red hn] at hr
    generalize n / n.gcd k = n1 at *
    generalize k / n.gcd k = k1 at *
    have h8 : 8 * k1 ≤ n1 := by
      apply Classical.byContradiction; intro hc
      unfold rank at hr
      rw [if_neg hc] at hr
      split at hr
      · omega
      · split at hr <;> omega
    rw [show (((0 : Nat) : Rat)) = 0 from rfl, Rat.zero_mul, Rat.add_zero]
    have e13 : ulp ≤ 13 * ulp := by grind
    by_cases h0 : k1 = 0
    · rw [turn_zero hgg h0, h0]
      have : ((0 : Nat) : Rat) / (n1 : Rat) = 0 := by rw [show (((0 : Nat) : Rat)) = 0 from rfl, Rat.div_def, Rat.zero_mul]
      rw [this]
      refine ⟨1, 0, one_fv, zero_fv, ?_, ?_⟩
      · rw [cq_zero.1]; exact Near.refl _ (by grind)
      · rw [cq_zero.2]; exact Near.refl _ (by grind)
    · by_cases he : 8 * k1 = n1
      · rw [turn_eighth hgg h0 (by omega) (by omega) (by omega) he]
        have : (k1 : Rat) / (n1 : Rat) = 1 / 8 := by
          have k0 := Rat.mul_inv_cancel _ (Rat.ne_of_gt (Rat.natCast_pos.2 (Nat.pos_of_ne_zero h0)))
          rw [← he, Rat.natCast_mul, Rat.div_def, Rat.inv_mul_rev, ← Rat.mul_assoc, k0, Rat.one_mul, Rat.div_def, Rat.one_mul]; rfl
        rw [this]
        exact ⟨_, _, half_fv, half_fv, half_near.1.mono e13, half_near.2.mono e13⟩
      · rw [turn_series hgg h0 (by omega) (by omega) (by omega) he]
        exact ser_near (Nat.pos_of_ne_zero h0) h8 (by omega)
  | succ r ih =>
    intro n k hr hr3 hn hb hk
    have hb' : n * 8 ^ r * 8 ≤ 1048576 := by rw [Nat.pow_succ, ← Nat.mul_assoc] at hb; exact hb
    have er : (((r + 1 : Nat) : Rat)) * (5 * dl) = (r : Rat) * (5 * dl) + 5 * dl := by rw [Rat.natCast_add]; show ((r : Rat) + 1) * _ = _; grind
    have elt : 13 * ulp + (r : Rat) * (5 * dl) ≤ 13 * ulp + (((r + 1 : Nat) : Rat)) * (5 * dl) := by rw [er]; grind
    rw [turn_red hn, ← part_red hn]
    have hg : 0 < n.gcd k := Nat.gcd_pos_of_pos_left _ hn
    have hn1 : 0 < n / n.gcd k := Nat.div_pos (Nat.le_of_dvd hn (Nat.gcd_dvd_left n k)) hg
    have hn2 : n / n.gcd k ≤ n := Nat.div_le_self _ _
    have hk1 : k / n.gcd k ≤ n / n.gcd k := Nat.div_le_div_right hk
    have hgg : (n / n.gcd k).gcd (k / n.gcd k) = 1 := by
      rw [Nat.gcd_div (Nat.gcd_dvd_left n k) (Nat.gcd_dvd_right n k)]
      exact Nat.div_self hg
    rw [← rank_red hn] at hr
    have hb1 : n / n.gcd k * 8 ^ r * 8 ≤ 1048576 := Nat.le_trans (Nat.mul_le_mul_right _ (Nat.mul_le_mul_right _ hn2)) hb'
    generalize n / n.gcd k = n1 at *
    generalize k / n.gcd k = k1 at *
    have n0 : (0 : Rat) < (n1 : Rat) := Rat.natCast_pos.2 hn1
    have ni := Rat.mul_inv_cancel _ (Rat.ne_of_gt n0)
    have hsz := part_size hn1 hk1
    by_cases hlow : rank n1 k1 ≤ r
    · obtain ⟨x, y, x1, y1, x2, y2⟩ := ih n1 k1 hlow (by omega) hn1 (by omega) hk1
      exact ⟨x, y, x1, y1, x2.mono elt, y2.mono elt⟩
    · have hr1 : rank n1 k1 = r + 1 := by omega
      have h0 : k1 ≠ 0 := by
        rintro rfl
        unfold rank at hr1
        rw [if_pos (by omega)] at hr1; omega
      unfold rank at hr1
      rw [er, ← Rat.add_assoc]
      by_cases h2 : n1 < 2 * k1
      · rw [turn_two hgg h0 hn1 hk1 h2]
        have hr2 : rank n1 (n1 - k1) ≤ r := by
          rw [if_neg (by omega), if_neg (by omega), if_neg (by omega)] at hr1
          unfold rank
          split <;> (try split) <;> (try split) <;> omega
        obtain ⟨x, y, x1, y1, x2, y2⟩ := ih n1 (n1 - k1) hr2 (by omega) hn1 (by omega) (by omega)
        have e : ((n1 - k1 : Nat) : Rat) / (n1 : Rat) = 1 - (k1 : Rat) / (n1 : Rat) := by
          have h : ((n1 - k1 : Nat) : Rat) + (k1 : Rat) = (n1 : Rat) := by rw [← Rat.natCast_add]; exact congrArg _ (by omega)
          rw [Rat.div_def, Rat.div_def]; grind
        rw [e] at x2 y2
        obtain ⟨m1, m2⟩ := cq_mirror hsz
        refine ⟨x, -y, x1, fv_neg y1, x2.trans m1, ?_⟩
        have := (y2.trans m2).neg
        rwa [Rat.neg_neg] at this
      · by_cases h4 : n1 < 4 * k1
        · rw [turn_four hgg h0 hn1 h2 h4]
          have hr2 : rank (2 * n1) (n1 - 2 * k1) ≤ r := by
            rw [if_neg (by omega), if_neg (by omega), if_pos (by omega)] at hr1
            unfold rank
            split <;> (try split) <;> (try split) <;> omega
          obtain ⟨x, y, x1, y1, x2, y2⟩ := ih (2 * n1) (n1 - 2 * k1) hr2 (by omega) (by omega) (by rw [Nat.mul_assoc]; omega) (by omega)
          have e : ((n1 - 2 * k1 : Nat) : Rat) / ((2 * n1 : Nat) : Rat) = 1 / 2 - (k1 : Rat) / (n1 : Rat) := by
            have h : ((n1 - 2 * k1 : Nat) : Rat) + 2 * (k1 : Rat) = (n1 : Rat) := by
              have h3 : ((2 * k1 : Nat) : Rat) = 2 * (k1 : Rat) := by rw [Rat.natCast_mul]; rfl
              rw [← h3, ← Rat.natCast_add]; exact congrArg _ (by omega)
            rw [Rat.natCast_mul, Rat.div_def, Rat.inv_mul_rev, Rat.div_def]
            show _ * (_ * (2 : Rat)⁻¹) = _
            grind
          rw [e] at x2 y2
          obtain ⟨m1, m2⟩ := cq_opp hsz
          refine ⟨-x, y, fv_neg x1, y1, ?_, y2.trans m2⟩
          have := (x2.trans m1).neg
          rwa [Rat.neg_neg] at this
        · have h8 : n1 < 8 * k1 := by
            apply Nat.lt_of_not_le; intro hc
            rw [if_pos hc] at hr1; omega
          rw [turn_eight hgg h0 hn1 h2 h4 h8]
          have hr2 : rank (4 * n1) (n1 - 4 * k1) ≤ r := by
            rw [if_neg (by omega), if_pos (by omega)] at hr1
            unfold rank
            split <;> (try split) <;> (try split) <;> omega
          obtain ⟨x, y, x1, y1, x2, y2⟩ := ih (4 * n1) (n1 - 4 * k1) hr2 (by omega) (by omega) (by rw [Nat.mul_assoc]; omega) (by omega)
          have e : ((n1 - 4 * k1 : Nat) : Rat) / ((4 * n1 : Nat) : Rat) = 1 / 4 - (k1 : Rat) / (n1 : Rat) := by
            have h : ((n1 - 4 * k1 : Nat) : Rat) + 4 * (k1 : Rat) = (n1 : Rat) := by
              have h3 : ((4 * k1 : Nat) : Rat) = 4 * (k1 : Rat) := by rw [Rat.natCast_mul]; rfl
              rw [← h3, ← Rat.natCast_add]; exact congrArg _ (by omega)
            rw [Rat.natCast_mul, Rat.div_def, Rat.inv_mul_rev, Rat.div_def]
            show _ * (_ * (4 : Rat)⁻¹) = _
            grind
          rw [e] at x2 y2
          obtain ⟨m1, m2⟩ := cq_quart hsz
          exact ⟨y, x, y1, x1, y2.trans m2, x2.trans m1⟩

/-- EACH TURN IS NEAR THE EXACT ONE. -/
theorem turn_near {n k : Nat} (hn : 0 < n) (hn2 : n ≤ 2048) (hk : k ≤ n) : TurnAt (turn n k) ((k : Rat) / (n : Rat)) (14 * ulp) := by
  obtain ⟨x, y, x1, y1, x2, y2⟩ := turn_rec 3 n k (rank_le n k) (Nat.le_refl _) hn (by omega) hk
  have e : 13 * ulp + (((3 : Nat) : Rat)) * (5 * dl) ≤ 14 * ulp := by decide +kernel
  exact ⟨x, y, x1, y1, x2.mono e, y2.mono e⟩

end Flt
end Go.Proofs.Yteamnfockjnilaa
