import Derived.Test.YtgolfdngpphndaaPSum
/-
  Cosines and sines as sums of rational numbers, and how they are added. No program.
-/
set_option linter.unusedVariables false
set_option linter.unusedSimpArgs false
namespace Go.Proofs.Ytgolfdngpphndaa
open Go Flt
namespace Flt

theorem Size.mul {x y A B : Rat} (hx : Size x A) (hy : Size y B) : Size (x * y) (A * B) := by
  obtain ⟨x1, x2⟩ := hx
  obtain ⟨y1, y2⟩ := hy
  have a1 : 0 ≤ (A - x) * (B - y) := Rat.mul_nonneg (by grind) (by grind)
  have a2 : 0 ≤ (A + x) * (B + y) := Rat.mul_nonneg (by grind) (by grind)
  have a3 : 0 ≤ (A - x) * (B + y) := Rat.mul_nonneg (by grind) (by grind)
  have a4 : 0 ≤ (A + x) * (B - y) := Rat.mul_nonneg (by grind) (by grind)
  constructor <;> grind
theorem Size.add {x y A B : Rat} (hx : Size x A) (hy : Size y B) : Size (x + y) (A + B) := by
  obtain ⟨x1, x2⟩ := hx
  obtain ⟨y1, y2⟩ := hy
  constructor <;> grind
theorem Size.sub {x y A B : Rat} (hx : Size x A) (hy : Size y B) : Size (x - y) (A + B) := by
  obtain ⟨x1, x2⟩ := hx
  obtain ⟨y1, y2⟩ := hy
  constructor <;> grind
theorem Size.neg {x A : Rat} (hx : Size x A) : Size (-x) A := by
  obtain ⟨x1, x2⟩ := hx
  constructor <;> grind
theorem Size.mono {x A B : Rat} (hx : Size x A) (h : A ≤ B) : Size x B := ⟨Rat.le_trans hx.1 h, Rat.le_trans hx.2 h⟩
theorem Size.nonneg {x A : Rat} (hx : Size x A) : 0 ≤ A := by obtain ⟨x1, x2⟩ := hx; grind
theorem Size.of_nonneg {x A : Rat} (h0 : 0 ≤ x) (h : x ≤ A) : Size x A := ⟨h, by grind⟩
theorem near_size {x y e : Rat} : Near x y e ↔ Size (x - y) e := by
  unfold Near Size
  constructor
  · rintro ⟨h1, h2⟩; exact ⟨h1, by grind⟩
  · rintro ⟨h1, h2⟩; exact ⟨h1, by grind⟩

theorem psum_front (p : Nat → Rat) (n : Nat) : psum p (n + 1) = p 0 + psum (fun i => p (i + 1)) n := by
  induction n with
  | zero => show (0 : Rat) + p 0 = p 0 + 0; grind
  | succ n ih => rw [psum_succ, ih, psum_succ]; grind
theorem psum_add (p q : Nat → Rat) (n : Nat) : psum (fun i => p i + q i) n = psum p n + psum q n := by
  induction n with
  | zero => show (0 : Rat) = 0 + 0; grind
  | succ n ih => rw [psum_succ, psum_succ, psum_succ, ih]; grind
theorem psum_sub (p q : Nat → Rat) (n : Nat) : psum (fun i => p i - q i) n = psum p n - psum q n := by
  induction n with
  | zero => show (0 : Rat) = 0 - 0; grind
  | succ n ih => rw [psum_succ, psum_succ, psum_succ, ih]; grind
theorem psum_lmul (c : Rat) (p : Nat → Rat) (n : Nat) : psum (fun i => c * p i) n = c * psum p n := by
  induction n with
  | zero => show (0 : Rat) = c * 0; grind
  | succ n ih => rw [psum_succ, psum_succ, ih]; grind
theorem psum_split (p : Nat → Rat) (a b : Nat) : psum p (a + b) = psum p a + psum (fun j => p (a + j)) b := by
  induction b with
  | zero => show psum p a = psum p a + 0; grind
  | succ b ih => rw [← Nat.add_assoc, psum_succ, ih, psum_succ]; grind
theorem psum_size {p : Nat → Rat} {B : Rat} {n : Nat} (h : ∀ i, i < n → Size (p i) B) : Size (psum p n) ((n : Rat) * B) := by
  induction n with
  | zero => rw [show ((0 : Nat) : Rat) = 0 from rfl, Rat.zero_mul]; exact ⟨Rat.le_refl, by show -(0 : Rat) ≤ 0; grind⟩
  | succ n ih =>
    have h1 := (ih fun i hi => h i (by omega)).add (h n (by omega))
    rw [psum_succ, Rat.natCast_add, show ((1 : Nat) : Rat) = 1 from rfl, show ((n : Rat) + 1) * B = (n : Rat) * B + B by grind]
    exact h1
theorem psum_psum (p q : Nat → Rat) (n m : Nat) : psum p n * psum q m = psum (fun i => psum (fun j => p i * q j) m) n := by
  induction n with
  | zero => exact Rat.zero_mul _
  | succ n ih => rw [psum_succ, psum_succ, ← ih, psum_lmul]; grind

/-- t to the power j, divided by j!. -/
def ex (t : Rat) : Nat → Rat
  | 0 => 1
  | j + 1 => ex t j * t / ((j + 1 : Nat) : Rat)

theorem cast_succ_pos (j : Nat) : (0 : Rat) < ((j + 1 : Nat) : Rat) := Rat.natCast_pos.2 (Nat.succ_pos j)
theorem ex_succ (t : Rat) (j : Nat) : ex t (j + 1) * ((j + 1 : Nat) : Rat) = ex t j * t :=
  Rat.div_mul_cancel (Rat.ne_of_gt (cast_succ_pos j))

theorem ex_nonneg {t : Rat} (h : 0 ≤ t) (j : Nat) : 0 ≤ ex t j := by
  induction j with
  | zero => show (0 : Rat) ≤ 1; decide
  | succ j ih =>
    show 0 ≤ ex t j * t / _
    rw [Rat.div_def]
    exact Rat.mul_nonneg (Rat.mul_nonneg ih h) (Rat.le_of_lt (Rat.inv_pos.2 (cast_succ_pos j)))
theorem ex_size {t a : Rat} (h : Size t a) (j : Nat) : Size (ex t j) (ex a j) := by
  induction j with
  | zero => exact ⟨Rat.le_refl, by show -(1 : Rat) ≤ 1; decide⟩
  | succ j ih =>
    show Size (ex t j * t / _) (ex a j * a / _)
    rw [Rat.div_def, Rat.div_def]
    exact (ih.mul h).mul (Size.of_nonneg (Rat.le_of_lt (Rat.inv_pos.2 (cast_succ_pos j))) Rat.le_refl)
theorem ex_mono {s t : Rat} (h0 : 0 ≤ s) (h : s ≤ t) (j : Nat) : ex s j ≤ ex t j := (ex_size (Size.of_nonneg h0 h) j).1
theorem ex_down {t : Rat} {N : Nat} (h0 : 0 ≤ t) (hN : t ≤ (N : Rat)) (d : Nat) : ex t (N + d) ≤ ex t N := by
  induction d with
  | zero => exact Rat.le_refl
  | succ d ih =>
    refine Rat.le_trans ?_ ih
    have h1 := ex_succ t (N + d)
    have h2 := ex_nonneg h0 (N + d)
    have h3 := ex_nonneg h0 (N + d + 1)
    have h4 : (N : Rat) ≤ ((N + d + 1 : Nat) : Rat) := Rat.natCast_le_natCast.2 (by omega)
    have hp := cast_succ_pos (N + d)
    show ex t (N + d + 1) ≤ ex t (N + d)
    refine Rat.le_of_mul_le_mul_right ?_ hp
    rw [h1]
    exact Rat.mul_le_mul_of_nonneg_left (Rat.le_trans hN h4) h2

/-- Powers of a sum. -/
def conv (a b : Rat) (m : Nat) : Rat := psum (fun i => ex a i * ex b (m - i)) (m + 1)
theorem conv_eq (a b : Rat) (m : Nat) : conv a b m = ex (a + b) m := by
  induction m with
  | zero => show (0 : Rat) + 1 * 1 = 1; grind
  | succ m ih =>
    have hp := cast_succ_pos m
    have key : conv a b (m + 1) * ((m + 1 : Nat) : Rat) = (a + b) * conv a b m := by
      have e1 : conv a b (m + 1) * ((m + 1 : Nat) : Rat) = psum (fun i => (i : Rat) * (ex a i * ex b (m + 1 - i)) + ((m + 1 - i : Nat) : Rat) * (ex a i * ex b (m + 1 - i))) (m + 1 + 1) := by
        unfold conv
        rw [← psum_mul]
        refine psum_congr fun i hi => ?_
        have : ((m + 1 : Nat) : Rat) = (i : Rat) + ((m + 1 - i : Nat) : Rat) := by
          rw [← Rat.natCast_add]
          have : m + 1 = i + (m + 1 - i) := by omega
          exact congrArg _ this
        rw [this]; grind
      rw [e1, psum_add, psum_front (fun i => (i : Rat) * (ex a i * ex b (m + 1 - i))), psum_succ (fun i => ((m + 1 - i : Nat) : Rat) * (ex a i * ex b (m + 1 - i)))]
      have e2 : psum (fun i => (((i + 1 : Nat) : Rat)) * (ex a (i + 1) * ex b (m + 1 - (i + 1)))) (m + 1) = a * conv a b m := by
        unfold conv
        rw [← psum_lmul]
        refine psum_congr fun i hi => ?_
        have h1 := ex_succ a i
        rw [show m + 1 - (i + 1) = m - i by omega]
        generalize ex b (m - i) = y
        generalize ((i + 1 : Nat) : Rat) = z at *
        grind
      have e3 : psum (fun i => ((m + 1 - i : Nat) : Rat) * (ex a i * ex b (m + 1 - i))) (m + 1) = b * conv a b m := by
        unfold conv
        rw [← psum_lmul]
        refine psum_congr fun i hi => ?_
        have h1 := ex_succ b (m - i)
        rw [show m + 1 - i = m - i + 1 by omega]
        generalize ex a i = y
        generalize ((m - i + 1 : Nat) : Rat) = z at *
        grind
      rw [e2, e3, Nat.sub_self]
      rw [show ((0 : Nat) : Rat) = 0 from rfl]
      grind
    have h2 := ex_succ (a + b) m
    rw [ih] at key
    have h3 : conv a b (m + 1) * ((m + 1 : Nat) : Rat) = ex (a + b) (m + 1) * ((m + 1 : Nat) : Rat) := by rw [key, h2]; grind
    have h4 := Rat.mul_inv_cancel _ (Rat.ne_of_gt hp)
    generalize ((m + 1 : Nat) : Rat) = z at *
    have h5 : conv a b (m + 1) * z * z⁻¹ = ex (a + b) (m + 1) * z * z⁻¹ := by rw [h3]
    rw [Rat.mul_assoc, Rat.mul_assoc, h4, Rat.mul_one, Rat.mul_one] at h5
    exact h5

/-- A sum over a triangle, by rows and by diagonals. -/
theorem tri_sum (f : Nat → Nat → Rat) (N : Nat) : psum (fun i => psum (f i) (N - i)) N = psum (fun m => psum (fun i => f i (m - i)) (m + 1)) N := by
  induction N with
  | zero => rfl
  | succ N ih =>
    rw [psum_succ (fun m => psum (fun i => f i (m - i)) (m + 1)), ← ih]
    have e1 : psum (fun i => psum (f i) (N + 1 - i)) (N + 1) = psum (fun i => psum (f i) (N - i) + f i (N - i)) (N + 1) :=
      psum_congr fun i hi => by rw [show N + 1 - i = (N - i) + 1 by omega, psum_succ]
    rw [e1, psum_add, psum_succ (fun i => psum (f i) (N - i)), Nat.sub_self]
    show psum _ N + 0 + _ = _
    grind
/-- A sum over a square is near that over its half, if what is in the other half is small. -/
theorem sq_sum {f : Nat → Nat → Rat} {N : Nat} {B : Rat} (h : ∀ i j, i < N → j < N → N ≤ i + j → Size (f i j) B) (hB : 0 ≤ B) :
    Near (psum (fun i => psum (f i) N) N) (psum (fun m => psum (fun i => f i (m - i)) (m + 1)) N) ((N : Rat) * ((N : Rat) * B)) := by
  rw [near_size, ← tri_sum, ← psum_sub]
  refine psum_size fun i hi => ?_
  have e : psum (f i) N = psum (f i) (N - i) + psum (fun j => f i (N - i + j)) i := by
    rw [← psum_split]
    have : N = N - i + i := by omega
    exact congrArg _ this
  rw [e, show ∀ x y : Rat, x + y - x = y from fun x y => by grind]
  refine (psum_size (B := B) fun j hj => h i (N - i + j) hi (by omega) (by omega)).mono ?_
  exact Rat.mul_le_mul_of_nonneg_right (Rat.natCast_le_natCast.2 (by omega)) hB

/-- The signs of the terms. -/
def sgC (j : Nat) : Rat := if j % 4 = 0 then 1 else if j % 4 = 2 then -1 else 0
def sgS (j : Nat) : Rat := if j % 4 = 1 then 1 else if j % 4 = 3 then -1 else 0
theorem sg_size (j : Nat) : Size (sgC j) 1 ∧ Size (sgS j) 1 := by
  unfold sgC sgS
  constructor <;> (split <;> (try split)) <;> constructor <;> decide +kernel
theorem sg_add (i j : Nat) : sgC i * sgC j - sgS i * sgS j = sgC (i + j) ∧ sgS i * sgC j + sgC i * sgS j = sgS (i + j) := by
  have h1 : i % 4 = 0 ∨ i % 4 = 1 ∨ i % 4 = 2 ∨ i % 4 = 3 := by omega
  have h2 : j % 4 = 0 ∨ j % 4 = 1 ∨ j % 4 = 2 ∨ j % 4 = 3 := by omega
  unfold sgC sgS
  rw [Nat.add_mod]
  rcases h1 with h1 | h1 | h1 | h1 <;> rcases h2 with h2 | h2 | h2 | h2 <;> rw [h1, h2] <;> constructor <;> decide +kernel

def cosN (N : Nat) (t : Rat) : Rat := psum (fun j => sgC j * ex t j) N
def sinN (N : Nat) (t : Rat) : Rat := psum (fun j => sgS j * ex t j) N

/-- HOW COSINES AND SINES ARE ADDED. -/
theorem cis_add {a b A B : Rat} {N : Nat} (ha : Size a A) (hb : Size b B) (hN : A + B ≤ (N : Rat)) :
    Near (cosN N a * cosN N b - sinN N a * sinN N b) (cosN N (a + b)) ((N : Rat) * ((N : Rat) * ex (A + B) N)) ∧
    Near (sinN N a * cosN N b + cosN N a * sinN N b) (sinN N (a + b)) ((N : Rat) * ((N : Rat) * ex (A + B) N)) := by
  have hA := ha.nonneg
  have hB := hb.nonneg
  have hAB : 0 ≤ A + B := Rat.add_nonneg hA hB
  have hex : 0 ≤ ex (A + B) N := ex_nonneg hAB N
  -- each product is small where the places add up to N
  have small : ∀ g : Nat → Rat, (∀ m, Size (g m) 1) → ∀ i j, i < N → j < N → N ≤ i + j → Size (g (i + j) * (ex a i * ex b j)) (ex (A + B) N) := by
    intro g hg i j hi hj hij
    have h1 := (hg (i + j)).mul ((ex_size ha i).mul (ex_size hb j))
    refine h1.mono ?_
    rw [Rat.one_mul]
    have h2 : ex A i * ex B (i + j - i) ≤ conv A B (i + j) :=
      psum_term (p := fun l => ex A l * ex B (i + j - l)) (n := i + j + 1) (fun l _ => Rat.mul_nonneg (ex_nonneg hA _) (ex_nonneg hB _)) (by omega)
    rw [show i + j - i = j by omega, conv_eq] at h2
    have h3 := ex_down hAB hN (i + j - N)
    rw [show N + (i + j - N) = i + j by omega] at h3
    exact Rat.le_trans h2 h3
  have diag : ∀ g : Nat → Rat, psum (fun m => psum (fun i => g (i + (m - i)) * (ex a i * ex b (m - i))) (m + 1)) N = psum (fun m => g m * ex (a + b) m) N := by
    intro g
    refine psum_congr fun m hm => ?_
    rw [← conv_eq]
    unfold conv
    rw [← psum_lmul]
    exact psum_congr fun i hi => by rw [show i + (m - i) = m by omega]
  unfold cosN sinN
  constructor
  · rw [← diag sgC]
    have e : psum (fun j => sgC j * ex a j) N * psum (fun j => sgC j * ex b j) N - psum (fun j => sgS j * ex a j) N * psum (fun j => sgS j * ex b j) N = psum (fun i => psum (fun j => sgC (i + j) * (ex a i * ex b j)) N) N := by
      rw [psum_psum, psum_psum, ← psum_sub]
      refine psum_congr fun i hi => ?_
      rw [← psum_sub]
      refine psum_congr fun j hj => ?_
      rw [← (sg_add i j).1]; grind
    rw [e]
    exact sq_sum (f := fun i j => sgC (i + j) * (ex a i * ex b j)) (small sgC fun m => (sg_size m).1) hex
  · rw [← diag sgS]
    have e : psum (fun j => sgS j * ex a j) N * psum (fun j => sgC j * ex b j) N + psum (fun j => sgC j * ex a j) N * psum (fun j => sgS j * ex b j) N = psum (fun i => psum (fun j => sgS (i + j) * (ex a i * ex b j)) N) N := by
      rw [psum_psum, psum_psum, ← psum_add]
      refine psum_congr fun i hi => ?_
      rw [← psum_add]
      refine psum_congr fun j hj => ?_
      rw [← (sg_add i j).2]; grind
    rw [e]
    exact sq_sum (f := fun i j => sgS (i + j) * (ex a i * ex b j)) (small sgS fun m => (sg_size m).2) hex

end Flt
end Go.Proofs.Ytgolfdngpphndaa
