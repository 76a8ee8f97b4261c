import Derived.Test.YtpobbicbfnglaaaFvV
/-
  Sums of rational numbers; sums of floats that are near. No program.
-/
set_option linter.unusedVariables false
set_option linter.unusedSimpArgs false
namespace Go.Proofs.Ytpobbicbfnglaaa
open Go Flt
namespace Flt

theorem psum_succ (p : Nat → Rat) (n : Nat) : psum p (n + 1) = psum p n + p n := rfl
theorem psum_congr {p q : Nat → Rat} {n : Nat} (h : ∀ i, i < n → p i = q i) : psum p n = psum q n := by
  induction n with
  | zero => rfl
  | succ n ih => rw [psum_succ, psum_succ, ih fun i hi => h i (by omega), h n (by omega)]
theorem psum_nonneg {p : Nat → Rat} {n : Nat} (h : ∀ i, i < n → 0 ≤ p i) : 0 ≤ psum p n := by
  induction n with
  | zero => exact Rat.le_refl
  | succ n ih => rw [psum_succ]; exact Rat.add_nonneg (ih fun i hi => h i (by omega)) (h n (by omega))
theorem psum_mono {p : Nat → Rat} {m n : Nat} (h : ∀ i, i < n → 0 ≤ p i) (hm : m ≤ n) : psum p m ≤ psum p n := by
  induction n with
  | zero => rw [show m = 0 by omega]; exact Rat.le_refl
  | succ n ih =>
    by_cases hmn : m = n + 1
    · rw [hmn]; exact Rat.le_refl
    · have h1 := ih (fun i hi => h i (by omega)) (by omega)
      have h2 := h n (by omega)
      rw [psum_succ]; grind
theorem psum_term {p : Nat → Rat} {n t : Nat} (h : ∀ i, i < n → 0 ≤ p i) (ht : t < n) : p t ≤ psum p n := by
  have h1 := psum_mono (m := t + 1) h (by omega)
  have h2 := psum_nonneg (p := p) (n := t) fun i hi => h i (by omega)
  rw [psum_succ] at h1; grind
theorem psum_mul (p : Nat → Rat) (c : Rat) (n : Nat) : psum (fun i => p i * c) n = psum p n * c := by
  induction n with
  | zero => exact (Rat.zero_mul _).symm
  | succ n ih => rw [psum_succ, psum_succ, ih]; grind

/-- Sums of numbers that are known nearly. -/
theorem sumO_near {z : Nat → Option Nat} {r p : Nat → Rat} {e B : Rat} {n : Nat} (hz : ∀ i, i < n → Fv (z i) (r i)) (hr : ∀ i, i < n → Near (r i) (p i) e)
    (he : 0 ≤ e) (hB : B ≤ two 1000) (hB0 : 0 ≤ B) (hs : ∀ k, k < n → Size (psum p (k + 1)) (B - ((k : Rat) + 1) * (e + (B / two 52 + tiny)))) (hn : 0 < n) :
    ∃ s, Fv (sumO z n) s ∧ Near s (psum p n) ((n : Rat) * (e + (B / two 52 + tiny))) := by
  have hd0 : 0 ≤ B / two 52 + tiny := by
    have h1 : 0 ≤ B / two 52 := by rw [Rat.div_def]; exact Rat.mul_nonneg hB0 (Rat.le_of_lt (Rat.inv_pos.2 (two_pos _)))
    exact Rat.add_nonneg h1 (Rat.le_of_lt tiny_pos)
  generalize hd : B / two 52 + tiny = d at *
  induction n with
  | zero => omega
  | succ n ih =>
    by_cases h0 : n = 0
    · subst h0
      refine ⟨r 0, hz 0 (by omega), ?_⟩
      have h1 := hr 0 (by omega)
      show Near (r 0) (0 + p 0) (((0 + 1 : Nat) : Rat) * (e + d))
      rw [Rat.zero_add, show ((0 + 1 : Nat) : Rat) = 1 from rfl, Rat.one_mul]
      unfold Near at *
      grind
    · obtain ⟨s, h1, h2⟩ := ih (fun i hi => hz i (by omega)) (fun i hi => hr i (by omega)) (by omega) (fun k hk => hs k (by omega))
      have h3 := hs n (by omega)
      have h4 := hr n (by omega)
      have ec : ((n + 1 : Nat) : Rat) = (n : Rat) + 1 := by rw [Rat.natCast_add]; rfl
      have hX : ((n : Rat) + 1) * (e + d) = (n : Rat) * (e + d) + (e + d) := by grind
      have hsz : Size (s + r n) B := by
        rw [psum_succ, hX] at h3
        obtain ⟨a1, a2⟩ := h2
        obtain ⟨b1, b2⟩ := h3
        obtain ⟨c1, c2⟩ := h4
        generalize (n : Rat) * (e + d) = X at *
        clear hs hr hz ih hd hX
        constructor <;> grind
      obtain ⟨t, h5, h6⟩ := fv_add h1 (hz n (by omega)) ⟨Rat.le_trans hsz.1 hB, Rat.le_trans hsz.2 hB⟩
      refine ⟨t, ?_, ?_⟩
      · unfold sumO; rw [if_neg h0]; exact h5
      · have h7 := h6.near hsz
        rw [hd] at h7
        rw [ec, psum_succ, hX]
        obtain ⟨a1, a2⟩ := h2
        obtain ⟨b1, b2⟩ := h7
        obtain ⟨c1, c2⟩ := h4
        generalize (n : Rat) * (e + d) = X at *
        clear hs hr hz ih hd hX h3 hsz h5 h6
        constructor <;> grind

end Flt
end Go.Proofs.Ytpobbicbfnglaaa
