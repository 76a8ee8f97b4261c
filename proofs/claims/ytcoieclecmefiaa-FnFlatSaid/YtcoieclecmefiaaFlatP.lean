import Derived.Test.YtcoieclecmefiaaFvV
import Derived.Test.YtcoieclecmefiaaWinL
import Derived.Test.YtcoieclecmefiaaWinH
/-
  The numbers of FnFlat: exact sums, quotients that add up to 1 nearly.
-/
set_option linter.unusedVariables false
set_option linter.unusedSimpArgs false
namespace Go.Proofs.Ytcoieclecmefiaa
open Go Flt
namespace Flt

theorem psum_succ (p : Nat → Rat) (n : Nat) : psum p (n + 1) = psum p n + p n := rfl
theorem psum_congr {p q : Nat → Rat} {n : Nat} (h : ∀ i, i < n → p i = q i) : psum p n = psum q n := by
  induction n with
  | zero => rfl
  | succ n ih => rw [psum_succ, psum_succ, ih fun i hi => h i (by omega), h n (by omega)]
theorem psum_nonneg {p : Nat → Rat} {n : Nat} (h : ∀ i, i < n → 0 ≤ p i) : 0 ≤ psum p n := by
  induction n with
  | zero => exact Rat.le_refl
  | succ n ih => rw [psum_succ]; exact Rat.add_nonneg (ih fun i hi => h i (by omega)) (h n (by omega))
theorem psum_mono {p : Nat → Rat} {m n : Nat} (h : ∀ i, i < n → 0 ≤ p i) (hm : m ≤ n) : psum p m ≤ psum p n := by
  induction n with
  | zero => rw [show m = 0 by omega]; exact Rat.le_refl
  | succ n ih =>
    by_cases hmn : m = n + 1
    · rw [hmn]; exact Rat.le_refl
    · have h1 := ih (fun i hi => h i (by omega)) (by omega)
      have h2 := h n (by omega)
      rw [psum_succ]; grind
theorem psum_term {p : Nat → Rat} {n t : Nat} (h : ∀ i, i < n → 0 ≤ p i) (ht : t < n) : p t ≤ psum p n := by
  have h1 := psum_mono (m := t + 1) h (by omega)
  have h2 := psum_nonneg (p := p) (n := t) fun i hi => h i (by omega)
  rw [psum_succ] at h1; grind
theorem psum_mul (p : Nat → Rat) (c : Rat) (n : Nat) : psum (fun i => p i * c) n = psum p n * c := by
  induction n with
  | zero => exact (Rat.zero_mul _).symm
  | succ n ih => rw [psum_succ, psum_succ, ih]; grind

/-- Sums of numbers that are known nearly. -/
theorem sumO_near {z : Nat → Option Nat} {r p : Nat → Rat} {e B : Rat} {n : Nat} (hz : ∀ i, i < n → Fv (z i) (r i)) (hr : ∀ i, i < n → Near (r i) (p i) e)
    (he : 0 ≤ e) (hB : B ≤ two 1000) (hB0 : 0 ≤ B) (hs : ∀ k, k < n → Size (psum p (k + 1)) (B - ((k : Rat) + 1) * (e + (B / two 52 + tiny)))) (hn : 0 < n) :
    ∃ s, Fv (sumO z n) s ∧ Near s (psum p n) ((n : Rat) * (e + (B / two 52 + tiny))) := by
  have hd0 : 0 ≤ B / two 52 + tiny := by
    have h1 : 0 ≤ B / two 52 := by rw [Rat.div_def]; exact Rat.mul_nonneg hB0 (Rat.le_of_lt (Rat.inv_pos.2 (two_pos _)))
    exact Rat.add_nonneg h1 (Rat.le_of_lt tiny_pos)
  generalize hd : B / two 52 + tiny = d at *
  induction n with
  | zero => omega
  | succ n ih =>
    by_cases h0 : n = 0
    · subst h0
      refine ⟨r 0, hz 0 (by omega), ?_⟩
      have h1 := hr 0 (by omega)
      show Near (r 0) (0 + p 0) (((0 + 1 : Nat) : Rat) * (e + d))
      rw [Rat.zero_add, show ((0 + 1 : Nat) : Rat) = 1 from rfl, Rat.one_mul]
      unfold Near at *
      grind
    · obtain ⟨s, h1, h2⟩ := ih (fun i hi => hz i (by omega)) (fun i hi => hr i (by omega)) (by omega) (fun k hk => hs k (by omega))
      have h3 := hs n (by omega)
      have h4 := hr n (by omega)
      have ec : ((n + 1 : Nat) : Rat) = (n : Rat) + 1 := by rw [Rat.natCast_add]; rfl
      have hX : ((n : Rat) + 1) * (e + d) = (n : Rat) * (e + d) + (e + d) := by grind
      have hsz : Size (s + r n) B := by
        rw [psum_succ, hX] at h3
        obtain ⟨a1, a2⟩ := h2
        obtain ⟨b1, b2⟩ := h3
        obtain ⟨c1, c2⟩ := h4
        generalize (n : Rat) * (e + d) = X at *
        clear hs hr hz ih hd hX
        constructor <;> grind
      obtain ⟨t, h5, h6⟩ := fv_add h1 (hz n (by omega)) ⟨Rat.le_trans hsz.1 hB, Rat.le_trans hsz.2 hB⟩
      refine ⟨t, ?_, ?_⟩
      · unfold sumO; rw [if_neg h0]; exact h5
      · have h7 := h6.near hsz
        rw [hd] at h7
        rw [ec, psum_succ, hX]
        obtain ⟨a1, a2⟩ := h2
        obtain ⟨b1, b2⟩ := h7
        obtain ⟨c1, c2⟩ := h4
        generalize (n : Rat) * (e + d) = X at *
        clear hs hr hz ih hd hX h3 hsz h5 h6
        constructor <;> grind

/-- A list of exact floats and their values. -/
structure FvL (zs : List (Option Nat)) (qs : List Rat) (e K : Nat) : Prop where
  len : zs.length = qs.length
  good : ∀ i, i < zs.length → Fv (zs.getD i none) (qs.getD i 0) ∧ Dy e K (qs.getD i 0)

def lsum : List Rat → Rat
  | [] => 0
  | q :: qs => q + lsum qs
theorem lsum_app (qs : List Rat) (q : Rat) : lsum (qs ++ [q]) = lsum qs + q := by
  induction qs with
  | nil => show q + 0 = 0 + q; grind
  | cons a qs ih => show a + lsum (qs ++ [q]) = a + lsum qs + q; rw [ih]; grind
theorem lsum_set (qs : List Rat) (k : Nat) (q : Rat) (h : k < qs.length) : lsum (qs.set k (qs.getD k 0 + q)) = lsum qs + q := by
  induction qs generalizing k with
  | nil => simp at h
  | cons a qs ih =>
    cases k with
    | zero => show a + q + lsum qs = a + lsum qs + q; grind
    | succ k =>
      show a + lsum (qs.set k (qs.getD k 0 + q)) = a + lsum qs + q
      rw [ih k (by simpa using h)]; grind
theorem lsum_addAt (qs : List Rat) (k : Nat) (q : Rat) : lsum (addAt (· + ·) 0 qs k q) = lsum qs + q := by
  unfold addAt
  split
  · rename_i h; exact lsum_set qs k q h
  · exact lsum_app qs q
theorem lsum_addBlk (qs : List Rat) (f : Nat) (q : Nat → Rat) (m : Nat) : lsum (addBlk (· + ·) 0 qs f q m) = lsum qs + psum q m := by
  induction m with
  | zero => show lsum qs = lsum qs + 0; grind
  | succ m ih => show lsum (addAt _ _ _ _ _) = _; rw [lsum_addAt, ih, psum_succ]; grind
theorem lsum_addAll (q : Nat → Rat) (n h b : Nat) : lsum (addAll (· + ·) 0 (fun _ => q) (fun _ => n) h b) = (b : Rat) * psum q n := by
  induction b with
  | zero => show (0 : Rat) = ((0 : Nat) : Rat) * _; rw [show ((0 : Nat) : Rat) = 0 from rfl, Rat.zero_mul]
  | succ b ih =>
    show lsum (addBlk _ _ _ _ _ _) = _
    rw [lsum_addBlk, ih, Rat.natCast_add]
    show _ = ((b : Rat) + 1) * _
    grind
theorem psum_getD (qs : List Rat) : psum (fun i => qs.getD i 0) qs.length = lsum qs := by
  suffices h : ∀ (n : Nat) (f : Nat → Rat) (qs : List Rat), qs.length = n → (∀ i, i < n → f i = qs.getD i 0) → psum f n = lsum qs from h _ _ qs rfl fun _ _ => rfl
  intro n
  induction n with
  | zero => intro f qs hl _; have : qs = [] := List.length_eq_zero_iff.1 hl; subst this; rfl
  | succ n ih =>
    intro f qs hl hf
    obtain ⟨ys, y, rfl⟩ : ∃ ys y, qs = ys ++ [y] := ⟨qs.dropLast, qs.getLast (by intro h; subst h; simp at hl), (List.dropLast_concat_getLast _).symm⟩
    have hyl : ys.length = n := by simpa using hl
    rw [lsum_app, psum_succ]
    rw [ih f ys hyl fun i hi => by rw [hf i (by omega)]; simp [List.getD, List.getElem?_append_left, hyl, hi], hf n (by omega)]
    simp [List.getD, ← hyl]

theorem FvL.addAt {zs : List (Option Nat)} {qs : List Rat} {e K L : Nat} (h : FvL zs qs e K) (k : Nat) {z : Option Nat} {q : Rat} (hz : Fv z q) (hq : Dy e L q) (hK : K + L < 2 ^ 53) (he : e ≤ 1000) :
    FvL (addAt addO none zs k z) (addAt (· + ·) 0 qs k q) e (K + L) := by
  unfold Go.Proofs.Ytcoieclecmefiaa.addAt
  by_cases hk : k < zs.length
  · rw [if_pos hk, if_pos (by rw [← h.len]; exact hk)]
    refine ⟨by simp [h.len], fun i hi => ?_⟩
    simp at hi
    obtain ⟨g1, g2⟩ := h.good i hi
    by_cases hik : k = i
    · subst hik
      have e1 : (zs.set k (addO (zs.getD k none) z)).getD k none = addO (zs.getD k none) z := by simp [List.getD, hi]
      have e2 : (qs.set k (qs.getD k 0 + q)).getD k 0 = qs.getD k 0 + q := by rw [h.len] at hi; simp [List.getD, hi]
      rw [e1, e2]
      exact ⟨(g2.add hq).fv_add hK he g1 hz, g2.add hq⟩
    · have e1 : (zs.set k (addO (zs.getD k none) z)).getD i none = zs.getD i none := by simp [List.getD, hik]
      have e2 : (qs.set k (qs.getD k 0 + q)).getD i 0 = qs.getD i 0 := by simp [List.getD, hik]
      rw [e1, e2]
      exact ⟨g1, g2.mono (by omega)⟩
  · rw [if_neg hk, if_neg (by rw [← h.len]; exact hk)]
    refine ⟨by simp [h.len], fun i hi => ?_⟩
    simp at hi
    by_cases hik : i < zs.length
    · obtain ⟨g1, g2⟩ := h.good i hik
      have e1 : (zs ++ [z]).getD i none = zs.getD i none := by simp [List.getD, List.getElem?_append_left, hik]
      have e2 : (qs ++ [q]).getD i 0 = qs.getD i 0 := by rw [h.len] at hik; simp [List.getD, List.getElem?_append_left, hik]
      rw [e1, e2]
      exact ⟨g1, g2.mono (by omega)⟩
    · have : i = zs.length := by omega
      subst this
      have e1 : (zs ++ [z]).getD zs.length none = z := by simp [List.getD]
      have e2 : (qs ++ [q]).getD zs.length 0 = q := by rw [h.len]; simp [List.getD]
      rw [e1, e2]
      exact ⟨hz, hq.mono (by omega)⟩
theorem FvL.addBlk {zs : List (Option Nat)} {qs : List Rat} {e K L : Nat} (h : FvL zs qs e K) (f : Nat) {z : Nat → Option Nat} {q : Nat → Rat} {m : Nat} (hz : ∀ i, i < m → Fv (z i) (q i) ∧ Dy e L (q i)) (hK : K + m * L < 2 ^ 53) (he : e ≤ 1000) :
    FvL (addBlk addO none zs f z m) (addBlk (· + ·) 0 qs f q m) e (K + m * L) := by
  induction m with
  | zero => rw [Nat.zero_mul]; exact h
  | succ m ih =>
    rw [Nat.add_mul, Nat.one_mul] at hK
    have h1 := ih (fun i hi => hz i (by omega)) (by omega)
    rw [Nat.add_mul, Nat.one_mul, ← Nat.add_assoc]
    exact h1.addAt (f + m) (hz m (by omega)).1 (hz m (by omega)).2 (by omega) he
theorem FvL.addAll {e L n : Nat} (h : Nat) {z : Nat → Option Nat} {q : Nat → Rat} (hz : ∀ i, i < n → Fv (z i) (q i) ∧ Dy e L (q i)) (b : Nat) (hK : b * (n * L) < 2 ^ 53) (he : e ≤ 1000) :
    FvL (addAll addO none (fun _ => z) (fun _ => n) h b) (addAll (· + ·) 0 (fun _ => q) (fun _ => n) h b) e (b * (n * L)) := by
  induction b with
  | zero => exact ⟨rfl, fun i hi => by simp [Go.Proofs.Ytcoieclecmefiaa.addAll] at hi⟩
  | succ b ih =>
    rw [Nat.add_mul, Nat.one_mul] at hK ⊢
    exact (ih (by omega)).addBlk (b * h) hz hK he

end Flt
end Go.Proofs.Ytcoieclecmefiaa
