import Derived.Test.YtnbmbegjpkebmaaSums
import Derived.Test.YtnbmbegjpkebmaaPlace
import Derived.Deep.RegionLaw
/-
  Sums at places over wide complex numbers: sumsAtPlaces of the program; blocks that are read wherever they lie.
-/
set_option linter.unusedVariables false
set_option linter.unusedSimpArgs false
namespace Go.Proofs.Ytnbmbegjpkebmaa
open Go.RowKit Flt Fast
attribute [local go_sem] run_fadd run_fsub run_fmul run_fquo run_cadd run_csub

/-- A slice of complex numbers as the walk reads it, at whatever place of a block it begins. -/
def RdC (w : World) (v : Value) (xs : List C) : Prop :=
  ∃ a cap, v = .slice a xs.length cap ∧ xs.length ≤ cap ∧ cap ≤ maxLen ∧ ∀ j, j < xs.length → ∃ g o, a = some ⟨g, o, none⟩ ∧ g < w.heap.size ∧ w.cell? ⟨g, o + j, none⟩ = some (.complex .f64 (xs.getD j (0, 0)).1 (xs.getD j (0, 0)).2)

theorem RdC.below {w w' : World} {v : Value} {xs : List C} (h : RdC w v xs) (hb : Below w.heap.size w w') : RdC w' v xs := by
  obtain ⟨a, cap, rfl, h1, h2, h3⟩ := h
  refine ⟨a, cap, rfl, h1, h2, fun j hj => ?_⟩
  obtain ⟨g, o, rfl, hg, hc⟩ := h3 j hj
  exact ⟨g, o, rfl, Nat.lt_of_lt_of_le hg hb.size, by rw [hb.cell hg]; exact hc⟩
theorem RdC.draws {w : World} {v : Value} {xs : List C} (h : RdC w v xs) (n : Nat) : RdC (w.drewN n) v xs := h
theorem RdC.of_row {w : World} {B : Nat} {e : TypeId} {v : Value} {xs : List C} (h : Row w B e v (cvals xs)) : RdC w v xs := by
  have h' := h
  rcases h.shape with ⟨a, cap, rfl, h0⟩ | ⟨g, cap, rfl, h0, hB, hg, h1, h2⟩
  · have e0 : xs = [] := by
      have := congrArg List.length h0
      rw [cvals_length] at this
      exact List.eq_nil_of_length_eq_zero (by simpa using this)
    subst e0
    rcases h.2 with ⟨e1, -⟩ | ⟨g, cap', cur, e1, -, -, h3, h4, -⟩
    · simp only [Value.slice.injEq] at e1
      obtain ⟨rfl, -, rfl⟩ := e1
      exact ⟨none, 0, rfl, Nat.le_refl _, Nat.zero_le _, fun j hj => by simp at hj⟩
    · simp only [Value.slice.injEq] at e1
      obtain ⟨rfl, -, rfl⟩ := e1
      exact ⟨_, cap, rfl, Nat.zero_le _, h4, fun j hj => by simp at hj⟩
  · rw [cvals_length] at h0 h1 h' ⊢
    refine ⟨_, cap, rfl, h1, h2, fun j hj => ⟨g, 0, rfl, hg, ?_⟩⟩
    rw [Nat.zero_add, h'.cellAt hj, cvals_getD hj]

/-- Complex numbers that are these. -/
structure FitsC (fs : List C) (zs : List Z) : Prop where
  len : fs.length = zs.length
  good : ∀ i, i < fs.length → IsC (fs.getD i (0, 0)) (zs.getD i z0)

theorem FitsC.nil : FitsC [] [] := ⟨rfl, fun i hi => by simp at hi⟩
theorem FitsC.snoc {fs : List C} {zs : List Z} (h : FitsC fs zs) {a : C} {z : Z} (ha : IsC a z) : FitsC (fs ++ [a]) (zs ++ [z]) := by
  refine ⟨by simp [h.len], fun i hi => ?_⟩
  by_cases hl : i < fs.length
  · rw [show (fs ++ [a]).getD i (0, 0) = fs.getD i (0, 0) by simp [List.getD, List.getElem?_append_left, hl], show (zs ++ [z]).getD i z0 = zs.getD i z0 by simp [List.getD, List.getElem?_append_left, ← h.len, hl]]
    exact h.good i hl
  · have e : i = fs.length := by simp at hi; omega
    subst e
    rw [show (fs ++ [a]).getD fs.length (0, 0) = a by simp [List.getD], show (zs ++ [z]).getD fs.length z0 = z by simp [List.getD, h.len]]
    exact ha
theorem FitsC.set {fs : List C} {zs : List Z} (h : FitsC fs zs) {k : Nat} {a : C} {z : Z} (ha : IsC a z) : FitsC (fs.set k a) (zs.set k z) := by
  refine ⟨by simp [h.len], fun i hi => ?_⟩
  simp at hi
  by_cases hk : k = i
  · subst hk
    rw [show (fs.set k a).getD k (0, 0) = a by simp [List.getD, hi], show (zs.set k z).getD k z0 = z by simp [List.getD, ← h.len, hi]]
    exact ha
  · rw [show (fs.set k a).getD i (0, 0) = fs.getD i (0, 0) by simp [List.getD, List.getElem?_set, hk], show (zs.set k z).getD i z0 = zs.getD i z0 by simp [List.getD, List.getElem?_set, hk]]
    exact h.good i hi

theorem cvals_set (fs : List C) (k : Nat) (a b : Nat) : (cvals fs).set k (.complex .f64 a b) = cvals (fs.set k (a, b)) := by simp [cvals, List.map_set, cval]

/-- A row of complex numbers with sums at places, in the world wr, made behind w. -/
structure SumsC (w wr : World) (v : Value) (zs : List Z) (fs : List C) : Prop where
  row : Row wr w.heap.size 32 v (cvals fs)
  fits : FitsC fs zs
  below : Below w.heap.size w wr

theorem SumsC.draws {w wr : World} {v : Value} {zs : List Z} {fs : List C} (h : SumsC w wr v zs fs) (n : Nat) : SumsC w (wr.drewN n) v zs fs := ⟨h.row.drewN n, h.fits, below_draws h.below n⟩
theorem SumsC.store {w wr : World} {g cap L : Nat} {zs : List Z} {fs : List C} (h : SumsC w wr (.slice (some ⟨g, 0, none⟩) L cap) zs fs) {k x y : Nat} {q : Z} (hk : k < L)
    (hx : IsC (x, y) (addZ (zs.getD k z0) q)) : SumsC w (wr.setCell ⟨g, k, none⟩ (.complex .f64 x y)) (.slice (some ⟨g, 0, none⟩) L cap) (addAt addZ z0 zs k q) (fs.set k (x, y)) := by
  have hl : fs.length = L := by have := h.row.len; rwa [cvals_length] at this
  have hS := h.row.set k (.complex .f64 x y)
  rw [cvals_set] at hS
  have hg : w.heap.size ≤ g := (h.row.lt g rfl).1
  rw [addAt_lt addZ z0 (by rw [← h.fits.len, hl]; exact hk)]
  exact ⟨hS.1, h.fits.set hx, h.below.setCell (p := ⟨g, k, none⟩) hg _⟩

theorem cform {w : World} {v : Value} {cs : List Value} (h : Reads w v cs) : ∃ a cap, v = .slice a cs.length cap := by
  cases h with
  | none a cap => exact ⟨a, cap, rfl⟩
  | row g cap L cs hL => subst hL; exact ⟨_, cap, rfl⟩

end Go.Proofs.Ytnbmbegjpkebmaa
