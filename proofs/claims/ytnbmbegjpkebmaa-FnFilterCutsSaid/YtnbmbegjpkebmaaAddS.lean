import Derived.Test.YtnbmbegjpkebmaaPlcC
import Derived.Test.YtnbmbegjpkebmaaWinC
/-
  l03Add, l03Many, l03Joined and OverlapAdd of the model.
-/
set_option linter.unusedVariables false
set_option linter.unusedSimpArgs false
namespace Go.Proofs.Ytnbmbegjpkebmaa
open Go.RowKit Flt Fast
attribute [local go_sem] run_fadd run_fsub run_fmul run_fquo run_cadd run_csub

/-- Blocks of one size, in a row. -/
structure Blks (w : World) (V : Value) (vs : List Value) (bs : Nat → List C) (q : Nat → Nat → Z) (n : Nat) : Prop where
  row : Reads w V vs
  each : ∀ b, b < vs.length → RdC w (vs.getD b undef) (bs b) ∧ (bs b).length = n ∧ ∀ i, i < n → IsC ((bs b).getD i (0, 0)) (q b i)

theorem Blks.below {w w' : World} {V : Value} {vs : List Value} {bs : Nat → List C} {q : Nat → Nat → Z} {n : Nat} (h : Blks w V vs bs q n) (hb : Below w.heap.size w w') : Blks w' V vs bs q n :=
  ⟨h.row.below hb, fun b hb' => ⟨(h.each b hb').1.below hb, (h.each b hb').2⟩⟩

/-- How the walk finds a block. -/
theorem Blks.find {w : World} {V : Value} {vs : List Value} {bs : Nat → List C} {q : Nat → Nat → Z} {n : Nat} (h : Blks w V vs bs q n) :
    ∃ a cap, V = .slice a vs.length cap ∧ (vs.length : Int) ≤ 9223372036854775807 ∧ ∀ b, b < vs.length → ∃ g ab cb, a = some ⟨g, 0, none⟩ ∧ g < w.heap.size ∧ w.cell? ⟨g, b, none⟩ = some (.slice ab n cb) ∧ (n : Int) ≤ 9223372036854775807 ∧
      ∀ j, j < n → ∃ gb ob, ab = some ⟨gb, ob, none⟩ ∧ gb < w.heap.size ∧ w.cell? ⟨gb, ob + j, none⟩ = some (.complex .f64 ((bs b).getD j (0, 0)).1 ((bs b).getD j (0, 0)).2) ∧ IsC ((bs b).getD j (0, 0)) (q b j) := by
  have key : ∀ (g cap : Nat) (b : Nat), b < vs.length → w.cell? ⟨g, b, none⟩ = some (vs.getD b undef) → ∃ ab cb, g < w.heap.size ∧ w.cell? ⟨g, b, none⟩ = some (.slice ab n cb) ∧ (n : Int) ≤ 9223372036854775807 ∧
      ∀ j, j < n → ∃ gb ob, ab = some ⟨gb, ob, none⟩ ∧ gb < w.heap.size ∧ w.cell? ⟨gb, ob + j, none⟩ = some (.complex .f64 ((bs b).getD j (0, 0)).1 ((bs b).getD j (0, 0)).2) ∧ IsC ((bs b).getD j (0, 0)) (q b j) := by
    intro g cap b hb hc
    obtain ⟨⟨ab, cb, e, h1, h2, h3⟩, h4, h5⟩ := h.each b hb
    rw [h4] at e h1 h3
    refine ⟨ab, cb, World.block_lt_of_cell? _ _ hc, by rw [hc, e], maxLen_int (Nat.le_trans h1 h2), fun j hj => ?_⟩
    obtain ⟨gb, ob, e1, e2, e3⟩ := h3 j hj
    exact ⟨gb, ob, e1, e2, e3, h5 j hj⟩
  have hr := h.row
  generalize hvs : vs = cs at hr
  cases hr with
  | none a cap => subst hvs; exact ⟨a, cap, rfl, by simp, fun b hb => by simp at hb⟩
  | row g cap L cs hL h0 hcc hm hh =>
    subst hvs
    subst hL
    refine ⟨_, cap, rfl, maxLen_int (Nat.le_trans hcc hm), fun b hb => ?_⟩
    obtain ⟨ab, cb, k1, k2, k3, k4⟩ := key g cap b hb (hh b hb)
    exact ⟨g, ab, cb, rfl, k1, k2, k3, k4⟩

/-- The sums of blocks of the size n, h places apart. -/
def ovlL (q : Nat → Nat → Z) (n h c : Nat) : List Z := addAll addZ z0 q (fun _ => n) h c

end Go.Proofs.Ytnbmbegjpkebmaa
