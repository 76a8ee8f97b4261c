import Derived.Test.YtdefhmpmgcahpaaDoorKit
import Derived.Lib.Hide
import Derived.Deep.QuietTactic
import Derived.BigQuiet
/-
  Slices of one-cell elements that the call itself has made.
-/
set_option linter.unusedVariables false
set_option linter.unusedSimpArgs false
namespace Go.Proofs.YtdefhmpmgcahpaaDoor
open Go.RowKit

/-- A slice that owns these values, each a cell. -/
def Row (w : World) (B : Nat) (e : TypeId) (v : Value) (cs : List Value) : Prop := w.ownsRow B e 1 v cs.length cs

section
variable {w w' : World} {B : Nat} {e : TypeId} {v : Value} {cs : List Value} {a : Option Addr} {g L cap j : Nat}

theorem Row.len (h : Row w B e (.slice a L cap) cs) : cs.length = L := by
  rcases h.2 with ⟨e, e'⟩ | ⟨g, cap, cur, e, _⟩
  · simp only [Value.slice.injEq] at e; omega
  · simp only [Value.slice.injEq] at e; exact e.2.1.symm

theorem Row.cellAt (h : Row w B e (.slice (some ⟨g, 0, none⟩) L cap) cs) (hj : j < L) : w.cell? ⟨g, j, none⟩ = some (cs.getD j undef) := by
  have hl := h.len
  subst hl
  rw [World.ownsRow.cellAt h j (by omega)]
  simp [List.getD, hj]

theorem Row.frozenAt (h : Row w B e (.slice (some ⟨g, 0, none⟩) L cap) cs) (j : Nat) : w.frozen? ⟨g, j, none⟩ = false := by
  have hl := h.len
  subst hl
  exact World.ownsRow.frozenAt h j

theorem Row.set (h : Row w B e (.slice (some ⟨g, 0, none⟩) L cap) cs) (j : Nat) (u : Value) :
    Row (w.setCell ⟨g, j, none⟩ u) B e (.slice (some ⟨g, 0, none⟩) L cap) (cs.set j u) ∧ w.grownBy (w.setCell ⟨g, j, none⟩ u) (some g) := by
  have hl := h.len
  subst hl
  have := World.ownsRow.stored h j u
  unfold Row
  rw [List.length_set]
  exact this

theorem Row.kept {row : Option Nat} (h : Row w B e v cs) (hg : w.grownBy w' row) (hne : v.ownBlock = none ∨ v.ownBlock ≠ row) : Row w' B e v cs := World.ownsRow.kept h hg hne
theorem Row.alloc (h : Row w B e v cs) (o : Obj) : Row (w.alloc o) B e v cs := World.ownsRow.alloc h o
theorem Row.drewN (h : Row w B e v cs) (n : Nat) : Row (w.drewN n) B e v cs := h

/-- What was there stays, behind whatever leaves the blocks below B as they were, if the row lies below. -/
theorem Row.below {B' : Nat} (h : Row w B e v cs) (hb : Below B' w w') (hv : ∀ k, v.ownBlock = some k → k < B') : Row w' B e v cs := by
  refine ⟨h.1, ?_⟩
  rcases h.2 with hn | ⟨g, cap, cur, rfl, hbb, hgg, rest⟩
  · exact .inl hn
  · refine .inr ⟨g, cap, cur, rfl, hbb, ?_, rest⟩
    rw [hb.block g (hv g (by simp [Value.ownBlock]))]
    exact hgg

theorem Row.lt (h : Row w B e v cs) : ∀ k, v.ownBlock = some k → B ≤ k ∧ k < w.heap.size := World.ownsRow.lt h

/-- The two forms of such a slice. -/
theorem Row.shape (h : Row w B e v cs) :
    (∃ a cap, v = .slice a 0 cap ∧ cs = []) ∨ ∃ g cap, v = .slice (some ⟨g, 0, none⟩) cs.length cap ∧ 0 < cs.length ∧ B ≤ g ∧ g < w.heap.size ∧ cs.length ≤ cap ∧ cap ≤ maxLen := by
  by_cases h0 : cs = []
  · subst h0
    rcases h.2 with ⟨e, _⟩ | ⟨g, cap, cur, e, _⟩
    · exact .inl ⟨none, 0, e, rfl⟩
    · exact .inl ⟨_, cap, e, rfl⟩
  · have hp : 0 < cs.length := List.length_pos_iff.2 h0
    rcases h.2 with ⟨_, e⟩ | ⟨g, cap, cur, e, hb, hg, hnc, hcm, _⟩
    · omega
    · subst e
      exact .inr ⟨g, cap, rfl, hp, hb, (Array.getElem?_eq_some_iff.1 hg).1, hnc, hcm⟩

end

theorem maxLen_int {n : Nat} (h : n ≤ maxLen) : (n : Int) ≤ 9223372036854775807 := by
  have := h
  simp only [maxLen] at this
  omega

/-- A slice as the walk reads it: nothing in it, or a row whose cells can be read. -/
inductive Reads (w : World) : Value → List Value → Prop
  | none (a : Option Addr) (cap : Nat) : Reads w (.slice a 0 cap) []
  | row (g cap L : Nat) (cs : List Value) (hL : cs.length = L) (h0 : 0 < L) (hc : L ≤ cap) (hm : cap ≤ maxLen) (h : ∀ j, j < L → w.cell? ⟨g, j, Option.none⟩ = some (cs.getD j undef)) : Reads w (.slice (some ⟨g, 0, Option.none⟩) L cap) cs

theorem Row.reads {w : World} {B : Nat} {e : TypeId} {v : Value} {cs : List Value} (h : Row w B e v cs) : Reads w v cs := by
  have h' := h
  rcases h.shape with ⟨a, cap, rfl, rfl⟩ | ⟨g, cap, rfl, h0, _, _, h1, h2⟩
  · exact .none a cap
  · exact .row g cap _ cs rfl h0 h1 h2 (fun j hj => h'.cellAt hj)

theorem Reads.drewN {w : World} {v : Value} {cs : List Value} (h : Reads w v cs) (n : Nat) : Reads (w.drewN n) v cs := by
  cases h with
  | none a cap => exact .none a cap
  | row g cap L cs hL h0 hc hm hh => exact .row g cap L cs hL h0 hc hm hh

theorem getD_map {α : Type} (f : α → Value) (xs : List α) (d : α) {j : Nat} (h : j < xs.length) : (xs.map f).getD j undef = f (xs.getD j d) := by
  simp [List.getD, h]

theorem addr_lit (g j : Nat) : (⟨g, 0, none⟩ : Addr).add j = ⟨g, j, none⟩ := by unfold Addr.add; split <;> simp_all
theorem addr_block (x : Addr) (j : Nat) : (x.add j).block = x.block := by unfold Addr.add; split <;> rfl

end Go.Proofs.YtdefhmpmgcahpaaDoor
