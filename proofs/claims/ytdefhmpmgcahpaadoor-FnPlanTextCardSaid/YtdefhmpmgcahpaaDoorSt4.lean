import Derived.Test.YtdefhmpmgcahpaaDoorBls
import Derived.Deep.RegionHeld
/-
  Four cells of a block.
-/
set_option linter.unusedVariables false
set_option linter.unusedSimpArgs false
namespace Go.Proofs.YtdefhmpmgcahpaaDoor
open Go.RowKit

/-- Four cells are stored. -/
def st4 (w : World) (V : Nat) (u0 u1 u2 u3 : Value) : World := (((w.setCell ⟨V, 0, none⟩ u0).setCell ⟨V, 1, none⟩ u1).setCell ⟨V, 2, none⟩ u2).setCell ⟨V, 3, none⟩ u3
structure Has4 (w : World) (V : Nat) (u0 u1 u2 u3 : Value) : Prop where
  c0 : w.cell? ⟨V, 0, none⟩ = some u0
  c1 : w.cell? ⟨V, 1, none⟩ = some u1
  c2 : w.cell? ⟨V, 2, none⟩ = some u2
  c3 : w.cell? ⟨V, 3, none⟩ = some u3
theorem Has4.set {w : World} {V : Nat} {a0 a1 a2 a3 : Value} (h : Has4 w V a0 a1 a2 a3) (u0 u1 u2 u3 : Value) : Has4 (st4 w V u0 u1 u2 u3) V u0 u1 u2 u3 := by
  obtain ⟨h0, h1, h2, h3⟩ := h
  unfold st4
  exact ⟨by go_simp, by go_simp, by go_simp, by go_simp⟩
theorem st4_other (w : World) {V C : Nat} (hne : V ≠ C) (o : Nat) (u0 u1 u2 u3 : Value) : (st4 w V u0 u1 u2 u3).cell? ⟨C, o, none⟩ = w.cell? ⟨C, o, none⟩ := by
  unfold st4
  rw [World.cell?_setCell_far _ _ _ _ hne, World.cell?_setCell_far _ _ _ _ hne, World.cell?_setCell_far _ _ _ _ hne, World.cell?_setCell_far _ _ _ _ hne]
theorem st4_frozen (w : World) (V : Nat) (p : Addr) (u0 u1 u2 u3 : Value) : (st4 w V u0 u1 u2 u3).frozen? p = w.frozen? p := by
  unfold st4
  rw [World.frozen?_setCell, World.frozen?_setCell, World.frozen?_setCell, World.frozen?_setCell]
theorem st4_below {W w : World} {V : Nat} (h : Below V W w) (u0 u1 u2 u3 : Value) : Below V W (st4 w V u0 u1 u2 u3) := (((h.setCell (Nat.le_refl _) _).setCell (Nat.le_refl _) _).setCell (Nat.le_refl _) _).setCell (Nat.le_refl _) _

end Go.Proofs.YtdefhmpmgcahpaaDoor
