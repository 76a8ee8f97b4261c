import Derived.Test.YtdefhmpmgcahpaaDoorValZ
/-
  Which steps are valid: the table of the model.
-/
set_option linter.unusedVariables false
set_option linter.unusedSimpArgs false
namespace Go.Proofs.YtdefhmpmgcahpaaDoor
open Go.RowKit

/-- Where a step lies, as a pointer to it reads. -/
structure StepAt (w : World) (g o : Nat) (kd n k : Int) (a : Option Addr) (L c : Nat) : Prop where
  c0 : w.cell? ⟨g, o, none⟩ = some (.int .i64 kd)
  c1 : w.cell? ⟨g, o + 1, none⟩ = some (.int .i64 n)
  c2 : w.cell? ⟨g, o + 2, none⟩ = some (.int .i64 k)
  c3 : w.cell? ⟨g, o + 3, none⟩ = some (.slice a L c)

theorem StepAt.below {w w' : World} {g o : Nat} {kd n k : Int} {a : Option Addr} {L c : Nat} (h : StepAt w g o kd n k a L c) (hb : Below w.heap.size w w') : StepAt w' g o kd n k a L c := by
  have hg : g < w.heap.size := World.block_lt_of_cell? _ _ h.c0
  exact ⟨by rw [hb.cell (by exact hg)]; exact h.c0, by rw [hb.cell (by exact hg)]; exact h.c1, by rw [hb.cell (by exact hg)]; exact h.c2, by rw [hb.cell (by exact hg)]; exact h.c3⟩

/-- How many numbers the text of a kind mentions. -/
def toldL : List Int := [0, 2, 1, -1, 2, 1, 1, 1, 1, 1, 1, 0, 0, 0]

set_option maxRecDepth 100000 in
set_option maxHeartbeats 4000000 in
theorem words_any (w : World) :
    Calls Tryd.prog 46 #[] w fun e w' => ∃ V b, e = .returned (.tuple #[V, .slice (some ⟨b, 0, none⟩) 14 14]) ∧ (∀ j, j < 14 → w'.cell? ⟨b, j, none⟩ = some (.int .i64 (toldL.getD j 0))) ∧ Below w.heap.size w w' := by
  go_enter Tryd.func46, Tryd.ntmps46
  go_wp2
  go_ret2
  refine ⟨_, _, rfl, ?_, ((Below.refl _ _).alloc (Nat.le_refl _) _).alloc (by simp) _⟩
  intro j hj
  rcases j with _ | _ | _ | _ | _ | _ | _ | _ | _ | _ | _ | _ | _ | _ | j
  all_goals first | omega | (unfold toldL; go_simp; done) | (unfold toldL; go_simp; rfl)

end Go.Proofs.YtdefhmpmgcahpaaDoor
