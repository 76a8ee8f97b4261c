import Derived.Test.YtnbbkdjfhbcecaaDoorWalkSplit
/-
  The walk of the law on ReadBits.
-/
set_option linter.unusedVariables false
set_option linter.unusedSimpArgs false
namespace Go.Proofs.YtnbbkdjfhbcecaaDoor
open Go.RowKit Flt Hex

/-- A row of words, opened. -/
theorem row_open {w : World} {B : Nat} {v : Value} {ws : List ByteArray} (h : w.ownsRow B 9 1 v ws.length (ws.map Value.string)) (hn : ws ≠ []) :
    ∃ g cap, v = .slice (some ⟨g, 0, none⟩) ws.length cap ∧ ∀ j x, ws[j]? = some x → w.cell? ⟨g, j, none⟩ = some (.string x) := by
  have h2 := h.2
  rcases h2 with ⟨rfl, h0⟩ | ⟨g, cap, cur, rfl, -⟩
  · exact absurd (List.length_eq_zero_iff.1 (by simpa using h0)) hn
  · refine ⟨g, cap, rfl, fun j x hx => ?_⟩
    have := h.cells (g := g) rfl j (.string x) (by simp [hx])
    have hadd : (⟨g, 0, none⟩ : Addr).add j = ⟨g, j, none⟩ := by unfold Addr.add; split <;> simp_all
    rwa [hadd] at this

/-- The function returns this; nothing that was there has turned. -/
def Gives (v : Value) (w : World) (e : Ending) (w' : World) : Prop := e = .returned v ∧ Below w.heap.size w w'

theorem real64_num {l : List UInt8} {v : Nat} (h : real64 l = some v) : v < 18446744073709551616 := by
  unfold real64 realOf at h
  split at h
  · cases h; decide
  · cases hb : bitsRes 16 l with
    | none => rw [hb] at h; cases h
    | some u =>
      rw [hb] at h
      have hl := bits16_lt hb
      simp only [Option.bind_some] at h
      split at h
      · cases h
      · cases h; exact hl

theorem both_num {l : List UInt8} {x y : Nat} (h : bothOf real64 l = some (x, y)) : x < 18446744073709551616 ∧ y < 18446744073709551616 := by
  unfold bothOf at h
  split at h
  · cases h
  · unfold pairOf at h
    split at h
    · rename_i a b ha hb
      cases h
      exact ⟨real64_num ha, real64_num hb⟩
    · cases h

end Go.Proofs.YtnbbkdjfhbcecaaDoor
