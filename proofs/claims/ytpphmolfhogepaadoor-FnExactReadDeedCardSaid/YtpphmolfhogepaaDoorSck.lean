import Derived.Test.YtpphmolfhogepaaDoorScn
import Derived.Laws.Rows
/-
  Which kind of deed has a word.
-/
set_option linter.unusedVariables false
set_option linter.unusedSimpArgs false
namespace Go.Proofs.YtpphmolfhogepaaDoor
open Go.RowKit

/-- The words of a deed's text. -/
def ddWords (d : Dd) : List (List UInt8) := (ddWord d.kind.toNat).data.toList :: (ddNums d).map Lib.itoa
/-- The kind with a word, or 0. -/
def KindTo (t : List UInt8) (q : Nat) : Prop := (q = 0 ∧ ∀ j, 1 ≤ j → j ≤ 8 → (ddWord j).data.toList ≠ t) ∨ (1 ≤ q ∧ q ≤ 8 ∧ (ddWord q).data.toList = t)

/-- The table as a value. -/
def tabCells : List Value := [.string (ddWord 0), .int .i64 (ddCnt 0), .string (ddWord 1), .int .i64 (ddCnt 1), .string (ddWord 2), .int .i64 (ddCnt 2), .string (ddWord 3), .int .i64 (ddCnt 3), .string (ddWord 4), .int .i64 (ddCnt 4), .string (ddWord 5), .int .i64 (ddCnt 5), .string (ddWord 6), .int .i64 (ddCnt 6), .string (ddWord 7), .int .i64 (ddCnt 7), .string (ddWord 8), .int .i64 (ddCnt 8)]

theorem tab_index (k : Nat) (hk : k < 9) (w : World) : (Instr.index 38 (.agg tabCells.toArray) (.int .i64 (k : Int))).run Tryd.prog w = .ok (.agg #[.string (ddWord k), .int .i64 (ddCnt k)]) w := by
  have hc : k = 0 ∨ k = 1 ∨ k = 2 ∨ k = 3 ∨ k = 4 ∨ k = 5 ∨ k = 6 ∨ k = 7 ∨ k = 8 := by omega
  rcases hc with rfl | rfl | rfl | rfl | rfl | rfl | rfl | rfl | rfl <;> (show _ = _; kernel_rfl)

set_option maxRecDepth 100000 in
set_option maxHeartbeats 4000000 in
theorem deedKindOf_any (t : List UInt8) (w : World) (h : Tab9 w) :
    Calls Tryd.prog 28 #[.string (strOf t)] w fun e w' => ∃ q : Nat, e = .returned (.int .i64 q) ∧ KindTo t q ∧ Below w.heap.size w w' := by
  have w0 : w.cell? ⟨0, 0, none⟩ = some (.string (ddWord 0)) := h.word 0 (by decide)
  have c0 : w.cell? ⟨0, 1, none⟩ = some (.int .i64 (ddCnt 0)) := h.cnt 0 (by decide)
  have w1 : w.cell? ⟨0, 2, none⟩ = some (.string (ddWord 1)) := h.word 1 (by decide)
  have c1 : w.cell? ⟨0, 3, none⟩ = some (.int .i64 (ddCnt 1)) := h.cnt 1 (by decide)
  have w2 : w.cell? ⟨0, 4, none⟩ = some (.string (ddWord 2)) := h.word 2 (by decide)
  have c2 : w.cell? ⟨0, 5, none⟩ = some (.int .i64 (ddCnt 2)) := h.cnt 2 (by decide)
  have w3 : w.cell? ⟨0, 6, none⟩ = some (.string (ddWord 3)) := h.word 3 (by decide)
  have c3 : w.cell? ⟨0, 7, none⟩ = some (.int .i64 (ddCnt 3)) := h.cnt 3 (by decide)
  have w4 : w.cell? ⟨0, 8, none⟩ = some (.string (ddWord 4)) := h.word 4 (by decide)
  have c4 : w.cell? ⟨0, 9, none⟩ = some (.int .i64 (ddCnt 4)) := h.cnt 4 (by decide)
  have w5 : w.cell? ⟨0, 10, none⟩ = some (.string (ddWord 5)) := h.word 5 (by decide)
  have c5 : w.cell? ⟨0, 11, none⟩ = some (.int .i64 (ddCnt 5)) := h.cnt 5 (by decide)
  have w6 : w.cell? ⟨0, 12, none⟩ = some (.string (ddWord 6)) := h.word 6 (by decide)
  have c6 : w.cell? ⟨0, 13, none⟩ = some (.int .i64 (ddCnt 6)) := h.cnt 6 (by decide)
  have w7 : w.cell? ⟨0, 14, none⟩ = some (.string (ddWord 7)) := h.word 7 (by decide)
  have c7 : w.cell? ⟨0, 15, none⟩ = some (.int .i64 (ddCnt 7)) := h.cnt 7 (by decide)
  have w8 : w.cell? ⟨0, 16, none⟩ = some (.string (ddWord 8)) := h.word 8 (by decide)
  have c8 : w.cell? ⟨0, 17, none⟩ = some (.int .i64 (ddCnt 8)) := h.cnt 8 (by decide)
  have IX := tab_index
  unfold tabCells at IX
  generalize ddWord 0 = d0 at w0 IX
  generalize (ddCnt 0 : Int) = n0 at c0 IX
  generalize ddWord 1 = d1 at w1 IX
  generalize (ddCnt 1 : Int) = n1 at c1 IX
  generalize ddWord 2 = d2 at w2 IX
  generalize (ddCnt 2 : Int) = n2 at c2 IX
  generalize ddWord 3 = d3 at w3 IX
  generalize (ddCnt 3 : Int) = n3 at c3 IX
  generalize ddWord 4 = d4 at w4 IX
  generalize (ddCnt 4 : Int) = n4 at c4 IX
  generalize ddWord 5 = d5 at w5 IX
  generalize (ddCnt 5 : Int) = n5 at c5 IX
  generalize ddWord 6 = d6 at w6 IX
  generalize (ddCnt 6 : Int) = n6 at c6 IX
  generalize ddWord 7 = d7 at w7 IX
  generalize (ddCnt 7 : Int) = n7 at c7 IX
  generalize ddWord 8 = d8 at w8 IX
  generalize (ddCnt 8 : Int) = n8 at c8 IX
  have HEQ : Hid (∀ j, ((ddWord j).toList == (strOf t).toList) = decide ((ddWord j).data.toList = t)) := fun j => by
    have := strOf_beq (ddWord j).data.toList t
    rw [strOf_self] at this
    exact this
  have IX := Lib.hid IX
  obtain ⟨S, hS⟩ : ∃ S, strOf t = S := ⟨_, rfl⟩
  simp only [hS] at HEQ ⊢
  have IX := Lib.hid IX
  clear h hS
  go_enter Tryd.func28, Tryd.ntmps28
  go_wp2_with fail
  obtain ⟨T, hT⟩ : ∃ T, Value.agg #[.string d0, .int .i64 n0, .string d1, .int .i64 n1, .string d2, .int .i64 n2, .string d3, .int .i64 n3, .string d4, .int .i64 n4, .string d5, .int .i64 n5, .string d6, .int .i64 n6, .string d7, .int .i64 n7, .string d8, .int .i64 n8] = T := ⟨_, rfl⟩
  rw [hT]
  replace IX : Hid (∀ (k : Nat), k < 9 → ∀ (w : World), (Instr.index 38 T (.int .i64 (k : Int))).run Tryd.prog w = .ok (.agg #[.string (ddWord k), .int .i64 (ddCnt k)]) w) := fun k hk w => by
    rw [← hT]
    exact IX.out k hk w
  clear hT w0 w1 w2 w3 w4 w5 w6 w7 w8 c0 c1 c2 c3 c4 c5 c6 c7 c8
  go_loopw [6] (fun i wr => ∃ k : Nat, i = .int .i64 k ∧ k ≤ 9 ∧ (∀ j, j < k → (ddWord j).data.toList ≠ t) ∧ Below w.heap.size w wr) (fun i _ => 9 - (intOf i).toNat)
  case atStart => exact ⟨0, rfl, by decide, fun j hj => by omega, Below.refl _ _⟩
  case round =>
    obtain ⟨k, rfl, hk9, hj, hB⟩ := hrel
    have HJ := Lib.hid hj
    have HB := Lib.hid hB
    clear hj hB
    by_cases hk : k < 9
    · have hix := IX.out k hk
      have heq := HEQ.out k
      have hk' : (k : Int) < 9 := by omega
      have HK := Lib.hid hk
      obtain ⟨p, hp⟩ : ∃ p, decide ((ddWord k).data.toList = t) = p := ⟨_, rfl⟩
      rw [hp] at heq
      have HP := Lib.hid hp
      generalize ddWord k = D at hix heq
      generalize (ddCnt k : Int) = N at hix
      clear hp hk
      cases p
      · go_wp2
        go_roundw
        case rel => exact ⟨k + 1, by go_num, HK.out, fun j hj => by
            by_cases e : j = k
            · subst e; exact of_decide_eq_false HP.out
            · exact HJ.out j (by omega), HB.out.alloc HB.out.size _⟩
        case measure => have := HK.out; simp [intOf]; omega
      · go_wp2
        go_ret
        refine ⟨k, rfl, ?_, HB.out.alloc HB.out.size _⟩
        have hkt : (ddWord k).data.toList = t := of_decide_eq_true HP.out
        by_cases h0 : k = 0
        · subst h0
          exact .inl ⟨rfl, fun j h1 h8 e => by
            have : (ddWord j).data.toList = [] := e.trans hkt.symm
            rcases kinds8 h1 h8 with rfl | rfl | rfl | rfl | rfl | rfl | rfl | rfl <;> cases this⟩
        · exact .inr ⟨by omega, by have := HK.out; omega, hkt⟩
    · obtain rfl : k = 9 := by omega
      clear hk
      go_wp2
      go_ret
      exact ⟨0, rfl, .inl ⟨rfl, fun j h1 h8 e => HJ.out j (by omega) e⟩, HB.out⟩

end Go.Proofs.YtpphmolfhogepaaDoor
