import Derived.Test.YtdefhmpmgcahpaaDoorMExactRL8
import Derived.Test.YtdefhmpmgcahpaaDoorMExactRL6
import Derived.Test.YtdefhmpmgcahpaaDoorImpDZ
import Derived.Deep.MidRow
/-
  kindOf of the program.
-/
set_option linter.unusedVariables false
set_option linter.unusedSimpArgs false
namespace Go.Proofs.YtdefhmpmgcahpaaDoor
open Go.RowKit

theorem infoForms : (Tryd.prog.info? 64).map (·.size) = some 56 := by kernel_rfl
/-- The table as a value. -/
def formCells : List Value := [.string (wordOf 0), .int .i64 (cntOf 0), .int .i64 (loOf 0), .int .i64 (hiOf 0), .string (wordOf 1), .int .i64 (cntOf 1), .int .i64 (loOf 1), .int .i64 (hiOf 1), .string (wordOf 2), .int .i64 (cntOf 2), .int .i64 (loOf 2), .int .i64 (hiOf 2), .string (wordOf 3), .int .i64 (cntOf 3), .int .i64 (loOf 3), .int .i64 (hiOf 3), .string (wordOf 4), .int .i64 (cntOf 4), .int .i64 (loOf 4), .int .i64 (hiOf 4), .string (wordOf 5), .int .i64 (cntOf 5), .int .i64 (loOf 5), .int .i64 (hiOf 5), .string (wordOf 6), .int .i64 (cntOf 6), .int .i64 (loOf 6), .int .i64 (hiOf 6), .string (wordOf 7), .int .i64 (cntOf 7), .int .i64 (loOf 7), .int .i64 (hiOf 7), .string (wordOf 8), .int .i64 (cntOf 8), .int .i64 (loOf 8), .int .i64 (hiOf 8), .string (wordOf 9), .int .i64 (cntOf 9), .int .i64 (loOf 9), .int .i64 (hiOf 9), .string (wordOf 10), .int .i64 (cntOf 10), .int .i64 (loOf 10), .int .i64 (hiOf 10), .string (wordOf 11), .int .i64 (cntOf 11), .int .i64 (loOf 11), .int .i64 (hiOf 11), .string (wordOf 12), .int .i64 (cntOf 12), .int .i64 (loOf 12), .int .i64 (hiOf 12), .string (wordOf 13), .int .i64 (cntOf 13), .int .i64 (loOf 13), .int .i64 (hiOf 13)]
theorem formCells_at (j : Nat) (hj : j < 14) : formCells[j * 4]? = some (.string (wordOf j)) ∧ formCells[j * 4 + 1]? = some (.int .i64 (cntOf j)) ∧ formCells[j * 4 + 2]? = some (.int .i64 (loOf j)) ∧ formCells[j * 4 + 3]? = some (.int .i64 (hiOf j)) := by
  have hc : j = 0 ∨ j = 1 ∨ j = 2 ∨ j = 3 ∨ j = 4 ∨ j = 5 ∨ j = 6 ∨ j = 7 ∨ j = 8 ∨ j = 9 ∨ j = 10 ∨ j = 11 ∨ j = 12 ∨ j = 13 := by omega
  rcases hc with rfl | rfl | rfl | rfl | rfl | rfl | rfl | rfl | rfl | rfl | rfl | rfl | rfl | rfl <;> exact ⟨rfl, rfl, rfl, rfl⟩

theorem load_forms {w : World} (h : Tab w) : (loadVar 64 ⟨0, 0, none⟩).run Tryd.prog w = .ok (.agg formCells.toArray) w := by
  refine run_loadVar_mid _ _ _ _ formCells _ ?_ Tryd.underlying64 rfl infoForms
  intro j v hv
  have hj : j < 56 := (List.getElem?_eq_some_iff.1 hv).1
  have hq : j / 4 < 14 := by omega
  obtain ⟨e0, e1, e2, e3⟩ := formCells_at (j / 4) hq
  have hm : j = j / 4 * 4 ∨ j = j / 4 * 4 + 1 ∨ j = j / 4 * 4 + 2 ∨ j = j / 4 * 4 + 3 := by omega
  rw [Nat.zero_add]
  rcases hm with e | e | e | e
  · rw [e] at hv ⊢
    rw [e0] at hv
    rw [← hv]; exact h.word _ hq
  · rw [e] at hv ⊢
    rw [e1] at hv
    rw [← hv]; exact h.cnt _ hq
  · rw [e] at hv ⊢
    rw [e2] at hv
    rw [← hv]; exact h.lo _ hq
  · rw [e] at hv ⊢
    rw [e3] at hv
    rw [← hv]; exact h.hi _ hq

theorem form_index (k : Nat) (hk : k < 14) (w : World) : (Instr.index 64 (.agg formCells.toArray) (.int .i64 (k : Int))).run Tryd.prog w = .ok (.agg #[.string (wordOf k), .int .i64 (cntOf k), .int .i64 (loOf k), .int .i64 (hiOf k)]) w := by
  have hc : k = 0 ∨ k = 1 ∨ k = 2 ∨ k = 3 ∨ k = 4 ∨ k = 5 ∨ k = 6 ∨ k = 7 ∨ k = 8 ∨ k = 9 ∨ k = 10 ∨ k = 11 ∨ k = 12 ∨ k = 13 := by omega
  rcases hc with rfl | rfl | rfl | rfl | rfl | rfl | rfl | rfl | rfl | rfl | rfl | rfl | rfl | rfl <;> (show _ = _; kernel_rfl)

set_option maxRecDepth 100000 in
set_option maxHeartbeats 4000000 in
theorem kindOf_any (t : List UInt8) (w : World) (h : Tab w) :
    Calls Tryd.prog 43 #[.string (strOf t)] w fun e w' => ∃ q : Nat, e = .returned (.int .i64 q) ∧ KindSt t q ∧ Below w.heap.size w w' := by
  have LT := load_forms h
  have IX := form_index
  obtain ⟨T, hT⟩ : ∃ T, Value.agg formCells.toArray = T := ⟨_, rfl⟩
  rw [hT] at LT
  simp only [hT] at IX
  have HEQ : Hid (∀ j, ((wordOf j).toList == (strOf t).toList) = decide ((wordOf j).data.toList = t)) := fun j => by
    have := strOf_beq (wordOf j).data.toList t
    rw [strOf_self] at this
    exact this
  have IX := Lib.hid IX
  have LT := Lib.hid LT
  obtain ⟨S, hS⟩ : ∃ S, strOf t = S := ⟨_, rfl⟩
  simp only [hS] at HEQ ⊢
  clear hT h hS
  go_enter Tryd.func43, Tryd.ntmps43
  go_wp2_with (refine wpList_loadV rfl _ _ rfl _ rfl T LT.out ?_)
  go_loopw [6] (fun i wr => ∃ k : Nat, i = .int .i64 k ∧ k ≤ 14 ∧ (∀ j, j < k → (wordOf j).data.toList ≠ t) ∧ Below w.heap.size w wr) (fun i _ => 14 - (intOf i).toNat)
  case atStart => exact ⟨0, rfl, by decide, fun j hj => by omega, Below.refl _ _⟩
  case round =>
    obtain ⟨k, rfl, hk9, hj, hB⟩ := hrel
    have HJ := Lib.hid hj
    have HB := Lib.hid hB
    clear hj hB
    by_cases hk : k < 14
    · have hix := IX.out k hk
      have heq := HEQ.out k
      have hk' : (k : Int) < 14 := by omega
      have HK := Lib.hid hk
      obtain ⟨p, hp⟩ : ∃ p, decide ((wordOf k).data.toList = t) = p := ⟨_, rfl⟩
      rw [hp] at heq
      have HP := Lib.hid hp
      generalize wordOf k = D at hix heq
      generalize (cntOf k : Int) = N at hix
      generalize loOf k = N1 at hix
      generalize hiOf k = N2 at hix
      clear hp hk
      cases p
      · go_wp2
        go_roundw
        case rel => exact ⟨k + 1, by go_num, HK.out, fun j hj => by
            by_cases e : j = k
            · subst e; exact of_decide_eq_false HP.out
            · exact HJ.out j (by omega), HB.out.alloc HB.out.size _⟩
        case measure => have := HK.out; simp [intOf]; omega
      · go_wp2
        go_ret
        refine ⟨k, rfl, ?_, HB.out.alloc HB.out.size _⟩
        have hkt : (wordOf k).data.toList = t := of_decide_eq_true HP.out
        by_cases h0 : k = 0
        · subst h0
          exact .inl ⟨rfl, fun j h1 h8 e => wordOf_ne h1 h8 (e.trans hkt.symm)⟩
        · exact .inr ⟨by omega, by have := HK.out; omega, hkt⟩
    · obtain rfl : k = 14 := by omega
      clear hk
      go_wp2
      go_ret
      exact ⟨0, rfl, .inl ⟨rfl, fun j h1 h8 e => HJ.out j (by omega) e⟩, HB.out⟩

end Go.Proofs.YtdefhmpmgcahpaaDoor
