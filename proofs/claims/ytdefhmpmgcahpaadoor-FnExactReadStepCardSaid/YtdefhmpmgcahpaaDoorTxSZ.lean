import Derived.Test.YtdefhmpmgcahpaaDoorMExactRL3
import Derived.Test.YtdefhmpmgcahpaaDoorImpEZ
/-
  The text of a step: pure, and by the model.
-/
set_option linter.unusedVariables false
set_option linter.unusedSimpArgs false
namespace Go.Proofs.YtdefhmpmgcahpaaDoor
open Go.RowKit

/-- The text of a step; nothing of one that is not valid. -/
def stText (s : St) : List UInt8 := if validSt s then txGo (wordOf s.kind.toNat).data.toList (numsOf s.kind.toNat s.n s.k s.taps) else []

theorem word_len {q : Nat} (hq : q < 14) : (wordOf q).data.toList.length ≤ 6 := by
  rcases q with _ | _ | _ | _ | _ | _ | _ | _ | _ | _ | _ | _ | _ | _ | q
  all_goals first | decide | omega
theorem kinds13 {kd : Int} (h : 1 ≤ kd ∧ kd ≤ 13) : kd = 1 ∨ kd = 2 ∨ kd = 3 ∨ kd = 4 ∨ kd = 5 ∨ kd = 6 ∨ kd = 7 ∨ kd = 8 ∨ kd = 9 ∨ kd = 10 ∨ kd = 11 ∨ kd = 12 ∨ kd = 13 := by omega
theorem valid_kind {s : St} (h : validSt s = true) : 1 ≤ s.kind ∧ s.kind ≤ 13 := by
  by_cases hk : 1 ≤ s.kind ∧ s.kind ≤ 13
  · exact hk
  · exfalso
    have e : validSt s = false := by
      simp only [validSt]
      repeat (rw [if_neg (by omega)])
    rw [e] at h
    cases h
theorem valid_nums {s : St} (h : validSt s = true) : (numsOf s.kind.toNat s.n s.k s.taps).length ≤ 8 ∧ ∀ z ∈ numsOf s.kind.toNat s.n s.k s.taps, -1024 ≤ z ∧ z ≤ 1024 := by
  obtain ⟨k1, k2⟩ := valid_kind h
  obtain ⟨kd, n, k, taps⟩ := s
  simp only at k1 k2
  rcases kinds13 ⟨k1, k2⟩ with rfl | rfl | rfl | rfl | rfl | rfl | rfl | rfl | rfl | rfl | rfl | rfl | rfl
  all_goals simp [validSt, inZ, partsB] at h
  · rw [show numsOf (Int.toNat 1) n k taps = [n, k] from rfl]
    refine ⟨by simp, fun z hz => ?_⟩
    simp at hz
    omega
  · rw [show numsOf (Int.toNat 2) n k taps = [n] from rfl]
    refine ⟨by simp, fun z hz => ?_⟩
    simp at hz
    omega
  · rw [show numsOf (Int.toNat 3) n k taps = taps from rfl]
    refine ⟨by omega, fun z hz => ?_⟩
    have := h.2.2 z hz
    omega
  · rw [show numsOf (Int.toNat 4) n k taps = [n, k] from rfl]
    refine ⟨by simp, fun z hz => ?_⟩
    simp at hz
    omega
  · rw [show numsOf (Int.toNat 5) n k taps = [n] from rfl]
    refine ⟨by simp, fun z hz => ?_⟩
    simp at hz
    omega
  · rw [show numsOf (Int.toNat 6) n k taps = [n] from rfl]
    refine ⟨by simp, fun z hz => ?_⟩
    simp at hz
    omega
  · rw [show numsOf (Int.toNat 7) n k taps = [n] from rfl]
    refine ⟨by simp, fun z hz => ?_⟩
    simp at hz
    omega
  · rw [show numsOf (Int.toNat 8) n k taps = [n] from rfl]
    refine ⟨by simp, fun z hz => ?_⟩
    simp at hz
    omega
  · rw [show numsOf (Int.toNat 9) n k taps = [n] from rfl]
    refine ⟨by simp, fun z hz => ?_⟩
    simp at hz
    omega
  · rw [show numsOf (Int.toNat 10) n k taps = [n] from rfl]
    refine ⟨by simp, fun z hz => ?_⟩
    simp at hz
    omega
  · rw [show numsOf (Int.toNat 11) n k taps = [] from rfl]
    refine ⟨by simp, fun z hz => ?_⟩
    simp at hz
  · rw [show numsOf (Int.toNat 12) n k taps = [] from rfl]
    refine ⟨by simp, fun z hz => ?_⟩
    simp at hz
  · rw [show numsOf (Int.toNat 13) n k taps = [] from rfl]
    refine ⟨by simp, fun z hz => ?_⟩
    simp at hz

/-- How many numbers the text of a kind mentions, of the model's table. -/
theorem told_cnt {q : Nat} (h1 : 1 ≤ q) (h13 : q ≤ 13) (h3 : q ≠ 3) : toldL.getD q 0 = (cntOf q : Int) := by
  rcases q with _ | _ | _ | _ | _ | _ | _ | _ | _ | _ | _ | _ | _ | _ | q
  all_goals first | omega | decide

set_option maxRecDepth 100000 in
set_option maxHeartbeats 4000000 in
theorem words2_any (w : World) :
    Calls Tryd.prog 46 #[] w fun e w' => ∃ v b, e = .returned (.tuple #[.slice (some ⟨v, 0, none⟩) 14 14, .slice (some ⟨b, 0, none⟩) 14 14]) ∧ (∀ j, j < 14 → w'.cell? ⟨v, j, none⟩ = some (.string (wordOf j))) ∧ (∀ j, j < 14 → w'.cell? ⟨b, j, none⟩ = some (.int .i64 (toldL.getD j 0))) ∧ Below w.heap.size w w' := by
  go_enter Tryd.func46, Tryd.ntmps46
  go_wp2
  go_ret2
  refine ⟨_, _, rfl, ?_, ?_, ((Below.refl _ _).alloc (Nat.le_refl _) _).alloc (by simp) _⟩
  · intro j hj
    rcases j with _ | _ | _ | _ | _ | _ | _ | _ | _ | _ | _ | _ | _ | _ | j
    all_goals first | omega | (unfold wordOf; go_simp; done) | (unfold wordOf; go_simp; rfl)
  · intro j hj
    rcases j with _ | _ | _ | _ | _ | _ | _ | _ | _ | _ | _ | _ | _ | _ | j
    all_goals first | omega | (unfold toldL; go_simp; done) | (unfold toldL; go_simp; rfl)

end Go.Proofs.YtdefhmpmgcahpaaDoor
