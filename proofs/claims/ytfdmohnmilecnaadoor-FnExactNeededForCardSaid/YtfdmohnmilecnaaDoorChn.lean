import Derived.Test.YtfdmohnmilecnaaDoorChnP
import Derived.Test.YtfdmohnmilecnaaDoorChnQ
import Derived.Test.YtfdmohnmilecnaaDoorChnR
import Derived.Test.YtfdmohnmilecnaaDoorChnS
/-
  Steps that can be run: stepOf.
-/
set_option linter.unusedVariables false
set_option linter.unusedSimpArgs false
namespace Go.Proofs.YtfdmohnmilecnaaDoor
open Go.RowKit

theorem kind_cases {kd : Int} (h : 1 ≤ kd ∧ kd ≤ 13) : kd = 1 ∨ kd = 2 ∨ kd = 3 ∨ kd = 4 ∨ kd = 5 ∨ kd = 6 ∨ kd = 7 ∨ kd = 8 ∨ kd = 9 ∨ kd = 10 ∨ kd = 11 ∨ kd = 12 ∨ kd = 13 := by omega

theorem validSt_kind {s : St} (h : validSt s = true) : 1 ≤ s.kind ∧ s.kind ≤ 13 := by
  by_cases hk : 1 ≤ s.kind ∧ s.kind ≤ 13
  · exact hk
  · exfalso
    have e : validSt s = false := by
      simp only [validSt]
      repeat (rw [if_neg (by omega)])
    rw [e] at h
    cases h

theorem stepOf_any (s : St) (hk : 1 ≤ s.kind ∧ s.kind ≤ 13) (a : Option Addr) (L c : Nat) (w : World) :
    Calls Tryd.prog 112 #[.agg #[.int .i64 s.kind, .int .i64 s.n, .int .i64 s.k, .slice a L c]] w fun e w' => e = .returned (ifV s (.slice a L c)) ∧ Below w.heap.size w w' := by
  obtain ⟨kd, n, k, taps⟩ := s
  simp only at hk ⊢
  rcases kind_cases hk with rfl | rfl | rfl | rfl | rfl | rfl | rfl | rfl | rfl | rfl | rfl | rfl | rfl
  · exact stepOf_1 n k a L c w
  · exact stepOf_2 n k a L c w
  · exact stepOf_3 n k a L c w
  · exact stepOf_4 n k a L c w
  · exact stepOf_5 n k a L c w
  · exact stepOf_6 n k a L c w
  · exact stepOf_7 n k a L c w
  · exact stepOf_8 n k a L c w
  · exact stepOf_9 n k a L c w
  · exact stepOf_10 n k a L c w
  · exact stepOf_11 n k a L c w
  · exact stepOf_12 n k a L c w
  · exact stepOf_13 n k a L c w

end Go.Proofs.YtfdmohnmilecnaaDoor
