import Derived.Test.YtdefhmpmgcahpaaDoorWalkI64
import Derived.Test.YtdefhmpmgcahpaaDoorBls
import Derived.StillTailTactics
/-
  Whether a number lies between two others, by the model.
-/
set_option linter.unusedVariables false
set_option linter.unusedSimpArgs false
namespace Go.Proofs.YtdefhmpmgcahpaaDoor
open Go.RowKit

def inZ (z lo hi : Int) : Bool := decide (lo ≤ z) && decide (z ≤ hi)
theorem inZ_t {z lo hi : Int} (h : lo ≤ z ∧ z ≤ hi) : inZ z lo hi = true := by simp [inZ, h.1, h.2]
theorem inZ_f {z lo hi : Int} (h : ¬ (lo ≤ z ∧ z ≤ hi)) : inZ z lo hi = false := by
  simp only [inZ, Bool.and_eq_false_iff, decide_eq_false_iff_not]
  omega
theorem inZ_iff {z lo hi : Int} : inZ z lo hi = true ↔ lo ≤ z ∧ z ≤ hi := by simp [inZ]
theorem in_any (n lo hi : Int) (w : World) :
    Calls Tryd.prog 80 #[.int .i64 n, .int .i64 lo, .int .i64 hi] w fun e w' => e = .returned (.bool (inZ n lo hi)) ∧ w' = w := by
  by_cases h1 : lo ≤ n
  · by_cases h2 : n ≤ hi
    · rw [inZ_t ⟨h1, h2⟩]
      go_enter Tryd.func80, Tryd.ntmps80
      go_wp2
      go_ret
      exact ⟨rfl, rfl⟩
    · have g : decide (n ≤ hi) = false := decide_eq_false h2
      rw [inZ_f (fun h => h2 h.2)]
      clear h2
      go_enter Tryd.func80, Tryd.ntmps80
      go_wp2
      go_ret
      exact ⟨rfl, rfl⟩
  · have h2 : n < lo := by omega
    rw [inZ_f (fun h => h1 h.1)]
    clear h1
    go_enter Tryd.func80, Tryd.ntmps80
    go_wp2
    go_ret
    exact ⟨rfl, rfl⟩

end Go.Proofs.YtdefhmpmgcahpaaDoor
