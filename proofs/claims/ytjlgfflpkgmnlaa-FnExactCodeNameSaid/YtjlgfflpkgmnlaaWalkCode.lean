import Derived.Test.YtjlgfflpkgmnlaaRows
import Derived.Test.YtjlgfflpkgmnlaaKit
import Derived.WalkSpells
import Derived.WalkLawsBesides
/-
  The walk of the law on CodeName: both functions give one name for each code from 0 to 8, and the empty text for every other number.
-/
namespace Go.Proofs.Ytjlgfflpkgmnlaa
open Go.RowKit

set_option maxHeartbeats 4000000 in
theorem codeName_law (c : Int) (w : World) (_ : (Lit.int .i64 c).wf = true) :
    Calls Try.prog 4 #[.int .i64 c] w fun e w' => e = .returned (.bool true) ∧ Below w.heap.size w w' := by
  by_cases hin : 0 ≤ c ∧ c ≤ 8
  · have : c = 0 ∨ c = 1 ∨ c = 2 ∨ c = 3 ∨ c = 4 ∨ c = 5 ∨ c = 6 ∨ c = 7 ∨ c = 8 := by omega
    rcases this with rfl | rfl | rfl | rfl | rfl | rfl | rfl | rfl | rfl
    all_goals
      go_enter Try.func4, Try.ntmps4
      go_wp2
      go_ret
      exact ⟨rfl, by repeat (first | exact Below.refl _ _ | apply Below.drew | (refine Below.alloc ?_ (by simp) _))⟩
  · have h0 : (c == 0) = false := by simp; omega
    have h1 : (c == 1) = false := by simp; omega
    have h2 : (c == 2) = false := by simp; omega
    have h3 : (c == 3) = false := by simp; omega
    have h4 : (c == 4) = false := by simp; omega
    have h5 : (c == 5) = false := by simp; omega
    have h6 : (c == 6) = false := by simp; omega
    have h7 : (c == 7) = false := by simp; omega
    have h8 : (c == 8) = false := by simp; omega
    by_cases hs : 0 ≤ c
    · have hd : decide (c ≤ 8) = false := by simp; omega
      have he : decide (0 ≤ c) = true := by simp; omega
      go_enter Try.func4, Try.ntmps4
      go_wp2
      go_ret
      exact ⟨rfl, by repeat (first | exact Below.refl _ _ | apply Below.drew | (refine Below.alloc ?_ (by simp) _))⟩
    · have hd : decide (0 ≤ c) = false := by simp; omega
      go_enter Try.func4, Try.ntmps4
      go_wp2
      go_ret
      exact ⟨rfl, by repeat (first | exact Below.refl _ _ | apply Below.drew | (refine Below.alloc ?_ (by simp) _))⟩
end Go.Proofs.Ytjlgfflpkgmnlaa
