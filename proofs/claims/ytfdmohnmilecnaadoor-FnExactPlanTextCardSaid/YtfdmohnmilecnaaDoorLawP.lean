import Derived.Test.YtfdmohnmilecnaaDoorLaidV
/-
  szPlan.
-/
set_option linter.unusedVariables false
set_option linter.unusedSimpArgs false
namespace Go.Proofs.YtfdmohnmilecnaaDoor
open Go.RowKit

theorem StepsIn.form {w : World} {v : Value} {ss : List St} (h : StepsIn w v ss) : ∃ a cap, v = .slice a ss.length cap := by
  cases h with
  | nil a cap => exact ⟨a, cap, rfl⟩
  | row x cap L ss tv hL h0 hc hm hb hh => exact ⟨_, cap, by rw [hL]⟩

theorem szPlan_any {v : Value} {ss : List St} {w : World} (h : PlanIn w v ss) (left : Nat) (hf : left ≤ 1048576) :
    Calls Tryd.prog 25 #[v, .int .i64 left] w (SzTo left (ss.length ≤ 1048576 ∧ ∀ j, j < ss.length → (ss.getD j default).taps.length ≤ 1048576) w) := by
  obtain ⟨sv, rfl, h⟩ := h
  have HB : Hid (Below w.heap.size w (w.alloc (.cells #[sv] 38))) := (Below.refl _ _).alloc (Nat.le_refl _) _
  have T := Lib.hid (szStepS_any (h.below HB.out) left hf)
  clear h
  go_enter Tryd.func25, Tryd.ntmps25
  go_wp2_with fail
  refine T.out.mono ?_
  rintro e w1 ⟨r, rfl, hr, hb⟩
  have HB2 := Lib.hid (below_step' HB.out hb HB.out.size)
  clear hb
  rcases hr with rfl | ⟨r0, rl, ok⟩
  · go_wp2
    go_ret
    exact ⟨_, rfl, .inl rfl, HB2.out⟩
  · have g : ¬ r < 0 := by omega
    have HOK := Lib.hid ok
    clear ok
    go_wp2
    go_ret
    exact ⟨_, rfl, .inr ⟨r0, rl, HOK.out⟩, HB2.out⟩

end Go.Proofs.YtfdmohnmilecnaaDoor
