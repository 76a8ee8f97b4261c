import Derived.Test.YtdefhmpmgcahpaaDoorMPlanTeL12
set_option linter.unusedVariables false
set_option linter.unusedSimpArgs false
namespace Go.Proofs.YtdefhmpmgcahpaaDoor
open Go.RowKit

section
variable (n k : Int) (a : Option Addr) (L c : Nat) (w : World)

set_option maxRecDepth 100000 in
set_option maxHeartbeats 4000000 in
theorem stepOf_1 : Calls Tryd.prog 93 #[.agg #[.int .i64 1, .int .i64 n, .int .i64 k, .slice a L c]] w fun e w' => e = .returned (.iface 157 (.agg #[.int .i64 1, .int .i64 n, .int .i64 k, .slice a L c])) ∧ Below w.heap.size w w' := by
  go_enter Tryd.func93, Tryd.ntmps93
  go_wp2
  go_region
  all_goals
    go_wp2
    go_ret
    refine ⟨rfl, ?_⟩
    repeat' (first | exact Below.refl _ _ | refine Below.drew ?_ | refine below_draws ?_ _ | refine Below.alloc ?_ ?_ _)
    all_goals first | omega | (simp; done) | (simp; omega) | (simp [World.drewN]; done) | (simp [World.drewN]; omega) | trace_state

set_option maxRecDepth 100000 in
set_option maxHeartbeats 4000000 in
theorem stepOf_2 : Calls Tryd.prog 93 #[.agg #[.int .i64 2, .int .i64 n, .int .i64 k, .slice a L c]] w fun e w' => e = .returned (.iface 158 (.agg #[.int .i64 2, .int .i64 n, .int .i64 k, .slice a L c])) ∧ Below w.heap.size w w' := by
  go_enter Tryd.func93, Tryd.ntmps93
  go_wp2
  go_region
  all_goals
    go_wp2
    go_ret
    refine ⟨rfl, ?_⟩
    repeat' (first | exact Below.refl _ _ | refine Below.drew ?_ | refine below_draws ?_ _ | refine Below.alloc ?_ ?_ _)
    all_goals first | omega | (simp; done) | (simp; omega) | (simp [World.drewN]; done) | (simp [World.drewN]; omega) | trace_state

set_option maxRecDepth 100000 in
set_option maxHeartbeats 4000000 in
theorem stepOf_3 : Calls Tryd.prog 93 #[.agg #[.int .i64 3, .int .i64 n, .int .i64 k, .slice a L c]] w fun e w' => e = .returned (.iface 159 (.agg #[.int .i64 3, .int .i64 n, .int .i64 k, .slice a L c])) ∧ Below w.heap.size w w' := by
  go_enter Tryd.func93, Tryd.ntmps93
  go_wp2
  go_region
  all_goals
    go_wp2
    go_ret
    refine ⟨rfl, ?_⟩
    repeat' (first | exact Below.refl _ _ | refine Below.drew ?_ | refine below_draws ?_ _ | refine Below.alloc ?_ ?_ _)
    all_goals first | omega | (simp; done) | (simp; omega) | (simp [World.drewN]; done) | (simp [World.drewN]; omega) | trace_state

set_option maxRecDepth 100000 in
set_option maxHeartbeats 4000000 in
theorem stepOf_4 : Calls Tryd.prog 93 #[.agg #[.int .i64 4, .int .i64 n, .int .i64 k, .slice a L c]] w fun e w' => e = .returned (.iface 160 (.agg #[.int .i64 4, .int .i64 n, .int .i64 k, .slice a L c])) ∧ Below w.heap.size w w' := by
  go_enter Tryd.func93, Tryd.ntmps93
  go_wp2
  go_region
  all_goals
    go_wp2
    go_ret
    refine ⟨rfl, ?_⟩
    repeat' (first | exact Below.refl _ _ | refine Below.drew ?_ | refine below_draws ?_ _ | refine Below.alloc ?_ ?_ _)
    all_goals first | omega | (simp; done) | (simp; omega) | (simp [World.drewN]; done) | (simp [World.drewN]; omega) | trace_state

end
end Go.Proofs.YtdefhmpmgcahpaaDoor
