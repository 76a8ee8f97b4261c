import Derived.Test.YtdefhmpmgcahpaaDoorMPlanTeL12
set_option linter.unusedVariables false
set_option linter.unusedSimpArgs false
namespace Go.Proofs.YtdefhmpmgcahpaaDoor
open Go.RowKit

section
variable (n k : Int) (a : Option Addr) (L c : Nat) (w : World)

set_option maxRecDepth 100000 in
set_option maxHeartbeats 4000000 in
theorem stepOf_9 : Calls Tryd.prog 93 #[.agg #[.int .i64 9, .int .i64 n, .int .i64 k, .slice a L c]] w fun e w' => e = .returned (.iface 166 (.agg #[.int .i64 9, .int .i64 n, .int .i64 k, .slice a L c])) ∧ Below w.heap.size w w' := by
  go_enter Tryd.func93, Tryd.ntmps93
  go_wp2
  go_region
  all_goals
    go_wp2
    go_ret
    refine ⟨rfl, ?_⟩
    repeat' (first | exact Below.refl _ _ | refine Below.drew ?_ | refine below_draws ?_ _ | refine Below.alloc ?_ ?_ _)
    all_goals first | omega | (simp; done) | (simp; omega) | (simp [World.drewN]; done) | (simp [World.drewN]; omega) | trace_state

set_option maxRecDepth 100000 in
set_option maxHeartbeats 4000000 in
theorem stepOf_10 : Calls Tryd.prog 93 #[.agg #[.int .i64 10, .int .i64 n, .int .i64 k, .slice a L c]] w fun e w' => e = .returned (.iface 167 (.agg #[.int .i64 10, .int .i64 n, .int .i64 k, .slice a L c])) ∧ Below w.heap.size w w' := by
  go_enter Tryd.func93, Tryd.ntmps93
  go_wp2
  go_region
  all_goals
    go_wp2
    go_ret
    refine ⟨rfl, ?_⟩
    repeat' (first | exact Below.refl _ _ | refine Below.drew ?_ | refine below_draws ?_ _ | refine Below.alloc ?_ ?_ _)
    all_goals first | omega | (simp; done) | (simp; omega) | (simp [World.drewN]; done) | (simp [World.drewN]; omega) | trace_state

set_option maxRecDepth 100000 in
set_option maxHeartbeats 4000000 in
theorem stepOf_11 : Calls Tryd.prog 93 #[.agg #[.int .i64 11, .int .i64 n, .int .i64 k, .slice a L c]] w fun e w' => e = .returned (.iface 168 (.agg #[.int .i64 11, .int .i64 n, .int .i64 k, .slice a L c])) ∧ Below w.heap.size w w' := by
  go_enter Tryd.func93, Tryd.ntmps93
  go_wp2
  go_region
  all_goals
    go_wp2
    go_ret
    refine ⟨rfl, ?_⟩
    repeat' (first | exact Below.refl _ _ | refine Below.drew ?_ | refine below_draws ?_ _ | refine Below.alloc ?_ ?_ _)
    all_goals first | omega | (simp; done) | (simp; omega) | (simp [World.drewN]; done) | (simp [World.drewN]; omega) | trace_state

set_option maxRecDepth 100000 in
set_option maxHeartbeats 4000000 in
theorem stepOf_12 : Calls Tryd.prog 93 #[.agg #[.int .i64 12, .int .i64 n, .int .i64 k, .slice a L c]] w fun e w' => e = .returned (.iface 169 (.agg #[.int .i64 12, .int .i64 n, .int .i64 k, .slice a L c])) ∧ Below w.heap.size w w' := by
  go_enter Tryd.func93, Tryd.ntmps93
  go_wp2
  go_region
  all_goals
    go_wp2
    go_ret
    refine ⟨rfl, ?_⟩
    repeat' (first | exact Below.refl _ _ | refine Below.drew ?_ | refine below_draws ?_ _ | refine Below.alloc ?_ ?_ _)
    all_goals first | omega | (simp; done) | (simp; omega) | (simp [World.drewN]; done) | (simp [World.drewN]; omega) | trace_state

end
end Go.Proofs.YtdefhmpmgcahpaaDoor
