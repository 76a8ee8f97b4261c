import Derived.Test.YtfdmohnmilecnaaDoorChnB
import Derived.BigQuiet
/-
  Lengths: what a step makes of n numbers, in the model.
-/
set_option linter.unusedVariables false
set_option linter.unusedSimpArgs false
namespace Go.Proofs.YtfdmohnmilecnaaDoor
open Go.RowKit

/-- How many numbers a step makes of n. -/
def lenSt (s : St) (n : Int) : Int := if s.kind = 5 then (n + s.n - 1) / s.n else if s.kind = 6 then n * s.n else if s.kind = 7 ∨ s.kind = 8 ∨ s.kind = 9 then n / s.n * s.n else n

/-- The bounds of a valid step. -/
structure StB (s : St) : Prop where
  k1 : 1 ≤ s.kind
  k2 : s.kind ≤ 13
  n : s.kind = 5 ∨ s.kind = 6 ∨ s.kind = 7 ∨ s.kind = 8 ∨ s.kind = 9 → 1 ≤ s.n ∧ s.n ≤ 64

theorem validSt_b {s : St} (h : validSt s = true) : StB s := by
  obtain ⟨k1, k2⟩ := validSt_kind h
  refine ⟨k1, k2, fun hk => ?_⟩
  obtain ⟨kd, n, k, taps⟩ := s
  simp only at hk k1 k2
  rcases hk with rfl | rfl | rfl | rfl | rfl
  all_goals
    simp [validSt, inZ] at h
    simp only
    omega

theorem lenSt_bounds {s : St} (h : StB s) {n : Int} (h0 : 0 ≤ n) (h1 : n ≤ 1000000) : 0 ≤ lenSt s n ∧ lenSt s n ≤ 64000000 := by
  unfold lenSt
  by_cases h5 : s.kind = 5
  · rw [if_pos h5]
    obtain ⟨a, b⟩ := h.n (.inl h5)
    refine ⟨Int.ediv_nonneg (by omega) (by omega), ?_⟩
    have := Int.ediv_le_self s.n (show 0 ≤ n + s.n - 1 by omega)
    omega
  · rw [if_neg h5]
    by_cases h6 : s.kind = 6
    · rw [if_pos h6]
      obtain ⟨a, b⟩ := h.n (.inr (.inl h6))
      refine ⟨Int.mul_nonneg h0 (by omega), ?_⟩
      have := Int.mul_le_mul h1 b (by omega) (by omega)
      omega
    · rw [if_neg h6]
      by_cases h7 : s.kind = 7 ∨ s.kind = 8 ∨ s.kind = 9
      · rw [if_pos h7]
        obtain ⟨a, b⟩ := h.n (by omega)
        have h2 := Int.ediv_mul_le n (b := s.n) (by omega)
        refine ⟨Int.mul_nonneg (Int.ediv_nonneg h0 (by omega)) (by omega), by omega⟩
      · rw [if_neg h7]
        omega

/-- The rest of a plan makes so many numbers, or too many on the way. -/
def lenGo : List St → Int → Int × Int
  | [], n => (n, 0)
  | s :: ss, n => if 1000000 < lenSt s n then (0, 3) else lenGo ss (lenSt s n)

theorem drop_getD {ss : List St} {k : Nat} (h : k < ss.length) : ss.drop k = ss.getD k default :: ss.drop (k + 1) := by
  rw [List.drop_eq_getElem_cons h, List.getD_eq_getElem?_getD, List.getElem?_eq_getElem h]
  rfl

section
variable (q : Nat) (n k x : Int) (a : Option Addr) (L c g o : Nat) (w : World)

set_option maxRecDepth 100000 in
set_option maxHeartbeats 4000000 in
theorem lenM_5 (hn : 1 ≤ n ∧ n ≤ 64) (hx : 0 ≤ x ∧ x ≤ 1000000) (h : StepAt w g o 5 n k a L c) :
    Calls Tryd.prog 81 #[.pointer (some ⟨g, o, none⟩), .int .i64 x] w fun e w' => e = .returned (.int .i64 ((x + n - 1) / n)) ∧ ∃ m, w' = w.drewN m := by
  obtain ⟨c0, c1, c2, c3⟩ := h
  have e1 : IntKind.i64.wrap (x + n) = x + n := IntWalk.i64_in _ (by omega)
  have e2 : IntKind.i64.wrap (x + n - 1) = x + n - 1 := IntWalk.i64_in _ (by omega)
  have hz : ¬ n = 0 := by omega
  have q0 : 0 ≤ (x + n - 1) / n := Int.ediv_nonneg (by omega) (by omega)
  have q1 := Int.ediv_le_self n (show 0 ≤ x + n - 1 by omega)
  obtain ⟨r, hr⟩ : ∃ r, (x + n - 1) / n = r := ⟨_, rfl⟩
  have q2 : (x + n - 1).tdiv n = r := by rw [Int.tdiv_eq_ediv_of_nonneg (by omega), hr]
  rw [hr] at q0 q1 ⊢
  have e3 : IntKind.i64.wrap r = r := IntWalk.i64_in _ (by omega)
  clear q0 q1 hn hx
  go_enter Tryd.func81, Tryd.ntmps81
  go_wp2
  go_quiet (fail)
  go_wp2
  go_ret
  exact ⟨rfl, _, rfl⟩

set_option maxRecDepth 100000 in
set_option maxHeartbeats 4000000 in
theorem lenM_6 (hn : 1 ≤ n ∧ n ≤ 64) (hx : 0 ≤ x ∧ x ≤ 1000000) (h : StepAt w g o 6 n k a L c) :
    Calls Tryd.prog 81 #[.pointer (some ⟨g, o, none⟩), .int .i64 x] w fun e w' => e = .returned (.int .i64 (x * n)) ∧ ∃ m, w' = w.drewN m := by
  obtain ⟨c0, c1, c2, c3⟩ := h
  have q0 : 0 ≤ x * n := Int.mul_nonneg hx.1 (by omega)
  have q1 : x * n ≤ 1000000 * 64 := Int.mul_le_mul hx.2 hn.2 (by omega) (by omega)
  obtain ⟨r, hr⟩ : ∃ r, x * n = r := ⟨_, rfl⟩
  rw [hr] at q0 q1
  have e1 : IntKind.i64.wrap (x * n) = r := by rw [hr]; exact IntWalk.i64_in _ (by omega)
  rw [hr]
  clear q0 q1 hn hx hr
  go_enter Tryd.func81, Tryd.ntmps81
  go_wp2
  go_ret
  exact ⟨rfl, 0, rfl⟩

set_option maxRecDepth 100000 in
set_option maxHeartbeats 4000000 in
theorem lenM_7 (hn : 1 ≤ n ∧ n ≤ 64) (hx : 0 ≤ x ∧ x ≤ 1000000) (h : StepAt w g o 7 n k a L c) :
    Calls Tryd.prog 81 #[.pointer (some ⟨g, o, none⟩), .int .i64 x] w fun e w' => e = .returned (.int .i64 (x / n * n)) ∧ ∃ m, w' = w.drewN m := by
  obtain ⟨c0, c1, c2, c3⟩ := h
  have hz : ¬ n = 0 := by omega
  have q0 : 0 ≤ x / n := Int.ediv_nonneg (by omega) (by omega)
  have q1 := Int.ediv_le_self n (show 0 ≤ x by omega)
  have q3 := Int.ediv_mul_le x (b := n) (by omega)
  obtain ⟨r, hr⟩ : ∃ r, x / n = r := ⟨_, rfl⟩
  have q2 : x.tdiv n = r := by rw [Int.tdiv_eq_ediv_of_nonneg (by omega), hr]
  rw [hr] at q0 q1 q3 ⊢
  have e3 : IntKind.i64.wrap r = r := IntWalk.i64_in _ (by omega)
  have q4 : 0 ≤ r * n := Int.mul_nonneg q0 (by omega)
  obtain ⟨t, ht⟩ : ∃ t, r * n = t := ⟨_, rfl⟩
  rw [ht] at q3 q4
  have e4 : IntKind.i64.wrap (r * n) = t := by rw [ht]; exact IntWalk.i64_in _ (by omega)
  rw [ht]
  clear q0 q1 q3 q4 hn hx ht
  go_enter Tryd.func81, Tryd.ntmps81
  go_wp2
  go_quiet (fail)
  go_wp2
  go_ret
  exact ⟨rfl, _, rfl⟩

set_option maxRecDepth 100000 in
set_option maxHeartbeats 4000000 in
theorem lenM_8 (hn : 1 ≤ n ∧ n ≤ 64) (hx : 0 ≤ x ∧ x ≤ 1000000) (h : StepAt w g o 8 n k a L c) :
    Calls Tryd.prog 81 #[.pointer (some ⟨g, o, none⟩), .int .i64 x] w fun e w' => e = .returned (.int .i64 (x / n * n)) ∧ ∃ m, w' = w.drewN m := by
  obtain ⟨c0, c1, c2, c3⟩ := h
  have hz : ¬ n = 0 := by omega
  have q0 : 0 ≤ x / n := Int.ediv_nonneg (by omega) (by omega)
  have q1 := Int.ediv_le_self n (show 0 ≤ x by omega)
  have q3 := Int.ediv_mul_le x (b := n) (by omega)
  obtain ⟨r, hr⟩ : ∃ r, x / n = r := ⟨_, rfl⟩
  have q2 : x.tdiv n = r := by rw [Int.tdiv_eq_ediv_of_nonneg (by omega), hr]
  rw [hr] at q0 q1 q3 ⊢
  have e3 : IntKind.i64.wrap r = r := IntWalk.i64_in _ (by omega)
  have q4 : 0 ≤ r * n := Int.mul_nonneg q0 (by omega)
  obtain ⟨t, ht⟩ : ∃ t, r * n = t := ⟨_, rfl⟩
  rw [ht] at q3 q4
  have e4 : IntKind.i64.wrap (r * n) = t := by rw [ht]; exact IntWalk.i64_in _ (by omega)
  rw [ht]
  clear q0 q1 q3 q4 hn hx ht
  go_enter Tryd.func81, Tryd.ntmps81
  go_wp2
  go_quiet (fail)
  go_wp2
  go_ret
  exact ⟨rfl, _, rfl⟩

set_option maxRecDepth 100000 in
set_option maxHeartbeats 4000000 in
theorem lenM_9 (hn : 1 ≤ n ∧ n ≤ 64) (hx : 0 ≤ x ∧ x ≤ 1000000) (h : StepAt w g o 9 n k a L c) :
    Calls Tryd.prog 81 #[.pointer (some ⟨g, o, none⟩), .int .i64 x] w fun e w' => e = .returned (.int .i64 (x / n * n)) ∧ ∃ m, w' = w.drewN m := by
  obtain ⟨c0, c1, c2, c3⟩ := h
  have hz : ¬ n = 0 := by omega
  have q0 : 0 ≤ x / n := Int.ediv_nonneg (by omega) (by omega)
  have q1 := Int.ediv_le_self n (show 0 ≤ x by omega)
  have q3 := Int.ediv_mul_le x (b := n) (by omega)
  obtain ⟨r, hr⟩ : ∃ r, x / n = r := ⟨_, rfl⟩
  have q2 : x.tdiv n = r := by rw [Int.tdiv_eq_ediv_of_nonneg (by omega), hr]
  rw [hr] at q0 q1 q3 ⊢
  have e3 : IntKind.i64.wrap r = r := IntWalk.i64_in _ (by omega)
  have q4 : 0 ≤ r * n := Int.mul_nonneg q0 (by omega)
  obtain ⟨t, ht⟩ : ∃ t, r * n = t := ⟨_, rfl⟩
  rw [ht] at q3 q4
  have e4 : IntKind.i64.wrap (r * n) = t := by rw [ht]; exact IntWalk.i64_in _ (by omega)
  rw [ht]
  clear q0 q1 q3 q4 hn hx ht
  go_enter Tryd.func81, Tryd.ntmps81
  go_wp2
  go_quiet (fail)
  go_wp2
  go_ret
  exact ⟨rfl, _, rfl⟩

set_option maxRecDepth 100000 in
set_option maxHeartbeats 4000000 in
theorem lenM_1 (h : StepAt w g o 1 n k a L c) :
    Calls Tryd.prog 81 #[.pointer (some ⟨g, o, none⟩), .int .i64 x] w fun e w' => e = .returned (.int .i64 x) ∧ ∃ m, w' = w.drewN m := by
  obtain ⟨c0, c1, c2, c3⟩ := h
  go_enter Tryd.func81, Tryd.ntmps81
  go_wp2
  go_ret
  exact ⟨rfl, 0, rfl⟩

set_option maxRecDepth 100000 in
set_option maxHeartbeats 4000000 in
theorem lenM_2 (h : StepAt w g o 2 n k a L c) :
    Calls Tryd.prog 81 #[.pointer (some ⟨g, o, none⟩), .int .i64 x] w fun e w' => e = .returned (.int .i64 x) ∧ ∃ m, w' = w.drewN m := by
  obtain ⟨c0, c1, c2, c3⟩ := h
  go_enter Tryd.func81, Tryd.ntmps81
  go_wp2
  go_ret
  exact ⟨rfl, 0, rfl⟩

set_option maxRecDepth 100000 in
set_option maxHeartbeats 4000000 in
theorem lenM_3 (h : StepAt w g o 3 n k a L c) :
    Calls Tryd.prog 81 #[.pointer (some ⟨g, o, none⟩), .int .i64 x] w fun e w' => e = .returned (.int .i64 x) ∧ ∃ m, w' = w.drewN m := by
  obtain ⟨c0, c1, c2, c3⟩ := h
  go_enter Tryd.func81, Tryd.ntmps81
  go_wp2
  go_ret
  exact ⟨rfl, 0, rfl⟩

set_option maxRecDepth 100000 in
set_option maxHeartbeats 4000000 in
theorem lenM_4 (h : StepAt w g o 4 n k a L c) :
    Calls Tryd.prog 81 #[.pointer (some ⟨g, o, none⟩), .int .i64 x] w fun e w' => e = .returned (.int .i64 x) ∧ ∃ m, w' = w.drewN m := by
  obtain ⟨c0, c1, c2, c3⟩ := h
  go_enter Tryd.func81, Tryd.ntmps81
  go_wp2
  go_ret
  exact ⟨rfl, 0, rfl⟩

set_option maxRecDepth 100000 in
set_option maxHeartbeats 4000000 in
theorem lenM_10 (h : StepAt w g o 10 n k a L c) :
    Calls Tryd.prog 81 #[.pointer (some ⟨g, o, none⟩), .int .i64 x] w fun e w' => e = .returned (.int .i64 x) ∧ ∃ m, w' = w.drewN m := by
  obtain ⟨c0, c1, c2, c3⟩ := h
  go_enter Tryd.func81, Tryd.ntmps81
  go_wp2
  go_ret
  exact ⟨rfl, 0, rfl⟩

set_option maxRecDepth 100000 in
set_option maxHeartbeats 4000000 in
theorem lenM_11 (h : StepAt w g o 11 n k a L c) :
    Calls Tryd.prog 81 #[.pointer (some ⟨g, o, none⟩), .int .i64 x] w fun e w' => e = .returned (.int .i64 x) ∧ ∃ m, w' = w.drewN m := by
  obtain ⟨c0, c1, c2, c3⟩ := h
  go_enter Tryd.func81, Tryd.ntmps81
  go_wp2
  go_ret
  exact ⟨rfl, 0, rfl⟩

set_option maxRecDepth 100000 in
set_option maxHeartbeats 4000000 in
theorem lenM_12 (h : StepAt w g o 12 n k a L c) :
    Calls Tryd.prog 81 #[.pointer (some ⟨g, o, none⟩), .int .i64 x] w fun e w' => e = .returned (.int .i64 x) ∧ ∃ m, w' = w.drewN m := by
  obtain ⟨c0, c1, c2, c3⟩ := h
  go_enter Tryd.func81, Tryd.ntmps81
  go_wp2
  go_ret
  exact ⟨rfl, 0, rfl⟩

set_option maxRecDepth 100000 in
set_option maxHeartbeats 4000000 in
theorem lenM_13 (h : StepAt w g o 13 n k a L c) :
    Calls Tryd.prog 81 #[.pointer (some ⟨g, o, none⟩), .int .i64 x] w fun e w' => e = .returned (.int .i64 x) ∧ ∃ m, w' = w.drewN m := by
  obtain ⟨c0, c1, c2, c3⟩ := h
  go_enter Tryd.func81, Tryd.ntmps81
  go_wp2
  go_ret
  exact ⟨rfl, 0, rfl⟩

end

end Go.Proofs.YtfdmohnmilecnaaDoor
