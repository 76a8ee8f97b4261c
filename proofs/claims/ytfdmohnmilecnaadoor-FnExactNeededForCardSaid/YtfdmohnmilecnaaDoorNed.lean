import Derived.Test.YtfdmohnmilecnaaDoorLenM
import Derived.BigQuiet
/-
  What a step needs for n numbers, in the model (written by genned.py).
-/
set_option linter.unusedVariables false
set_option linter.unusedSimpArgs false
namespace Go.Proofs.YtfdmohnmilecnaaDoor
open Go.RowKit

/-- Of how many numbers a step makes so many. -/
def ndSt (s : St) (n : Int) : Int := if s.kind = 5 then (if 0 < (n - 1) * s.n + 1 then (n - 1) * s.n + 1 else 0) else if s.kind = 6 then (n + s.n - 1) / s.n else if s.kind = 7 ∨ s.kind = 8 ∨ s.kind = 9 then (n + s.n - 1) / s.n * s.n else n

theorem keep_bounds {x n : Int} (hn : 1 ≤ n ∧ n ≤ 64) (hx : 0 ≤ x ∧ x ≤ 1000000) : -64 ≤ (x - 1) * n ∧ (x - 1) * n ≤ 64000000 := by
  have h1 : (x - 1) * n ≤ 1000000 * 64 := Int.le_trans (Int.mul_le_mul_of_nonneg_right (show x - 1 ≤ 1000000 by omega) (by omega)) (Int.mul_le_mul_of_nonneg_left hn.2 (by omega))
  have h2 : (-1) * n ≤ (x - 1) * n := Int.mul_le_mul_of_nonneg_right (by omega) (by omega)
  omega
theorem piece_bounds {x n : Int} (hn : 1 ≤ n ∧ n ≤ 64) (hx : 0 ≤ x ∧ x ≤ 1000000) : 0 ≤ (x + n - 1) / n ∧ (x + n - 1) / n ≤ 1000063 ∧ 0 ≤ (x + n - 1) / n * n ∧ (x + n - 1) / n * n ≤ 1000063 := by
  have h0 : 0 ≤ (x + n - 1) / n := Int.ediv_nonneg (by omega) (by omega)
  have h1 := Int.ediv_le_self n (show 0 ≤ x + n - 1 by omega)
  have h2 := Int.ediv_mul_le (x + n - 1) (b := n) (by omega)
  have h3 : 0 ≤ (x + n - 1) / n * n := Int.mul_nonneg h0 (by omega)
  omega

theorem ndSt_bounds {s : St} (h : StB s) {n : Int} (h0 : 0 ≤ n) (h1 : n ≤ 1000000) : 0 ≤ ndSt s n ∧ ndSt s n ≤ 64000001 := by
  unfold ndSt
  by_cases h5 : s.kind = 5
  · rw [if_pos h5]
    have := keep_bounds (h.n (.inl h5)) ⟨h0, h1⟩
    split <;> omega
  · rw [if_neg h5]
    by_cases h6 : s.kind = 6
    · rw [if_pos h6]
      have := piece_bounds (h.n (.inr (.inl h6))) ⟨h0, h1⟩
      omega
    · rw [if_neg h6]
      by_cases h7 : s.kind = 7 ∨ s.kind = 8 ∨ s.kind = 9
      · rw [if_pos h7]
        have := piece_bounds (h.n (by omega)) ⟨h0, h1⟩
        omega
      · rw [if_neg h7]
        omega

/-- A number that is enough, if none is too great on the way. -/
def ndEnd (ss : List St) (x : Int) : Int × Int := if (lenGo ss x).2 = 0 then (x, 0) else (0, (lenGo ss x).2)

/-- What the first k steps need. -/
def ndGo (ss : List St) : Nat → Int → Int × Int
  | 0, x => ndEnd ss x
  | k + 1, x => if 1000000 < ndSt (ss.getD k default) x then (0, 3) else ndGo ss k (ndSt (ss.getD k default) x)

theorem ndMax_any (a c : Int) (h : (if 0 < a then a else 0) = c) (w : World) :
    Calls Tryd.prog 117 #[.int .i64 a, .int .i64 0] w fun e w' => e = .returned (.int .i64 c) ∧ w' = w := by
  subst h
  by_cases g : 0 < a
  · rw [if_pos g]
    go_enter Tryd.func117, Tryd.ntmps117
    go_wp2
    go_ret
    exact ⟨rfl, rfl⟩
  · rw [if_neg g]
    have g' : decide (0 < a) = false := decide_eq_false g
    go_enter Tryd.func117, Tryd.ntmps117
    go_wp2
    go_ret
    exact ⟨rfl, rfl⟩

section
variable (q : Nat) (n k x : Int) (a : Option Addr) (L c g o : Nat) (w : World)

set_option maxRecDepth 100000 in
set_option maxHeartbeats 4000000 in
theorem ndM_1 (h : StepAt w g o 1 n k a L c) :
    Calls Tryd.prog 84 #[.pointer (some ⟨g, o, none⟩), .int .i64 x] w fun e w' => e = .returned (.int .i64 x) ∧ ∃ m, w' = w.drewN m := by
  obtain ⟨c0, c1, c2, c3⟩ := h
  go_enter Tryd.func84, Tryd.ntmps84
  go_wp2
  go_ret
  exact ⟨rfl, 0, rfl⟩

set_option maxRecDepth 100000 in
set_option maxHeartbeats 4000000 in
theorem ndM_2 (h : StepAt w g o 2 n k a L c) :
    Calls Tryd.prog 84 #[.pointer (some ⟨g, o, none⟩), .int .i64 x] w fun e w' => e = .returned (.int .i64 x) ∧ ∃ m, w' = w.drewN m := by
  obtain ⟨c0, c1, c2, c3⟩ := h
  go_enter Tryd.func84, Tryd.ntmps84
  go_wp2
  go_ret
  exact ⟨rfl, 0, rfl⟩

set_option maxRecDepth 100000 in
set_option maxHeartbeats 4000000 in
theorem ndM_3 (h : StepAt w g o 3 n k a L c) :
    Calls Tryd.prog 84 #[.pointer (some ⟨g, o, none⟩), .int .i64 x] w fun e w' => e = .returned (.int .i64 x) ∧ ∃ m, w' = w.drewN m := by
  obtain ⟨c0, c1, c2, c3⟩ := h
  go_enter Tryd.func84, Tryd.ntmps84
  go_wp2
  go_ret
  exact ⟨rfl, 0, rfl⟩

set_option maxRecDepth 100000 in
set_option maxHeartbeats 4000000 in
theorem ndM_4 (h : StepAt w g o 4 n k a L c) :
    Calls Tryd.prog 84 #[.pointer (some ⟨g, o, none⟩), .int .i64 x] w fun e w' => e = .returned (.int .i64 x) ∧ ∃ m, w' = w.drewN m := by
  obtain ⟨c0, c1, c2, c3⟩ := h
  go_enter Tryd.func84, Tryd.ntmps84
  go_wp2
  go_ret
  exact ⟨rfl, 0, rfl⟩

set_option maxRecDepth 100000 in
set_option maxHeartbeats 4000000 in
theorem ndM_5 (hn : 1 ≤ n ∧ n ≤ 64) (hx : 0 ≤ x ∧ x ≤ 1000000) (h : StepAt w g o 5 n k a L c) :
    Calls Tryd.prog 84 #[.pointer (some ⟨g, o, none⟩), .int .i64 x] w fun e w' => e = .returned (.int .i64 (if 0 < (x - 1) * n + 1 then (x - 1) * n + 1 else 0)) ∧ ∃ m, w' = w.drewN m := by
  obtain ⟨c0, c1, c2, c3⟩ := h
  obtain ⟨q0, q1⟩ := keep_bounds hn hx
  obtain ⟨r, hr⟩ : ∃ r, (x - 1) * n = r := ⟨_, rfl⟩
  rw [hr] at q0 q1
  have e1 : IntKind.i64.wrap (x - 1) = x - 1 := IntWalk.i64_in _ (by omega)
  have e2 : IntKind.i64.wrap ((x - 1) * n) = r := by rw [hr]; exact IntWalk.i64_in _ (by omega)
  have e3 : IntKind.i64.wrap (r + 1) = r + 1 := IntWalk.i64_in _ (by omega)
  rw [hr]
  obtain ⟨t, ht⟩ : ∃ t, (if 0 < r + 1 then r + 1 else 0) = t := ⟨_, rfl⟩
  have MX := Lib.hid (fun w => ndMax_any (r + 1) t ht w)
  rw [ht]
  clear q0 q1 hn hx hr ht
  go_enter Tryd.func84, Tryd.ntmps84
  go_wp2_with fail
  refine (MX.out _).mono ?_
  rintro e w1 ⟨rfl, rfl⟩
  go_wp2
  go_ret
  exact ⟨rfl, 0, rfl⟩

set_option maxRecDepth 100000 in
set_option maxHeartbeats 4000000 in
theorem ndM_6 (hn : 1 ≤ n ∧ n ≤ 64) (hx : 0 ≤ x ∧ x ≤ 1000000) (h : StepAt w g o 6 n k a L c) :
    Calls Tryd.prog 84 #[.pointer (some ⟨g, o, none⟩), .int .i64 x] w fun e w' => e = .returned (.int .i64 ((x + n - 1) / n)) ∧ ∃ m, w' = w.drewN m := by
  obtain ⟨c0, c1, c2, c3⟩ := h
  have e1 : IntKind.i64.wrap (x + n) = x + n := IntWalk.i64_in _ (by omega)
  have e2 : IntKind.i64.wrap (x + n - 1) = x + n - 1 := IntWalk.i64_in _ (by omega)
  have hz : ¬ n = 0 := by omega
  obtain ⟨q0, q1, -, -⟩ := piece_bounds hn hx
  obtain ⟨r, hr⟩ : ∃ r, (x + n - 1) / n = r := ⟨_, rfl⟩
  have q2 : (x + n - 1).tdiv n = r := by rw [Int.tdiv_eq_ediv_of_nonneg (by omega), hr]
  rw [hr] at q0 q1 ⊢
  have e3 : IntKind.i64.wrap r = r := IntWalk.i64_in _ (by omega)
  clear q0 q1 hn hx
  go_enter Tryd.func84, Tryd.ntmps84
  go_wp2
  go_quiet (fail)
  go_wp2
  go_ret
  exact ⟨rfl, _, rfl⟩

set_option maxRecDepth 100000 in
set_option maxHeartbeats 4000000 in
theorem ndM_7 (hn : 1 ≤ n ∧ n ≤ 64) (hx : 0 ≤ x ∧ x ≤ 1000000) (h : StepAt w g o 7 n k a L c) :
    Calls Tryd.prog 84 #[.pointer (some ⟨g, o, none⟩), .int .i64 x] w fun e w' => e = .returned (.int .i64 ((x + n - 1) / n * n)) ∧ ∃ m, w' = w.drewN m := by
  obtain ⟨c0, c1, c2, c3⟩ := h
  have e1 : IntKind.i64.wrap (x + n) = x + n := IntWalk.i64_in _ (by omega)
  have e2 : IntKind.i64.wrap (x + n - 1) = x + n - 1 := IntWalk.i64_in _ (by omega)
  have hz : ¬ n = 0 := by omega
  obtain ⟨q0, q1, q3, q4⟩ := piece_bounds hn hx
  obtain ⟨r, hr⟩ : ∃ r, (x + n - 1) / n = r := ⟨_, rfl⟩
  have q2 : (x + n - 1).tdiv n = r := by rw [Int.tdiv_eq_ediv_of_nonneg (by omega), hr]
  rw [hr] at q0 q1 q3 q4 ⊢
  have e3 : IntKind.i64.wrap r = r := IntWalk.i64_in _ (by omega)
  obtain ⟨t, ht⟩ : ∃ t, r * n = t := ⟨_, rfl⟩
  rw [ht] at q3 q4
  have e4 : IntKind.i64.wrap (r * n) = t := by rw [ht]; exact IntWalk.i64_in _ (by omega)
  rw [ht]
  clear q0 q1 q3 q4 hn hx ht
  go_enter Tryd.func84, Tryd.ntmps84
  go_wp2
  go_quiet (fail)
  go_wp2
  go_ret
  exact ⟨rfl, _, rfl⟩

set_option maxRecDepth 100000 in
set_option maxHeartbeats 4000000 in
theorem ndM_8 (hn : 1 ≤ n ∧ n ≤ 64) (hx : 0 ≤ x ∧ x ≤ 1000000) (h : StepAt w g o 8 n k a L c) :
    Calls Tryd.prog 84 #[.pointer (some ⟨g, o, none⟩), .int .i64 x] w fun e w' => e = .returned (.int .i64 ((x + n - 1) / n * n)) ∧ ∃ m, w' = w.drewN m := by
  obtain ⟨c0, c1, c2, c3⟩ := h
  have e1 : IntKind.i64.wrap (x + n) = x + n := IntWalk.i64_in _ (by omega)
  have e2 : IntKind.i64.wrap (x + n - 1) = x + n - 1 := IntWalk.i64_in _ (by omega)
  have hz : ¬ n = 0 := by omega
  obtain ⟨q0, q1, q3, q4⟩ := piece_bounds hn hx
  obtain ⟨r, hr⟩ : ∃ r, (x + n - 1) / n = r := ⟨_, rfl⟩
  have q2 : (x + n - 1).tdiv n = r := by rw [Int.tdiv_eq_ediv_of_nonneg (by omega), hr]
  rw [hr] at q0 q1 q3 q4 ⊢
  have e3 : IntKind.i64.wrap r = r := IntWalk.i64_in _ (by omega)
  obtain ⟨t, ht⟩ : ∃ t, r * n = t := ⟨_, rfl⟩
  rw [ht] at q3 q4
  have e4 : IntKind.i64.wrap (r * n) = t := by rw [ht]; exact IntWalk.i64_in _ (by omega)
  rw [ht]
  clear q0 q1 q3 q4 hn hx ht
  go_enter Tryd.func84, Tryd.ntmps84
  go_wp2
  go_quiet (fail)
  go_wp2
  go_ret
  exact ⟨rfl, _, rfl⟩

set_option maxRecDepth 100000 in
set_option maxHeartbeats 4000000 in
theorem ndM_9 (hn : 1 ≤ n ∧ n ≤ 64) (hx : 0 ≤ x ∧ x ≤ 1000000) (h : StepAt w g o 9 n k a L c) :
    Calls Tryd.prog 84 #[.pointer (some ⟨g, o, none⟩), .int .i64 x] w fun e w' => e = .returned (.int .i64 ((x + n - 1) / n * n)) ∧ ∃ m, w' = w.drewN m := by
  obtain ⟨c0, c1, c2, c3⟩ := h
  have e1 : IntKind.i64.wrap (x + n) = x + n := IntWalk.i64_in _ (by omega)
  have e2 : IntKind.i64.wrap (x + n - 1) = x + n - 1 := IntWalk.i64_in _ (by omega)
  have hz : ¬ n = 0 := by omega
  obtain ⟨q0, q1, q3, q4⟩ := piece_bounds hn hx
  obtain ⟨r, hr⟩ : ∃ r, (x + n - 1) / n = r := ⟨_, rfl⟩
  have q2 : (x + n - 1).tdiv n = r := by rw [Int.tdiv_eq_ediv_of_nonneg (by omega), hr]
  rw [hr] at q0 q1 q3 q4 ⊢
  have e3 : IntKind.i64.wrap r = r := IntWalk.i64_in _ (by omega)
  obtain ⟨t, ht⟩ : ∃ t, r * n = t := ⟨_, rfl⟩
  rw [ht] at q3 q4
  have e4 : IntKind.i64.wrap (r * n) = t := by rw [ht]; exact IntWalk.i64_in _ (by omega)
  rw [ht]
  clear q0 q1 q3 q4 hn hx ht
  go_enter Tryd.func84, Tryd.ntmps84
  go_wp2
  go_quiet (fail)
  go_wp2
  go_ret
  exact ⟨rfl, _, rfl⟩

set_option maxRecDepth 100000 in
set_option maxHeartbeats 4000000 in
theorem ndM_10 (h : StepAt w g o 10 n k a L c) :
    Calls Tryd.prog 84 #[.pointer (some ⟨g, o, none⟩), .int .i64 x] w fun e w' => e = .returned (.int .i64 x) ∧ ∃ m, w' = w.drewN m := by
  obtain ⟨c0, c1, c2, c3⟩ := h
  go_enter Tryd.func84, Tryd.ntmps84
  go_wp2
  go_ret
  exact ⟨rfl, 0, rfl⟩

set_option maxRecDepth 100000 in
set_option maxHeartbeats 4000000 in
theorem ndM_11 (h : StepAt w g o 11 n k a L c) :
    Calls Tryd.prog 84 #[.pointer (some ⟨g, o, none⟩), .int .i64 x] w fun e w' => e = .returned (.int .i64 x) ∧ ∃ m, w' = w.drewN m := by
  obtain ⟨c0, c1, c2, c3⟩ := h
  go_enter Tryd.func84, Tryd.ntmps84
  go_wp2
  go_ret
  exact ⟨rfl, 0, rfl⟩

set_option maxRecDepth 100000 in
set_option maxHeartbeats 4000000 in
theorem ndM_12 (h : StepAt w g o 12 n k a L c) :
    Calls Tryd.prog 84 #[.pointer (some ⟨g, o, none⟩), .int .i64 x] w fun e w' => e = .returned (.int .i64 x) ∧ ∃ m, w' = w.drewN m := by
  obtain ⟨c0, c1, c2, c3⟩ := h
  go_enter Tryd.func84, Tryd.ntmps84
  go_wp2
  go_ret
  exact ⟨rfl, 0, rfl⟩

set_option maxRecDepth 100000 in
set_option maxHeartbeats 4000000 in
theorem ndM_13 (h : StepAt w g o 13 n k a L c) :
    Calls Tryd.prog 84 #[.pointer (some ⟨g, o, none⟩), .int .i64 x] w fun e w' => e = .returned (.int .i64 x) ∧ ∃ m, w' = w.drewN m := by
  obtain ⟨c0, c1, c2, c3⟩ := h
  go_enter Tryd.func84, Tryd.ntmps84
  go_wp2
  go_ret
  exact ⟨rfl, 0, rfl⟩
end

theorem ndM_any (s : St) (hs : StB s) (x : Int) (hx : 0 ≤ x ∧ x ≤ 1000000) (a : Option Addr) (L c g o : Nat) (w : World) (h : StepAt w g o s.kind s.n s.k a L c) :
    Calls Tryd.prog 84 #[.pointer (some ⟨g, o, none⟩), .int .i64 x] w fun e w' => e = .returned (.int .i64 (ndSt s x)) ∧ ∃ m, w' = w.drewN m := by
  obtain ⟨kd, n, k, taps⟩ := s
  obtain ⟨k1, k2, hn⟩ := hs
  simp only at k1 k2 hn h
  rcases kind_cases ⟨k1, k2⟩ with rfl | rfl | rfl | rfl | rfl | rfl | rfl | rfl | rfl | rfl | rfl | rfl | rfl
  · exact ndM_1 n k x a L c g o w h
  · exact ndM_2 n k x a L c g o w h
  · exact ndM_3 n k x a L c g o w h
  · exact ndM_4 n k x a L c g o w h
  · exact ndM_5 n k x a L c g o w (hn (by decide)) hx h
  · exact ndM_6 n k x a L c g o w (hn (by decide)) hx h
  · exact ndM_7 n k x a L c g o w (hn (by decide)) hx h
  · exact ndM_8 n k x a L c g o w (hn (by decide)) hx h
  · exact ndM_9 n k x a L c g o w (hn (by decide)) hx h
  · exact ndM_10 n k x a L c g o w h
  · exact ndM_11 n k x a L c g o w h
  · exact ndM_12 n k x a L c g o w h
  · exact ndM_13 n k x a L c g o w h

end Go.Proofs.YtfdmohnmilecnaaDoor
