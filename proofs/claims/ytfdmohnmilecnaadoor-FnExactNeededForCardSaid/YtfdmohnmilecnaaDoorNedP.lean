import Derived.Test.YtfdmohnmilecnaaDoorLenP
import Derived.Test.YtfdmohnmilecnaaDoorNed
/-
  neededFor of the program, by kinds (written by genned.py).
-/
set_option linter.unusedVariables false
set_option linter.unusedSimpArgs false
namespace Go.Proofs.YtfdmohnmilecnaaDoor
open Go.RowKit

theorem ndMaxI (a : Int) : (if (0 : Int) > a then (0 : Int) else a) = if 0 < a then a else 0 := by split <;> split <;> omega
theorem run_max_zero {P : Program} {w : World} (ts : Array TypeId) (t : TypeId) (a c : Int) (h : (if 0 < a then a else 0) = c) : (Builtin.max_ ts t #[.int .i64 a, .int .i64 0]).run P w = .ok (.int .i64 c) w := by
  subst h
  by_cases g : 0 < a
  · rw [if_pos g]
    have g2 : ¬ 0 > a := by omega
    simp [Builtin.max_, Builtin.max2, g2]
    try omega
  · rw [if_neg g]
    by_cases g3 : 0 > a
    · simp [Builtin.max_, Builtin.max2, g3]
      try omega
    · have : a = 0 := by omega
      subst this
      simp [Builtin.max_, Builtin.max2]

section
variable (kd n k x : Int) (tv : Value) (w : World)

theorem even_need : Calls Tryd.prog 188 #[.agg #[.int .i64 kd, .int .i64 n, .int .i64 k, tv], .int .i64 x] w fun e w' => e = .returned (.int .i64 x) ∧ Below w.heap.size w w' := by
  go_enter Tryd.func188, Tryd.ntmps188
  go_wp2
  go_ret
  exact ⟨rfl, (Below.refl _ _).alloc (Nat.le_refl _) _⟩

theorem keep_need (hn : 1 ≤ n ∧ n ≤ 64) (hx : 0 ≤ x ∧ x ≤ 1000000) : Calls Tryd.prog 202 #[.agg #[.int .i64 kd, .int .i64 n, .int .i64 k, tv], .int .i64 x] w fun e w' => e = .returned (.int .i64 (if 0 < (x - 1) * n + 1 then (x - 1) * n + 1 else 0)) ∧ Below w.heap.size w w' := by
  obtain ⟨q0, q1⟩ := keep_bounds hn hx
  obtain ⟨r, hr⟩ : ∃ r, (x - 1) * n = r := ⟨_, rfl⟩
  rw [hr] at q0 q1
  have e1 : IntKind.i64.wrap (x - 1) = x - 1 := IntWalk.i64_in _ (by omega)
  have e2 : IntKind.i64.wrap ((x - 1) * n) = r := by rw [hr]; exact IntWalk.i64_in _ (by omega)
  have e3 : IntKind.i64.wrap (r + 1) = r + 1 := IntWalk.i64_in _ (by omega)
  rw [hr]
  obtain ⟨t, ht⟩ : ∃ t, (if 0 < r + 1 then r + 1 else 0) = t := ⟨_, rfl⟩
  have MX : ∀ (w : World) (ts : Array TypeId) (t' : TypeId), (Builtin.max_ ts t' #[.int .i64 (r + 1), .int .i64 0]).run Tryd.prog w = .ok (.int .i64 t) w := fun w ts t' => run_max_zero ts t' (r + 1) t ht
  rw [ht]
  clear q0 q1 hn hx hr ht
  go_enter Tryd.func202, Tryd.ntmps202
  go_wp2
  go_ret
  exact ⟨rfl, (Below.refl _ _).alloc (Nat.le_refl _) _⟩

theorem stuff_need (hn : 1 ≤ n ∧ n ≤ 64) (hx : 0 ≤ x ∧ x ≤ 1000000) : Calls Tryd.prog 205 #[.agg #[.int .i64 kd, .int .i64 n, .int .i64 k, tv], .int .i64 x] w fun e w' => e = .returned (.int .i64 ((x + n - 1) / n)) ∧ Below w.heap.size w w' := by
  have P := Lib.hid (fun w => partsNeeded_any x n hn hx w)
  clear hn hx
  go_enter Tryd.func205, Tryd.ntmps205
  go_wp2_with fail
  refine (P.out _).mono ?_
  rintro e w1 ⟨rfl, rfl⟩
  go_wp2
  go_ret
  exact ⟨rfl, (Below.refl _ _).alloc (Nat.le_refl _) _⟩

theorem piece_need (hn : 1 ≤ n ∧ n ≤ 64) (hx : 0 ≤ x ∧ x ≤ 1000000) : Calls Tryd.prog 196 #[.agg #[.int .i64 kd, .int .i64 n, .int .i64 k, tv], .int .i64 x] w fun e w' => e = .returned (.int .i64 ((x + n - 1) / n * n)) ∧ Below w.heap.size w w' := by
  obtain ⟨q0, q1, q3, q4⟩ := piece_bounds hn hx
  have P := fun w => partsNeeded_any x n hn hx w
  obtain ⟨r, hr⟩ : ∃ r, (x + n - 1) / n = r := ⟨_, rfl⟩
  rw [hr] at q3 q4 ⊢
  simp only [hr] at P
  have P := Lib.hid P
  obtain ⟨t, ht⟩ : ∃ t, r * n = t := ⟨_, rfl⟩
  rw [ht] at q3 q4
  have e4 : IntKind.i64.wrap (r * n) = t := by rw [ht]; exact IntWalk.i64_in _ (by omega)
  rw [ht]
  have hb : ∀ d, Below w.heap.size w ((w.alloc (.cells #[.int .i64 kd, .int .i64 n, .int .i64 k, tv] 170)).drewN d) := fun d => below_draws ((Below.refl _ _).alloc (Nat.le_refl _) _) d
  clear q0 q1 q3 q4 hn hx ht hr
  go_enter Tryd.func196, Tryd.ntmps196
  go_wp2
  go_quiet (first | (go_at_call 197; with_reducible exact Calls.quiet_of_same (P.out _)))
  all_goals
    go_wp2
    go_ret
    exact ⟨rfl, hb _⟩
end

end Go.Proofs.YtfdmohnmilecnaaDoor
