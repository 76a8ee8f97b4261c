import Derived.Test.YtcoieclecmefiaaAddS
/-
  OverlapAdd of the model and of the program, where the blocks have one size.
-/
set_option linter.unusedVariables false
set_option linter.unusedSimpArgs false
namespace Go.Proofs.Ytcoieclecmefiaa
open Go.RowKit Flt Fast

section
variable {V : Value} {vs : List Value} {w : World} {bs : Nat → List C} {q : Nat → Nat → Z} {n : Nat}

/-- A list of complex numbers and OK. -/
def SumTo (zs : List Z) (w : World) (e : Ending) (w' : World) : Prop := ∃ u fs, e = .returned (.tuple #[u, .int .i64 0]) ∧ SumsC w w' u zs fs

theorem enter_cb1 (args : Array Value) (w : World) : (callFunc 108 args).run Try.prog w = .ok (.enter 108 args) w := by kernel_rfl
theorem enter_cb2 (args : Array Value) (w : World) : (callFunc 109 args).run Try.prog w = .ok (.enter 109 args) w := by kernel_rfl

theorem cb1_any (a : Option Addr) (n cap : Nat) (hn : n ≤ 256) (w : World) :
    Calls Try.prog 108 #[.slice a n cap] w fun e w' => e = .returned (.bool false) ∧ w' = w := by
  have g64 : decide (256 < (n : Int)) = false := decide_eq_false (by omega)
  go_enter Try.func108, Try.ntmps108
  go_wp2
  go_ret
  exact ⟨rfl, rfl⟩
theorem cb2_any (a : Option Addr) (n cap b : Nat) (hn : n ≤ 256) (w : World) (hb : w.cell? ⟨b, 0, none⟩ = some (.int .i64 n)) :
    Calls Try.prog 109 #[.slice a n cap, .pointer (some ⟨b, 0, none⟩)] w fun e w' => e = .returned (.bool false) ∧ w' = w := by
  go_enter Try.func109, Try.ntmps109
  go_wp2
  go_ret
  exact ⟨rfl, rfl⟩

set_option maxRecDepth 100000 in
set_option maxHeartbeats 4000000 in
theorem index_none (h : Blks w V vs bs q n) (hvs : vs.length ≤ 64) (fn : Nat) (capt : Array Value)
    (hfn : ∀ (args : Array Value) (w : World), (callFunc fn args).run Try.prog w = .ok (.enter fn args) w)
    (hcall : vs.length ≠ 0 → ∀ a cap, Calls Try.prog fn (#[.slice a n cap] ++ capt) w fun e w' => e = .returned (.bool false) ∧ w' = w) :
    Calls Try.prog 124 #[V, .func (.func fn) #[] capt] w fun e w' => e = .returned (.int .i64 (-1)) ∧ w' = w := by
  obtain ⟨a, cap, rfl, hcap, hrd⟩ := h.find
  obtain ⟨c, hc⟩ : ∃ c, vs.length = c := ⟨_, rfl⟩
  rw [hc] at hvs hrd hcap hcall ⊢
  have HRD := Lib.hid hrd
  have HF := Lib.hid hcall
  clear h hrd hc hcall
  go_enter Try.func124, Try.ntmps124
  go_wp2
  go_loopw [8] (fun i wr => ∃ b : Nat, i = .int .i64 b ∧ b ≤ c ∧ wr = w) (fun i _ => c - (intOf i).toNat)
  case atStart => exact ⟨0, rfl, Nat.zero_le _, rfl⟩
  case round =>
    obtain ⟨b, rfl, hb, rfl⟩ := hrel
    by_cases hbc : b < c
    · obtain ⟨g, ab, cb, rfl, hg, hcb, hnI, -⟩ := HRD.out b hbc
      clear hg
      go_wp2_with fail
      with_reducible refine (HF.out (by omega) _ _).mono ?_
      rintro e w' ⟨rfl, rfl⟩
      go_wp2
      go_roundw
      case rel => exact ⟨b + 1, by go_num, by omega, (by first | rfl | trivial)⟩
      case measure => simp [intOf]; omega
    · have e : b = c := by omega
      subst e
      go_wp2
      go_ret
      exact ⟨rfl, rfl⟩

set_option maxRecDepth 100000 in
theorem contains_none (h : Blks w V vs bs q n) (hvs : vs.length ≤ 64) (fn : Nat) (capt : Array Value)
    (hfn : ∀ (args : Array Value) (w : World), (callFunc fn args).run Try.prog w = .ok (.enter fn args) w)
    (hcall : vs.length ≠ 0 → ∀ a cap, Calls Try.prog fn (#[.slice a n cap] ++ capt) w fun e w' => e = .returned (.bool false) ∧ w' = w) :
    Calls Try.prog 110 #[V, .func (.func fn) #[] capt] w fun e w' => e = .returned (.bool false) ∧ w' = w := by
  have I := Lib.hid (index_none h hvs fn capt hfn hcall)
  clear h hcall
  go_enter Try.func110, Try.ntmps110
  go_wp2_with fail
  with_reducible refine I.out.mono ?_
  rintro e w' ⟨rfl, rfl⟩
  go_wp2
  go_ret
  exact ⟨rfl, rfl⟩

end

end Go.Proofs.Ytcoieclecmefiaa
