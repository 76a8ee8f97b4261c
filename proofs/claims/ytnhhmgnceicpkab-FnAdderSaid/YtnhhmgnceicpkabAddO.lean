import Derived.Test.YtnhhmgnceicpkabAddS
/-
  OverlapAdd of the model and of the program, where the blocks have one size.
-/
set_option linter.unusedVariables false
set_option linter.unusedSimpArgs false
namespace Go.Proofs.Ytnhhmgnceicpkab
open Go.RowKit Flt Fast

section
variable {V : Value} {vs : List Value} {w : World} {bs : Nat → List C} {q : Nat → Nat → Z} {n : Nat}

set_option maxRecDepth 100000 in
set_option maxHeartbeats 4000000 in
theorem many_spec (h : Blks w V vs bs q n) (hn : n ≤ 256) (hvs : vs.length ≤ 64) :
    Calls Try.prog 83 #[V] w fun e w' => e = .returned (.bool false) ∧ w' = w := by
  obtain ⟨a, cap, rfl, hcap, hrd⟩ := h.find
  obtain ⟨c, hc⟩ : ∃ c, vs.length = c := ⟨_, rfl⟩
  rw [hc] at hvs hrd hcap ⊢
  have HRD := Lib.hid hrd
  have g64 : decide (64 < (c : Int)) = false := decide_eq_false (by omega)
  clear h hrd hc
  go_enter Try.func83, Try.ntmps83
  go_wp2
  go_loopw [3] (fun i wr => ∃ b : Nat, i = .int .i64 b ∧ b ≤ c ∧ wr = w) (fun i _ => c - (intOf i).toNat)
  case atStart => exact ⟨0, rfl, Nat.zero_le _, rfl⟩
  case round =>
    obtain ⟨b, rfl, hb, rfl⟩ := hrel
    by_cases hbc : b < c
    · obtain ⟨g, ab, cb, rfl, hg, hcb, hnI, -⟩ := HRD.out b hbc
      clear hg
      go_wp2
      go_roundw
      case rel => exact ⟨b + 1, by go_num, by omega, (by first | rfl | trivial)⟩
      case measure => simp [intOf]; omega
    · have e : b = c := by omega
      subst e
      go_wp2
      go_ret
      exact ⟨rfl, rfl⟩

set_option maxRecDepth 100000 in
set_option maxHeartbeats 4000000 in
theorem joined_spec (h : Blks w V vs bs q n) (s p : Nat) (hs : vs.length ≠ 0 → s = n) (hs2 : s ≤ 256) (hp : 1 ≤ p ∧ p ≤ s) (hvs : vs.length ≤ 64) (ht : (if vs.length = 0 then 0 else ((vs.length : Int) - 1) * p + s) ≤ 256) :
    Calls Try.prog 84 #[V, .int .i64 s, .int .i64 p] w fun e w' => e = .returned (.int .i64 0) ∧ w' = w := by
  obtain ⟨a, cap, rfl, hcap, hrd⟩ := h.find
  have I := Lib.hid (in_t p 1 s (by omega))
  have T := total_any vs.length s p hvs hs2 (by omega)
  obtain ⟨t, htt⟩ : ∃ t : Int, (if vs.length = 0 then 0 else ((vs.length : Int) - 1) * p + s) = t := ⟨_, rfl⟩
  rw [htt] at T ht
  have T := Lib.hid T
  obtain ⟨c, hc⟩ : ∃ c, vs.length = c := ⟨_, rfl⟩
  rw [hc] at hvs hrd hcap hs T ⊢
  have HRD := Lib.hid hrd
  have HS := Lib.hid hs
  clear h hrd hc hs htt
  go_enter Try.func84, Try.ntmps84
  go_wp2
  go_loopw [7] (fun i wr => ∃ b : Nat, i = .int .i64 b ∧ b ≤ c ∧ wr = w) (fun i _ => c - (intOf i).toNat)
  case atStart => exact ⟨0, rfl, Nat.zero_le _, rfl⟩
  case round =>
    obtain ⟨b, rfl, hb, rfl⟩ := hrel
    by_cases hbc : b < c
    · obtain ⟨g, ab, cb, rfl, hg, hcb, hnI, -⟩ := HRD.out b hbc
      have hsn : s = n := HS.out (by omega)
      subst hsn
      clear hg
      go_wp2
      go_roundw
      case rel => exact ⟨b + 1, by go_num, by omega, (by first | rfl | trivial)⟩
      case measure => simp [intOf]; omega
    · have e : b = c := by omega
      subst e
      go_wp2_with fail
      with_reducible refine (I.out _).mono ?_
      rintro e w' ⟨rfl, rfl⟩
      go_wp2_with fail
      with_reducible refine (T.out _).mono ?_
      rintro e w' ⟨rfl, rfl⟩
      go_wp2
      go_ret
      exact ⟨rfl, rfl⟩

/-- A list of complex numbers and OK. -/
def SumTo (zs : List Z) (w : World) (e : Ending) (w' : World) : Prop := ∃ u fs, e = .returned (.tuple #[u, .int .i64 0]) ∧ SumsC w w' u zs fs

set_option maxRecDepth 100000 in
set_option maxHeartbeats 4000000 in
theorem ovl_spec (h : Blks w V vs bs q n) (p : Nat) (hp : 1 ≤ p ∧ p ≤ n) (hn : n ≤ 256) (hvs : vs.length ≤ 64) (ht : vs.length ≠ 0 → ((vs.length : Int) - 1) * p + n ≤ 256) :
    Calls Try.prog 34 #[V, .int .i64 p] w (SumTo (ovlL q n p vs.length) w) := by
  have M := Lib.hid (many_spec h hn hvs)
  have A := Lib.hid (l03Add_spec h p hp.2 hn hvs)
  by_cases h0 : vs.length = 0
  · have J := Lib.hid (joined_spec h 256 p (fun k => absurd h0 k) (Nat.le_refl _) (by omega) hvs (by rw [if_pos h0]; omega))
    obtain ⟨a, cap, rfl, hcap, -⟩ := h.find
    rw [h0] at M A J ⊢
    clear h h0 hcap ht
    go_enter Try.func34, Try.ntmps34
    go_wp2_with fail
    with_reducible refine M.out.mono ?_
    rintro e w' ⟨rfl, rfl⟩
    go_wp2_with fail
    refine J.out.mono ?_
    rintro e w' ⟨rfl, rfl⟩
    go_wp2_with fail
    with_reducible refine A.out.mono ?_
    rintro e w2 ⟨u, fs, rfl, hS⟩
    have HS := Lib.hid hS
    clear hS
    go_wp2
    go_ret2
    exact ⟨u, fs, rfl, HS.out⟩
  · have J := Lib.hid (joined_spec h n p (fun _ => rfl) hn hp hvs (by rw [if_neg h0]; exact ht h0))
    obtain ⟨a, cap, rfl, hcap, hrd⟩ := h.find
    obtain ⟨g, ab, cb, rfl, hg, hcb, hnI, -⟩ := hrd 0 (by omega)
    obtain ⟨c, hc⟩ : ∃ c, vs.length = c := ⟨_, rfl⟩
    rw [hc] at M A J hcap hvs h0 ⊢
    have hc0 : 0 < c := by omega
    have HG := Lib.hid hg
    clear h ht hrd hg hc
    go_enter Try.func34, Try.ntmps34
    go_wp2_with fail
    with_reducible refine M.out.mono ?_
    rintro e w' ⟨rfl, rfl⟩
    go_wp2_with fail
    with_reducible refine J.out.mono ?_
    rintro e w' ⟨rfl, rfl⟩
    go_wp2_with fail
    with_reducible refine A.out.mono ?_
    rintro e w2 ⟨u, fs, rfl, hS⟩
    have HS := Lib.hid hS
    clear hS
    go_wp2
    go_ret2
    exact ⟨u, fs, rfl, HS.out⟩

theorem enter_cb1 (args : Array Value) (w : World) : (callFunc 105 args).run Try.prog w = .ok (.enter 105 args) w := by kernel_rfl
theorem enter_cb2 (args : Array Value) (w : World) : (callFunc 106 args).run Try.prog w = .ok (.enter 106 args) w := by kernel_rfl

theorem cb1_any (a : Option Addr) (n cap : Nat) (hn : n ≤ 256) (w : World) :
    Calls Try.prog 105 #[.slice a n cap] w fun e w' => e = .returned (.bool false) ∧ w' = w := by
  have g64 : decide (256 < (n : Int)) = false := decide_eq_false (by omega)
  go_enter Try.func105, Try.ntmps105
  go_wp2
  go_ret
  exact ⟨rfl, rfl⟩
theorem cb2_any (a : Option Addr) (n cap b : Nat) (hn : n ≤ 256) (w : World) (hb : w.cell? ⟨b, 0, none⟩ = some (.int .i64 n)) :
    Calls Try.prog 106 #[.slice a n cap, .pointer (some ⟨b, 0, none⟩)] w fun e w' => e = .returned (.bool false) ∧ w' = w := by
  go_enter Try.func106, Try.ntmps106
  go_wp2
  go_ret
  exact ⟨rfl, rfl⟩

set_option maxRecDepth 100000 in
set_option maxHeartbeats 4000000 in
theorem index_none (h : Blks w V vs bs q n) (hvs : vs.length ≤ 64) (fn : Nat) (capt : Array Value)
    (hfn : ∀ (args : Array Value) (w : World), (callFunc fn args).run Try.prog w = .ok (.enter fn args) w)
    (hcall : vs.length ≠ 0 → ∀ a cap, Calls Try.prog fn (#[.slice a n cap] ++ capt) w fun e w' => e = .returned (.bool false) ∧ w' = w) :
    Calls Try.prog 127 #[V, .func (.func fn) #[] capt] w fun e w' => e = .returned (.int .i64 (-1)) ∧ w' = w := by
  obtain ⟨a, cap, rfl, hcap, hrd⟩ := h.find
  obtain ⟨c, hc⟩ : ∃ c, vs.length = c := ⟨_, rfl⟩
  rw [hc] at hvs hrd hcap hcall ⊢
  have HRD := Lib.hid hrd
  have HF := Lib.hid hcall
  clear h hrd hc hcall
  go_enter Try.func127, Try.ntmps127
  go_wp2
  go_loopw [8] (fun i wr => ∃ b : Nat, i = .int .i64 b ∧ b ≤ c ∧ wr = w) (fun i _ => c - (intOf i).toNat)
  case atStart => exact ⟨0, rfl, Nat.zero_le _, rfl⟩
  case round =>
    obtain ⟨b, rfl, hb, rfl⟩ := hrel
    by_cases hbc : b < c
    · obtain ⟨g, ab, cb, rfl, hg, hcb, hnI, -⟩ := HRD.out b hbc
      clear hg
      go_wp2_with fail
      with_reducible refine (HF.out (by omega) _ _).mono ?_
      rintro e w' ⟨rfl, rfl⟩
      go_wp2
      go_roundw
      case rel => exact ⟨b + 1, by go_num, by omega, (by first | rfl | trivial)⟩
      case measure => simp [intOf]; omega
    · have e : b = c := by omega
      subst e
      go_wp2
      go_ret
      exact ⟨rfl, rfl⟩

set_option maxRecDepth 100000 in
theorem contains_none (h : Blks w V vs bs q n) (hvs : vs.length ≤ 64) (fn : Nat) (capt : Array Value)
    (hfn : ∀ (args : Array Value) (w : World), (callFunc fn args).run Try.prog w = .ok (.enter fn args) w)
    (hcall : vs.length ≠ 0 → ∀ a cap, Calls Try.prog fn (#[.slice a n cap] ++ capt) w fun e w' => e = .returned (.bool false) ∧ w' = w) :
    Calls Try.prog 107 #[V, .func (.func fn) #[] capt] w fun e w' => e = .returned (.bool false) ∧ w' = w := by
  have I := Lib.hid (index_none h hvs fn capt hfn hcall)
  clear h hcall
  go_enter Try.func107, Try.ntmps107
  go_wp2_with fail
  with_reducible refine I.out.mono ?_
  rintro e w' ⟨rfl, rfl⟩
  go_wp2
  go_ret
  exact ⟨rfl, rfl⟩

end

end Go.Proofs.Ytnhhmgnceicpkab
