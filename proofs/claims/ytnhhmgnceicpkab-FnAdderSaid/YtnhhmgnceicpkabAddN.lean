import Derived.Test.YtnhhmgnceicpkabWinC
/-
  Adders: valid ones, new ones.
-/
set_option linter.unusedVariables false
set_option linter.unusedSimpArgs false
namespace Go.Proofs.Ytnhhmgnceicpkab
open Go.RowKit Flt Fast

theorem wrap_in (x : Int) (h1 : -9223372036854775808 ≤ x) (h2 : x ≤ 9223372036854775807) : IntKind.i64.wrap x = x := by
  simp only [IntKind.wrap, IntKind.bits, IntKind.signed]
  simp
  omega

/-- An adder of this size and hop with t numbers in its tail is valid. -/
def AddOk (s h : Int) (t : Nat) : Prop := (1 ≤ s ∧ s ≤ 256) ∧ (1 ≤ h ∧ h ≤ s) ∧ (t = 0 ∨ (t : Int) = s - h)
instance (s h : Int) (t : Nat) : Decidable (AddOk s h t) := by unfold AddOk; infer_instance
def addB (s h : Int) (t : Nat) : Bool := decide (AddOk s h t)
theorem addB_t {s h : Int} {t : Nat} (k : AddOk s h t) : addB s h t = true := decide_eq_true k
theorem addB_f {s h : Int} {t : Nat} (k : ¬ AddOk s h t) : addB s h t = false := decide_eq_false k

set_option maxRecDepth 100000 in
set_option maxHeartbeats 4000000 in
theorem ok_spec (s h : Int) (a : Option Addr) (t cap B : Nat) (ht : (t : Int) ≤ 9223372036854775807) (w : World) (c0 : w.cell? ⟨B, 0, none⟩ = some (.int .i64 s)) (c1 : w.cell? ⟨B, 1, none⟩ = some (.int .i64 h)) (c2 : w.cell? ⟨B, 2, none⟩ = some (.slice a t cap)) :
    Calls Try.prog 81 #[.pointer (some ⟨B, 0, none⟩)] w fun e w' => e = .returned (.bool (addB s h t)) ∧ ∃ n, w' = w.drewN n := by
  by_cases h1 : 1 ≤ s ∧ s ≤ 256
  · by_cases h2 : 1 ≤ h ∧ h ≤ s
    · have I1 := in_t s 1 256 h1
      have I2 := in_t h 1 s h2
      obtain ⟨l1, l2⟩ := h1
      obtain ⟨l3, l4⟩ := h2
      by_cases h0 : t = 0
      · have e : addB s h t = true := addB_t ⟨⟨l1, l2⟩, ⟨l3, l4⟩, .inl h0⟩
        rw [e]; clear e
        subst h0
        go_enter Try.func81, Try.ntmps81
        go_wp2
        go_quiet (first | (go_at_call 60; with_reducible exact Calls.quiet_of_same (I1 _)) | (go_at_call 60; with_reducible exact Calls.quiet_of_same (I2 _)))
        go_wp2
        go_ret
        exact ⟨rfl, _, rfl⟩
      · have h0I : ¬ (t : Int) = 0 := by omega
        by_cases h3 : (t : Int) = s - h
        · have e : addB s h t = true := addB_t ⟨⟨l1, l2⟩, ⟨l3, l4⟩, .inr h3⟩
          rw [e]; clear e
          have H3 : Hid (((t : Int) == 0 || (t : Int) == IntKind.i64.wrap (s - h)) = true) := by
            show ((t : Int) == 0 || (t : Int) == IntKind.i64.wrap (s - h)) = true
            rw [wrap_in _ (by omega) (by omega)]; simp [h3]
          clear h3
          go_enter Try.func81, Try.ntmps81
          go_wp2
          go_quiet (first | (go_at_call 60; with_reducible exact Calls.quiet_of_same (I1 _)) | (go_at_call 60; with_reducible exact Calls.quiet_of_same (I2 _)))
          go_wp2
          go_ret
          exact ⟨congrArg (fun b => Ending.returned (Value.bool b)) H3.out, _, rfl⟩
        · have e : addB s h t = false := addB_f (fun k => by rcases k.2.2 with k | k; exact h0 k; exact h3 k)
          rw [e]; clear e
          have H3 : Hid (((t : Int) == 0 || (t : Int) == IntKind.i64.wrap (s - h)) = false) := by
            show ((t : Int) == 0 || (t : Int) == IntKind.i64.wrap (s - h)) = false
            rw [wrap_in _ (by omega) (by omega)]; simp [h3]; omega
          clear h3
          go_enter Try.func81, Try.ntmps81
          go_wp2
          go_quiet (first | (go_at_call 60; with_reducible exact Calls.quiet_of_same (I1 _)) | (go_at_call 60; with_reducible exact Calls.quiet_of_same (I2 _)))
          go_wp2
          go_ret
          exact ⟨congrArg (fun b => Ending.returned (Value.bool b)) H3.out, _, rfl⟩
    · have e : addB s h t = false := addB_f (fun k => h2 k.2.1)
      rw [e]; clear e
      have I1 := in_t s 1 256 h1
      have I2 := in_f h 1 s h2
      clear h1 h2
      go_enter Try.func81, Try.ntmps81
      go_wp2
      go_quiet (first | (go_at_call 60; with_reducible exact Calls.quiet_of_same (I1 _)) | (go_at_call 60; with_reducible exact Calls.quiet_of_same (I2 _)))
      go_wp2
      go_ret
      exact ⟨rfl, _, rfl⟩
  · have e : addB s h t = false := addB_f (fun k => h1 k.1)
    rw [e]; clear e
    have I1 := in_f s 1 256 h1
    clear h1
    go_enter Try.func81, Try.ntmps81
    go_wp2
    go_quiet (first | (go_at_call 60; with_reducible exact Calls.quiet_of_same (I1 _)))
    go_wp2
    go_ret
    exact ⟨rfl, _, rfl⟩

theorem addingOf_any (s h : Int) (u : Value) (a : Option Addr) (t cap : Nat) (w : World) :
    Calls Try.prog 77 #[.agg #[.int .i64 s, .int .i64 h, .slice a t cap]] w fun e w' => e = .returned (.agg #[.int .i64 s, .int .i64 h, .slice a t cap]) ∧ Below w.heap.size w w' := by
  go_enter Try.func77, Try.ntmps77
  go_wp2
  exact bodyPost_ret (v := .agg #[.int .i64 s, .int .i64 h, .slice a t cap]) (by simp [results, Try.results77, go_sem]) rfl ⟨rfl, ((Below.refl _ _).alloc (Nat.le_refl _) _).alloc (by simp) _⟩

set_option maxRecDepth 100000 in
set_option maxHeartbeats 4000000 in
theorem isValid_any (s h : Int) (a : Option Addr) (t cap : Nat) (ht : (t : Int) ≤ 9223372036854775807) (w : World) :
    Calls Try.prog 78 #[.agg #[.int .i64 s, .int .i64 h, .slice a t cap]] w fun e w' => e = .returned (.bool (addB s h t)) ∧ Below w.heap.size w w' := by
  have hb0 : Below w.heap.size w (w.alloc (.cells #[.int .i64 s, .int .i64 h, .slice a t cap] 99)) := (Below.refl _ _).alloc (Nat.le_refl _) _
  have HB0 := Lib.hid hb0
  have HC : Hid (∀ w2, Below (w.alloc (.cells #[.int .i64 s, .int .i64 h, .slice a t cap] 99)).heap.size (w.alloc (.cells #[.int .i64 s, .int .i64 h, .slice a t cap] 99)) w2 → w2.cell? ⟨w.heap.size, 0, none⟩ = some (.int .i64 s) ∧ w2.cell? ⟨w.heap.size, 1, none⟩ = some (.int .i64 h)) := fun w2 hb => ⟨by rw [hb.cell (by simp)]; go_simp, by rw [hb.cell (by simp)]; go_simp⟩
  have R := Lib.hid (right_impl s h)
  clear hb0
  by_cases hr : rightB s h = true
  · have hrr : (1 ≤ h ∧ h ≤ s) ∧ s ≤ 256 := of_decide_eq_true hr
    rw [hr] at R
    by_cases h0 : t = 0
    · have e : addB s h t = true := addB_t ⟨⟨by omega, hrr.2⟩, hrr.1, .inl h0⟩
      rw [e]; clear e hr hrr
      subst h0
      go_enter Try.func78, Try.ntmps78
      go_wp2_with fail
      with_reducible refine (R.out _).mono ?_
      rintro e w2 ⟨rfl, hb2⟩
      obtain ⟨d0, d1⟩ := HC.out w2 hb2
      have HB2 := Lib.hid (below_step HB0.out hb2 HB0.out.size)
      clear hb2
      go_wp2
      go_ret
      exact ⟨rfl, HB2.out⟩
    · have h0I : ¬ (t : Int) = 0 := by omega
      have hw : IntKind.i64.wrap (s - h) = s - h := wrap_in _ (by omega) (by omega)
      have H3 : Hid (∀ b, b = ((t : Int) == 0 || (t : Int) == s - h) → b = addB s h t) := fun b hb => by
        rw [hb]
        by_cases h3 : (t : Int) = s - h
        · rw [addB_t ⟨⟨by omega, hrr.2⟩, hrr.1, .inr h3⟩]; simp [h3]
        · rw [addB_f (fun k => by rcases k.2.2 with k | k; exact h0 k; exact h3 k)]; simp [h3]; omega
      obtain ⟨hr1, hr2⟩ := hrr
      obtain ⟨l3, l4⟩ := hr1
      clear hr
      go_enter Try.func78, Try.ntmps78
      go_wp2_with fail
      with_reducible refine (R.out _).mono ?_
      rintro e w2 ⟨rfl, hb2⟩
      obtain ⟨d0, d1⟩ := HC.out w2 hb2
      have HB2 := Lib.hid (below_step HB0.out hb2 HB0.out.size)
      clear hb2
      go_wp2
      go_ret
      exact ⟨congrArg (fun b => Ending.returned (Value.bool b)) (H3.out _ rfl), HB2.out⟩
  · have hr' : rightB s h = false := by simpa using hr
    have e : addB s h t = false := addB_f (fun k => hr (decide_eq_true ⟨k.2.1, k.1.2⟩))
    rw [hr'] at R
    rw [e]; clear e hr hr'
    go_enter Try.func78, Try.ntmps78
    go_wp2_with fail
    with_reducible refine (R.out _).mono ?_
    rintro e w2 ⟨rfl, hb2⟩
    have HB2 := Lib.hid (below_step HB0.out hb2 HB0.out.size)
    clear hb2
    go_wp2
    go_ret
    exact ⟨rfl, HB2.out⟩

set_option maxRecDepth 100000 in
theorem valid_impl (s h : Int) (a : Option Addr) (t cap : Nat) (ht : (t : Int) ≤ 9223372036854775807) (w : World) :
    Calls Try.prog 30 #[.agg #[.int .i64 s, .int .i64 h, .slice a t cap]] w fun e w' => e = .returned (.bool (addB s h t)) ∧ Below w.heap.size w w' := by
  have hb0 : Below w.heap.size w (w.alloc (.cells #[.int .i64 s, .int .i64 h, .slice a t cap] 52)) := (Below.refl _ _).alloc (Nat.le_refl _) _
  have HB0 := Lib.hid hb0
  have A1 := Lib.hid (addingOf_any s h undef a t cap)
  have A2 := Lib.hid (isValid_any s h a t cap ht)
  obtain ⟨b, hb⟩ : ∃ b, addB s h t = b := ⟨_, rfl⟩
  rw [hb] at A2 ⊢
  clear hb0 hb
  go_enter Try.func30, Try.ntmps30
  go_wp2_with fail
  with_reducible refine (A1.out _).mono ?_
  rintro e w2 ⟨rfl, hb2⟩
  have HB2 := Lib.hid (below_step HB0.out hb2 HB0.out.size)
  clear hb2
  go_wp2_with fail
  with_reducible refine (A2.out _).mono ?_
  rintro e w3 ⟨rfl, hb3⟩
  have HB3 := Lib.hid (below_step HB2.out hb3 HB2.out.size)
  clear hb3
  go_wp2
  go_ret
  exact ⟨rfl, HB3.out⟩

end Go.Proofs.Ytnhhmgnceicpkab
