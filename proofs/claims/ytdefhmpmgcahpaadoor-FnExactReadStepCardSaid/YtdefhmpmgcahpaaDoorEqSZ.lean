import Derived.Test.YtdefhmpmgcahpaaDoorImpEZ
/-
  eqStep, eqStepS, eqPlan.
-/
set_option linter.unusedVariables false
set_option linter.unusedSimpArgs false
namespace Go.Proofs.YtdefhmpmgcahpaaDoor
open Go.RowKit

set_option maxRecDepth 100000 in
set_option maxHeartbeats 4000000 in
theorem eqStep_any (s : St) (a a' : Option Addr) (c c' : Nat) (w : World) (h : Reads w (.slice a s.taps.length c) (ints s.taps)) (h' : Reads w (.slice a' s.taps.length c') (ints s.taps)) :
    Calls Tryd.prog 18 #[.agg #[.int .i64 s.kind, .int .i64 s.n, .int .i64 s.k, .slice a s.taps.length c], .agg #[.int .i64 s.kind, .int .i64 s.n, .int .i64 s.k, .slice a' s.taps.length c']] w fun e w' => e = .returned (.bool true) ∧ Below w.heap.size w w' := by
  obtain ⟨kd, n, k, taps⟩ := s
  simp only at h h' ⊢
  have HB : Hid (Below w.heap.size w ((w.alloc (.cells #[.int .i64 kd, .int .i64 n, .int .i64 k, .slice a taps.length c] 36)).alloc (.cells #[.int .i64 kd, .int .i64 n, .int .i64 k, .slice a' taps.length c'] 36))) := ((Below.refl _ _).alloc (Nat.le_refl _) _).alloc (by simp) _
  have E := Lib.hid (eqInt64_any (h.keep HB.out) (h'.keep HB.out))
  obtain ⟨L, hL⟩ : ∃ L, taps.length = L := ⟨_, rfl⟩
  rw [hL] at E HB ⊢
  clear h h' hL
  go_enter Tryd.func18, Tryd.ntmps18
  go_wp2_with fail
  refine E.out.mono ?_
  rintro e w1 ⟨rfl, m, rfl⟩
  go_wp2
  go_ret
  exact ⟨rfl, below_draws HB.out _⟩

set_option maxRecDepth 100000 in
set_option maxHeartbeats 4000000 in
theorem eqStepS_any {w : World} {B B' : Nat} {V V' : Value} {ss : List St} {tv tv' : Nat → Value} (h : StepsO w B V ss.length ss.length ss tv) (h' : StepsO w B' V' ss.length ss.length ss tv') :
    Calls Tryd.prog 53 #[V, V'] w fun e w' => e = .returned (.bool true) ∧ Below w.heap.size w w' := by
  have HA := Lib.hid (fun j (hj : j < ss.length) => h.at hj (Nat.le_refl _))
  have HA' := Lib.hid (fun j (hj : j < ss.length) => h'.at hj (Nat.le_refl _))
  obtain ⟨a, cap, rfl⟩ := h.form
  obtain ⟨a', cap', rfl⟩ := h'.form
  have hmax : (ss.length : Int) ≤ 9223372036854775807 := by
    by_cases h0 : ss.length = 0
    · omega
    · obtain ⟨g, cp, aa, cc, e, hc, hm, _⟩ := HA.out 0 (by omega)
      unfold maxLen at hm
      omega
  obtain ⟨L, hL⟩ : ∃ L, ss.length = L := ⟨_, rfl⟩
  rw [hL] at HA HA' hmax ⊢
  clear h h' hL
  go_enter Tryd.func53, Tryd.ntmps53
  go_wp2
  go_loopw [5] (fun i wr => ∃ k : Nat, i = .int .i64 k ∧ k ≤ L ∧ Below w.heap.size w wr) (fun i _ => L - (intOf i).toNat)
  case atStart => exact ⟨0, rfl, Nat.zero_le _, Below.refl _ _⟩
  case round =>
    obtain ⟨k, rfl, hk, hB⟩ := hrel
    have HB := Lib.hid hB
    clear hB
    by_cases hlt : k < L
    · obtain ⟨g, cp, ta, tc, e, -, -, hg, -, c0, c1, c2, c3, hr⟩ := HA.out k hlt
      obtain ⟨g', cp', ta', tc', e', -, -, hg', -, d0, d1, d2, d3, hr'⟩ := HA'.out k hlt
      simp only [Value.slice.injEq] at e e'
      obtain ⟨rfl, -, rfl⟩ := e
      obtain ⟨rfl, -, rfl⟩ := e'
      have hr := hr.reads
      have hr' := hr'.reads
      obtain ⟨S, hS⟩ : ∃ S, ss.getD k default = S := ⟨_, rfl⟩
      rw [hS] at c0 c1 c2 c3 d0 d1 d2 d3 hr hr'
      rw [← HB.out.cell hg] at c0 c1 c2 c3
      rw [← HB.out.cell hg'] at d0 d1 d2 d3
      have E := Lib.hid (eqStep_any S ta ta' tc tc' wr.drew ((hr.keep HB.out).drewN 1) ((hr'.keep HB.out).drewN 1))
      have hk3 : (k : Int) < (L : Int) := by omega
      obtain ⟨T, hT⟩ : ∃ T, S.taps.length = T := ⟨_, rfl⟩
      rw [hT] at E c3 d3
      clear hr hr' hT hS
      go_wp2_with fail
      go_still_tail 8, (by kernel_rfl)
      change wpList _ _ _ _ _ wr.drew
      go_wp2_with fail
      refine E.out.mono ?_
      rintro e w2 ⟨rfl, hb2⟩
      have HB2 : Hid (Below w.heap.size w w2) := below_step' (below_draws HB.out 1) hb2 HB.out.size
      clear hb2
      go_wp2
      go_roundw
      case rel => exact ⟨k + 1, by go_num, by omega, HB2.out⟩
      case measure => simp [intOf]; omega
    · have e : k = L := by omega
      subst e
      go_wp2
      go_ret
      exact ⟨rfl, HB.out⟩

theorem eqPlan_any {w : World} {B B' : Nat} {V V' : Value} {ss : List St} {tv tv' : Nat → Value} (h : StepsO w B V ss.length ss.length ss tv) (h' : StepsO w B' V' ss.length ss.length ss tv') :
    Calls Tryd.prog 22 #[.agg #[V], .agg #[V']] w fun e w' => e = .returned (.bool true) ∧ Below w.heap.size w w' := by
  obtain ⟨a, cap, rfl⟩ := h.form
  obtain ⟨a', cap', rfl⟩ := h'.form
  have HB : Hid (Below w.heap.size w ((w.alloc (.cells #[.slice a ss.length cap] 26)).alloc (.cells #[.slice a' ss.length cap'] 26))) := ((Below.refl _ _).alloc (Nat.le_refl _) _).alloc (by simp) _
  have E := Lib.hid (eqStepS_any (h.below HB.out (Nat.le_refl _)) (h'.below HB.out (Nat.le_refl _)))
  clear h h'
  go_enter Tryd.func22, Tryd.ntmps22
  go_wp2_with fail
  refine E.out.mono ?_
  rintro e w1 ⟨rfl, hb⟩
  have HB2 := Lib.hid (below_step' HB.out hb HB.out.size)
  clear hb
  go_wp2
  go_ret
  exact ⟨rfl, HB2.out⟩

end Go.Proofs.YtdefhmpmgcahpaaDoor
