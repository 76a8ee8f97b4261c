import Derived.Test.YtdefhmpmgcahpaaDoorStpTZ
/-
  szPlan, toPlan: plans that came in, measured and copied.
-/
set_option linter.unusedVariables false
set_option linter.unusedSimpArgs false
namespace Go.Proofs.YtdefhmpmgcahpaaDoor
open Go.RowKit

/-- What is left behind measuring. -/
def SzTo (left : Nat) (ok : Prop) (w : World) (e : Ending) (w' : World) : Prop := ∃ r : Int, e = .returned (.int .i64 r) ∧ (r = -1 ∨ (0 ≤ r ∧ r ≤ left ∧ ok)) ∧ Below w.heap.size w w'

theorem szInt64_any (a : Option Addr) (len cap left : Nat) (hl : len ≤ 9223372036854775807) (hf : left ≤ 1048576) (w : World) :
    Calls Tryd.prog 113 #[.slice a len cap, .int .i64 left] w fun e w' => e = .returned (.int .i64 (if len ≤ left then ((left - len : Nat) : Int) else -1)) ∧ w' = w := by
  have eW : IntKind.i64.wrap ((left : Int) - (len : Int)) = (left : Int) - (len : Int) := IntWalk.i64_in _ (by omega)
  by_cases h : len ≤ left
  · have h2 : ¬ ((left : Int) - (len : Int) < 0) := by omega
    rw [if_pos h]
    have e : ((left - len : Nat) : Int) = (left : Int) - (len : Int) := by omega
    rw [e]
    clear h e hl hf
    go_enter Tryd.func113, Tryd.ntmps113
    go_wp2
    go_ret
    exact ⟨rfl, rfl⟩
  · have h2 : ((left : Int) - (len : Int) < 0) := by omega
    rw [if_neg h]
    clear h hl hf
    go_enter Tryd.func113, Tryd.ntmps113
    go_wp2
    go_ret
    exact ⟨rfl, rfl⟩

theorem szStep_any {v : Value} {s : St} {w : World} (h : StepIn w v s) (left : Nat) (hf : left ≤ 1048576) :
    Calls Tryd.prog 83 #[v, .int .i64 left] w (SzTo left (s.taps.length ≤ 1048576) w) := by
  obtain ⟨kd, n, k, taps⟩ := s
  obtain ⟨tv, rfl, h⟩ := h
  simp only at h ⊢
  obtain ⟨a, cap, rfl, hlen⟩ := h.form
  obtain ⟨L, hL⟩ : ∃ L, taps.length = L := ⟨_, rfl⟩
  rw [hL] at hlen ⊢
  have T := Lib.hid (fun w => szInt64_any a L cap left hlen hf w)
  clear h hL
  go_enter Tryd.func83, Tryd.ntmps83
  go_wp2_with fail
  refine (T.out _).mono ?_
  rintro e w1 ⟨rfl, rfl⟩
  by_cases hle : L ≤ left
  · rw [if_pos hle]
    have g : ¬ ((left - L : Nat) : Int) < 0 := by omega
    obtain ⟨m, hm⟩ : ∃ m, left - L = m := ⟨_, rfl⟩
    rw [hm] at g ⊢
    go_wp2
    go_ret
    exact ⟨_, rfl, .inr ⟨by omega, by omega, by omega⟩, (Below.refl _ _).alloc (Nat.le_refl _) _⟩
  · rw [if_neg hle]
    clear hle
    go_wp2
    go_ret
    exact ⟨_, rfl, .inl rfl, (Below.refl _ _).alloc (Nat.le_refl _) _⟩

set_option maxRecDepth 100000 in
set_option maxHeartbeats 4000000 in
theorem szStepS_any {v : Value} {ss : List St} {w : World} (h : StepsIn w v ss) (left : Nat) (hf : left ≤ 1048576) :
    Calls Tryd.prog 56 #[v, .int .i64 left] w (SzTo left (ss.length ≤ 1048576 ∧ ∀ j, j < ss.length → (ss.getD j default).taps.length ≤ 1048576) w) := by
  cases h with
  | nil a cap =>
    have eW : IntKind.i64.wrap ((left : Int) - 0) = (left : Int) := by rw [Int.sub_zero]; exact IntWalk.i64_in _ (by omega)
    have h2 : ¬ ((left : Int) < 0) := by omega
    go_enter Tryd.func56, Tryd.ntmps56
    go_wp2
    refine wp_loop_rounds 1 ?_
    rw [rounds_succ]
    go_wp2
    go_ret
    exact ⟨_, rfl, .inr ⟨by omega, by omega, by simp, fun j hj => by simp at hj⟩, Below.refl _ _⟩
  | row x cap L ss tv hL h0 hc hm hb hh =>
    have hmax := maxLen_int (Nat.le_trans hc hm)
    have eW : IntKind.i64.wrap ((left : Int) - (L : Int)) = (left : Int) - (L : Int) := IntWalk.i64_in _ (by omega)
    by_cases hle : L ≤ left
    · have h2 : ¬ ((left : Int) - (L : Int) < 0) := by omega
      have HC := Lib.hid hh
      have HL := Lib.hid hL
      have hxb := hb
      clear hh hL hb hm
      go_enter Tryd.func56, Tryd.ntmps56
      go_wp2
      go_loopw [1, 5] (fun l i wr => ∃ k m : Nat, l = .int .i64 m ∧ i = .int .i64 k ∧ m ≤ left ∧ k ≤ L ∧ (∀ j, j < k → (ss.getD j default).taps.length ≤ 1048576) ∧ Below w.heap.size w wr) (fun _ i _ => L - (intOf i).toNat)
      case atStart => exact ⟨0, left - L, by go_num, rfl, by omega, Nat.zero_le _, fun j hj => by omega, Below.refl _ _⟩
      case round =>
        obtain ⟨k, m, rfl, rfl, hm, hk, hj, hB⟩ := hrel
        by_cases hlt : k < L
        · obtain ⟨c0, c1, c2, c3, c4⟩ := HC.out k hlt
          have T := Lib.hid (szStep_any (v := .agg #[.int .i64 (ss.getD k default).kind, .int .i64 (ss.getD k default).n, .int .i64 (ss.getD k default).k, tv k]) (s := ss.getD k default) (w := wr) ⟨_, rfl, c4.below hB⟩ m (by omega))
          have hxb' : (x.add (k * 4)).block < w.heap.size := by rw [addr_block]; exact hxb
          rw [← hB.cell (by exact hxb')] at c0 c1 c2 c3
          obtain ⟨S, hS⟩ : ∃ S, ss.getD k default = S := ⟨_, rfl⟩
          rw [hS] at c0 c1 c2 T
          have HJ := Lib.hid hj
          have HB := Lib.hid hB
          have HS := Lib.hid hS
          obtain ⟨t, ht⟩ : ∃ t, tv k = t := ⟨_, rfl⟩
          rw [ht] at c3 T
          clear hj hB hS c4 ht
          go_wp2_with fail
          refine T.out.mono ?_
          rintro e w2 ⟨r, rfl, hr, hb2⟩
          have HB2 := Lib.hid (below_step' HB.out hb2 HB.out.size)
          clear hb2 c0 c1 c2 c3 T
          rcases hr with rfl | ⟨r0, rl, ok⟩
          · go_wp2
            go_ret
            exact ⟨_, rfl, .inl rfl, HB2.out⟩
          · obtain ⟨m', rfl⟩ : ∃ m' : Nat, r = m' := ⟨r.toNat, by omega⟩
            have g : ¬ (m' : Int) < 0 := by omega
            clear r0
            have HK : Hid (∀ j, j < k + 1 → (ss.getD j default).taps.length ≤ 1048576) := fun j hj => by
              by_cases e : j = k
              · rw [e, HS.out]; exact ok
              · exact HJ.out j (by omega)
            clear ok
            go_wp2
            go_roundw
            case rel => exact ⟨k + 1, m', rfl, by go_num, by omega, by omega, HK.out, HB2.out⟩
            case measure => simp [intOf]; omega
        · have e : k = L := by omega
          subst e
          have HJ := Lib.hid hj
          have HB := Lib.hid hB
          clear hj hB
          go_wp2
          go_ret
          exact ⟨_, rfl, .inr ⟨by omega, by omega, by rw [HL.out]; omega, by rw [HL.out]; exact HJ.out⟩, HB.out⟩
    · have h2 : ((left : Int) - (L : Int) < 0) := by omega
      clear hh hL hb hm hle
      go_enter Tryd.func56, Tryd.ntmps56
      go_wp2
      go_ret
      exact ⟨_, rfl, .inl rfl, Below.refl _ _⟩

end Go.Proofs.YtdefhmpmgcahpaaDoor
