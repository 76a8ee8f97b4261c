/-
  Several texts of this claim, one behind the other; each says what it holds.
-/
import Derived.Test.YtdefhmpmgcahpaaDoorMPlanTeL5
/-
  SamePlan of both.
-/
set_option linter.unusedVariables false
set_option linter.unusedSimpArgs false
namespace Go.Proofs.YtdefhmpmgcahpaaDoor
open Go.RowKit

set_option maxRecDepth 100000 in
set_option maxHeartbeats 4000000 in
theorem l00Same_any {v v' : Value} {xs ys : List Int} {w : World} (h : Reads w v (ints xs)) (h' : Reads w v' (ints ys)) :
    Calls Tryd.prog 71 #[v, v'] w fun e w' => e = .returned (.bool (decide (xs = ys))) ∧ ∃ n, w' = w.drewN n := by
  obtain ⟨a, cap, rfl, hmax, hrd⟩ := ints_find h
  obtain ⟨a', cap', rfl, hmax', hrd'⟩ := ints_find h'
  by_cases hl : xs.length = ys.length
  · have HRD := Lib.hid hrd
    have HRD' := Lib.hid hrd'
    have HA : Hid (∀ j, j < xs.length → xs.getD j 0 ≠ ys.getD j 0 → decide (xs = ys) = false) := fun j hj hne => decide_eq_false (fun e => hne (by rw [e]))
    have HZ : Hid ((∀ j, j < xs.length → xs.getD j 0 = ys.getD j 0) → decide (xs = ys) = true) := fun hall => decide_eq_true (getD_eq hl hall)
    obtain ⟨b, hb⟩ : ∃ b, decide (xs = ys) = b := ⟨_, rfl⟩
    rw [hb] at HA HZ ⊢
    rw [← hl] at HRD' ⊢
    obtain ⟨c, hc⟩ : ∃ c, xs.length = c := ⟨_, rfl⟩
    rw [hc] at HA HZ HRD HRD' hmax ⊢
    have hmx : (c : Int) ≤ 9223372036854775807 := by omega
    clear h h' hrd hrd' hb hc hmax hmax' hl
    go_enter Tryd.func71, Tryd.ntmps71
    go_wp2
    go_loopw [5] (fun i wr => ∃ k m : Nat, i = .int .i64 k ∧ k ≤ c ∧ (∀ j, j < k → xs.getD j 0 = ys.getD j 0) ∧ wr = w.drewN m) (fun i _ => c - (intOf i).toNat)
    case atStart => exact ⟨0, 0, rfl, Nat.zero_le _, fun j hj => by omega, rfl⟩
    case round =>
      obtain ⟨k, m, rfl, hk, hj, hw⟩ := hrel
      have HW := Lib.hid hw
      have HJ := Lib.hid hj
      clear hj hw
      by_cases hkc : k < c
      · obtain ⟨g, rfl, hcb⟩ := HRD.out k hkc
        obtain ⟨g', rfl, hcb'⟩ := HRD'.out k hkc
        obtain ⟨z, hz⟩ : ∃ z, xs.getD k 0 = z := ⟨_, rfl⟩
        obtain ⟨y, hy⟩ : ∃ y, ys.getD k 0 = y := ⟨_, rfl⟩
        rw [hz] at hcb
        rw [hy] at hcb'
        have c1 : wr.cell? ⟨g, k, none⟩ = some (.int .i64 z) := by rw [HW.out]; exact hcb
        have c2 : wr.cell? ⟨g', k, none⟩ = some (.int .i64 y) := by rw [HW.out]; exact hcb'
        have hk3 : (k : Int) < (c : Int) := by omega
        by_cases hzy : z = y
        · have HK : Hid (∀ j, j < k + 1 → xs.getD j 0 = ys.getD j 0) := fun j hj => by
            by_cases e : j = k
            · rw [e, hz, hy, hzy]
            · exact HJ.out j (by omega)
          subst hzy
          clear hz hy hcb hcb'
          go_wp2
          go_quiet (fail)
          go_wp2
          go_roundw
          case rel => exact ⟨k + 1, m + nq, by go_num, by omega, HK.out, by rw [HW.out, World.drewN_drewN]⟩
          case measure => simp [intOf]; omega
        · have e : b = false := HA.out k hkc (by rw [hz, hy]; exact hzy)
          subst e
          clear hz hy hcb hcb'
          go_wp2
          go_quiet (fail)
          go_wp2
          go_ret
          exact ⟨rfl, m + nq, by rw [HW.out, World.drewN_drewN]⟩
      · have e : k = c := by omega
        subst e
        have e : b = true := HZ.out HJ.out
        subst e
        go_wp2
        go_ret
        exact ⟨rfl, m, HW.out⟩
  · have e : decide (xs = ys) = false := decide_eq_false (fun e => hl (by rw [e]))
    rw [e]
    obtain ⟨p, hp⟩ : ∃ p, xs.length = p := ⟨_, rfl⟩
    obtain ⟨q, hq⟩ : ∃ q, ys.length = q := ⟨_, rfl⟩
    rw [hp] at hl hmax ⊢
    rw [hq] at hl hmax' ⊢
    have hi : ¬ (p : Int) = (q : Int) := by omega
    clear h h' hrd hrd' hp hq e
    go_enter Tryd.func71, Tryd.ntmps71
    go_wp2
    go_ret
    exact ⟨rfl, 0, rfl⟩

set_option maxRecDepth 100000 in
set_option maxHeartbeats 4000000 in
theorem l07Same_any (s r : St) (a a' : Option Addr) (c c' g o g' o' : Nat) (w : World) (h : StepAt w g o s.kind s.n s.k a s.taps.length c) (h' : StepAt w g' o' r.kind r.n r.k a' r.taps.length c')
    (hr : Reads w (.slice a s.taps.length c) (ints s.taps)) (hr' : Reads w (.slice a' r.taps.length c') (ints r.taps)) :
    Calls Tryd.prog 35 #[.pointer (some ⟨g, o, none⟩), .pointer (some ⟨g', o', none⟩)] w fun e w' => e = .returned (.bool (sameSt s r)) ∧ Below w.heap.size w w' := by
  obtain ⟨kd, n, k, taps⟩ := s
  obtain ⟨kd', n', k', taps'⟩ := r
  obtain ⟨c0, c1, c2, c3⟩ := h
  obtain ⟨d0, d1, d2, d3⟩ := h'
  simp only [sameSt] at c0 c1 c2 c3 d0 d1 d2 d3 hr hr' ⊢
  have E := Lib.hid (fun m => l00Same_any (hr.drewN m) (hr'.drewN m))
  obtain ⟨b, hb⟩ : ∃ b, decide (taps = taps') = b := ⟨_, rfl⟩
  rw [hb] at E ⊢
  obtain ⟨L, hL⟩ : ∃ L, taps.length = L := ⟨_, rfl⟩
  obtain ⟨L', hL'⟩ : ∃ L, taps'.length = L := ⟨_, rfl⟩
  rw [hL] at c3 E
  rw [hL'] at d3 E
  clear hr hr' hb hL hL'
  by_cases h1 : kd = kd'
  · subst h1
    by_cases h2 : n = n'
    · subst h2
      by_cases h3 : k = k'
      · subst h3
        go_enter Tryd.func35, Tryd.ntmps35
        go_wp2
        go_quiet ((go_at_call 71; exact Calls.quiet_of (E.out _)))
        go_wp2
        go_ret
        exact ⟨by simp, below_draws (Below.refl _ _) _⟩
      · rw [decide_eq_false h3]
        have hb3 : (k == k') = false := by simpa using h3
        go_enter Tryd.func35, Tryd.ntmps35
        go_wp2
        go_quiet (fail)
        go_wp2
        go_ret
        exact ⟨by simp, below_draws (Below.refl _ _) _⟩
    · rw [decide_eq_false h2]
      have hb2 : (n == n') = false := by simpa using h2
      go_enter Tryd.func35, Tryd.ntmps35
      go_wp2
      go_quiet (fail)
      go_wp2
      go_ret
      exact ⟨by simp, below_draws (Below.refl _ _) _⟩
  · rw [decide_eq_false h1]
    have hb1 : (kd == kd') = false := by simpa using h1
    go_enter Tryd.func35, Tryd.ntmps35
    go_wp2
    go_quiet (fail)
    go_wp2
    go_ret
    exact ⟨by simp, below_draws (Below.refl _ _) _⟩

end Go.Proofs.YtdefhmpmgcahpaaDoor
/-
  SamePlan of both.
-/
set_option linter.unusedVariables false
set_option linter.unusedSimpArgs false
namespace Go.Proofs.YtdefhmpmgcahpaaDoor
open Go.RowKit

/-- Whether two plans are the same. -/
def samePl (ss rs : List St) : Bool := decide (ss.length = rs.length) && (List.range ss.length).all fun j => sameSt (ss.getD j default) (rs.getD j default)
theorem samePl_ne {ss rs : List St} (h : ss.length ≠ rs.length) : samePl ss rs = false := by simp [samePl, h]
theorem samePl_f {ss rs : List St} {j : Nat} (hj : j < ss.length) (h : sameSt (ss.getD j default) (rs.getD j default) = false) : samePl ss rs = false := by
  unfold samePl
  rw [Bool.and_eq_false_iff]
  exact .inr (List.all_eq_false.2 ⟨j, List.mem_range.2 hj, by simpa using h⟩)
theorem samePl_t {ss rs : List St} (hl : ss.length = rs.length) (h : ∀ j, j < ss.length → sameSt (ss.getD j default) (rs.getD j default) = true) : samePl ss rs = true := by
  unfold samePl
  rw [decide_eq_true hl, Bool.true_and]
  exact List.all_eq_true.2 fun j hj => h j (List.mem_range.1 hj)

set_option maxRecDepth 100000 in
set_option maxHeartbeats 4000000 in
theorem samePlan_spec {w : World} {B B' : Nat} {V V' : Value} {ss rs : List St} {tv tv' : Nat → Value} (h : StepsO w B V ss.length ss.length ss tv) (h' : StepsO w B' V' rs.length rs.length rs tv') :
    Calls Tryd.prog 12 #[.agg #[V], .agg #[V']] w fun e w' => e = .returned (.bool (samePl ss rs)) ∧ Below w.heap.size w w' := by
  have HA := Lib.hid (fun j (hj : j < ss.length) => h.at hj (Nat.le_refl _))
  have HA' := Lib.hid (fun j (hj : j < rs.length) => h'.at hj (Nat.le_refl _))
  have hm := h.len
  have hm' := h'.len
  obtain ⟨a, cap, rfl⟩ := h.form
  obtain ⟨a', cap', rfl⟩ := h'.form
  have HB0 : Hid (Below w.heap.size w ((w.alloc (.cells #[.slice a ss.length cap] 26)).alloc (.cells #[.slice a' rs.length cap'] 26))) := ((Below.refl _ _).alloc (Nat.le_refl _) _).alloc (by simp) _
  by_cases hl : ss.length = rs.length
  · have HF := Lib.hid (fun j (hj : j < ss.length) => samePl_f (rs := rs) hj)
    have HT := Lib.hid (samePl_t hl)
    obtain ⟨R, hR⟩ : ∃ R, samePl ss rs = R := ⟨_, rfl⟩
    rw [hR] at HF HT ⊢
    rw [← hl] at HA' HB0 hm' ⊢
    obtain ⟨L, hL⟩ : ∃ L, ss.length = L := ⟨_, rfl⟩
    rw [hL] at HA HA' HF HT HB0 hm ⊢
    have hmx : (L : Int) ≤ 9223372036854775807 := by omega
    obtain ⟨W, hW⟩ : ∃ W, W = ((w.alloc (.cells #[.slice a L cap] 26)).alloc (.cells #[.slice a' L cap'] 26)) := ⟨_, rfl⟩
    have p0 : W.cell? ⟨w.heap.size, 0, none⟩ = some (.slice a L cap) := by rw [hW]; go_simp
    have p1 : W.cell? ⟨w.heap.size + 1, 0, none⟩ = some (.slice a' L cap') := by rw [hW]; go_simp
    have hsz : W.heap.size = w.heap.size + 1 + 1 := by rw [hW]; simp
    rw [← hW] at HB0
    have HW := Lib.hid hW.symm
    clear h h' hR hL hl hm hm' hW
    go_enter Tryd.func12, Tryd.ntmps12
    go_wp2
    rw [HW.out]
    go_loopw [5] (fun i wr => ∃ k : Nat, i = .int .i64 k ∧ k ≤ L ∧ (∀ j, j < k → sameSt (ss.getD j default) (rs.getD j default) = true) ∧ Below W.heap.size W wr) (fun i _ => L - (intOf i).toNat)
    case atStart => exact ⟨0, rfl, Nat.zero_le _, fun j hj => by omega, Below.refl _ _⟩
    case round =>
      obtain ⟨k, rfl, hk, hj, hB⟩ := hrel
      have HB := Lib.hid hB
      have HJ := Lib.hid hj
      have q0 : wr.cell? ⟨w.heap.size, 0, none⟩ = some (.slice a L cap) := by rw [hB.cell (show w.heap.size < W.heap.size by omega)]; exact p0
      have q1 : wr.cell? ⟨w.heap.size + 1, 0, none⟩ = some (.slice a' L cap') := by rw [hB.cell (show w.heap.size + 1 < W.heap.size by omega)]; exact p1
      clear hB hj
      by_cases hlt : k < L
      · obtain ⟨g, cp, ta, tc, e, -, -, hg, -, c0, c1, c2, c3, hr⟩ := HA.out k hlt
        obtain ⟨g', cp', ta', tc', e', -, -, hg', -, d0, d1, d2, d3, hr'⟩ := HA'.out k hlt
        simp only [Value.slice.injEq] at e e'
        obtain ⟨rfl, -, rfl⟩ := e
        obtain ⟨rfl, -, rfl⟩ := e'
        have hr := hr.reads
        have hr' := hr'.reads
        obtain ⟨S, hS⟩ : ∃ S, ss.getD k default = S := ⟨_, rfl⟩
        obtain ⟨U, hU⟩ : ∃ S, rs.getD k default = S := ⟨_, rfl⟩
        rw [hS] at c0 c1 c2 c3 hr
        rw [hU] at d0 d1 d2 d3 hr'
        have hbd : Below w.heap.size w wr.drew := below_draws (below_step' HB0.out HB.out HB0.out.size) 1
        have C := Lib.hid (l07Same_any S U ta ta' tc tc' g (k * 4) g' (k * 4) wr.drew (StepAt.below ⟨c0, c1, c2, c3⟩ hbd) (StepAt.below ⟨d0, d1, d2, d3⟩ hbd) (hr.keep hbd) (hr'.keep hbd))
        obtain ⟨v, hv⟩ : ∃ v, sameSt S U = v := ⟨_, rfl⟩
        rw [hv] at C
        have HV : Hid (sameSt (ss.getD k default) (rs.getD k default) = v) := by show sameSt (ss.getD k default) (rs.getD k default) = v; rw [hS, hU, hv]
        have hk3 : (k : Int) < (L : Int) := by omega
        clear hr hr' hS hU hv c0 c1 c2 c3 d0 d1 d2 d3 p0 p1 hbd
        go_wp2_with fail
        go_still_tail 8, (by kernel_rfl)
        change wpList _ _ _ _ _ wr.drew
        go_wp2_with fail
        refine C.out.mono ?_
        rintro e w2 ⟨rfl, hb2⟩
        have HB2 : Hid (Below W.heap.size W w2) := below_step' (below_draws HB.out 1) hb2 HB.out.size
        clear hb2
        cases v
        · have e : R = false := HF.out k hlt HV.out
          subst e
          go_wp2
          go_ret
          exact ⟨rfl, below_step' HB0.out HB2.out HB0.out.size⟩
        · have HK : Hid (∀ j, j < k + 1 → sameSt (ss.getD j default) (rs.getD j default) = true) := fun j hj => by
            by_cases e : j = k
            · rw [e]; exact HV.out
            · exact HJ.out j (by omega)
          go_wp2
          go_roundw
          case rel => exact ⟨k + 1, by go_num, by omega, HK.out, HB2.out⟩
          case measure => simp [intOf]; omega
      · have e : k = L := by omega
        subst e
        have e : R = true := HT.out HJ.out
        subst e
        go_wp2
        go_ret
        exact ⟨rfl, below_step' HB0.out HB.out HB0.out.size⟩
  · rw [samePl_ne hl]
    obtain ⟨p, hp⟩ : ∃ p, ss.length = p := ⟨_, rfl⟩
    obtain ⟨q, hq⟩ : ∃ q, rs.length = q := ⟨_, rfl⟩
    rw [hp] at hl HB0 hm ⊢
    rw [hq] at hl HB0 hm' ⊢
    have hi : ¬ (p : Int) = (q : Int) := by omega
    clear h h' HA HA' hp hq
    go_enter Tryd.func12, Tryd.ntmps12
    go_wp2
    go_ret
    exact ⟨rfl, HB0.out⟩

theorem enter_same (args : Array Value) (w : World) : (callFunc 37 args).run Tryd.prog w = .ok (.enter 37 args) w := by kernel_rfl

set_option maxRecDepth 100000 in
set_option maxHeartbeats 4000000 in
theorem equalFunc_any {w : World} {B B' : Nat} {V V' : Value} {ss rs : List St} {tv tv' : Nat → Value} (h : StepsO w B V ss.length ss.length ss tv) (h' : StepsO w B' V' rs.length rs.length rs tv') :
    Calls Tryd.prog 36 #[V, V', .func (.func 37) #[] #[]] w fun e w' => e = .returned (.bool (samePl ss rs)) ∧ Below w.heap.size w w' := by
  have HA := Lib.hid (fun j (hj : j < ss.length) => h.at hj (Nat.le_refl _))
  have HA' := Lib.hid (fun j (hj : j < rs.length) => h'.at hj (Nat.le_refl _))
  have hm := h.len
  have hm' := h'.len
  obtain ⟨a, cap, rfl⟩ := h.form
  obtain ⟨a', cap', rfl⟩ := h'.form
  have hfn := enter_same
  by_cases hl : ss.length = rs.length
  · have HF := Lib.hid (fun j (hj : j < ss.length) => samePl_f (rs := rs) hj)
    have HT := Lib.hid (samePl_t hl)
    obtain ⟨R, hR⟩ : ∃ R, samePl ss rs = R := ⟨_, rfl⟩
    rw [hR] at HF HT ⊢
    rw [← hl] at HA' hm' ⊢
    obtain ⟨L, hL⟩ : ∃ L, ss.length = L := ⟨_, rfl⟩
    rw [hL] at HA HA' HF HT hm ⊢
    have hmx : (L : Int) ≤ 9223372036854775807 := by omega
    clear h h' hR hL hl hm hm'
    go_enter Tryd.func36, Tryd.ntmps36
    go_wp2
    go_loopw [17] (fun i wr => ∃ k : Nat, i = .int .i64 k ∧ k ≤ L ∧ (∀ j, j < k → sameSt (ss.getD j default) (rs.getD j default) = true) ∧ Below w.heap.size w wr) (fun i _ => L - (intOf i).toNat)
    case atStart => exact ⟨0, rfl, Nat.zero_le _, fun j hj => by omega, Below.refl _ _⟩
    case round =>
      obtain ⟨k, rfl, hk, hj, hB⟩ := hrel
      have HB := Lib.hid hB
      have HJ := Lib.hid hj
      clear hB hj
      by_cases hlt : k < L
      · obtain ⟨g, cp, ta, tc, e, -, -, hg, -, c0, c1, c2, c3, hr⟩ := HA.out k hlt
        obtain ⟨g', cp', ta', tc', e', -, -, hg', -, d0, d1, d2, d3, hr'⟩ := HA'.out k hlt
        simp only [Value.slice.injEq] at e e'
        obtain ⟨rfl, -, rfl⟩ := e
        obtain ⟨rfl, -, rfl⟩ := e'
        have hr := hr.reads
        have hr' := hr'.reads
        obtain ⟨S, hS⟩ : ∃ S, ss.getD k default = S := ⟨_, rfl⟩
        obtain ⟨U, hU⟩ : ∃ S, rs.getD k default = S := ⟨_, rfl⟩
        rw [hS] at c0 c1 c2 c3 hr
        rw [hU] at d0 d1 d2 d3 hr'
        have hgw : g < wr.heap.size := Nat.lt_of_lt_of_le hg HB.out.size
        have hgw' : g' < wr.heap.size := Nat.lt_of_lt_of_le hg' HB.out.size
        have n1 : ¬ g = wr.heap.size := by omega
        have n1' : ¬ g' = wr.heap.size := by omega
        rw [← HB.out.cell hg] at c0 c1 c2 c3
        rw [← HB.out.cell hg'] at d0 d1 d2 d3
        have C := Lib.hid (fun W (hb : Below wr.heap.size wr W) => isSame_any S U ta ta' tc tc' W (fun w1 hb1 => hr.keep (below_step' HB.out (below_step' hb hb1 hb.size) HB.out.size)) (fun w1 hb1 => hr'.keep (below_step' HB.out (below_step' hb hb1 hb.size) HB.out.size)))
        obtain ⟨v, hv⟩ : ∃ v, sameSt S U = v := ⟨_, rfl⟩
        rw [hv] at C
        have HV : Hid (sameSt (ss.getD k default) (rs.getD k default) = v) := by show sameSt (ss.getD k default) (rs.getD k default) = v; rw [hS, hU, hv]
        obtain ⟨T, hT⟩ : ∃ T, S.taps.length = T := ⟨_, rfl⟩
        obtain ⟨T', hT'⟩ : ∃ T, U.taps.length = T := ⟨_, rfl⟩
        rw [hT, hT'] at C
        rw [hT] at c3
        rw [hT'] at d3
        have HB3 : Hid (Below wr.heap.size wr ((wr.alloc (.cells #[.int .i64 S.kind, .int .i64 S.n, .int .i64 S.k, .slice ta T tc] 36)).alloc (.cells #[.int .i64 U.kind, .int .i64 U.n, .int .i64 U.k, .slice ta' T' tc'] 36))) := ((Below.refl _ _).alloc (Nat.le_refl _) _).alloc (by simp) _
        clear hr hr' hS hU hv hT hT'
        go_wp2_with fail
        with_reducible refine (C.out _ HB3.out).mono ?_
        rintro e w2 ⟨rfl, hb2⟩
        have HB2 : Hid (Below w.heap.size w w2) := below_step' (below_step' HB.out HB3.out HB.out.size) hb2 (by have := HB.out.size; have := HB3.out.size; omega)
        clear hb2
        cases v
        · have e : R = false := HF.out k hlt HV.out
          subst e
          go_wp2
          go_ret
          exact ⟨rfl, HB2.out⟩
        · have HK : Hid (∀ j, j < k + 1 → sameSt (ss.getD j default) (rs.getD j default) = true) := fun j hj => by
            by_cases e : j = k
            · rw [e]; exact HV.out
            · exact HJ.out j (by omega)
          go_wp2
          go_roundw
          case rel => exact ⟨k + 1, by go_num, by omega, HK.out, HB2.out⟩
          case measure => simp [intOf]; omega
      · have e : k = L := by omega
        subst e
        have e : R = true := HT.out HJ.out
        subst e
        go_wp2
        go_ret
        exact ⟨rfl, HB.out⟩
  · rw [samePl_ne hl]
    obtain ⟨p, hp⟩ : ∃ p, ss.length = p := ⟨_, rfl⟩
    obtain ⟨q, hq⟩ : ∃ q, rs.length = q := ⟨_, rfl⟩
    rw [hp] at hl hm ⊢
    rw [hq] at hl hm' ⊢
    have hi : ¬ (p : Int) = (q : Int) := by omega
    clear h h' HA HA' hp hq
    go_enter Tryd.func36, Tryd.ntmps36
    go_wp2
    go_ret
    exact ⟨rfl, Below.refl _ _⟩

theorem samePlan_impl {w : World} {B B' : Nat} {V V' : Value} {ss rs : List St} {tv tv' : Nat → Value} (h : StepsO w B V ss.length ss.length ss tv) (h' : StepsO w B' V' rs.length rs.length rs tv') :
    Calls Tryd.prog 13 #[.agg #[V], .agg #[V']] w fun e w' => e = .returned (.bool (samePl ss rs)) ∧ Below w.heap.size w w' := by
  obtain ⟨a, cap, rfl⟩ := h.form
  obtain ⟨a', cap', rfl⟩ := h'.form
  have HB0 : Hid (Below w.heap.size w ((w.alloc (.cells #[.slice a ss.length cap] 26)).alloc (.cells #[.slice a' rs.length cap'] 26))) := ((Below.refl _ _).alloc (Nat.le_refl _) _).alloc (by simp) _
  have C := Lib.hid (equalFunc_any (h.below HB0.out (Nat.le_refl _)) (h'.below HB0.out (Nat.le_refl _)))
  obtain ⟨R, hR⟩ : ∃ R, samePl ss rs = R := ⟨_, rfl⟩
  rw [hR] at C ⊢
  clear h h' hR
  go_enter Tryd.func13, Tryd.ntmps13
  go_wp2_with fail
  with_reducible refine C.out.mono ?_
  rintro e w1 ⟨rfl, hb⟩
  have HB1 := Lib.hid (below_step' HB0.out hb HB0.out.size)
  clear hb
  go_wp2
  go_ret
  exact ⟨rfl, HB1.out⟩

end Go.Proofs.YtdefhmpmgcahpaaDoor
/-
  SamePlan of the model at plans of one step, wherever these lie.
-/
set_option linter.unusedVariables false
set_option linter.unusedSimpArgs false
namespace Go.Proofs.YtdefhmpmgcahpaaDoor
open Go.RowKit

theorem sameSt_self (s : St) : sameSt s s = true := by simp [sameSt]
theorem samePl_self (ss : List St) : samePl ss ss = true := samePl_t rfl fun j _ => sameSt_self _

set_option maxRecDepth 100000 in
set_option maxHeartbeats 4000000 in
theorem samePlan_one (S : St) (g o g' o' c c' : Nat) (ta ta' : Option Addr) (tc tc' : Nat) (w : World) (h : StepAt w g o S.kind S.n S.k ta S.taps.length tc) (h' : StepAt w g' o' S.kind S.n S.k ta' S.taps.length tc') (hr : Reads w (.slice ta S.taps.length tc) (ints S.taps)) (hr' : Reads w (.slice ta' S.taps.length tc') (ints S.taps)) :
    Calls Tryd.prog 12 #[.agg #[.slice (some ⟨g, o, none⟩) 1 c], .agg #[.slice (some ⟨g', o', none⟩) 1 c']] w fun e w' => e = .returned (.bool true) ∧ Below w.heap.size w w' := by
  obtain ⟨W, hW⟩ : ∃ W, W = ((w.alloc (.cells #[.slice (some ⟨g, o, none⟩) 1 c] 26)).alloc (.cells #[.slice (some ⟨g', o', none⟩) 1 c'] 26)) := ⟨_, rfl⟩
  have HB0 : Hid (Below w.heap.size w W) := by rw [hW]; exact ((Below.refl _ _).alloc (Nat.le_refl _) _).alloc (by simp) _
  have p0 : W.cell? ⟨w.heap.size, 0, none⟩ = some (.slice (some ⟨g, o, none⟩) 1 c) := by rw [hW]; go_simp
  have p1 : W.cell? ⟨w.heap.size + 1, 0, none⟩ = some (.slice (some ⟨g', o', none⟩) 1 c') := by rw [hW]; go_simp
  have hbd : Below w.heap.size w W.drew := below_draws HB0.out 1
  have C := Lib.hid (l07Same_any S S ta ta' tc tc' g o g' o' W.drew (h.below hbd) (h'.below hbd) (hr.keep hbd) (hr'.keep hbd))
  rw [sameSt_self] at C
  obtain ⟨c0, c1, c2, c3⟩ := h.below hbd
  obtain ⟨d0, d1, d2, d3⟩ := h'.below hbd
  have HW := Lib.hid hW.symm
  clear h h' hr hr' hW hbd
  go_enter Tryd.func12, Tryd.ntmps12
  go_wp2
  rw [HW.out]
  refine wp_loop_rounds 2 ?_
  rw [rounds_succ]
  go_wp2_with fail
  go_still_tail 8, (by kernel_rfl)
  change wpList _ _ _ _ _ W.drew
  go_wp2_with fail
  refine C.out.mono ?_
  rintro e w2 ⟨rfl, hb2⟩
  have HB2 : Hid (Below W.heap.size W w2) := below_step' (below_draws (Below.refl _ _) 1) hb2 (Nat.le_refl _)
  have hsz : w.heap.size + 2 ≤ W.heap.size := by rw [← HW.out]; simp
  have q0 : w2.cell? ⟨w.heap.size, 0, none⟩ = some (.slice (some ⟨g, o, none⟩) 1 c) := (HB2.out.cell (p := ⟨w.heap.size, 0, none⟩) (by show w.heap.size < _; omega)).trans p0
  clear hb2 hsz p0 p1 c0 c1 c2 c3 d0 d1 d2 d3
  go_wp2
  rw [rounds_succ]
  go_wp2
  go_ret
  exact ⟨rfl, below_step' HB0.out HB2.out HB0.out.size⟩

end Go.Proofs.YtdefhmpmgcahpaaDoor
/-
  Steps that can be run: their types.
-/
set_option linter.unusedVariables false
set_option linter.unusedSimpArgs false
namespace Go.Proofs.YtdefhmpmgcahpaaDoor
open Go.RowKit

/-- The type of the step that can be run. -/
def tyOf (q : Nat) : TypeId := [0, 157, 158, 159, 160, 161, 162, 164, 165, 166, 167, 168, 169, 170].getD q 0
/-- A step that can be run, as a value. -/
def ifV (s : St) (tv : Value) : Value := .iface (tyOf s.kind.toNat) (.agg #[.int .i64 s.kind, .int .i64 s.n, .int .i64 s.k, tv])

end Go.Proofs.YtdefhmpmgcahpaaDoor
