import Derived.Test.YtfdmohnmilecnaaSamP
/-
  SamePlan of both.
-/
set_option linter.unusedVariables false
set_option linter.unusedSimpArgs false
namespace Go.Proofs.Ytfdmohnmilecnaa
open Go.RowKit

/-- Whether two plans are the same. -/
def samePl (ss rs : List St) : Bool := decide (ss.length = rs.length) && (List.range ss.length).all fun j => sameSt (ss.getD j default) (rs.getD j default)
theorem samePl_ne {ss rs : List St} (h : ss.length ≠ rs.length) : samePl ss rs = false := by simp [samePl, h]
theorem samePl_f {ss rs : List St} {j : Nat} (hj : j < ss.length) (h : sameSt (ss.getD j default) (rs.getD j default) = false) : samePl ss rs = false := by
  unfold samePl
  rw [Bool.and_eq_false_iff]
  exact .inr (List.all_eq_false.2 ⟨j, List.mem_range.2 hj, by simpa using h⟩)
theorem samePl_t {ss rs : List St} (hl : ss.length = rs.length) (h : ∀ j, j < ss.length → sameSt (ss.getD j default) (rs.getD j default) = true) : samePl ss rs = true := by
  unfold samePl
  rw [decide_eq_true hl, Bool.true_and]
  exact List.all_eq_true.2 fun j hj => h j (List.mem_range.1 hj)

set_option maxRecDepth 100000 in
set_option maxHeartbeats 4000000 in
theorem samePlan_spec {w : World} {B B' : Nat} {V V' : Value} {ss rs : List St} {tv tv' : Nat → Value} (h : StepsO w B V ss.length ss.length ss tv) (h' : StepsO w B' V' rs.length rs.length rs tv') :
    Calls Try.prog 5 #[.agg #[V], .agg #[V']] w fun e w' => e = .returned (.bool (samePl ss rs)) ∧ Below w.heap.size w w' := by
  have HA := Lib.hid (fun j (hj : j < ss.length) => h.at hj (Nat.le_refl _))
  have HA' := Lib.hid (fun j (hj : j < rs.length) => h'.at hj (Nat.le_refl _))
  have hm := h.len
  have hm' := h'.len
  obtain ⟨a, cap, rfl⟩ := h.form
  obtain ⟨a', cap', rfl⟩ := h'.form
  have HB0 : Hid (Below w.heap.size w ((w.alloc (.cells #[.slice a ss.length cap] 29)).alloc (.cells #[.slice a' rs.length cap'] 29))) := ((Below.refl _ _).alloc (Nat.le_refl _) _).alloc (by simp) _
  by_cases hl : ss.length = rs.length
  · have HF := Lib.hid (fun j (hj : j < ss.length) => samePl_f (rs := rs) hj)
    have HT := Lib.hid (samePl_t hl)
    obtain ⟨R, hR⟩ : ∃ R, samePl ss rs = R := ⟨_, rfl⟩
    rw [hR] at HF HT ⊢
    rw [← hl] at HA' HB0 hm' ⊢
    obtain ⟨L, hL⟩ : ∃ L, ss.length = L := ⟨_, rfl⟩
    rw [hL] at HA HA' HF HT HB0 hm ⊢
    have hmx : (L : Int) ≤ 9223372036854775807 := by omega
    obtain ⟨W, hW⟩ : ∃ W, W = ((w.alloc (.cells #[.slice a L cap] 29)).alloc (.cells #[.slice a' L cap'] 29)) := ⟨_, rfl⟩
    have p0 : W.cell? ⟨w.heap.size, 0, none⟩ = some (.slice a L cap) := by rw [hW]; go_simp
    have p1 : W.cell? ⟨w.heap.size + 1, 0, none⟩ = some (.slice a' L cap') := by rw [hW]; go_simp
    have hsz : W.heap.size = w.heap.size + 1 + 1 := by rw [hW]; simp
    rw [← hW] at HB0
    have HW := Lib.hid hW.symm
    clear h h' hR hL hl hm hm' hW
    go_enter Try.func5, Try.ntmps5
    go_wp2
    rw [HW.out]
    go_loopw [5] (fun i wr => ∃ k : Nat, i = .int .i64 k ∧ k ≤ L ∧ (∀ j, j < k → sameSt (ss.getD j default) (rs.getD j default) = true) ∧ Below W.heap.size W wr) (fun i _ => L - (intOf i).toNat)
    case atStart => exact ⟨0, rfl, Nat.zero_le _, fun j hj => by omega, Below.refl _ _⟩
    case round =>
      obtain ⟨k, rfl, hk, hj, hB⟩ := hrel
      have HB := Lib.hid hB
      have HJ := Lib.hid hj
      have q0 : wr.cell? ⟨w.heap.size, 0, none⟩ = some (.slice a L cap) := by rw [hB.cell (show w.heap.size < W.heap.size by omega)]; exact p0
      have q1 : wr.cell? ⟨w.heap.size + 1, 0, none⟩ = some (.slice a' L cap') := by rw [hB.cell (show w.heap.size + 1 < W.heap.size by omega)]; exact p1
      clear hB hj
      by_cases hlt : k < L
      · obtain ⟨g, cp, ta, tc, e, -, -, hg, -, c0, c1, c2, c3, hr⟩ := HA.out k hlt
        obtain ⟨g', cp', ta', tc', e', -, -, hg', -, d0, d1, d2, d3, hr'⟩ := HA'.out k hlt
        simp only [Value.slice.injEq] at e e'
        obtain ⟨rfl, -, rfl⟩ := e
        obtain ⟨rfl, -, rfl⟩ := e'
        have hr := hr.reads
        have hr' := hr'.reads
        obtain ⟨S, hS⟩ : ∃ S, ss.getD k default = S := ⟨_, rfl⟩
        obtain ⟨U, hU⟩ : ∃ S, rs.getD k default = S := ⟨_, rfl⟩
        rw [hS] at c0 c1 c2 c3 hr
        rw [hU] at d0 d1 d2 d3 hr'
        have hbd : Below w.heap.size w wr.drew := below_draws (below_step' HB0.out HB.out HB0.out.size) 1
        have C := Lib.hid (l07Same_any S U ta ta' tc tc' g (k * 4) g' (k * 4) wr.drew (StepAt.below ⟨c0, c1, c2, c3⟩ hbd) (StepAt.below ⟨d0, d1, d2, d3⟩ hbd) (hr.keep hbd) (hr'.keep hbd))
        obtain ⟨v, hv⟩ : ∃ v, sameSt S U = v := ⟨_, rfl⟩
        rw [hv] at C
        have HV : Hid (sameSt (ss.getD k default) (rs.getD k default) = v) := by show sameSt (ss.getD k default) (rs.getD k default) = v; rw [hS, hU, hv]
        have hk3 : (k : Int) < (L : Int) := by omega
        clear hr hr' hS hU hv c0 c1 c2 c3 d0 d1 d2 d3 p0 p1 hbd
        go_wp2_with fail
        go_still_tail 8, (by kernel_rfl)
        change wpList _ _ _ _ _ wr.drew
        go_wp2_with fail
        refine C.out.mono ?_
        rintro e w2 ⟨rfl, hb2⟩
        have HB2 : Hid (Below W.heap.size W w2) := below_step' (below_draws HB.out 1) hb2 HB.out.size
        clear hb2
        cases v
        · have e : R = false := HF.out k hlt HV.out
          subst e
          go_wp2
          go_ret
          exact ⟨rfl, below_step' HB0.out HB2.out HB0.out.size⟩
        · have HK : Hid (∀ j, j < k + 1 → sameSt (ss.getD j default) (rs.getD j default) = true) := fun j hj => by
            by_cases e : j = k
            · rw [e]; exact HV.out
            · exact HJ.out j (by omega)
          go_wp2
          go_roundw
          case rel => exact ⟨k + 1, by go_num, by omega, HK.out, HB2.out⟩
          case measure => simp [intOf]; omega
      · have e : k = L := by omega
        subst e
        have e : R = true := HT.out HJ.out
        subst e
        go_wp2
        go_ret
        exact ⟨rfl, below_step' HB0.out HB.out HB0.out.size⟩
  · rw [samePl_ne hl]
    obtain ⟨p, hp⟩ : ∃ p, ss.length = p := ⟨_, rfl⟩
    obtain ⟨q, hq⟩ : ∃ q, rs.length = q := ⟨_, rfl⟩
    rw [hp] at hl HB0 hm ⊢
    rw [hq] at hl HB0 hm' ⊢
    have hi : ¬ (p : Int) = (q : Int) := by omega
    clear h h' HA HA' hp hq
    go_enter Try.func5, Try.ntmps5
    go_wp2
    go_ret
    exact ⟨rfl, HB0.out⟩

theorem enter_same (args : Array Value) (w : World) : (callFunc 13 args).run Try.prog w = .ok (.enter 13 args) w := by kernel_rfl

set_option maxRecDepth 100000 in
set_option maxHeartbeats 4000000 in
theorem equalFunc_any {w : World} {B B' : Nat} {V V' : Value} {ss rs : List St} {tv tv' : Nat → Value} (h : StepsO w B V ss.length ss.length ss tv) (h' : StepsO w B' V' rs.length rs.length rs tv') :
    Calls Try.prog 12 #[V, V', .func (.func 13) #[] #[]] w fun e w' => e = .returned (.bool (samePl ss rs)) ∧ Below w.heap.size w w' := by
  have HA := Lib.hid (fun j (hj : j < ss.length) => h.at hj (Nat.le_refl _))
  have HA' := Lib.hid (fun j (hj : j < rs.length) => h'.at hj (Nat.le_refl _))
  have hm := h.len
  have hm' := h'.len
  obtain ⟨a, cap, rfl⟩ := h.form
  obtain ⟨a', cap', rfl⟩ := h'.form
  have hfn := enter_same
  by_cases hl : ss.length = rs.length
  · have HF := Lib.hid (fun j (hj : j < ss.length) => samePl_f (rs := rs) hj)
    have HT := Lib.hid (samePl_t hl)
    obtain ⟨R, hR⟩ : ∃ R, samePl ss rs = R := ⟨_, rfl⟩
    rw [hR] at HF HT ⊢
    rw [← hl] at HA' hm' ⊢
    obtain ⟨L, hL⟩ : ∃ L, ss.length = L := ⟨_, rfl⟩
    rw [hL] at HA HA' HF HT hm ⊢
    have hmx : (L : Int) ≤ 9223372036854775807 := by omega
    clear h h' hR hL hl hm hm'
    go_enter Try.func12, Try.ntmps12
    go_wp2
    go_loopw [17] (fun i wr => ∃ k : Nat, i = .int .i64 k ∧ k ≤ L ∧ (∀ j, j < k → sameSt (ss.getD j default) (rs.getD j default) = true) ∧ Below w.heap.size w wr) (fun i _ => L - (intOf i).toNat)
    case atStart => exact ⟨0, rfl, Nat.zero_le _, fun j hj => by omega, Below.refl _ _⟩
    case round =>
      obtain ⟨k, rfl, hk, hj, hB⟩ := hrel
      have HB := Lib.hid hB
      have HJ := Lib.hid hj
      clear hB hj
      by_cases hlt : k < L
      · obtain ⟨g, cp, ta, tc, e, -, -, hg, -, c0, c1, c2, c3, hr⟩ := HA.out k hlt
        obtain ⟨g', cp', ta', tc', e', -, -, hg', -, d0, d1, d2, d3, hr'⟩ := HA'.out k hlt
        simp only [Value.slice.injEq] at e e'
        obtain ⟨rfl, -, rfl⟩ := e
        obtain ⟨rfl, -, rfl⟩ := e'
        have hr := hr.reads
        have hr' := hr'.reads
        obtain ⟨S, hS⟩ : ∃ S, ss.getD k default = S := ⟨_, rfl⟩
        obtain ⟨U, hU⟩ : ∃ S, rs.getD k default = S := ⟨_, rfl⟩
        rw [hS] at c0 c1 c2 c3 hr
        rw [hU] at d0 d1 d2 d3 hr'
        have hgw : g < wr.heap.size := Nat.lt_of_lt_of_le hg HB.out.size
        have hgw' : g' < wr.heap.size := Nat.lt_of_lt_of_le hg' HB.out.size
        have n1 : ¬ g = wr.heap.size := by omega
        have n1' : ¬ g' = wr.heap.size := by omega
        rw [← HB.out.cell hg] at c0 c1 c2 c3
        rw [← HB.out.cell hg'] at d0 d1 d2 d3
        have C := Lib.hid (fun W (hb : Below wr.heap.size wr W) => isSame_any S U ta ta' tc tc' W (fun w1 hb1 => hr.keep (below_step' HB.out (below_step' hb hb1 hb.size) HB.out.size)) (fun w1 hb1 => hr'.keep (below_step' HB.out (below_step' hb hb1 hb.size) HB.out.size)))
        obtain ⟨v, hv⟩ : ∃ v, sameSt S U = v := ⟨_, rfl⟩
        rw [hv] at C
        have HV : Hid (sameSt (ss.getD k default) (rs.getD k default) = v) := by show sameSt (ss.getD k default) (rs.getD k default) = v; rw [hS, hU, hv]
        obtain ⟨T, hT⟩ : ∃ T, S.taps.length = T := ⟨_, rfl⟩
        obtain ⟨T', hT'⟩ : ∃ T, U.taps.length = T := ⟨_, rfl⟩
        rw [hT, hT'] at C
        rw [hT] at c3
        rw [hT'] at d3
        have HB3 : Hid (Below wr.heap.size wr ((wr.alloc (.cells #[.int .i64 S.kind, .int .i64 S.n, .int .i64 S.k, .slice ta T tc] 37)).alloc (.cells #[.int .i64 U.kind, .int .i64 U.n, .int .i64 U.k, .slice ta' T' tc'] 37))) := ((Below.refl _ _).alloc (Nat.le_refl _) _).alloc (by simp) _
        clear hr hr' hS hU hv hT hT'
        go_wp2_with fail
        with_reducible refine (C.out _ HB3.out).mono ?_
        rintro e w2 ⟨rfl, hb2⟩
        have HB2 : Hid (Below w.heap.size w w2) := below_step' (below_step' HB.out HB3.out HB.out.size) hb2 (by have := HB.out.size; have := HB3.out.size; omega)
        clear hb2
        cases v
        · have e : R = false := HF.out k hlt HV.out
          subst e
          go_wp2
          go_ret
          exact ⟨rfl, HB2.out⟩
        · have HK : Hid (∀ j, j < k + 1 → sameSt (ss.getD j default) (rs.getD j default) = true) := fun j hj => by
            by_cases e : j = k
            · rw [e]; exact HV.out
            · exact HJ.out j (by omega)
          go_wp2
          go_roundw
          case rel => exact ⟨k + 1, by go_num, by omega, HK.out, HB2.out⟩
          case measure => simp [intOf]; omega
      · have e : k = L := by omega
        subst e
        have e : R = true := HT.out HJ.out
        subst e
        go_wp2
        go_ret
        exact ⟨rfl, HB.out⟩
  · rw [samePl_ne hl]
    obtain ⟨p, hp⟩ : ∃ p, ss.length = p := ⟨_, rfl⟩
    obtain ⟨q, hq⟩ : ∃ q, rs.length = q := ⟨_, rfl⟩
    rw [hp] at hl hm ⊢
    rw [hq] at hl hm' ⊢
    have hi : ¬ (p : Int) = (q : Int) := by omega
    clear h h' HA HA' hp hq
    go_enter Try.func12, Try.ntmps12
    go_wp2
    go_ret
    exact ⟨rfl, Below.refl _ _⟩

theorem samePlan_impl {w : World} {B B' : Nat} {V V' : Value} {ss rs : List St} {tv tv' : Nat → Value} (h : StepsO w B V ss.length ss.length ss tv) (h' : StepsO w B' V' rs.length rs.length rs tv') :
    Calls Try.prog 7 #[.agg #[V], .agg #[V']] w fun e w' => e = .returned (.bool (samePl ss rs)) ∧ Below w.heap.size w w' := by
  obtain ⟨a, cap, rfl⟩ := h.form
  obtain ⟨a', cap', rfl⟩ := h'.form
  have HB0 : Hid (Below w.heap.size w ((w.alloc (.cells #[.slice a ss.length cap] 29)).alloc (.cells #[.slice a' rs.length cap'] 29))) := ((Below.refl _ _).alloc (Nat.le_refl _) _).alloc (by simp) _
  have C := Lib.hid (equalFunc_any (h.below HB0.out (Nat.le_refl _)) (h'.below HB0.out (Nat.le_refl _)))
  obtain ⟨R, hR⟩ : ∃ R, samePl ss rs = R := ⟨_, rfl⟩
  rw [hR] at C ⊢
  clear h h' hR
  go_enter Try.func7, Try.ntmps7
  go_wp2_with fail
  with_reducible refine C.out.mono ?_
  rintro e w1 ⟨rfl, hb⟩
  have HB1 := Lib.hid (below_step' HB0.out hb HB0.out.size)
  clear hb
  go_wp2
  go_ret
  exact ⟨rfl, HB1.out⟩

end Go.Proofs.Ytfdmohnmilecnaa
