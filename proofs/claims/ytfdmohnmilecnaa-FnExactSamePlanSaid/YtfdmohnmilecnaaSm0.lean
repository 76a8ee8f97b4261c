import Derived.Test.YtfdmohnmilecnaaStpO
import Derived.StillTailTactics
/-
  Equal steps: what a seat without the table of forms wants of ImpB, ImpD, EqS, Vpl and LawP (written by a program out of them).
-/
set_option linter.unusedVariables false
set_option linter.unusedSimpArgs false
namespace Go.Proofs.Ytfdmohnmilecnaa
open Go.RowKit

/-- How a slice of integers is read. -/
theorem ints_find {w : World} {v : Value} {zs : List Int} (h : Reads w v (ints zs)) :
    ∃ a cap, v = .slice a zs.length cap ∧ zs.length ≤ 9223372036854775807 ∧ ∀ j, j < zs.length → ∃ g, a = some ⟨g, 0, none⟩ ∧ w.cell? ⟨g, j, none⟩ = some (.int .i64 (zs.getD j 0)) := by
  generalize hcs : ints zs = cs at h
  cases h with
  | none a cap =>
    have : zs = [] := by simpa [ints] using hcs
    subst this
    exact ⟨a, cap, rfl, by simp, fun j hj => by simp at hj⟩
  | row g cap L cs hL h0 hc hm hcell =>
    have hlen : zs.length = L := by rw [← hL, ← hcs, ints_length]
    refine ⟨_, cap, by rw [hlen], by unfold maxLen at hm; omega, fun j hj => ⟨g, rfl, ?_⟩⟩
    rw [hcell j (by omega), ← hcs, ints_getD hj]

theorem getD_eq {xs ys : List Int} (hl : xs.length = ys.length) (h : ∀ j, j < xs.length → xs.getD j 0 = ys.getD j 0) : xs = ys := by
  apply List.ext_getElem hl
  intro i h1 h2
  have := h i h1
  rw [List.getD_eq_getElem?_getD, List.getD_eq_getElem?_getD, List.getElem?_eq_getElem h1, List.getElem?_eq_getElem h2] at this
  exact this

set_option maxRecDepth 100000 in
set_option maxHeartbeats 4000000 in
theorem equalI_any {v v' : Value} {xs ys : List Int} {w : World} (h : Reads w v (ints xs)) (h' : Reads w v' (ints ys)) :
    Calls Try.prog 18 #[v, v'] w fun e w' => e = .returned (.bool (decide (xs = ys))) ∧ ∃ n, w' = w.drewN n := by
  obtain ⟨a, cap, rfl, hmax, hrd⟩ := ints_find h
  obtain ⟨a', cap', rfl, hmax', hrd'⟩ := ints_find h'
  by_cases hl : xs.length = ys.length
  · have HRD := Lib.hid hrd
    have HRD' := Lib.hid hrd'
    have HA : Hid (∀ j, j < xs.length → xs.getD j 0 ≠ ys.getD j 0 → decide (xs = ys) = false) := fun j hj hne => decide_eq_false (fun e => hne (by rw [e]))
    have HZ : Hid ((∀ j, j < xs.length → xs.getD j 0 = ys.getD j 0) → decide (xs = ys) = true) := fun hall => decide_eq_true (getD_eq hl hall)
    obtain ⟨b, hb⟩ : ∃ b, decide (xs = ys) = b := ⟨_, rfl⟩
    rw [hb] at HA HZ ⊢
    rw [← hl] at HRD' ⊢
    obtain ⟨c, hc⟩ : ∃ c, xs.length = c := ⟨_, rfl⟩
    rw [hc] at HA HZ HRD HRD' hmax ⊢
    have hmx : (c : Int) ≤ 9223372036854775807 := by omega
    clear h h' hrd hrd' hb hc hmax hmax' hl
    go_enter Try.func18, Try.ntmps18
    go_wp2
    go_loopw [13] (fun i wr => ∃ k m : Nat, i = .int .i64 k ∧ k ≤ c ∧ (∀ j, j < k → xs.getD j 0 = ys.getD j 0) ∧ wr = w.drewN m) (fun i _ => c - (intOf i).toNat)
    case atStart => exact ⟨0, 0, rfl, Nat.zero_le _, fun j hj => by omega, rfl⟩
    case round =>
      obtain ⟨k, m, rfl, hk, hj, hw⟩ := hrel
      have HW := Lib.hid hw
      have HJ := Lib.hid hj
      clear hj hw
      by_cases hkc : k < c
      · obtain ⟨g, rfl, hcb⟩ := HRD.out k hkc
        obtain ⟨g', rfl, hcb'⟩ := HRD'.out k hkc
        obtain ⟨z, hz⟩ : ∃ z, xs.getD k 0 = z := ⟨_, rfl⟩
        obtain ⟨y, hy⟩ : ∃ y, ys.getD k 0 = y := ⟨_, rfl⟩
        rw [hz] at hcb
        rw [hy] at hcb'
        have c1 : wr.cell? ⟨g, k, none⟩ = some (.int .i64 z) := by rw [HW.out]; exact hcb
        have c2 : wr.cell? ⟨g', k, none⟩ = some (.int .i64 y) := by rw [HW.out]; exact hcb'
        have hk3 : (k : Int) < (c : Int) := by omega
        by_cases hzy : z = y
        · have HK : Hid (∀ j, j < k + 1 → xs.getD j 0 = ys.getD j 0) := fun j hj => by
            by_cases e : j = k
            · rw [e, hz, hy, hzy]
            · exact HJ.out j (by omega)
          subst hzy
          clear hz hy hcb hcb'
          go_wp2
          go_quiet (fail)
          go_wp2
          go_roundw
          case rel => exact ⟨k + 1, m + nq, by go_num, by omega, HK.out, by rw [HW.out, World.drewN_drewN]⟩
          case measure => simp [intOf]; omega
        · have e : b = false := HA.out k hkc (by rw [hz, hy]; exact hzy)
          subst e
          clear hz hy hcb hcb'
          go_wp2
          go_quiet (fail)
          go_wp2
          go_ret
          exact ⟨rfl, m + nq, by rw [HW.out, World.drewN_drewN]⟩
      · have e : k = c := by omega
        subst e
        have e : b = true := HZ.out HJ.out
        subst e
        go_wp2
        go_ret
        exact ⟨rfl, m, HW.out⟩
  · have e : decide (xs = ys) = false := decide_eq_false (fun e => hl (by rw [e]))
    rw [e]
    obtain ⟨p, hp⟩ : ∃ p, xs.length = p := ⟨_, rfl⟩
    obtain ⟨q, hq⟩ : ∃ q, ys.length = q := ⟨_, rfl⟩
    rw [hp] at hl hmax ⊢
    rw [hq] at hl hmax' ⊢
    have hi : ¬ (p : Int) = (q : Int) := by omega
    clear h h' hrd hrd' hp hq e
    go_enter Try.func18, Try.ntmps18
    go_wp2
    go_ret
    exact ⟨rfl, 0, rfl⟩

/-- Whether two steps are the same. -/
def sameSt (s r : St) : Bool := decide (s.kind = r.kind) && decide (s.n = r.n) && decide (s.k = r.k) && decide (s.taps = r.taps)

set_option maxRecDepth 100000 in
set_option maxHeartbeats 4000000 in
theorem isSame_any (s r : St) (a a' : Option Addr) (c c' : Nat) (w : World) (h : ∀ w1, Below w.heap.size w w1 → Reads w1 (.slice a s.taps.length c) (ints s.taps)) (h' : ∀ w1, Below w.heap.size w w1 → Reads w1 (.slice a' r.taps.length c') (ints r.taps)) :
    Calls Try.prog 13 #[.agg #[.int .i64 s.kind, .int .i64 s.n, .int .i64 s.k, .slice a s.taps.length c], .agg #[.int .i64 r.kind, .int .i64 r.n, .int .i64 r.k, .slice a' r.taps.length c']] w fun e w' => e = .returned (.bool (sameSt s r)) ∧ Below w.heap.size w w' := by
  obtain ⟨kd, n, k, taps⟩ := s
  obtain ⟨kd', n', k', taps'⟩ := r
  simp only [sameSt] at h h' ⊢
  have HB : Hid (Below w.heap.size w ((w.alloc (.cells #[.int .i64 kd, .int .i64 n, .int .i64 k, .slice a taps.length c] 37)).alloc (.cells #[.int .i64 kd', .int .i64 n', .int .i64 k', .slice a' taps'.length c'] 37))) := ((Below.refl _ _).alloc (Nat.le_refl _) _).alloc (by simp) _
  have E := Lib.hid (equalI_any (h _ HB.out) (h' _ HB.out))
  obtain ⟨b, hb⟩ : ∃ b, decide (taps = taps') = b := ⟨_, rfl⟩
  rw [hb] at E ⊢
  obtain ⟨L, hL⟩ : ∃ L, taps.length = L := ⟨_, rfl⟩
  obtain ⟨L', hL'⟩ : ∃ L, taps'.length = L := ⟨_, rfl⟩
  rw [hL, hL'] at E HB ⊢
  clear h h' hb hL hL'
  by_cases h1 : kd = kd'
  · subst h1
    by_cases h2 : n = n'
    · subst h2
      by_cases h3 : k = k'
      · subst h3
        go_enter Try.func13, Try.ntmps13
        go_wp2_with fail
        refine E.out.mono ?_
        rintro e w1 ⟨rfl, m, rfl⟩
        go_wp2
        go_ret
        exact ⟨by simp, below_draws HB.out _⟩
      · rw [decide_eq_false h3]
        go_enter Try.func13, Try.ntmps13
        go_wp2
        go_ret
        exact ⟨by simp, HB.out⟩
    · rw [decide_eq_false h2]
      go_enter Try.func13, Try.ntmps13
      go_wp2
      go_ret
      exact ⟨by simp, HB.out⟩
  · rw [decide_eq_false h1]
    go_enter Try.func13, Try.ntmps13
    go_wp2
    go_ret
    exact ⟨by simp, HB.out⟩

theorem Reads.keep {w w' : World} {v : Value} {cs : List Value} (h : Reads w v cs) (hb : Below w.heap.size w w') : Reads w' v cs := by
  cases h with
  | none a cap => exact .none a cap
  | row g cap L cs hL h0 hc hm hh =>
    refine .row g cap L cs hL h0 hc hm fun j hj => ?_
    rw [hb.cell (World.block_lt_of_cell? _ _ (hh j hj))]
    exact hh j hj

/-- Where a step lies, as a pointer to it reads. -/
structure StepAt (w : World) (g o : Nat) (kd n k : Int) (a : Option Addr) (L c : Nat) : Prop where
  c0 : w.cell? ⟨g, o, none⟩ = some (.int .i64 kd)
  c1 : w.cell? ⟨g, o + 1, none⟩ = some (.int .i64 n)
  c2 : w.cell? ⟨g, o + 2, none⟩ = some (.int .i64 k)
  c3 : w.cell? ⟨g, o + 3, none⟩ = some (.slice a L c)

theorem StepAt.below {w w' : World} {g o : Nat} {kd n k : Int} {a : Option Addr} {L c : Nat} (h : StepAt w g o kd n k a L c) (hb : Below w.heap.size w w') : StepAt w' g o kd n k a L c := by
  have hg : g < w.heap.size := World.block_lt_of_cell? _ _ h.c0
  exact ⟨by rw [hb.cell (by exact hg)]; exact h.c0, by rw [hb.cell (by exact hg)]; exact h.c1, by rw [hb.cell (by exact hg)]; exact h.c2, by rw [hb.cell (by exact hg)]; exact h.c3⟩

set_option maxRecDepth 100000 in
set_option maxHeartbeats 4000000 in
theorem eqStep_any (s : St) (a a' : Option Addr) (c c' : Nat) (w : World) (h : Reads w (.slice a s.taps.length c) (ints s.taps)) (h' : Reads w (.slice a' s.taps.length c') (ints s.taps)) :
    Calls Try.prog 19 #[.agg #[.int .i64 s.kind, .int .i64 s.n, .int .i64 s.k, .slice a s.taps.length c], .agg #[.int .i64 s.kind, .int .i64 s.n, .int .i64 s.k, .slice a' s.taps.length c']] w fun e w' => e = .returned (.bool true) ∧ Below w.heap.size w w' := by
  obtain ⟨kd, n, k, taps⟩ := s
  simp only at h h' ⊢
  have HB : Hid (Below w.heap.size w ((w.alloc (.cells #[.int .i64 kd, .int .i64 n, .int .i64 k, .slice a taps.length c] 37)).alloc (.cells #[.int .i64 kd, .int .i64 n, .int .i64 k, .slice a' taps.length c'] 37))) := ((Below.refl _ _).alloc (Nat.le_refl _) _).alloc (by simp) _
  have E := Lib.hid (eqInt64_any (h.keep HB.out) (h'.keep HB.out))
  obtain ⟨L, hL⟩ : ∃ L, taps.length = L := ⟨_, rfl⟩
  rw [hL] at E HB ⊢
  clear h h' hL
  go_enter Try.func19, Try.ntmps19
  go_wp2_with fail
  refine E.out.mono ?_
  rintro e w1 ⟨rfl, m, rfl⟩
  go_wp2
  go_ret
  exact ⟨rfl, below_draws HB.out _⟩

set_option maxRecDepth 100000 in
set_option maxHeartbeats 4000000 in
theorem eqStepS_any {w : World} {B B' : Nat} {V V' : Value} {ss : List St} {tv tv' : Nat → Value} (h : StepsO w B V ss.length ss.length ss tv) (h' : StepsO w B' V' ss.length ss.length ss tv') :
    Calls Try.prog 14 #[V, V'] w fun e w' => e = .returned (.bool true) ∧ Below w.heap.size w w' := by
  have HA := Lib.hid (fun j (hj : j < ss.length) => h.at hj (Nat.le_refl _))
  have HA' := Lib.hid (fun j (hj : j < ss.length) => h'.at hj (Nat.le_refl _))
  obtain ⟨a, cap, rfl⟩ := h.form
  obtain ⟨a', cap', rfl⟩ := h'.form
  have hmax : (ss.length : Int) ≤ 9223372036854775807 := by
    by_cases h0 : ss.length = 0
    · omega
    · obtain ⟨g, cp, aa, cc, e, hc, hm, _⟩ := HA.out 0 (by omega)
      unfold maxLen at hm
      omega
  obtain ⟨L, hL⟩ : ∃ L, ss.length = L := ⟨_, rfl⟩
  rw [hL] at HA HA' hmax ⊢
  clear h h' hL
  go_enter Try.func14, Try.ntmps14
  go_wp2
  go_loopw [5] (fun i wr => ∃ k : Nat, i = .int .i64 k ∧ k ≤ L ∧ Below w.heap.size w wr) (fun i _ => L - (intOf i).toNat)
  case atStart => exact ⟨0, rfl, Nat.zero_le _, Below.refl _ _⟩
  case round =>
    obtain ⟨k, rfl, hk, hB⟩ := hrel
    have HB := Lib.hid hB
    clear hB
    by_cases hlt : k < L
    · obtain ⟨g, cp, ta, tc, e, -, -, hg, -, c0, c1, c2, c3, hr⟩ := HA.out k hlt
      obtain ⟨g', cp', ta', tc', e', -, -, hg', -, d0, d1, d2, d3, hr'⟩ := HA'.out k hlt
      simp only [Value.slice.injEq] at e e'
      obtain ⟨rfl, -, rfl⟩ := e
      obtain ⟨rfl, -, rfl⟩ := e'
      have hr := hr.reads
      have hr' := hr'.reads
      obtain ⟨S, hS⟩ : ∃ S, ss.getD k default = S := ⟨_, rfl⟩
      rw [hS] at c0 c1 c2 c3 d0 d1 d2 d3 hr hr'
      rw [← HB.out.cell hg] at c0 c1 c2 c3
      rw [← HB.out.cell hg'] at d0 d1 d2 d3
      have E := Lib.hid (eqStep_any S ta ta' tc tc' wr.drew ((hr.keep HB.out).drewN 1) ((hr'.keep HB.out).drewN 1))
      have hk3 : (k : Int) < (L : Int) := by omega
      obtain ⟨T, hT⟩ : ∃ T, S.taps.length = T := ⟨_, rfl⟩
      rw [hT] at E c3 d3
      clear hr hr' hT hS
      go_wp2_with fail
      go_still_tail 8, (by kernel_rfl)
      change wpList _ _ _ _ _ wr.drew
      go_wp2_with fail
      refine E.out.mono ?_
      rintro e w2 ⟨rfl, hb2⟩
      have HB2 : Hid (Below w.heap.size w w2) := below_step' (below_draws HB.out 1) hb2 HB.out.size
      clear hb2
      go_wp2
      go_roundw
      case rel => exact ⟨k + 1, by go_num, by omega, HB2.out⟩
      case measure => simp [intOf]; omega
    · have e : k = L := by omega
      subst e
      go_wp2
      go_ret
      exact ⟨rfl, HB.out⟩

theorem eqPlan_any {w : World} {B B' : Nat} {V V' : Value} {ss : List St} {tv tv' : Nat → Value} (h : StepsO w B V ss.length ss.length ss tv) (h' : StepsO w B' V' ss.length ss.length ss tv') :
    Calls Try.prog 8 #[.agg #[V], .agg #[V']] w fun e w' => e = .returned (.bool true) ∧ Below w.heap.size w w' := by
  obtain ⟨a, cap, rfl⟩ := h.form
  obtain ⟨a', cap', rfl⟩ := h'.form
  have HB : Hid (Below w.heap.size w ((w.alloc (.cells #[.slice a ss.length cap] 29)).alloc (.cells #[.slice a' ss.length cap'] 29))) := ((Below.refl _ _).alloc (Nat.le_refl _) _).alloc (by simp) _
  have E := Lib.hid (eqStepS_any (h.below HB.out (Nat.le_refl _)) (h'.below HB.out (Nat.le_refl _)))
  clear h h'
  go_enter Try.func8, Try.ntmps8
  go_wp2_with fail
  refine E.out.mono ?_
  rintro e w1 ⟨rfl, hb⟩
  have HB2 := Lib.hid (below_step' HB.out hb HB.out.size)
  clear hb
  go_wp2
  go_ret
  exact ⟨rfl, HB2.out⟩

theorem StepsO.len {w : World} {B : Nat} {V : Value} {n : Nat} {ss : List St} {tv : Nat → Value} (h : StepsO w B V n n ss tv) : n ≤ 9223372036854775807 := by
  by_cases h0 : n = 0
  · omega
  · obtain ⟨g, cp, aa, cc, e, hc, hm, _⟩ := h.at (j := 0) (by omega) (Nat.le_refl _)
    unfold maxLen at hm
    omega

theorem StepsIn.form {w : World} {v : Value} {ss : List St} (h : StepsIn w v ss) : ∃ a cap, v = .slice a ss.length cap := by
  cases h with
  | nil a cap => exact ⟨a, cap, rfl⟩
  | row x cap L ss tv hL h0 hc hm hb hh => exact ⟨_, cap, by rw [hL]⟩

theorem szPlan_any {v : Value} {ss : List St} {w : World} (h : PlanIn w v ss) (left : Nat) (hf : left ≤ 1048576) :
    Calls Try.prog 4 #[v, .int .i64 left] w (SzTo left (ss.length ≤ 1048576 ∧ ∀ j, j < ss.length → (ss.getD j default).taps.length ≤ 1048576) w) := by
  obtain ⟨sv, rfl, h⟩ := h
  have HB : Hid (Below w.heap.size w (w.alloc (.cells #[sv] 24))) := (Below.refl _ _).alloc (Nat.le_refl _) _
  have T := Lib.hid (szStepS_any (h.below HB.out) left hf)
  clear h
  go_enter Try.func4, Try.ntmps4
  go_wp2_with fail
  refine T.out.mono ?_
  rintro e w1 ⟨r, rfl, hr, hb⟩
  have HB2 := Lib.hid (below_step' HB.out hb HB.out.size)
  clear hb
  rcases hr with rfl | ⟨r0, rl, ok⟩
  · go_wp2
    go_ret
    exact ⟨_, rfl, .inl rfl, HB2.out⟩
  · have g : ¬ r < 0 := by omega
    have HOK := Lib.hid ok
    clear ok
    go_wp2
    go_ret
    exact ⟨_, rfl, .inr ⟨r0, rl, HOK.out⟩, HB2.out⟩

end Go.Proofs.Ytfdmohnmilecnaa
