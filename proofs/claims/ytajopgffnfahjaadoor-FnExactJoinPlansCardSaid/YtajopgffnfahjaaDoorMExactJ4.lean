/-
  Several texts of this claim, one behind the other; each says what it holds.
-/
import Derived.Test.YtajopgffnfahjaaDoorMExactJ3
import Derived.Laws.CopyOwn
import Derived.Laws.Rows
/-
  ValidStep of the program: equal steps, a step with numbers.
-/
set_option linter.unusedVariables false
set_option linter.unusedSimpArgs false
namespace Go.Proofs.YtajopgffnfahjaaDoor
open Go.RowKit

theorem getD_eq {xs ys : List Int} (hl : xs.length = ys.length) (h : ∀ j, j < xs.length → xs.getD j 0 = ys.getD j 0) : xs = ys := by
  apply List.ext_getElem hl
  intro i h1 h2
  have := h i h1
  rw [List.getD_eq_getElem?_getD, List.getD_eq_getElem?_getD, List.getElem?_eq_getElem h1, List.getElem?_eq_getElem h2] at this
  exact this

set_option maxRecDepth 100000 in
set_option maxHeartbeats 4000000 in
theorem equalI_any {v v' : Value} {xs ys : List Int} {w : World} (h : Reads w v (ints xs)) (h' : Reads w v' (ints ys)) :
    Calls Tryd.prog 98 #[v, v'] w fun e w' => e = .returned (.bool (decide (xs = ys))) ∧ ∃ n, w' = w.drewN n := by
  obtain ⟨a, cap, rfl, hmax, hrd⟩ := ints_find h
  obtain ⟨a', cap', rfl, hmax', hrd'⟩ := ints_find h'
  by_cases hl : xs.length = ys.length
  · have HRD := Lib.hid hrd
    have HRD' := Lib.hid hrd'
    have HA : Hid (∀ j, j < xs.length → xs.getD j 0 ≠ ys.getD j 0 → decide (xs = ys) = false) := fun j hj hne => decide_eq_false (fun e => hne (by rw [e]))
    have HZ : Hid ((∀ j, j < xs.length → xs.getD j 0 = ys.getD j 0) → decide (xs = ys) = true) := fun hall => decide_eq_true (getD_eq hl hall)
    obtain ⟨b, hb⟩ : ∃ b, decide (xs = ys) = b := ⟨_, rfl⟩
    rw [hb] at HA HZ ⊢
    rw [← hl] at HRD' ⊢
    obtain ⟨c, hc⟩ : ∃ c, xs.length = c := ⟨_, rfl⟩
    rw [hc] at HA HZ HRD HRD' hmax ⊢
    have hmx : (c : Int) ≤ 9223372036854775807 := by omega
    clear h h' hrd hrd' hb hc hmax hmax' hl
    go_enter Tryd.func98, Tryd.ntmps98
    go_wp2
    go_loopw [13] (fun i wr => ∃ k m : Nat, i = .int .i64 k ∧ k ≤ c ∧ (∀ j, j < k → xs.getD j 0 = ys.getD j 0) ∧ wr = w.drewN m) (fun i _ => c - (intOf i).toNat)
    case atStart => exact ⟨0, 0, rfl, Nat.zero_le _, fun j hj => by omega, rfl⟩
    case round =>
      obtain ⟨k, m, rfl, hk, hj, hw⟩ := hrel
      have HW := Lib.hid hw
      have HJ := Lib.hid hj
      clear hj hw
      by_cases hkc : k < c
      · obtain ⟨g, rfl, hcb⟩ := HRD.out k hkc
        obtain ⟨g', rfl, hcb'⟩ := HRD'.out k hkc
        obtain ⟨z, hz⟩ : ∃ z, xs.getD k 0 = z := ⟨_, rfl⟩
        obtain ⟨y, hy⟩ : ∃ y, ys.getD k 0 = y := ⟨_, rfl⟩
        rw [hz] at hcb
        rw [hy] at hcb'
        have c1 : wr.cell? ⟨g, k, none⟩ = some (.int .i64 z) := by rw [HW.out]; exact hcb
        have c2 : wr.cell? ⟨g', k, none⟩ = some (.int .i64 y) := by rw [HW.out]; exact hcb'
        have hk3 : (k : Int) < (c : Int) := by omega
        by_cases hzy : z = y
        · have HK : Hid (∀ j, j < k + 1 → xs.getD j 0 = ys.getD j 0) := fun j hj => by
            by_cases e : j = k
            · rw [e, hz, hy, hzy]
            · exact HJ.out j (by omega)
          subst hzy
          clear hz hy hcb hcb'
          go_wp2
          go_quiet (fail)
          go_wp2
          go_roundw
          case rel => exact ⟨k + 1, m + nq, by go_num, by omega, HK.out, by rw [HW.out, World.drewN_drewN]⟩
          case measure => simp [intOf]; omega
        · have e : b = false := HA.out k hkc (by rw [hz, hy]; exact hzy)
          subst e
          clear hz hy hcb hcb'
          go_wp2
          go_quiet (fail)
          go_wp2
          go_ret
          exact ⟨rfl, m + nq, by rw [HW.out, World.drewN_drewN]⟩
      · have e : k = c := by omega
        subst e
        have e : b = true := HZ.out HJ.out
        subst e
        go_wp2
        go_ret
        exact ⟨rfl, m, HW.out⟩
  · have e : decide (xs = ys) = false := decide_eq_false (fun e => hl (by rw [e]))
    rw [e]
    obtain ⟨p, hp⟩ : ∃ p, xs.length = p := ⟨_, rfl⟩
    obtain ⟨q, hq⟩ : ∃ q, ys.length = q := ⟨_, rfl⟩
    rw [hp] at hl hmax ⊢
    rw [hq] at hl hmax' ⊢
    have hi : ¬ (p : Int) = (q : Int) := by omega
    clear h h' hrd hrd' hp hq e
    go_enter Tryd.func98, Tryd.ntmps98
    go_wp2
    go_ret
    exact ⟨rfl, 0, rfl⟩

/-- Whether two steps are the same. -/
def sameSt (s r : St) : Bool := decide (s.kind = r.kind) && decide (s.n = r.n) && decide (s.k = r.k) && decide (s.taps = r.taps)

set_option maxRecDepth 100000 in
set_option maxHeartbeats 4000000 in
theorem isSame_any (s r : St) (a a' : Option Addr) (c c' : Nat) (w : World) (h : ∀ w1, Below w.heap.size w w1 → Reads w1 (.slice a s.taps.length c) (ints s.taps)) (h' : ∀ w1, Below w.heap.size w w1 → Reads w1 (.slice a' r.taps.length c') (ints r.taps)) :
    Calls Tryd.prog 63 #[.agg #[.int .i64 s.kind, .int .i64 s.n, .int .i64 s.k, .slice a s.taps.length c], .agg #[.int .i64 r.kind, .int .i64 r.n, .int .i64 r.k, .slice a' r.taps.length c']] w fun e w' => e = .returned (.bool (sameSt s r)) ∧ Below w.heap.size w w' := by
  obtain ⟨kd, n, k, taps⟩ := s
  obtain ⟨kd', n', k', taps'⟩ := r
  simp only [sameSt] at h h' ⊢
  have HB : Hid (Below w.heap.size w ((w.alloc (.cells #[.int .i64 kd, .int .i64 n, .int .i64 k, .slice a taps.length c] 39)).alloc (.cells #[.int .i64 kd', .int .i64 n', .int .i64 k', .slice a' taps'.length c'] 39))) := ((Below.refl _ _).alloc (Nat.le_refl _) _).alloc (by simp) _
  have E := Lib.hid (equalI_any (h _ HB.out) (h' _ HB.out))
  obtain ⟨b, hb⟩ : ∃ b, decide (taps = taps') = b := ⟨_, rfl⟩
  rw [hb] at E ⊢
  obtain ⟨L, hL⟩ : ∃ L, taps.length = L := ⟨_, rfl⟩
  obtain ⟨L', hL'⟩ : ∃ L, taps'.length = L := ⟨_, rfl⟩
  rw [hL, hL'] at E HB ⊢
  clear h h' hb hL hL'
  by_cases h1 : kd = kd'
  · subst h1
    by_cases h2 : n = n'
    · subst h2
      by_cases h3 : k = k'
      · subst h3
        go_enter Tryd.func63, Tryd.ntmps63
        go_wp2_with fail
        refine E.out.mono ?_
        rintro e w1 ⟨rfl, m, rfl⟩
        go_wp2
        go_ret
        exact ⟨by simp, below_draws HB.out _⟩
      · rw [decide_eq_false h3]
        go_enter Tryd.func63, Tryd.ntmps63
        go_wp2
        go_ret
        exact ⟨by simp, HB.out⟩
    · rw [decide_eq_false h2]
      go_enter Tryd.func63, Tryd.ntmps63
      go_wp2
      go_ret
      exact ⟨by simp, HB.out⟩
  · rw [decide_eq_false h1]
    go_enter Tryd.func63, Tryd.ntmps63
    go_wp2
    go_ret
    exact ⟨by simp, HB.out⟩

end Go.Proofs.YtajopgffnfahjaaDoor
/-
  ValidStep of the program: a step with numbers.
-/
set_option linter.unusedVariables false
set_option linter.unusedSimpArgs false
namespace Go.Proofs.YtajopgffnfahjaaDoor
open Go.RowKit

theorem infoInt1 : (Tryd.prog.info? 2).map (·.size) = some 1 := by kernel_rfl

set_option maxRecDepth 100000 in
set_option maxHeartbeats 4000000 in
theorem stepWith_filter (v : Value) (a : Option Addr) (L c : Nat) (hv : v = .slice a L c) (w : World) :
    Calls Tryd.prog 50 #[.int .i64 3, v] w fun e w' => e = .returned (.agg #[.int .i64 3, .int .i64 0, .int .i64 0, v]) ∧ Below w.heap.size w w' := by
  subst hv
  go_enter Tryd.func50, Tryd.ntmps50
  go_wp2
  (try simp only [Exit.inBlock, Exit.then])
  refine bodyPost_ret (res_cell1' rfl _ _ _ rfl (run_loadVar_mid _ _ _ _ [.int .i64 3, .int .i64 0, .int .i64 0, .slice a L c] _ ?_ Tryd.underlying39 rfl infoStep)) rfl ?_
  · intro j v hv
    rcases j with _ | _ | _ | _ | j <;> simp at hv <;> subst hv <;> go_simp
  · refine ⟨rfl, ?_⟩
    exact (Below.refl _ _).alloc (Nat.le_refl _) _

theorem cell_heap {w : World} {g j : Nat} {cs : List Value} {t : TypeId} (h : w.heap[g]? = some (.cells cs.toArray t (0, 0))) : w.cell? ⟨g, j, none⟩ = cs[j]? := by
  rw [cell_of_row w g j cs.toArray t (0, 0) h]
  simp

set_option maxRecDepth 100000 in
set_option maxHeartbeats 4000000 in
theorem stepWith_other (kd : Int) (hk : kd ≠ 3) (zs : List Int) (a : Option Addr) (cap : Nat) (w : World) (h : Reads w (.slice a zs.length cap) (ints zs)) :
    Calls Tryd.prog 50 #[.int .i64 kd, .slice a zs.length cap] w fun e w' => e = .returned (.agg #[.int .i64 kd, .int .i64 (zs.getD 0 0), .int .i64 (zs.getD 1 0), .slice none 0 0]) ∧ Below w.heap.size w w' := by
  obtain ⟨a', cap', e, hmax, hrd⟩ := ints_find h
  simp only [Value.slice.injEq] at e
  obtain ⟨rfl, -, rfl⟩ := e
  have hcl : (ints (zs.take 2)).length = Nat.min zs.length 2 := by rw [ints_length, List.length_take]; exact Nat.min_comm _ _
  have hsp : splice [Value.int .i64 0, Value.int .i64 0] 0 (ints (zs.take 2)) = [.int .i64 (zs.getD 0 0), .int .i64 (zs.getD 1 0)] := by
    rcases zs with _ | ⟨x, _ | ⟨y, zs⟩⟩ <;> rfl
  have hsrc : Hid (0 < (ints (zs.take 2)).length → ∃ ad, a = some ad ∧ ∀ (W : World), Below w.heap.size w W → ∀ (j : Nat) (v : Value), (ints (zs.take 2))[j]? = some v → W.cell? (ad.add j) = some v) := fun h0 => by
    rw [ints_length, List.length_take] at h0
    obtain ⟨g, rfl, -⟩ := hrd 0 (by omega)
    refine ⟨_, rfl, fun W hb j v hj => ?_⟩
    have hj2 : j < (ints (zs.take 2)).length := (List.getElem?_eq_some_iff.1 hj).1
    rw [ints_length, List.length_take] at hj2
    obtain ⟨g', e', hc⟩ := hrd j (by omega)
    simp only [Option.some.injEq, Addr.mk.injEq, and_true] at e'
    subst e'
    rw [addr_lit, hb.cell (World.block_lt_of_cell? _ _ hc), hc]
    rw [← hj]
    simp only [ints, List.getElem?_map, List.getElem?_take]
    rw [if_pos (by omega), List.getElem?_eq_getElem (by omega), List.getD_eq_getElem?_getD, List.getElem?_eq_getElem (by omega)]
    rfl
  have hone : ∀ v ∈ ints (zs.take 2), v.oneCell' = true := by
    intro u hu
    obtain ⟨p, -, rfl⟩ := List.mem_map.1 hu
    rfl
  obtain ⟨cs, hcs⟩ : ∃ cs, ints (zs.take 2) = cs := ⟨_, rfl⟩
  rw [hcs] at hcl hsp hsrc hone
  obtain ⟨x, hx⟩ : ∃ x, zs.getD 0 0 = x := ⟨_, rfl⟩
  obtain ⟨y, hy⟩ : ∃ y, zs.getD 1 0 = y := ⟨_, rfl⟩
  rw [hx, hy] at hsp ⊢
  obtain ⟨L, hL⟩ : ∃ L, zs.length = L := ⟨_, rfl⟩
  rw [hL] at hcl hmax ⊢
  have HCL := Lib.hid hcl
  have HSP := Lib.hid hsp
  have HON := Lib.hid hone
  have hk3 : (kd == 3) = false := by simpa using hk
  clear h hrd hcl hsp hone hcs hx hy hL
  go_enter Tryd.func50, Tryd.ntmps50
  go_wp2_with (refine wpList_copy_splice rfl (.tmp 11) (.tmp 12) 37 37 rfl 2 Tryd.underlying37 infoInt1 _ _ _ _ _ _ rfl rfl (w.heap.size + 1) 0 [.int .i64 0, .int .i64 0] 127 (heap_alloc2_new w _ _) cs HCL.out (fun h => ⟨rfl, by obtain ⟨ad, e, hh⟩ := hsrc.out h; exact ⟨ad, e, hh _ (((Below.refl _ _).alloc (Nat.le_refl _) _).alloc (by simp) _)⟩⟩) (by rw [HCL.out]; exact Nat.le_trans (Nat.le_of_eq (Nat.zero_add _)) (Nat.min_le_right _ _)) HON.out (w.heap.size + 1) (w.alloc (.cells #[.int .i64 0, .int .i64 0, .int .i64 0, .slice none 0 0] 39)) ((Below.refl _ _).alloc (by simp) _) (Nat.le_refl _) ?_)
  intro w1 hH hB
  rw [HSP.out] at hH
  have hW : w.heap.size < (w.alloc (.cells #[.int .i64 0, .int .i64 0, .int .i64 0, .slice none 0 0] 39)).heap.size := by simp
  have k0 : w1.cell? ⟨w.heap.size, 0, none⟩ = some (.int .i64 0) := by rw [hB.cell (Nat.lt_succ_self _)]; go_simp
  have k1 : w1.cell? ⟨w.heap.size, 1, none⟩ = some (.int .i64 0) := by rw [hB.cell (Nat.lt_succ_self _)]; go_simp
  have k2 : w1.cell? ⟨w.heap.size, 2, none⟩ = some (.int .i64 0) := by rw [hB.cell (Nat.lt_succ_self _)]; go_simp
  have k3 : w1.cell? ⟨w.heap.size, 3, none⟩ = some (.slice none 0 0) := by rw [hB.cell (Nat.lt_succ_self _)]; go_simp
  have f0 : w1.frozen? ⟨w.heap.size, 0, none⟩ = false := by rw [hB.frozen (Nat.lt_succ_self _)]; go_simp
  have f1 : w1.frozen? ⟨w.heap.size, 1, none⟩ = false := by rw [hB.frozen (Nat.lt_succ_self _)]; go_simp
  have f2 : w1.frozen? ⟨w.heap.size, 2, none⟩ = false := by rw [hB.frozen (Nat.lt_succ_self _)]; go_simp
  have f3 : w1.frozen? ⟨w.heap.size, 3, none⟩ = false := by rw [hB.frozen (Nat.lt_succ_self _)]; go_simp
  have d0 : w1.cell? ⟨w.heap.size + 1, 0, none⟩ = some (.int .i64 x) := by rw [cell_heap hH.out]; rfl
  have d1 : w1.cell? ⟨w.heap.size + 1, 1, none⟩ = some (.int .i64 y) := by rw [cell_heap hH.out]; rfl
  have HBW : Hid (Below w.heap.size w w1) := below_step' ((Below.refl _ _).alloc (Nat.le_refl _) _) (hB.mono (by simp)) (by simp)
  clear hH hB hW HCL HSP HON hsrc
  go_wp2
  (try simp only [Exit.inBlock, Exit.then])
  refine bodyPost_ret (res_cell1' rfl _ _ _ rfl (run_loadVar_mid _ _ _ _ [.int .i64 kd, .int .i64 x, .int .i64 y, .slice none 0 0] _ ?_ Tryd.underlying39 rfl infoStep)) rfl ?_
  · intro j v hv
    rcases j with _ | _ | _ | _ | j <;> simp at hv <;> subst hv <;> go_simp
  · refine ⟨rfl, ?_⟩
    refine (((HBW.out.setCell ?_ _).setCell ?_ _).setCell ?_ _).setCell ?_ _ <;> (simp only []; omega)

end Go.Proofs.YtajopgffnfahjaaDoor
/-
  ValidStep of the program.
-/
set_option linter.unusedVariables false
set_option linter.unusedSimpArgs false
namespace Go.Proofs.YtajopgffnfahjaaDoor
open Go.RowKit

/-- The step with these numbers. -/
def withSt (q : Nat) (zs : List Int) : St := if q = 3 then ⟨3, 0, 0, zs⟩ else ⟨q, zs.getD 0 0, zs.getD 1 0, []⟩
/-- What ValidStep of the program asks: the numbers are accepted, and the step has no more than them. -/
def askB (q : Nat) (n k : Int) (taps : List Int) : Bool :=
  acceptB (cntOf q) (loOf q) (hiOf q) (numsOf q n k taps) && sameSt ⟨q, n, k, taps⟩ (withSt q (numsOf q n k taps)) && (!decide (q = 4) || decide (k < n))

theorem cntOf_le8 (q : Nat) : cntOf q ≤ 8 := by
  by_cases hq : q < 14
  · rcases q with _ | _ | _ | _ | _ | _ | _ | _ | _ | _ | _ | _ | _ | _ | q
    all_goals first | decide | omega
  · unfold cntOf
    rw [List.getD_eq_getElem?_getD, List.getElem?_eq_none (by simp; omega)]
    decide

theorem Reads.keep {w w' : World} {v : Value} {cs : List Value} (h : Reads w v cs) (hb : Below w.heap.size w w') : Reads w' v cs := by
  cases h with
  | none a cap => exact .none a cap
  | row g cap L cs hL h0 hc hm hh =>
    refine .row g cap L cs hL h0 hc hm fun j hj => ?_
    rw [hb.cell (World.block_lt_of_cell? _ _ (hh j hj))]
    exact hh j hj

set_option maxRecDepth 100000 in
set_option maxHeartbeats 8000000 in
theorem validStep_q (q : Nat) (h1 : 1 ≤ q) (h13 : q ≤ 13) (n k : Int) (taps : List Int) (a : Option Addr) (c : Nat) (w : World) (ht : Tab w) (hs : Reads w (.slice a taps.length c) (ints taps)) :
    Calls Tryd.prog 31 #[.agg #[.int .i64 q, .int .i64 n, .int .i64 k, .slice a taps.length c]] w fun e w' => e = .returned (.bool (askB q n k taps)) ∧ Below w.heap.size w w' := by
  have hb0 : Below w.heap.size w (w.alloc (.cells #[.int .i64 q, .int .i64 n, .int .i64 k, .slice a taps.length c] 39)) := (Below.refl _ _).alloc (Nat.le_refl _) _
  have N := Lib.hid (numbersOf_any q (by omega) n k taps a c _ (ht.below hb0) (hs.keep hb0) (fun w' hb => hs.keep (below_step' hb0 hb (by simp))))
  have hq14 : (q : Int) < 14 := by omega
  have g1 : decide ((q : Int) < 1) = false := decide_eq_false (by omega)
  have g13 : decide (13 < (q : Int)) = false := decide_eq_false (by omega)
  obtain ⟨T, hT⟩ : ∃ T, taps.length = T := ⟨_, rfl⟩
  have HQ : Hid (q < 14) := by show q < 14; omega
  have HS := Lib.hid hs
  have HT := Lib.hid ht
  have HB0 := Lib.hid hb0
  obtain ⟨B, hB⟩ : ∃ B, askB q n k taps = B := ⟨_, rfl⟩
  rw [hB]
  have HBE := Lib.hid hB
  have hgl : 0 < w.heap.size := World.block_lt_of_cell? _ _ (ht.word 0 (by decide))
  clear hs ht hb0 hB hT
  go_enter Tryd.func31, Tryd.ntmps31
  go_wp2_with fail
  refine N.out.mono ?_
  rintro e w1 ⟨a1, c1, rfl, hr1, hb1⟩
  have hb01 := below_step' HB0.out hb1 HB0.out.size
  have hlt0 : w.heap.size < (w.alloc (.cells #[.int .i64 q, .int .i64 n, .int .i64 k, .slice a taps.length c] 39)).heap.size := by simp
  have hlt : w.heap.size < w1.heap.size := Nat.lt_of_lt_of_le hlt0 hb1.size
  have b0 : w1.cell? ⟨w.heap.size, 0, none⟩ = some (.int .i64 q) := by rw [hb1.cell hlt0]; go_simp
  have b1 : w1.cell? ⟨w.heap.size, 1, none⟩ = some (.int .i64 n) := by rw [hb1.cell hlt0]; go_simp
  have b2 : w1.cell? ⟨w.heap.size, 2, none⟩ = some (.int .i64 k) := by rw [hb1.cell hlt0]; go_simp
  have b3 : w1.cell? ⟨w.heap.size, 3, none⟩ = some (.slice a taps.length c) := by rw [hb1.cell hlt0]; go_simp
  have hT1 := HT.out.below hb01
  have hS1 := HS.out.keep hb01
  have AC := accepts_any (wordOf q) (cntOf q) (loOf q) (hiOf q) (cntOf_le8 q) (numsOf q n k taps) a1 c1 w1.drew (fun W hb => hr1.keep (below_step' (below_draws (Below.refl _ _) 1) hb (Nat.le_refl _)))
  have SW : ∃ (ra : Option Addr) (rc : Nat), (∀ W, Below w1.heap.size w1 W → Calls Tryd.prog 50 #[.int .i64 q, .slice a1 (numsOf q n k taps).length c1] W fun e w' => e = .returned (.agg #[.int .i64 (withSt q (numsOf q n k taps)).kind, .int .i64 (withSt q (numsOf q n k taps)).n, .int .i64 (withSt q (numsOf q n k taps)).k, .slice ra (withSt q (numsOf q n k taps)).taps.length rc]) ∧ Below W.heap.size W w') ∧
      Reads w1 (.slice ra (withSt q (numsOf q n k taps)).taps.length rc) (ints (withSt q (numsOf q n k taps)).taps) := by
    by_cases h3 : q = 3
    · subst h3
      exact ⟨a1, c1, fun W _ => stepWith_filter _ _ _ _ rfl W, hr1⟩
    · rw [show withSt q (numsOf q n k taps) = ⟨q, (numsOf q n k taps).getD 0 0, (numsOf q n k taps).getD 1 0, []⟩ from if_neg h3]
      exact ⟨none, 0, fun W hb => stepWith_other q (by omega) _ a1 c1 W (hr1.keep hb), .none _ _⟩
  obtain ⟨ra, rc, SW, hR⟩ := SW
  have IS := fun W (hb : Below w1.heap.size w1 W) => isSame_any ⟨q, n, k, taps⟩ (withSt q (numsOf q n k taps)) a ra c rc W (fun W' hb' => hS1.keep (below_step' hb hb' hb.size)) (fun W' hb' => hR.keep (below_step' hb hb' hb.size))
  have d0 := hT1.word q HQ.out
  have d1 := hT1.cnt q HQ.out
  have d2 := hT1.lo q HQ.out
  have d3 := hT1.hi q HQ.out
  have hgl1 : 0 < w1.heap.size := Nat.lt_of_lt_of_le hgl hb01.size
  have HC : Hid (∀ W, Below w1.heap.size w1 W → W.cell? ⟨w.heap.size, 0, none⟩ = some (.int .i64 q) ∧ W.cell? ⟨w.heap.size, 1, none⟩ = some (.int .i64 n) ∧ W.cell? ⟨w.heap.size, 2, none⟩ = some (.int .i64 k) ∧ W.cell? ⟨w.heap.size, 3, none⟩ = some (.slice a taps.length c) ∧
      W.cell? ⟨0, q * 4, none⟩ = some (.string (wordOf q)) ∧ W.cell? ⟨0, q * 4 + 1, none⟩ = some (.int .i64 (cntOf q)) ∧ W.cell? ⟨0, q * 4 + 2, none⟩ = some (.int .i64 (loOf q)) ∧ W.cell? ⟨0, q * 4 + 3, none⟩ = some (.int .i64 (hiOf q))) := fun W hb => by
    rw [hb.cell hlt, hb.cell hlt, hb.cell hlt, hb.cell hlt, hb.cell hgl1, hb.cell hgl1, hb.cell hgl1, hb.cell hgl1]
    exact ⟨b0, b1, b2, b3, d0, d1, d2, d3⟩
  obtain ⟨S, hSe⟩ : ∃ S, withSt q (numsOf q n k taps) = S := ⟨_, rfl⟩
  obtain ⟨X, hX⟩ : ∃ X, acceptB (cntOf q) (loOf q) (hiOf q) (numsOf q n k taps) = X := ⟨_, rfl⟩
  obtain ⟨Y, hY⟩ : ∃ Y, sameSt ⟨q, n, k, taps⟩ S = Y := ⟨_, rfl⟩
  have HBX : Hid ((X && Y && (!decide (q = 4) || decide (k < n))) = B) := by
    have := HBE.out
    unfold askB at this
    rwa [hSe, hX, hY] at this
  rw [hX] at AC
  rw [hSe] at SW IS
  simp only [hY] at IS
  obtain ⟨L, hL⟩ : ∃ L, (numsOf q n k taps).length = L := ⟨_, rfl⟩
  rw [hL] at AC SW ⊢
  obtain ⟨wd, hwd⟩ : ∃ x, wordOf q = x := ⟨_, rfl⟩
  obtain ⟨cn', hcn⟩ : ∃ x, cntOf q = x := ⟨_, rfl⟩
  obtain ⟨lo, hlo⟩ : ∃ x, loOf q = x := ⟨_, rfl⟩
  obtain ⟨hi, hhi⟩ : ∃ x, hiOf q = x := ⟨_, rfl⟩
  rw [hwd, hcn, hlo, hhi] at AC HC
  rw [hwd] at d0; rw [hcn] at d1; rw [hlo] at d2; rw [hhi] at d3
  have AC := Lib.hid AC
  have SW := Lib.hid SW
  have IS := Lib.hid IS
  have HB01 := Lib.hid hb01
  obtain ⟨T, hT⟩ : ∃ T, taps.length = T := ⟨_, rfl⟩
  rw [hT] at IS HC b3 ⊢
  clear hr1 hb1 hT1 hS1 hR hX hY hSe hL hwd hcn hlo hhi hb01 N hT HBE hlt0 h1 h13
  cases X
  · have e : B = false := by rw [← HBX.out]; simp
    subst e
    go_wp2_with fail
    first | (go_region_with (first
        | (go_at_call 66; refine AC.out.mono ?_; rintro e w2 ⟨rfl, hb2⟩; have HB2 : Hid (Below w1.heap.size w1 w2) := below_step' (below_draws (Below.refl _ _) 1) hb2 (Nat.le_refl _); clear hb2))) | fail
    all_goals
      go_wp2
      go_ret
      exact ⟨rfl, below_step' HB01.out HB2.out HB01.out.size⟩
  · go_wp2_with fail
    go_region_held3 (fun w' => w'.cell? ⟨w.heap.size, 0, none⟩ = some (.int .i64 q) ∧ w'.cell? ⟨w.heap.size, 1, none⟩ = some (.int .i64 n) ∧ w'.cell? ⟨w.heap.size, 2, none⟩ = some (.int .i64 k) ∧ w'.cell? ⟨w.heap.size, 3, none⟩ = some (.slice a T c) ∧
      w'.cell? ⟨0, q * 4, none⟩ = some (.string wd) ∧ w'.cell? ⟨0, q * 4 + 1, none⟩ = some (.int .i64 cn') ∧ w'.cell? ⟨0, q * 4 + 2, none⟩ = some (.int .i64 lo) ∧ w'.cell? ⟨0, q * 4 + 3, none⟩ = some (.int .i64 hi))
      (first
        | exact ⟨b0, b1, b2, b3, d0, d1, d2, d3⟩
        | exact HC.out _ HB2.out
        | exact HC.out _ HB3.out
        | exact HC.out _ HB4.out
        | go_keep)
      (first
        | (go_at_call 66; refine AC.out.mono ?_; rintro e w2 ⟨rfl, hb2⟩; have HB2 : Hid (Below w1.heap.size w1 w2) := below_step' (below_draws (Below.refl _ _) 1) hb2 (Nat.le_refl _); clear hb2)
        | (go_at_call 50; refine (SW.out _ HB2.out).mono ?_; rintro e w3 ⟨rfl, hb3⟩; have HB3 : Hid (Below w1.heap.size w1 w3) := below_step' HB2.out hb3 HB2.out.size; clear hb3)
        | (go_at_call 63; refine (IS.out _ HB3.out).mono ?_; rintro e w4 ⟨rfl, hb4⟩; have HB4 : Hid (Below w1.heap.size w1 w4) := below_step' HB3.out hb4 HB3.out.size; clear hb4))
    all_goals
      have HB5 := Lib.hid (below_step' HB01.out HB4.out HB01.out.size)
      have c0 := (HC.out _ HB4.out).1
      have c1 := (HC.out _ HB4.out).2.1
      have c2 := (HC.out _ HB4.out).2.2.1
      clear HC AC SW IS
      cases Y
      · have e : B = false := by rw [← HBX.out]; simp
        subst e
        go_wp2
        go_ret
        exact ⟨rfl, HB5.out⟩
      · by_cases h4 : q = 4
        · subst h4
          have e : B = decide (k < n) := by rw [← HBX.out]; simp
          subst e
          clear HBX
          go_wp2
          go_ret
          exact ⟨rfl, HB5.out⟩
        · have e : B = true := by rw [← HBX.out]; simp [h4]
          subst e
          have h4i : ((q : Int) == 4) = false := by simp; omega
          have h4j : ¬ (q : Int) = 4 := by omega
          clear HBX h4
          go_wp2
          go_ret
          exact ⟨rfl, HB5.out⟩

end Go.Proofs.YtajopgffnfahjaaDoor
/-
  ValidStep of the program asks what the model asks.
-/
set_option linter.unusedVariables false
set_option linter.unusedSimpArgs false
namespace Go.Proofs.YtajopgffnfahjaaDoor
open Go.RowKit

theorem sameSt_iff {s r : St} : sameSt s r = true ↔ s = r := by
  obtain ⟨a, b, c, d⟩ := s
  obtain ⟨a', b', c', d'⟩ := r
  simp [sameSt, and_assoc]

/-- What the program asks is what the model asks. -/
theorem ask_valid {q : Nat} (h1 : 1 ≤ q) (h13 : q ≤ 13) (n k : Int) (taps : List Int) : askB q n k taps = validSt ⟨q, n, k, taps⟩ := by
  have hc : q = 1 ∨ q = 2 ∨ q = 3 ∨ q = 4 ∨ q = 5 ∨ q = 6 ∨ q = 7 ∨ q = 8 ∨ q = 9 ∨ q = 10 ∨ q = 11 ∨ q = 12 ∨ q = 13 := by omega
  have hl : taps.isEmpty = decide (taps = []) := by cases taps <;> simp
  have hl2 : decide (taps = []) = decide (taps.length = 0) := by cases taps <;> simp
  clear h1 h13
  rcases hc with rfl | rfl | rfl | rfl | rfl | rfl | rfl | rfl | rfl | rfl | rfl | rfl | rfl
  all_goals
    simp only [askB, validSt, acceptB, cntOf, loOf, hiOf, numsOf, withSt, sameSt, inZ, partsB, hl]
    simp
    try rw [hl2]
    generalize taps.length = L
    first
      | (rw [Bool.eq_iff_iff]; simp; omega)
      | (generalize (taps.all fun z => decide (-256 ≤ z) && decide (z ≤ 256)) = A
         rw [Bool.eq_iff_iff]
         cases A
         · simp
         · simp; omega)

set_option maxRecDepth 100000 in
set_option maxHeartbeats 4000000 in
theorem validStep_none (kd n k : Int) (a : Option Addr) (L c : Nat) (w : World) (hk : inZ kd 1 13 = false) :
    Calls Tryd.prog 31 #[.agg #[.int .i64 kd, .int .i64 n, .int .i64 k, .slice a L c]] w fun e w' => e = .returned (.bool false) ∧ Below w.heap.size w w' := by
  have h' : ¬ (1 ≤ kd ∧ kd ≤ 13) := fun h => by rw [inZ_t h] at hk; cases hk
  clear hk
  by_cases h1 : kd < 1
  · have g1 : decide (kd < 1) = true := decide_eq_true h1
    clear h' h1
    go_enter Tryd.func31, Tryd.ntmps31
    go_wp2
    go_ret
    exact ⟨rfl, (Below.refl _ _).alloc (Nat.le_refl _) _⟩
  · have g1 : decide (kd < 1) = false := decide_eq_false h1
    have g2 : decide (13 < kd) = true := decide_eq_true (by omega)
    clear h' h1
    go_enter Tryd.func31, Tryd.ntmps31
    go_wp2
    go_ret
    exact ⟨rfl, (Below.refl _ _).alloc (Nat.le_refl _) _⟩

theorem validStep_impl (s : St) (a : Option Addr) (c : Nat) (w : World) (ht : Tab w) (hs : Reads w (.slice a s.taps.length c) (ints s.taps)) :
    Calls Tryd.prog 31 #[.agg #[.int .i64 s.kind, .int .i64 s.n, .int .i64 s.k, .slice a s.taps.length c]] w fun e w' => e = .returned (.bool (validSt s)) ∧ Below w.heap.size w w' := by
  obtain ⟨kd, n, k, taps⟩ := s
  simp only at hs ⊢
  by_cases hk : inZ kd 1 13 = false
  · have e : validSt ⟨kd, n, k, taps⟩ = false := by
      have : ¬ (1 ≤ kd ∧ kd ≤ 13) := fun h => by rw [inZ_t h] at hk; cases hk
      simp only [validSt]
      repeat (rw [if_neg (by omega)])
    rw [e]
    exact validStep_none kd n k a _ c w hk
  · have h := inZ_iff.1 (by simpa using hk : inZ kd 1 13 = true)
    obtain ⟨q, rfl⟩ : ∃ q : Nat, kd = q := ⟨kd.toNat, by omega⟩
    rw [← ask_valid (by omega) (by omega)]
    exact validStep_q q (by omega) (by omega) n k taps a c w ht hs

end Go.Proofs.YtajopgffnfahjaaDoor
/-
  eqStep, eqStepS, eqPlan.
-/
set_option linter.unusedVariables false
set_option linter.unusedSimpArgs false
namespace Go.Proofs.YtajopgffnfahjaaDoor
open Go.RowKit

set_option maxRecDepth 100000 in
set_option maxHeartbeats 4000000 in
theorem eqStep_any (s : St) (a a' : Option Addr) (c c' : Nat) (w : World) (h : Reads w (.slice a s.taps.length c) (ints s.taps)) (h' : Reads w (.slice a' s.taps.length c') (ints s.taps)) :
    Calls Tryd.prog 19 #[.agg #[.int .i64 s.kind, .int .i64 s.n, .int .i64 s.k, .slice a s.taps.length c], .agg #[.int .i64 s.kind, .int .i64 s.n, .int .i64 s.k, .slice a' s.taps.length c']] w fun e w' => e = .returned (.bool true) ∧ Below w.heap.size w w' := by
  obtain ⟨kd, n, k, taps⟩ := s
  simp only at h h' ⊢
  have HB : Hid (Below w.heap.size w ((w.alloc (.cells #[.int .i64 kd, .int .i64 n, .int .i64 k, .slice a taps.length c] 39)).alloc (.cells #[.int .i64 kd, .int .i64 n, .int .i64 k, .slice a' taps.length c'] 39))) := ((Below.refl _ _).alloc (Nat.le_refl _) _).alloc (by simp) _
  have E := Lib.hid (eqInt64_any (h.keep HB.out) (h'.keep HB.out))
  obtain ⟨L, hL⟩ : ∃ L, taps.length = L := ⟨_, rfl⟩
  rw [hL] at E HB ⊢
  clear h h' hL
  go_enter Tryd.func19, Tryd.ntmps19
  go_wp2_with fail
  refine E.out.mono ?_
  rintro e w1 ⟨rfl, m, rfl⟩
  go_wp2
  go_ret
  exact ⟨rfl, below_draws HB.out _⟩

set_option maxRecDepth 100000 in
set_option maxHeartbeats 4000000 in
theorem eqStepS_any {w : World} {B B' : Nat} {V V' : Value} {ss : List St} {tv tv' : Nat → Value} (h : StepsO w B V ss.length ss.length ss tv) (h' : StepsO w B' V' ss.length ss.length ss tv') :
    Calls Tryd.prog 39 #[V, V'] w fun e w' => e = .returned (.bool true) ∧ Below w.heap.size w w' := by
  have HA := Lib.hid (fun j (hj : j < ss.length) => h.at hj (Nat.le_refl _))
  have HA' := Lib.hid (fun j (hj : j < ss.length) => h'.at hj (Nat.le_refl _))
  obtain ⟨a, cap, rfl⟩ := h.form
  obtain ⟨a', cap', rfl⟩ := h'.form
  have hmax : (ss.length : Int) ≤ 9223372036854775807 := by
    by_cases h0 : ss.length = 0
    · omega
    · obtain ⟨g, cp, aa, cc, e, hc, hm, _⟩ := HA.out 0 (by omega)
      unfold maxLen at hm
      omega
  obtain ⟨L, hL⟩ : ∃ L, ss.length = L := ⟨_, rfl⟩
  rw [hL] at HA HA' hmax ⊢
  clear h h' hL
  go_enter Tryd.func39, Tryd.ntmps39
  go_wp2
  go_loopw [5] (fun i wr => ∃ k : Nat, i = .int .i64 k ∧ k ≤ L ∧ Below w.heap.size w wr) (fun i _ => L - (intOf i).toNat)
  case atStart => exact ⟨0, rfl, Nat.zero_le _, Below.refl _ _⟩
  case round =>
    obtain ⟨k, rfl, hk, hB⟩ := hrel
    have HB := Lib.hid hB
    clear hB
    by_cases hlt : k < L
    · obtain ⟨g, cp, ta, tc, e, -, -, hg, -, c0, c1, c2, c3, hr⟩ := HA.out k hlt
      obtain ⟨g', cp', ta', tc', e', -, -, hg', -, d0, d1, d2, d3, hr'⟩ := HA'.out k hlt
      simp only [Value.slice.injEq] at e e'
      obtain ⟨rfl, -, rfl⟩ := e
      obtain ⟨rfl, -, rfl⟩ := e'
      have hr := hr.reads
      have hr' := hr'.reads
      obtain ⟨S, hS⟩ : ∃ S, ss.getD k default = S := ⟨_, rfl⟩
      rw [hS] at c0 c1 c2 c3 d0 d1 d2 d3 hr hr'
      rw [← HB.out.cell hg] at c0 c1 c2 c3
      rw [← HB.out.cell hg'] at d0 d1 d2 d3
      have E := Lib.hid (eqStep_any S ta ta' tc tc' wr.drew ((hr.keep HB.out).drewN 1) ((hr'.keep HB.out).drewN 1))
      have hk3 : (k : Int) < (L : Int) := by omega
      obtain ⟨T, hT⟩ : ∃ T, S.taps.length = T := ⟨_, rfl⟩
      rw [hT] at E c3 d3
      clear hr hr' hT hS
      go_wp2_with fail
      go_still_tail 8, (by kernel_rfl)
      change wpList _ _ _ _ _ wr.drew
      go_wp2_with fail
      refine E.out.mono ?_
      rintro e w2 ⟨rfl, hb2⟩
      have HB2 : Hid (Below w.heap.size w w2) := below_step' (below_draws HB.out 1) hb2 HB.out.size
      clear hb2
      go_wp2
      go_roundw
      case rel => exact ⟨k + 1, by go_num, by omega, HB2.out⟩
      case measure => simp [intOf]; omega
    · have e : k = L := by omega
      subst e
      go_wp2
      go_ret
      exact ⟨rfl, HB.out⟩

theorem eqPlan_any {w : World} {B B' : Nat} {V V' : Value} {ss : List St} {tv tv' : Nat → Value} (h : StepsO w B V ss.length ss.length ss tv) (h' : StepsO w B' V' ss.length ss.length ss tv') :
    Calls Tryd.prog 12 #[.agg #[V], .agg #[V']] w fun e w' => e = .returned (.bool true) ∧ Below w.heap.size w w' := by
  obtain ⟨a, cap, rfl⟩ := h.form
  obtain ⟨a', cap', rfl⟩ := h'.form
  have HB : Hid (Below w.heap.size w ((w.alloc (.cells #[.slice a ss.length cap] 28)).alloc (.cells #[.slice a' ss.length cap'] 28))) := ((Below.refl _ _).alloc (Nat.le_refl _) _).alloc (by simp) _
  have E := Lib.hid (eqStepS_any (h.below HB.out (Nat.le_refl _)) (h'.below HB.out (Nat.le_refl _)))
  clear h h'
  go_enter Tryd.func12, Tryd.ntmps12
  go_wp2_with fail
  refine E.out.mono ?_
  rintro e w1 ⟨rfl, hb⟩
  have HB2 := Lib.hid (below_step' HB.out hb HB.out.size)
  clear hb
  go_wp2
  go_ret
  exact ⟨rfl, HB2.out⟩

end Go.Proofs.YtajopgffnfahjaaDoor
/-
  ValidPlan of both.
-/
set_option linter.unusedVariables false
set_option linter.unusedSimpArgs false
namespace Go.Proofs.YtajopgffnfahjaaDoor
open Go.RowKit

/-- Which plans are valid. -/
def validPl (ss : List St) : Bool := decide (ss.length ≤ 8) && ss.all validSt

theorem StepsO.len {w : World} {B : Nat} {V : Value} {n : Nat} {ss : List St} {tv : Nat → Value} (h : StepsO w B V n n ss tv) : n ≤ 9223372036854775807 := by
  by_cases h0 : n = 0
  · omega
  · obtain ⟨g, cp, aa, cc, e, hc, hm, _⟩ := h.at (j := 0) (by omega) (Nat.le_refl _)
    unfold maxLen at hm
    omega

theorem Row.len_le' {w : World} {B : Nat} {v : Value} {zs : List Int} (h : Row w B 2 v (ints zs)) : zs.length ≤ 9223372036854775807 := h.len_le

set_option maxRecDepth 100000 in
set_option maxHeartbeats 4000000 in
theorem l07Ok_any {w : World} {B b : Nat} {V : Value} {ss : List St} {tv : Nat → Value} (h : StepsO w B V ss.length ss.length ss tv) (hp : w.cell? ⟨b, 0, none⟩ = some V) :
    Calls Tryd.prog 33 #[.pointer (some ⟨b, 0, none⟩)] w fun e w' => e = .returned (.bool (validPl ss)) ∧ Below w.heap.size w w' := by
  have HA := Lib.hid (fun j (hj : j < ss.length) => h.at hj (Nat.le_refl _))
  have hmax := h.len
  obtain ⟨a, cap, rfl⟩ := h.form
  have hbw : b < w.heap.size := World.block_lt_of_cell? _ _ hp
  have HF : Hid (∀ j, j < ss.length → validSt (ss.getD j default) = false → ss.all validSt = false) := fun j hj hf => by
    refine List.all_eq_false.2 ⟨ss[j], List.getElem_mem _, ?_⟩
    rw [List.getD_eq_getElem?_getD, List.getElem?_eq_getElem hj] at hf
    simpa using hf
  have HT : Hid ((∀ j, j < ss.length → validSt (ss.getD j default) = true) → ss.all validSt = true) := fun hall => by
    refine List.all_eq_true.2 fun s hs => ?_
    obtain ⟨j, hj, rfl⟩ := List.getElem_of_mem hs
    have := hall j hj
    rwa [List.getD_eq_getElem?_getD, List.getElem?_eq_getElem hj] at this
  unfold validPl
  obtain ⟨A, hA⟩ : ∃ A, ss.all validSt = A := ⟨_, rfl⟩
  rw [hA] at HF HT ⊢
  obtain ⟨L, hL⟩ : ∃ L, ss.length = L := ⟨_, rfl⟩
  rw [hL] at HA HF HT hmax hp ⊢
  have hmx : (L : Int) ≤ 9223372036854775807 := by omega
  clear h hA hL hmax
  go_enter Tryd.func33, Tryd.ntmps33
  go_wp2
  go_loopw [3] (fun i wr => ∃ k : Nat, i = .int .i64 k ∧ k ≤ L ∧ (∀ j, j < k → validSt (ss.getD j default) = true) ∧ Below w.heap.size w wr) (fun i _ => L - (intOf i).toNat)
  case atStart => exact ⟨0, rfl, Nat.zero_le _, fun j hj => by omega, Below.refl _ _⟩
  case round =>
    obtain ⟨k, rfl, hk, hj, hB⟩ := hrel
    have HB := Lib.hid hB
    have HJ := Lib.hid hj
    have hp' : wr.cell? ⟨b, 0, none⟩ = some (.slice a L cap) := by rw [hB.cell hbw]; exact hp
    clear hB hj
    by_cases hlt : k < L
    · obtain ⟨g, cp, ta, tc, e, -, -, hg, -, c0, c1, c2, c3, hr⟩ := HA.out k hlt
      simp only [Value.slice.injEq] at e
      obtain ⟨rfl, -, rfl⟩ := e
      have hlen := hr.len_le
      have hr := hr.reads
      obtain ⟨S, hS⟩ : ∃ S, ss.getD k default = S := ⟨_, rfl⟩
      have HS := Lib.hid hS
      rw [hS] at c0 c1 c2 c3 hr hlen
      have C := Lib.hid (l07Step_any S.kind S.n S.k S.taps ta tc g (k * 4) hlen wr (StepAt.below ⟨c0, c1, c2, c3⟩ HB.out) (fun w1 hb1 => hr.keep (below_step' HB.out hb1 HB.out.size)))
      obtain ⟨v, hv⟩ : ∃ v, validSt ⟨S.kind, S.n, S.k, S.taps⟩ = v := ⟨_, rfl⟩
      rw [hv] at C
      have HV : Hid (validSt (ss.getD k default) = v) := by show validSt (ss.getD k default) = v; rw [hS, ← hv]
      clear hr hS hlen c0 c1 c2 c3 hv
      go_wp2_with fail
      refine C.out.mono ?_
      rintro e w2 ⟨rfl, hb2⟩
      have HB2 := Lib.hid (below_step' HB.out hb2 HB.out.size)
      clear hb2
      cases v
      · have e : A = false := HF.out k hlt HV.out
        subst e
        go_wp2
        go_ret
        exact ⟨by simp, HB2.out⟩
      · have HK : Hid (∀ j, j < k + 1 → validSt (ss.getD j default) = true) := fun j hj => by
          by_cases e : j = k
          · rw [e]; exact HV.out
          · exact HJ.out j (by omega)
        have hp2 : w2.cell? ⟨b, 0, none⟩ = some (.slice (some ⟨g, 0, none⟩) L cap) := by rw [HB2.out.cell hbw]; exact hp
        go_wp2
        go_roundw
        case rel => exact ⟨k + 1, by go_num, by omega, HK.out, HB2.out⟩
        case measure => simp [intOf]; omega
    · have e : k = L := by omega
      subst e
      have e : A = true := HT.out HJ.out
      subst e
      by_cases h8 : k ≤ 8
      · have g8 : decide ((k : Int) ≤ 8) = true := decide_eq_true (by omega)
        go_wp2
        go_ret
        exact ⟨by simp [h8], HB.out⟩
      · have g8 : decide ((k : Int) ≤ 8) = false := decide_eq_false (by omega)
        go_wp2
        go_ret
        exact ⟨by simp [h8], HB.out⟩

theorem enter_vp1 (args : Array Value) (w : World) : (callFunc 60 args).run Tryd.prog w = .ok (.enter 60 args) w := by kernel_rfl

theorem vp1_any (s : St) (a : Option Addr) (c : Nat) (w : World) (ht : Tab w) (hs : Reads w (.slice a s.taps.length c) (ints s.taps)) :
    Calls Tryd.prog 60 #[.agg #[.int .i64 s.kind, .int .i64 s.n, .int .i64 s.k, .slice a s.taps.length c]] w fun e w' => e = .returned (.bool (!validSt s)) ∧ Below w.heap.size w w' := by
  have HB : Hid (Below w.heap.size w (w.alloc (.cells #[.int .i64 s.kind, .int .i64 s.n, .int .i64 s.k, .slice a s.taps.length c] 39))) := (Below.refl _ _).alloc (Nat.le_refl _) _
  have C := Lib.hid (validStep_impl s a c _ (ht.below HB.out) (hs.keep HB.out))
  obtain ⟨v, hv⟩ : ∃ v, validSt s = v := ⟨_, rfl⟩
  rw [hv] at C ⊢
  clear ht hs hv
  go_enter Tryd.func60, Tryd.ntmps60
  go_wp2_with fail
  refine C.out.mono ?_
  rintro e w1 ⟨rfl, hb⟩
  have HB2 := Lib.hid (below_step' HB.out hb HB.out.size)
  clear hb
  go_wp2
  go_ret
  exact ⟨rfl, HB2.out⟩

set_option maxRecDepth 100000 in
set_option maxHeartbeats 4000000 in
theorem indexS_any {w : World} {B : Nat} {V : Value} {ss : List St} {tv : Nat → Value} (h : StepsO w B V ss.length ss.length ss tv) (ht : Tab w) :
    Calls Tryd.prog 96 #[V, .func (.func 60) #[] #[]] w fun e w' => ∃ r : Int, e = .returned (.int .i64 r) ∧ decide (0 ≤ r) = !ss.all validSt ∧ Below w.heap.size w w' := by
  have HA := Lib.hid (fun j (hj : j < ss.length) => h.at hj (Nat.le_refl _))
  have hmax := h.len
  obtain ⟨a, cap, rfl⟩ := h.form
  have HF : Hid (∀ j, j < ss.length → validSt (ss.getD j default) = false → ss.all validSt = false) := fun j hj hf => by
    refine List.all_eq_false.2 ⟨ss[j], List.getElem_mem _, ?_⟩
    rw [List.getD_eq_getElem?_getD, List.getElem?_eq_getElem hj] at hf
    simpa using hf
  have HTr : Hid ((∀ j, j < ss.length → validSt (ss.getD j default) = true) → ss.all validSt = true) := fun hall => by
    refine List.all_eq_true.2 fun s hs => ?_
    obtain ⟨j, hj, rfl⟩ := List.getElem_of_mem hs
    have := hall j hj
    rwa [List.getD_eq_getElem?_getD, List.getElem?_eq_getElem hj] at this
  have HT := Lib.hid ht
  obtain ⟨A, hA⟩ : ∃ A, ss.all validSt = A := ⟨_, rfl⟩
  rw [hA] at HF HTr ⊢
  obtain ⟨L, hL⟩ : ∃ L, ss.length = L := ⟨_, rfl⟩
  rw [hL] at HA HF HTr hmax ⊢
  have hmx : (L : Int) ≤ 9223372036854775807 := by omega
  have hfn := enter_vp1
  clear h hA hL hmax ht
  go_enter Tryd.func96, Tryd.ntmps96
  go_wp2
  go_loopw [8] (fun i wr => ∃ k : Nat, i = .int .i64 k ∧ k ≤ L ∧ (∀ j, j < k → validSt (ss.getD j default) = true) ∧ Below w.heap.size w wr) (fun i _ => L - (intOf i).toNat)
  case atStart => exact ⟨0, rfl, Nat.zero_le _, fun j hj => by omega, Below.refl _ _⟩
  case round =>
    obtain ⟨k, rfl, hk, hj, hB⟩ := hrel
    have HB := Lib.hid hB
    have HJ := Lib.hid hj
    clear hB hj
    by_cases hlt : k < L
    · obtain ⟨g, cp, ta, tc, e, -, -, hg, -, c0, c1, c2, c3, hr⟩ := HA.out k hlt
      simp only [Value.slice.injEq] at e
      obtain ⟨rfl, -, rfl⟩ := e
      have hr := hr.reads
      obtain ⟨S, hS⟩ : ∃ S, ss.getD k default = S := ⟨_, rfl⟩
      rw [hS] at c0 c1 c2 c3 hr
      rw [← HB.out.cell hg] at c0 c1 c2 c3
      have C := Lib.hid (vp1_any S ta tc wr (HT.out.below HB.out) (hr.keep HB.out))
      obtain ⟨v, hv⟩ : ∃ v, validSt S = v := ⟨_, rfl⟩
      rw [hv] at C
      have HV : Hid (validSt (ss.getD k default) = v) := by show validSt (ss.getD k default) = v; rw [hS, ← hv]
      clear hr hS hv
      go_wp2_with fail
      with_reducible refine C.out.mono ?_
      rintro e w2 ⟨rfl, hb2⟩
      have HB2 := Lib.hid (below_step' HB.out hb2 HB.out.size)
      clear hb2
      cases v
      · have e : A = false := HF.out k hlt HV.out
        subst e
        go_wp2
        go_ret
        exact ⟨_, rfl, decide_eq_true (by omega), HB2.out⟩
      · have HK : Hid (∀ j, j < k + 1 → validSt (ss.getD j default) = true) := fun j hj => by
          by_cases e : j = k
          · rw [e]; exact HV.out
          · exact HJ.out j (by omega)
        go_wp2
        go_roundw
        case rel => exact ⟨k + 1, by go_num, by omega, HK.out, HB2.out⟩
        case measure => simp [intOf]; omega
    · have e : k = L := by omega
      subst e
      have e : A = true := HTr.out HJ.out
      subst e
      go_wp2
      go_ret
      exact ⟨_, rfl, by decide, HB.out⟩

set_option maxRecDepth 100000 in
theorem containsS_any {w : World} {B : Nat} {V : Value} {ss : List St} {tv : Nat → Value} (h : StepsO w B V ss.length ss.length ss tv) (ht : Tab w) :
    Calls Tryd.prog 59 #[V, .func (.func 60) #[] #[]] w fun e w' => e = .returned (.bool (!ss.all validSt)) ∧ Below w.heap.size w w' := by
  have I := Lib.hid (indexS_any h ht)
  clear h ht
  go_enter Tryd.func59, Tryd.ntmps59
  go_wp2_with fail
  with_reducible refine I.out.mono ?_
  rintro e w' ⟨r, rfl, hr, hb⟩
  have HR := Lib.hid hr
  have HB := Lib.hid hb
  clear hr hb
  go_wp2
  go_ret
  exact ⟨by rw [← HR.out]; rfl, HB.out⟩

set_option maxRecDepth 100000 in
theorem validPlan_impl {w : World} {B : Nat} {V : Value} {ss : List St} {tv : Nat → Value} (h : StepsO w B V ss.length ss.length ss tv) (ht : Tab w) :
    Calls Tryd.prog 27 #[.agg #[V]] w fun e w' => e = .returned (.bool (validPl ss)) ∧ Below w.heap.size w w' := by
  obtain ⟨a, cap, rfl⟩ := h.form
  have hmax := h.len
  have HB : Hid (Below w.heap.size w (w.alloc (.cells #[.slice a ss.length cap] 28))) := (Below.refl _ _).alloc (Nat.le_refl _) _
  have C := Lib.hid (containsS_any (h.below HB.out (Nat.le_refl _)) (ht.below HB.out))
  unfold validPl
  obtain ⟨A, hA⟩ : ∃ A, ss.all validSt = A := ⟨_, rfl⟩
  rw [hA] at C ⊢
  obtain ⟨L, hL⟩ : ∃ L, ss.length = L := ⟨_, rfl⟩
  rw [hL] at C HB hmax ⊢
  clear h ht hA hL
  by_cases h8 : L ≤ 8
  · have g8 : decide ((L : Int) ≤ 8) = true := decide_eq_true (by omega)
    go_enter Tryd.func27, Tryd.ntmps27
    go_wp2_with fail
    with_reducible refine C.out.mono ?_
    rintro e w1 ⟨rfl, hb⟩
    have HB2 := Lib.hid (below_step' HB.out hb HB.out.size)
    clear hb
    go_wp2
    go_ret
    exact ⟨by simp [h8], HB2.out⟩
  · have g8 : decide ((L : Int) ≤ 8) = false := decide_eq_false (by omega)
    go_enter Tryd.func27, Tryd.ntmps27
    go_wp2
    go_ret
    exact ⟨by simp [h8], HB.out⟩

end Go.Proofs.YtajopgffnfahjaaDoor
/-
  Steps that can be run: their types.
-/
set_option linter.unusedVariables false
set_option linter.unusedSimpArgs false
namespace Go.Proofs.YtajopgffnfahjaaDoor
open Go.RowKit

/-- The type of the step that can be run. -/
def tyOf (q : Nat) : TypeId := [0, 144, 145, 146, 147, 148, 149, 151, 152, 153, 154, 155, 156, 157].getD q 0
/-- A step that can be run, as a value. -/
def ifV (s : St) (tv : Value) : Value := .iface (tyOf s.kind.toNat) (.agg #[.int .i64 s.kind, .int .i64 s.n, .int .i64 s.k, tv])

end Go.Proofs.YtajopgffnfahjaaDoor
set_option linter.unusedVariables false
set_option linter.unusedSimpArgs false
namespace Go.Proofs.YtajopgffnfahjaaDoor
open Go.RowKit

section
variable (n k : Int) (a : Option Addr) (L c : Nat) (w : World)

set_option maxRecDepth 100000 in
set_option maxHeartbeats 4000000 in
theorem stepOf_1 : Calls Tryd.prog 72 #[.agg #[.int .i64 1, .int .i64 n, .int .i64 k, .slice a L c]] w fun e w' => e = .returned (.iface 144 (.agg #[.int .i64 1, .int .i64 n, .int .i64 k, .slice a L c])) ∧ Below w.heap.size w w' := by
  go_enter Tryd.func72, Tryd.ntmps72
  go_wp2
  go_region
  all_goals
    go_wp2
    go_ret
    refine ⟨rfl, ?_⟩
    repeat' (first | exact Below.refl _ _ | refine Below.drew ?_ | refine below_draws ?_ _ | refine Below.alloc ?_ ?_ _)
    all_goals first | omega | (simp; done) | (simp; omega) | (simp [World.drewN]; done) | (simp [World.drewN]; omega) | trace_state

set_option maxRecDepth 100000 in
set_option maxHeartbeats 4000000 in
theorem stepOf_2 : Calls Tryd.prog 72 #[.agg #[.int .i64 2, .int .i64 n, .int .i64 k, .slice a L c]] w fun e w' => e = .returned (.iface 145 (.agg #[.int .i64 2, .int .i64 n, .int .i64 k, .slice a L c])) ∧ Below w.heap.size w w' := by
  go_enter Tryd.func72, Tryd.ntmps72
  go_wp2
  go_region
  all_goals
    go_wp2
    go_ret
    refine ⟨rfl, ?_⟩
    repeat' (first | exact Below.refl _ _ | refine Below.drew ?_ | refine below_draws ?_ _ | refine Below.alloc ?_ ?_ _)
    all_goals first | omega | (simp; done) | (simp; omega) | (simp [World.drewN]; done) | (simp [World.drewN]; omega) | trace_state

set_option maxRecDepth 100000 in
set_option maxHeartbeats 4000000 in
theorem stepOf_3 : Calls Tryd.prog 72 #[.agg #[.int .i64 3, .int .i64 n, .int .i64 k, .slice a L c]] w fun e w' => e = .returned (.iface 146 (.agg #[.int .i64 3, .int .i64 n, .int .i64 k, .slice a L c])) ∧ Below w.heap.size w w' := by
  go_enter Tryd.func72, Tryd.ntmps72
  go_wp2
  go_region
  all_goals
    go_wp2
    go_ret
    refine ⟨rfl, ?_⟩
    repeat' (first | exact Below.refl _ _ | refine Below.drew ?_ | refine below_draws ?_ _ | refine Below.alloc ?_ ?_ _)
    all_goals first | omega | (simp; done) | (simp; omega) | (simp [World.drewN]; done) | (simp [World.drewN]; omega) | trace_state

set_option maxRecDepth 100000 in
set_option maxHeartbeats 4000000 in
theorem stepOf_4 : Calls Tryd.prog 72 #[.agg #[.int .i64 4, .int .i64 n, .int .i64 k, .slice a L c]] w fun e w' => e = .returned (.iface 147 (.agg #[.int .i64 4, .int .i64 n, .int .i64 k, .slice a L c])) ∧ Below w.heap.size w w' := by
  go_enter Tryd.func72, Tryd.ntmps72
  go_wp2
  go_region
  all_goals
    go_wp2
    go_ret
    refine ⟨rfl, ?_⟩
    repeat' (first | exact Below.refl _ _ | refine Below.drew ?_ | refine below_draws ?_ _ | refine Below.alloc ?_ ?_ _)
    all_goals first | omega | (simp; done) | (simp; omega) | (simp [World.drewN]; done) | (simp [World.drewN]; omega) | trace_state

end
end Go.Proofs.YtajopgffnfahjaaDoor
set_option linter.unusedVariables false
set_option linter.unusedSimpArgs false
namespace Go.Proofs.YtajopgffnfahjaaDoor
open Go.RowKit

section
variable (n k : Int) (a : Option Addr) (L c : Nat) (w : World)

set_option maxRecDepth 100000 in
set_option maxHeartbeats 4000000 in
theorem stepOf_5 : Calls Tryd.prog 72 #[.agg #[.int .i64 5, .int .i64 n, .int .i64 k, .slice a L c]] w fun e w' => e = .returned (.iface 148 (.agg #[.int .i64 5, .int .i64 n, .int .i64 k, .slice a L c])) ∧ Below w.heap.size w w' := by
  go_enter Tryd.func72, Tryd.ntmps72
  go_wp2
  go_region
  all_goals
    go_wp2
    go_ret
    refine ⟨rfl, ?_⟩
    repeat' (first | exact Below.refl _ _ | refine Below.drew ?_ | refine below_draws ?_ _ | refine Below.alloc ?_ ?_ _)
    all_goals first | omega | (simp; done) | (simp; omega) | (simp [World.drewN]; done) | (simp [World.drewN]; omega) | trace_state

set_option maxRecDepth 100000 in
set_option maxHeartbeats 4000000 in
theorem stepOf_6 : Calls Tryd.prog 72 #[.agg #[.int .i64 6, .int .i64 n, .int .i64 k, .slice a L c]] w fun e w' => e = .returned (.iface 149 (.agg #[.int .i64 6, .int .i64 n, .int .i64 k, .slice a L c])) ∧ Below w.heap.size w w' := by
  go_enter Tryd.func72, Tryd.ntmps72
  go_wp2
  go_region
  all_goals
    go_wp2
    go_ret
    refine ⟨rfl, ?_⟩
    repeat' (first | exact Below.refl _ _ | refine Below.drew ?_ | refine below_draws ?_ _ | refine Below.alloc ?_ ?_ _)
    all_goals first | omega | (simp; done) | (simp; omega) | (simp [World.drewN]; done) | (simp [World.drewN]; omega) | trace_state

set_option maxRecDepth 100000 in
set_option maxHeartbeats 4000000 in
theorem stepOf_7 : Calls Tryd.prog 72 #[.agg #[.int .i64 7, .int .i64 n, .int .i64 k, .slice a L c]] w fun e w' => e = .returned (.iface 151 (.agg #[.int .i64 7, .int .i64 n, .int .i64 k, .slice a L c])) ∧ Below w.heap.size w w' := by
  go_enter Tryd.func72, Tryd.ntmps72
  go_wp2
  go_region
  all_goals
    go_wp2
    go_ret
    refine ⟨rfl, ?_⟩
    repeat' (first | exact Below.refl _ _ | refine Below.drew ?_ | refine below_draws ?_ _ | refine Below.alloc ?_ ?_ _)
    all_goals first | omega | (simp; done) | (simp; omega) | (simp [World.drewN]; done) | (simp [World.drewN]; omega) | trace_state

set_option maxRecDepth 100000 in
set_option maxHeartbeats 4000000 in
theorem stepOf_8 : Calls Tryd.prog 72 #[.agg #[.int .i64 8, .int .i64 n, .int .i64 k, .slice a L c]] w fun e w' => e = .returned (.iface 152 (.agg #[.int .i64 8, .int .i64 n, .int .i64 k, .slice a L c])) ∧ Below w.heap.size w w' := by
  go_enter Tryd.func72, Tryd.ntmps72
  go_wp2
  go_region
  all_goals
    go_wp2
    go_ret
    refine ⟨rfl, ?_⟩
    repeat' (first | exact Below.refl _ _ | refine Below.drew ?_ | refine below_draws ?_ _ | refine Below.alloc ?_ ?_ _)
    all_goals first | omega | (simp; done) | (simp; omega) | (simp [World.drewN]; done) | (simp [World.drewN]; omega) | trace_state

end
end Go.Proofs.YtajopgffnfahjaaDoor
set_option linter.unusedVariables false
set_option linter.unusedSimpArgs false
namespace Go.Proofs.YtajopgffnfahjaaDoor
open Go.RowKit

section
variable (n k : Int) (a : Option Addr) (L c : Nat) (w : World)

set_option maxRecDepth 100000 in
set_option maxHeartbeats 4000000 in
theorem stepOf_9 : Calls Tryd.prog 72 #[.agg #[.int .i64 9, .int .i64 n, .int .i64 k, .slice a L c]] w fun e w' => e = .returned (.iface 153 (.agg #[.int .i64 9, .int .i64 n, .int .i64 k, .slice a L c])) ∧ Below w.heap.size w w' := by
  go_enter Tryd.func72, Tryd.ntmps72
  go_wp2
  go_region
  all_goals
    go_wp2
    go_ret
    refine ⟨rfl, ?_⟩
    repeat' (first | exact Below.refl _ _ | refine Below.drew ?_ | refine below_draws ?_ _ | refine Below.alloc ?_ ?_ _)
    all_goals first | omega | (simp; done) | (simp; omega) | (simp [World.drewN]; done) | (simp [World.drewN]; omega) | trace_state

set_option maxRecDepth 100000 in
set_option maxHeartbeats 4000000 in
theorem stepOf_10 : Calls Tryd.prog 72 #[.agg #[.int .i64 10, .int .i64 n, .int .i64 k, .slice a L c]] w fun e w' => e = .returned (.iface 154 (.agg #[.int .i64 10, .int .i64 n, .int .i64 k, .slice a L c])) ∧ Below w.heap.size w w' := by
  go_enter Tryd.func72, Tryd.ntmps72
  go_wp2
  go_region
  all_goals
    go_wp2
    go_ret
    refine ⟨rfl, ?_⟩
    repeat' (first | exact Below.refl _ _ | refine Below.drew ?_ | refine below_draws ?_ _ | refine Below.alloc ?_ ?_ _)
    all_goals first | omega | (simp; done) | (simp; omega) | (simp [World.drewN]; done) | (simp [World.drewN]; omega) | trace_state

set_option maxRecDepth 100000 in
set_option maxHeartbeats 4000000 in
theorem stepOf_11 : Calls Tryd.prog 72 #[.agg #[.int .i64 11, .int .i64 n, .int .i64 k, .slice a L c]] w fun e w' => e = .returned (.iface 155 (.agg #[.int .i64 11, .int .i64 n, .int .i64 k, .slice a L c])) ∧ Below w.heap.size w w' := by
  go_enter Tryd.func72, Tryd.ntmps72
  go_wp2
  go_region
  all_goals
    go_wp2
    go_ret
    refine ⟨rfl, ?_⟩
    repeat' (first | exact Below.refl _ _ | refine Below.drew ?_ | refine below_draws ?_ _ | refine Below.alloc ?_ ?_ _)
    all_goals first | omega | (simp; done) | (simp; omega) | (simp [World.drewN]; done) | (simp [World.drewN]; omega) | trace_state

set_option maxRecDepth 100000 in
set_option maxHeartbeats 4000000 in
theorem stepOf_12 : Calls Tryd.prog 72 #[.agg #[.int .i64 12, .int .i64 n, .int .i64 k, .slice a L c]] w fun e w' => e = .returned (.iface 156 (.agg #[.int .i64 12, .int .i64 n, .int .i64 k, .slice a L c])) ∧ Below w.heap.size w w' := by
  go_enter Tryd.func72, Tryd.ntmps72
  go_wp2
  go_region
  all_goals
    go_wp2
    go_ret
    refine ⟨rfl, ?_⟩
    repeat' (first | exact Below.refl _ _ | refine Below.drew ?_ | refine below_draws ?_ _ | refine Below.alloc ?_ ?_ _)
    all_goals first | omega | (simp; done) | (simp; omega) | (simp [World.drewN]; done) | (simp [World.drewN]; omega) | trace_state

end
end Go.Proofs.YtajopgffnfahjaaDoor
set_option linter.unusedVariables false
set_option linter.unusedSimpArgs false
namespace Go.Proofs.YtajopgffnfahjaaDoor
open Go.RowKit

section
variable (n k : Int) (a : Option Addr) (L c : Nat) (w : World)

set_option maxRecDepth 100000 in
set_option maxHeartbeats 4000000 in
theorem stepOf_13 : Calls Tryd.prog 72 #[.agg #[.int .i64 13, .int .i64 n, .int .i64 k, .slice a L c]] w fun e w' => e = .returned (.iface 157 (.agg #[.int .i64 13, .int .i64 n, .int .i64 k, .slice a L c])) ∧ Below w.heap.size w w' := by
  go_enter Tryd.func72, Tryd.ntmps72
  go_wp2
  go_region
  all_goals
    go_wp2
    go_ret
    refine ⟨rfl, ?_⟩
    repeat' (first | exact Below.refl _ _ | refine Below.drew ?_ | refine below_draws ?_ _ | refine Below.alloc ?_ ?_ _)
    all_goals first | omega | (simp; done) | (simp; omega) | (simp [World.drewN]; done) | (simp [World.drewN]; omega) | trace_state

end
end Go.Proofs.YtajopgffnfahjaaDoor
/-
  Steps that can be run: stepOf.
-/
set_option linter.unusedVariables false
set_option linter.unusedSimpArgs false
namespace Go.Proofs.YtajopgffnfahjaaDoor
open Go.RowKit

theorem kind_cases {kd : Int} (h : 1 ≤ kd ∧ kd ≤ 13) : kd = 1 ∨ kd = 2 ∨ kd = 3 ∨ kd = 4 ∨ kd = 5 ∨ kd = 6 ∨ kd = 7 ∨ kd = 8 ∨ kd = 9 ∨ kd = 10 ∨ kd = 11 ∨ kd = 12 ∨ kd = 13 := by omega

theorem validSt_kind {s : St} (h : validSt s = true) : 1 ≤ s.kind ∧ s.kind ≤ 13 := by
  by_cases hk : 1 ≤ s.kind ∧ s.kind ≤ 13
  · exact hk
  · exfalso
    have e : validSt s = false := by
      simp only [validSt]
      repeat (rw [if_neg (by omega)])
    rw [e] at h
    cases h

theorem stepOf_any (s : St) (hk : 1 ≤ s.kind ∧ s.kind ≤ 13) (a : Option Addr) (L c : Nat) (w : World) :
    Calls Tryd.prog 72 #[.agg #[.int .i64 s.kind, .int .i64 s.n, .int .i64 s.k, .slice a L c]] w fun e w' => e = .returned (ifV s (.slice a L c)) ∧ Below w.heap.size w w' := by
  obtain ⟨kd, n, k, taps⟩ := s
  simp only at hk ⊢
  rcases kind_cases hk with rfl | rfl | rfl | rfl | rfl | rfl | rfl | rfl | rfl | rfl | rfl | rfl | rfl
  · exact stepOf_1 n k a L c w
  · exact stepOf_2 n k a L c w
  · exact stepOf_3 n k a L c w
  · exact stepOf_4 n k a L c w
  · exact stepOf_5 n k a L c w
  · exact stepOf_6 n k a L c w
  · exact stepOf_7 n k a L c w
  · exact stepOf_8 n k a L c w
  · exact stepOf_9 n k a L c w
  · exact stepOf_10 n k a L c w
  · exact stepOf_11 n k a L c w
  · exact stepOf_12 n k a L c w
  · exact stepOf_13 n k a L c w

end Go.Proofs.YtajopgffnfahjaaDoor
