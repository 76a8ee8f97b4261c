import Derived.Test.YtdefhmpmgcahpaaDoorStpSZ
/-
  Steps that the call itself has made: toStepS, toPlan.
-/
set_option linter.unusedVariables false
set_option linter.unusedSimpArgs false
namespace Go.Proofs.YtdefhmpmgcahpaaDoor
open Go.RowKit

section
variable {w w' : World} {B : Nat} {e : TypeId} {sz n : Nat} {v : Value} {cs : List Value}

theorem ownsRow_below {B' : Nat} (h : w.ownsRow B e sz v n cs) (hb : Below B' w w') (hv : ∀ k, v.ownBlock = some k → k < B') : w'.ownsRow B e sz v n cs := by
  refine ⟨h.1, ?_⟩
  rcases h.2 with hn | ⟨g, cap, cur, rfl, hbb, hgg, rest⟩
  · exact .inl hn
  · refine .inr ⟨g, cap, cur, rfl, hbb, ?_, rest⟩
    rw [hb.block g (hv g (by simp [Value.ownBlock]))]
    exact hgg
theorem ownsRow_lt (h : w.ownsRow B e sz v n cs) : ∀ k, v.ownBlock = some k → B ≤ k ∧ k < w.heap.size := World.ownsRow.lt h
theorem ownsRow_apart {B1 B2 : Nat} {e1 e2 : TypeId} {s1 s2 n1 n2 : Nat} {v u : Value} {cs ds : List Value} (h : w.ownsRow B1 e1 s1 v n1 cs) (k : w.ownsRow B2 e2 s2 u n2 ds) (hne : e1 ≠ e2) : v.ownBlock = none ∨ v.ownBlock ≠ u.ownBlock := by
  rcases h.2 with ⟨rfl, -⟩ | ⟨g, cap, cur, rfl, -, hg, -⟩
  · exact .inl rfl
  · refine .inr fun e => ?_
    rcases k.2 with ⟨rfl, -⟩ | ⟨g', cap', cur', rfl, -, hg', -⟩
    · cases e
    · simp only [Value.ownBlock, Option.some.injEq] at e
      subst e
      rw [hg] at hg'
      simp only [Option.some.injEq, Obj.cells.injEq] at hg'
      exact hne hg'.2.1
end

/-- Cells of steps in a row, as far as the first k. -/
def Four (cs : List Value) (k : Nat) (ss : List St) (tv : Nat → Value) : Prop :=
  ∀ j, j < k → cs[j * 4]? = some (.int .i64 (ss.getD j default).kind) ∧ cs[j * 4 + 1]? = some (.int .i64 (ss.getD j default).n) ∧ cs[j * 4 + 2]? = some (.int .i64 (ss.getD j default).k) ∧ cs[j * 4 + 3]? = some (tv j)

theorem Four.next {cs : List Value} {k : Nat} {ss : List St} {tv : Nat → Value} (h : Four cs k ss tv) {s : St} {t : Value} (hs : ss.getD k default = s) (hl : k * 4 + 3 < cs.length) :
    Four ((((cs.set (k * 4) (.int .i64 s.kind)).set (k * 4 + 1) (.int .i64 s.n)).set (k * 4 + 2) (.int .i64 s.k)).set (k * 4 + 3) t) (k + 1) ss (fun i => if i = k then t else tv i) := by
  intro j hj
  dsimp only
  by_cases e : j = k
  · subst e
    rw [if_pos rfl, hs]
    refine ⟨?_, ?_, ?_, ?_⟩
    · rw [List.getElem?_set_ne (by omega), List.getElem?_set_ne (by omega), List.getElem?_set_ne (by omega), List.getElem?_set_self (by omega)]
    · rw [List.getElem?_set_ne (by omega), List.getElem?_set_ne (by omega), List.getElem?_set_self (by simp; omega)]
    · rw [List.getElem?_set_ne (by omega), List.getElem?_set_self (by simp; omega)]
    · rw [List.getElem?_set_self (by simp; omega)]
  · obtain ⟨h1, h2, h3, h4⟩ := h j (by omega)
    rw [if_neg e]
    have hn : ∀ i i', i < 4 → i' < 4 → k * 4 + i' ≠ j * 4 + i := fun i i' hi hi' => by omega
    have key : ∀ i, i < 4 → ((((cs.set (k * 4) (.int .i64 s.kind)).set (k * 4 + 1) (.int .i64 s.n)).set (k * 4 + 2) (.int .i64 s.k)).set (k * 4 + 3) t)[j * 4 + i]? = cs[j * 4 + i]? := fun i hi => by
      rw [List.getElem?_set_ne (hn i 3 hi (by omega)), List.getElem?_set_ne (hn i 2 hi (by omega)), List.getElem?_set_ne (hn i 1 hi (by omega)), List.getElem?_set_ne (show k * 4 ≠ j * 4 + i by omega)]
    exact ⟨(key 0 (by omega)).trans h1, (key 1 (by omega)).trans h2, (key 2 (by omega)).trans h3, (key 3 (by omega)).trans h4⟩

/-- Steps that the call itself has made, as far as the first k of n. -/
structure StepsO (w : World) (B : Nat) (V : Value) (n k : Nat) (ss : List St) (tv : Nat → Value) : Prop where
  row : ∃ cs, w.ownsRow B 36 4 V n cs ∧ Four cs k ss tv
  each : ∀ j, j < k → Row w B 2 (tv j) (ints (ss.getD j default).taps)
  inc : ∀ i j, i < j → j < k → ∀ a b, (tv i).ownBlock = some a → (tv j).ownBlock = some b → a ≠ b

theorem StepsO.lt {w : World} {B : Nat} {V : Value} {n k : Nat} {ss : List St} {tv : Nat → Value} (h : StepsO w B V n k ss tv) : ∀ b, V.ownBlock = some b → B ≤ b ∧ b < w.heap.size := by
  obtain ⟨cs, h, -⟩ := h.row
  exact ownsRow_lt h
theorem StepsO.below {w w' : World} {B B' : Nat} {V : Value} {n k : Nat} {ss : List St} {tv : Nat → Value} (h : StepsO w B V n k ss tv) (hb : Below B' w w') (hB : w.heap.size ≤ B') : StepsO w' B V n k ss tv := by
  obtain ⟨⟨cs, h1, h2⟩, h3, h4⟩ := h
  exact ⟨⟨cs, ownsRow_below h1 hb (fun k e => by have := ownsRow_lt h1 k e; omega), h2⟩, fun j hj => (h3 j hj).below hb (fun k e => by have := (h3 j hj).lt k e; omega), h4⟩

theorem StepsO.base {w : World} {B B' : Nat} {V : Value} {n k : Nat} {ss : List St} {tv : Nat → Value} (h : StepsO w B V n k ss tv) (hB : B' ≤ B) : StepsO w B' V n k ss tv := by
  obtain ⟨⟨cs, h1, h2⟩, h3, h4⟩ := h
  refine ⟨⟨cs, ⟨h1.1, ?_⟩, h2⟩, fun j hj => (h3 j hj).base' hB, h4⟩
  rcases h1.2 with hn | ⟨g, cap, cur, rfl, hb, rest⟩
  · exact .inl hn
  · exact .inr ⟨g, cap, cur, rfl, Nat.le_trans hB hb, rest⟩
theorem StepsO.form {w : World} {B : Nat} {V : Value} {n k : Nat} {ss : List St} {tv : Nat → Value} (h : StepsO w B V n k ss tv) : ∃ a cap, V = .slice a n cap := by
  obtain ⟨cs, h, -⟩ := h.row
  rcases h.2 with ⟨rfl, rfl⟩ | ⟨g, cap, cur, rfl, _⟩
  · exact ⟨_, _, rfl⟩
  · exact ⟨_, _, rfl⟩
theorem StepsO.other {w : World} {B : Nat} {V : Value} {n k : Nat} {ss : List St} {tv : Nat → Value} (h : StepsO w B V n k ss tv) {b i : Nat} (u : Value) (hb : b < B) : StepsO (w.setCell ⟨b, i, none⟩ u) B V n k ss tv := by
  have g : w.grownBy (w.setCell ⟨b, i, none⟩ u) (some b) := ⟨rfl, rfl, rfl, by simp, fun k _ hk => heap_setCell_other w ⟨b, i, none⟩ k u (fun e => hk (by simp [e]))⟩
  obtain ⟨⟨cs, h1, h2⟩, h3, h4⟩ := h
  exact ⟨⟨cs, World.ownsRow.kept h1 g (.inr fun e => by have := ownsRow_lt h1 b e; omega), h2⟩, fun j hj => (h3 j hj).kept g (.inr fun e => by have := (h3 j hj).lt b e; omega), h4⟩
theorem step_ne_int : (36 : TypeId) ≠ 2 := by decide

/-- One step more is laid. -/
theorem StepsO.next {w : World} {B g n k cap : Nat} {ss : List St} {tv : Nat → Value} (h : StepsO w B (.slice (some ⟨g, 0, none⟩) n cap) n k ss tv) (hk : k < n) {s : St} {t : Value} (hs : ss.getD k default = s) {b0 : Nat} (hB : B ≤ b0)
    (ht : Row w b0 2 t (ints s.taps)) (hb0 : ∀ i, i < k → ∀ a, (tv i).ownBlock = some a → a < b0) :
    StepsO ((((w.setCell ⟨g, k * 4, none⟩ (.int .i64 s.kind)).setCell ⟨g, k * 4 + 1, none⟩ (.int .i64 s.n)).setCell ⟨g, k * 4 + 2, none⟩ (.int .i64 s.k)).setCell ⟨g, k * 4 + 3, none⟩ t) B (.slice (some ⟨g, 0, none⟩) n cap) n (k + 1) ss (fun i => if i = k then t else tv i) ∧
    w.grownBy ((((w.setCell ⟨g, k * 4, none⟩ (.int .i64 s.kind)).setCell ⟨g, k * 4 + 1, none⟩ (.int .i64 s.n)).setCell ⟨g, k * 4 + 2, none⟩ (.int .i64 s.k)).setCell ⟨g, k * 4 + 3, none⟩ t) (some g) := by
  obtain ⟨⟨cs, h1, h2⟩, h3, h4⟩ := h
  have hl : cs.length = n * 4 := h1.1
  obtain ⟨s1, g1⟩ := World.ownsRow.stored h1 (k * 4) (.int .i64 s.kind)
  obtain ⟨s2, g2⟩ := World.ownsRow.stored s1 (k * 4 + 1) (.int .i64 s.n)
  obtain ⟨s3, g3⟩ := World.ownsRow.stored s2 (k * 4 + 2) (.int .i64 s.k)
  obtain ⟨s4, g4⟩ := World.ownsRow.stored s3 (k * 4 + 3) t
  have gg := ((g1.trans g2).trans g3).trans g4
  refine ⟨⟨⟨_, s4, h2.next hs (by omega)⟩, fun j hj => ?_, fun i j hij hj a b ea eb => ?_⟩, gg⟩
  · by_cases e : j = k
    · subst e
      rw [if_pos rfl, hs]
      exact (ht.base' hB).kept gg (ownsRow_apart ht h1 (Ne.symm step_ne_int))
    · rw [if_neg e]
      have := h3 j (by omega)
      exact this.kept gg (ownsRow_apart this h1 (Ne.symm step_ne_int))
  · have hik : i ≠ k := by omega
    simp only [if_neg hik] at ea
    by_cases e : j = k
    · subst e
      simp only [if_true] at eb
      have := hb0 i hij a ea
      have := (ht.lt b eb).1
      omega
    · simp only [if_neg e] at eb
      exact h4 i j hij (by omega) a b ea eb

theorem info_step : (Tryd.prog.info? 36).map (fun i => (i.zero, i.size, i.bytes)) = some (some (.agg #[.int .i64 0, .int .i64 0, .int .i64 0, .slice none 0 0]), 4, 48) := by kernel_rfl

/-- Steps that are being laid: how the walk finds the place of the next one. -/
theorem StepsO.place {w : World} {B g n k cap : Nat} {ss : List St} {tv : Nat → Value} (h : StepsO w B (.slice (some ⟨g, 0, none⟩) n cap) n k ss tv) {j : Nat} (hj : j < n) :
    ∃ z0 z1 z2 z3, w.cell? ⟨g, j * 4, none⟩ = some z0 ∧ w.cell? ⟨g, j * 4 + 1, none⟩ = some z1 ∧ w.cell? ⟨g, j * 4 + 2, none⟩ = some z2 ∧ w.cell? ⟨g, j * 4 + 3, none⟩ = some z3 ∧ ∀ i, w.frozen? ⟨g, i, none⟩ = false := by
  obtain ⟨cs, h1, -⟩ := h.row
  have hl : cs.length = n * 4 := h1.1
  have key : ∀ i, i < 4 → ∃ z, w.cell? ⟨g, j * 4 + i, none⟩ = some z := fun i hi => by
    rw [World.ownsRow.cellAt h1 (j * 4 + i) (by omega), List.getElem?_eq_getElem (by omega)]
    exact ⟨_, rfl⟩
  obtain ⟨z0, e0⟩ := key 0 (by omega)
  obtain ⟨z1, e1⟩ := key 1 (by omega)
  obtain ⟨z2, e2⟩ := key 2 (by omega)
  obtain ⟨z3, e3⟩ := key 3 (by omega)
  exact ⟨z0, z1, z2, z3, e0, e1, e2, e3, fun i => World.ownsRow.frozenAt h1 i⟩

set_option maxRecDepth 100000 in
set_option maxHeartbeats 4000000 in
theorem toStepS_any {v : Value} {ss : List St} {w : World} (h : StepsIn w v ss) (hn : ss.length ≤ 1048576) (ht : ∀ j, j < ss.length → (ss.getD j default).taps.length ≤ 1048576) :
    Calls Tryd.prog 59 #[v] w fun e w' => ∃ V tv, e = .returned V ∧ StepsO w' w.heap.size V ss.length ss.length ss tv ∧ Below w.heap.size w w' := by
  obtain ⟨i0, hi, hz0, hz1, hz2⟩ := info_parts' info_step
  cases h with
  | nil a cap =>
    go_enter Tryd.func59, Tryd.ntmps59
    go_wp2_with (at_make; refine wpList_make_full _ rfl _ _ 24 rfl w.heap.size 36 i0 _ 4 Tryd.underlying24 hi hz0 hz1 .i64 .i64 _ _ 0 rfl rfl rfl rfl (by rw [hz2]; omega) (by simp only [maxLen]; omega) (Nat.le_refl _) ?_)
    intro w1 hown hg1
    have HO : Hid (StepsO w1 w.heap.size (.slice (some ⟨w.heap.size, 0, none⟩) 0 0) 0 0 [] (fun _ => undef)) := ⟨⟨_, hown, fun j hj => by omega⟩, fun j hj => by omega, fun i j _ hj => by omega⟩
    have HG := Lib.hid (below_new hg1)
    clear hown hg1 hi hz0 hz1 hz2
    go_wp2
    refine wp_loop_rounds 1 ?_
    rw [rounds_succ]
    go_wp2
    go_ret
    exact ⟨_, _, rfl, HO.out, HG.out⟩
  | row x cap L ss tv0 hL h0 hc hm hb hh =>
    have hxb := hb
    have hmax := maxLen_int (Nat.le_trans hc hm)
    have HC := Lib.hid hh
    have HL := Lib.hid hL
    rw [hL] at hn ht ⊢
    have HT := Lib.hid ht
    clear hh hb hm ht hL
    go_enter Tryd.func59, Tryd.ntmps59
    go_wp2_with (at_make; refine wpList_make_full _ rfl _ _ 24 rfl w.heap.size 36 i0 _ 4 Tryd.underlying24 hi hz0 hz1 .i64 .i64 _ _ L rfl rfl rfl rfl (by rw [hz2]; omega) (by simp only [maxLen]; omega) (Nat.le_refl _) ?_)
    intro w1 hown hg1
    have HO : Hid (StepsO w1 w.heap.size (.slice (some ⟨w.heap.size, 0, none⟩) L L) L 0 ss (fun _ => undef)) := ⟨⟨_, hown, fun j hj => by omega⟩, fun j hj => by omega, fun i j _ hj => by omega⟩
    have HG := Lib.hid (below_new hg1)
    clear hown hg1 hi hz0 hz1 hz2
    go_wp2
    go_loopw [4] (fun i wr => ∃ (k : Nat) (tv : Nat → Value), i = .int .i64 k ∧ k ≤ L ∧ StepsO wr w.heap.size (.slice (some ⟨w.heap.size, 0, none⟩) L L) L k ss tv ∧ Below w.heap.size w wr) (fun i _ => L - (intOf i).toNat)
    case atStart => exact ⟨0, _, rfl, Nat.zero_le _, HO.out, HG.out⟩
    case round =>
      clear HO HG
      obtain ⟨k, tv, rfl, hk, hO, hB⟩ := hrel
      have HO := Lib.hid hO
      have HB := Lib.hid hB
      clear hO hB
      by_cases hlt : k < L
      · obtain ⟨c0, c1, c2, c3, c4⟩ := HC.out k hlt
        have T := Lib.hid (toStep_any (v := .agg #[.int .i64 (ss.getD k default).kind, .int .i64 (ss.getD k default).n, .int .i64 (ss.getD k default).k, tv0 k]) (s := ss.getD k default) (w := wr) ⟨_, rfl, c4.below HB.out⟩ (HT.out k hlt))
        have hxb' : (x.add (k * 4)).block < w.heap.size := by rw [addr_block]; exact hxb
        rw [← HB.out.cell (by exact hxb')] at c0 c1 c2 c3
        obtain ⟨S, hS⟩ : ∃ S, ss.getD k default = S := ⟨_, rfl⟩
        rw [hS] at c0 c1 c2 T
        have HS := Lib.hid hS
        obtain ⟨t, ht⟩ : ∃ t, tv0 k = t := ⟨_, rfl⟩
        rw [ht] at c3 T
        clear hS c4 ht hxb'
        go_wp2_with fail
        refine T.out.mono ?_
        rintro e w2 ⟨u, t', rfl, ⟨rfl, hr⟩, hb2⟩
        have hO2 := HO.out.below hb2 (Nat.le_refl _)
        have hsz := HB.out.size
        obtain ⟨z0, z1, z2, z3, d0, d1, d2, d3, df⟩ := hO2.place hlt
        have f0 := df (k * 4)
        have f1 := df (k * 4 + 1)
        have f2 := df (k * 4 + 2)
        have f3 := df (k * 4 + 3)
        have hnx := hO2.next hlt HS.out hsz hr (fun i hi a ea => ((HO.out.each i hi).lt a ea).2)
        have HB2 := Lib.hid (below_step' HB.out hb2 hsz)
        obtain ⟨a', cap', rfl⟩ := hr.form
        have HN := Lib.hid hnx.1
        have HGR : Hid (Below w.heap.size w _) := HB2.out.grown hnx.2 (Nat.le_trans hsz hb2.size) (fun b e => by cases e; exact Nat.le_refl _)
        clear hnx hO2 df hr hb2 c0 c1 c2 c3 T HB2
        obtain ⟨l', hl'⟩ : ∃ l, (ints S.taps).length = l := ⟨_, rfl⟩
        rw [hl'] at HN HGR ⊢
        clear hl'
        go_wp2
        go_roundw
        case rel => exact ⟨k + 1, _, by go_num, by omega, HN.out, HGR.out⟩
        case measure => simp [intOf]; omega
      · have e : k = L := by omega
        subst e
        go_wp2
        go_ret
        exact ⟨_, tv, rfl, HO.out, HB.out⟩

/-- How the walk reads a step. -/
theorem StepsO.at {w : World} {B : Nat} {V : Value} {n k : Nat} {ss : List St} {tv : Nat → Value} (h : StepsO w B V n k ss tv) {j : Nat} (hj : j < k) (hk : k ≤ n) :
    ∃ g cap a c, V = .slice (some ⟨g, 0, none⟩) n cap ∧ n ≤ cap ∧ cap ≤ maxLen ∧ g < w.heap.size ∧ tv j = .slice a (ss.getD j default).taps.length c ∧ w.cell? ⟨g, j * 4, none⟩ = some (.int .i64 (ss.getD j default).kind) ∧ w.cell? ⟨g, j * 4 + 1, none⟩ = some (.int .i64 (ss.getD j default).n) ∧ w.cell? ⟨g, j * 4 + 2, none⟩ = some (.int .i64 (ss.getD j default).k) ∧ w.cell? ⟨g, j * 4 + 3, none⟩ = some (.slice a (ss.getD j default).taps.length c) ∧
      Row w B 2 (.slice a (ss.getD j default).taps.length c) (ints (ss.getD j default).taps) := by
  obtain ⟨⟨cs, h1, h2⟩, h3, h4⟩ := h
  have hr := h3 j hj
  obtain ⟨a, c, e⟩ := hr.form
  rw [ints_length] at e
  obtain ⟨q1, q2, q3, q4⟩ := h2 j hj
  rcases h1.2 with ⟨_, h0⟩ | ⟨g, cap, cur, rfl, hb, hg, hnc, hcm, _⟩
  · omega
  · have hl : cs.length = n * 4 := h1.1
    have key : ∀ i, i < 4 → w.cell? ⟨g, j * 4 + i, none⟩ = cs[j * 4 + i]? := fun i hi => World.ownsRow.cellAt h1 (j * 4 + i) (by omega)
    rw [e] at q4 hr
    exact ⟨g, cap, a, c, rfl, hnc, hcm, (Array.getElem?_eq_some_iff.1 hg).1, e, (key 0 (by omega)).trans q1, (key 1 (by omega)).trans q2, (key 2 (by omega)).trans q3, (key 3 (by omega)).trans q4, hr⟩

theorem infoPlan : (Tryd.prog.info? 26).map (·.size) = some 1 := by kernel_rfl

set_option maxRecDepth 100000 in
set_option maxHeartbeats 4000000 in
theorem toPlan_any {v : Value} {ss : List St} {w : World} (h : PlanIn w v ss) (hn : ss.length ≤ 1048576) (ht : ∀ j, j < ss.length → (ss.getD j default).taps.length ≤ 1048576) :
    Calls Tryd.prog 27 #[v] w fun e w' => ∃ V tv, e = .returned (.agg #[V]) ∧ StepsO w' w.heap.size V ss.length ss.length ss tv ∧ Below w.heap.size w w' := by
  obtain ⟨sv, rfl, h⟩ := h
  have T := Lib.hid (fun w' (hb : Below w.heap.size w w') => toStepS_any (h.below hb) hn ht)
  clear h hn ht
  go_enter Tryd.func27, Tryd.ntmps27
  go_wp2_with fail
  have HW : Hid (∃ W, W = (((w.alloc (.cells #[sv] 46)).alloc (.cells #[.slice none 0 0] 26)).alloc (.cells #[.slice none 0 0] 26))) := ⟨_, rfl⟩
  obtain ⟨W, hW⟩ := HW.out
  have hs : W.heap.size = w.heap.size + 1 + 1 + 1 := by rw [hW]; simp
  have k0 : W.cell? ⟨w.heap.size + 1 + 1, 0, none⟩ = some (.slice none 0 0) := by rw [hW]; go_simp
  have kf : W.frozen? ⟨w.heap.size + 1 + 1, 0, none⟩ = false := by rw [hW]; go_simp
  have j0 : W.cell? ⟨w.heap.size + 1, 0, none⟩ = some (.slice none 0 0) := by rw [hW]; go_simp
  have g0 : W.frozen? ⟨w.heap.size + 1, 0, none⟩ = false := by rw [hW]; go_simp
  have HB : Hid (Below w.heap.size w W) := by
    rw [hW]
    exact (((Below.refl w.heap.size w).alloc (Nat.le_refl _) _).alloc (by simp) _ |>.alloc (by simp; omega) _)
  rw [← hW]
  clear hW HW
  refine (T.out _ HB.out).mono ?_
  rintro e w1 ⟨V, tv, rfl, hO, hb⟩
  have b1 : w.heap.size + 1 < W.heap.size := by omega
  have b2 : w.heap.size + 1 + 1 < W.heap.size := by omega
  rw [← hb.cell (by exact b2)] at k0
  rw [← hb.cell (by exact b1)] at j0
  rw [← hb.frozen (by exact b2)] at kf
  rw [← hb.frozen (by exact b1)] at g0
  have HO := Lib.hid hO
  have HB2 := Lib.hid (below_step' HB.out hb HB.out.size)
  have HL := Lib.hid (hO.lt)
  obtain ⟨a', cap', rfl⟩ := hO.form
  clear hO hb T HB b1 b2
  go_wp2
  (try simp only [Exit.inBlock, Exit.then])
  refine bodyPost_ret (res_cell1' rfl _ _ _ rfl (run_loadVar_mid _ _ _ _ [.slice a' ss.length cap'] _ ?_ Tryd.underlying26 rfl infoPlan)) rfl ?_
  · intro j v hv
    rcases j with _ | j <;> simp at hv <;> subst hv <;> go_simp
  · refine ⟨_, tv, rfl, ?_, ?_⟩
    · refine StepsO.base (B := W.heap.size) (StepsO.other (StepsO.other HO.out _ ?_) _ ?_) (by omega) <;> omega
    · refine ((HB2.out.setCell ?_ _).setCell ?_ _) <;> (simp only []; omega)

end Go.Proofs.YtdefhmpmgcahpaaDoor
