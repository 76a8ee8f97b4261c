/-
  Several texts of this claim, one behind the other; each says what it holds.
-/
import Derived.Test.YtajopgffnfahjaaDoorMExactJ1
import Derived.StillTailTactics
import Derived.RegionIn
/-
  Steps that the call itself has made: toStepS, toPlan.
-/
set_option linter.unusedVariables false
set_option linter.unusedSimpArgs false
namespace Go.Proofs.YtajopgffnfahjaaDoor
open Go.RowKit

section
variable {w w' : World} {B : Nat} {e : TypeId} {sz n : Nat} {v : Value} {cs : List Value}

theorem ownsRow_below {B' : Nat} (h : w.ownsRow B e sz v n cs) (hb : Below B' w w') (hv : ∀ k, v.ownBlock = some k → k < B') : w'.ownsRow B e sz v n cs := by
  refine ⟨h.1, ?_⟩
  rcases h.2 with hn | ⟨g, cap, cur, rfl, hbb, hgg, rest⟩
  · exact .inl hn
  · refine .inr ⟨g, cap, cur, rfl, hbb, ?_, rest⟩
    rw [hb.block g (hv g (by simp [Value.ownBlock]))]
    exact hgg
theorem ownsRow_lt (h : w.ownsRow B e sz v n cs) : ∀ k, v.ownBlock = some k → B ≤ k ∧ k < w.heap.size := World.ownsRow.lt h
theorem ownsRow_apart {B1 B2 : Nat} {e1 e2 : TypeId} {s1 s2 n1 n2 : Nat} {v u : Value} {cs ds : List Value} (h : w.ownsRow B1 e1 s1 v n1 cs) (k : w.ownsRow B2 e2 s2 u n2 ds) (hne : e1 ≠ e2) : v.ownBlock = none ∨ v.ownBlock ≠ u.ownBlock := by
  rcases h.2 with ⟨rfl, -⟩ | ⟨g, cap, cur, rfl, -, hg, -⟩
  · exact .inl rfl
  · refine .inr fun e => ?_
    rcases k.2 with ⟨rfl, -⟩ | ⟨g', cap', cur', rfl, -, hg', -⟩
    · cases e
    · simp only [Value.ownBlock, Option.some.injEq] at e
      subst e
      rw [hg] at hg'
      simp only [Option.some.injEq, Obj.cells.injEq] at hg'
      exact hne hg'.2.1
end

/-- Cells of steps in a row, as far as the first k. -/
def Four (cs : List Value) (k : Nat) (ss : List St) (tv : Nat → Value) : Prop :=
  ∀ j, j < k → cs[j * 4]? = some (.int .i64 (ss.getD j default).kind) ∧ cs[j * 4 + 1]? = some (.int .i64 (ss.getD j default).n) ∧ cs[j * 4 + 2]? = some (.int .i64 (ss.getD j default).k) ∧ cs[j * 4 + 3]? = some (tv j)

theorem Four.next {cs : List Value} {k : Nat} {ss : List St} {tv : Nat → Value} (h : Four cs k ss tv) {s : St} {t : Value} (hs : ss.getD k default = s) (hl : k * 4 + 3 < cs.length) :
    Four ((((cs.set (k * 4) (.int .i64 s.kind)).set (k * 4 + 1) (.int .i64 s.n)).set (k * 4 + 2) (.int .i64 s.k)).set (k * 4 + 3) t) (k + 1) ss (fun i => if i = k then t else tv i) := by
  intro j hj
  dsimp only
  by_cases e : j = k
  · subst e
    rw [if_pos rfl, hs]
    refine ⟨?_, ?_, ?_, ?_⟩
    · rw [List.getElem?_set_ne (by omega), List.getElem?_set_ne (by omega), List.getElem?_set_ne (by omega), List.getElem?_set_self (by omega)]
    · rw [List.getElem?_set_ne (by omega), List.getElem?_set_ne (by omega), List.getElem?_set_self (by simp; omega)]
    · rw [List.getElem?_set_ne (by omega), List.getElem?_set_self (by simp; omega)]
    · rw [List.getElem?_set_self (by simp; omega)]
  · obtain ⟨h1, h2, h3, h4⟩ := h j (by omega)
    rw [if_neg e]
    have hn : ∀ i i', i < 4 → i' < 4 → k * 4 + i' ≠ j * 4 + i := fun i i' hi hi' => by omega
    have key : ∀ i, i < 4 → ((((cs.set (k * 4) (.int .i64 s.kind)).set (k * 4 + 1) (.int .i64 s.n)).set (k * 4 + 2) (.int .i64 s.k)).set (k * 4 + 3) t)[j * 4 + i]? = cs[j * 4 + i]? := fun i hi => by
      rw [List.getElem?_set_ne (hn i 3 hi (by omega)), List.getElem?_set_ne (hn i 2 hi (by omega)), List.getElem?_set_ne (hn i 1 hi (by omega)), List.getElem?_set_ne (show k * 4 ≠ j * 4 + i by omega)]
    exact ⟨(key 0 (by omega)).trans h1, (key 1 (by omega)).trans h2, (key 2 (by omega)).trans h3, (key 3 (by omega)).trans h4⟩

/-- Steps that the call itself has made, as far as the first k of n. -/
structure StepsO (w : World) (B : Nat) (V : Value) (n k : Nat) (ss : List St) (tv : Nat → Value) : Prop where
  row : ∃ cs, w.ownsRow B 39 4 V n cs ∧ Four cs k ss tv
  each : ∀ j, j < k → Row w B 2 (tv j) (ints (ss.getD j default).taps)
  inc : ∀ i j, i < j → j < k → ∀ a b, (tv i).ownBlock = some a → (tv j).ownBlock = some b → a ≠ b

theorem StepsO.lt {w : World} {B : Nat} {V : Value} {n k : Nat} {ss : List St} {tv : Nat → Value} (h : StepsO w B V n k ss tv) : ∀ b, V.ownBlock = some b → B ≤ b ∧ b < w.heap.size := by
  obtain ⟨cs, h, -⟩ := h.row
  exact ownsRow_lt h
theorem StepsO.below {w w' : World} {B B' : Nat} {V : Value} {n k : Nat} {ss : List St} {tv : Nat → Value} (h : StepsO w B V n k ss tv) (hb : Below B' w w') (hB : w.heap.size ≤ B') : StepsO w' B V n k ss tv := by
  obtain ⟨⟨cs, h1, h2⟩, h3, h4⟩ := h
  exact ⟨⟨cs, ownsRow_below h1 hb (fun k e => by have := ownsRow_lt h1 k e; omega), h2⟩, fun j hj => (h3 j hj).below hb (fun k e => by have := (h3 j hj).lt k e; omega), h4⟩

theorem StepsO.base {w : World} {B B' : Nat} {V : Value} {n k : Nat} {ss : List St} {tv : Nat → Value} (h : StepsO w B V n k ss tv) (hB : B' ≤ B) : StepsO w B' V n k ss tv := by
  obtain ⟨⟨cs, h1, h2⟩, h3, h4⟩ := h
  refine ⟨⟨cs, ⟨h1.1, ?_⟩, h2⟩, fun j hj => (h3 j hj).base' hB, h4⟩
  rcases h1.2 with hn | ⟨g, cap, cur, rfl, hb, rest⟩
  · exact .inl hn
  · exact .inr ⟨g, cap, cur, rfl, Nat.le_trans hB hb, rest⟩
theorem StepsO.form {w : World} {B : Nat} {V : Value} {n k : Nat} {ss : List St} {tv : Nat → Value} (h : StepsO w B V n k ss tv) : ∃ a cap, V = .slice a n cap := by
  obtain ⟨cs, h, -⟩ := h.row
  rcases h.2 with ⟨rfl, rfl⟩ | ⟨g, cap, cur, rfl, _⟩
  · exact ⟨_, _, rfl⟩
  · exact ⟨_, _, rfl⟩
theorem StepsO.other {w : World} {B : Nat} {V : Value} {n k : Nat} {ss : List St} {tv : Nat → Value} (h : StepsO w B V n k ss tv) {b i : Nat} (u : Value) (hb : b < B) : StepsO (w.setCell ⟨b, i, none⟩ u) B V n k ss tv := by
  have g : w.grownBy (w.setCell ⟨b, i, none⟩ u) (some b) := ⟨rfl, rfl, rfl, by simp, fun k _ hk => heap_setCell_other w ⟨b, i, none⟩ k u (fun e => hk (by simp [e]))⟩
  obtain ⟨⟨cs, h1, h2⟩, h3, h4⟩ := h
  exact ⟨⟨cs, World.ownsRow.kept h1 g (.inr fun e => by have := ownsRow_lt h1 b e; omega), h2⟩, fun j hj => (h3 j hj).kept g (.inr fun e => by have := (h3 j hj).lt b e; omega), h4⟩
theorem step_ne_int : (39 : TypeId) ≠ 2 := by decide

/-- One step more is laid. -/
theorem StepsO.next {w : World} {B g n k cap : Nat} {ss : List St} {tv : Nat → Value} (h : StepsO w B (.slice (some ⟨g, 0, none⟩) n cap) n k ss tv) (hk : k < n) {s : St} {t : Value} (hs : ss.getD k default = s) {b0 : Nat} (hB : B ≤ b0)
    (ht : Row w b0 2 t (ints s.taps)) (hb0 : ∀ i, i < k → ∀ a, (tv i).ownBlock = some a → a < b0) :
    StepsO ((((w.setCell ⟨g, k * 4, none⟩ (.int .i64 s.kind)).setCell ⟨g, k * 4 + 1, none⟩ (.int .i64 s.n)).setCell ⟨g, k * 4 + 2, none⟩ (.int .i64 s.k)).setCell ⟨g, k * 4 + 3, none⟩ t) B (.slice (some ⟨g, 0, none⟩) n cap) n (k + 1) ss (fun i => if i = k then t else tv i) ∧
    w.grownBy ((((w.setCell ⟨g, k * 4, none⟩ (.int .i64 s.kind)).setCell ⟨g, k * 4 + 1, none⟩ (.int .i64 s.n)).setCell ⟨g, k * 4 + 2, none⟩ (.int .i64 s.k)).setCell ⟨g, k * 4 + 3, none⟩ t) (some g) := by
  obtain ⟨⟨cs, h1, h2⟩, h3, h4⟩ := h
  have hl : cs.length = n * 4 := h1.1
  obtain ⟨s1, g1⟩ := World.ownsRow.stored h1 (k * 4) (.int .i64 s.kind)
  obtain ⟨s2, g2⟩ := World.ownsRow.stored s1 (k * 4 + 1) (.int .i64 s.n)
  obtain ⟨s3, g3⟩ := World.ownsRow.stored s2 (k * 4 + 2) (.int .i64 s.k)
  obtain ⟨s4, g4⟩ := World.ownsRow.stored s3 (k * 4 + 3) t
  have gg := ((g1.trans g2).trans g3).trans g4
  refine ⟨⟨⟨_, s4, h2.next hs (by omega)⟩, fun j hj => ?_, fun i j hij hj a b ea eb => ?_⟩, gg⟩
  · by_cases e : j = k
    · subst e
      rw [if_pos rfl, hs]
      exact (ht.base' hB).kept gg (ownsRow_apart ht h1 (Ne.symm step_ne_int))
    · rw [if_neg e]
      have := h3 j (by omega)
      exact this.kept gg (ownsRow_apart this h1 (Ne.symm step_ne_int))
  · have hik : i ≠ k := by omega
    simp only [if_neg hik] at ea
    by_cases e : j = k
    · subst e
      simp only [if_true] at eb
      have := hb0 i hij a ea
      have := (ht.lt b eb).1
      omega
    · simp only [if_neg e] at eb
      exact h4 i j hij (by omega) a b ea eb

theorem info_step : (Tryd.prog.info? 39).map (fun i => (i.zero, i.size, i.bytes)) = some (some (.agg #[.int .i64 0, .int .i64 0, .int .i64 0, .slice none 0 0]), 4, 48) := by kernel_rfl

/-- Steps that are being laid: how the walk finds the place of the next one. -/
theorem StepsO.place {w : World} {B g n k cap : Nat} {ss : List St} {tv : Nat → Value} (h : StepsO w B (.slice (some ⟨g, 0, none⟩) n cap) n k ss tv) {j : Nat} (hj : j < n) :
    ∃ z0 z1 z2 z3, w.cell? ⟨g, j * 4, none⟩ = some z0 ∧ w.cell? ⟨g, j * 4 + 1, none⟩ = some z1 ∧ w.cell? ⟨g, j * 4 + 2, none⟩ = some z2 ∧ w.cell? ⟨g, j * 4 + 3, none⟩ = some z3 ∧ ∀ i, w.frozen? ⟨g, i, none⟩ = false := by
  obtain ⟨cs, h1, -⟩ := h.row
  have hl : cs.length = n * 4 := h1.1
  have key : ∀ i, i < 4 → ∃ z, w.cell? ⟨g, j * 4 + i, none⟩ = some z := fun i hi => by
    rw [World.ownsRow.cellAt h1 (j * 4 + i) (by omega), List.getElem?_eq_getElem (by omega)]
    exact ⟨_, rfl⟩
  obtain ⟨z0, e0⟩ := key 0 (by omega)
  obtain ⟨z1, e1⟩ := key 1 (by omega)
  obtain ⟨z2, e2⟩ := key 2 (by omega)
  obtain ⟨z3, e3⟩ := key 3 (by omega)
  exact ⟨z0, z1, z2, z3, e0, e1, e2, e3, fun i => World.ownsRow.frozenAt h1 i⟩

set_option maxRecDepth 100000 in
set_option maxHeartbeats 4000000 in
theorem toStepS_any {v : Value} {ss : List St} {w : World} (h : StepsIn w v ss) (hn : ss.length ≤ 1048576) (ht : ∀ j, j < ss.length → (ss.getD j default).taps.length ≤ 1048576) :
    Calls Tryd.prog 35 #[v] w fun e w' => ∃ V tv, e = .returned V ∧ StepsO w' w.heap.size V ss.length ss.length ss tv ∧ Below w.heap.size w w' := by
  obtain ⟨i0, hi, hz0, hz1, hz2⟩ := info_parts' info_step
  cases h with
  | nil a cap =>
    go_enter Tryd.func35, Tryd.ntmps35
    go_wp2_with (at_make; refine wpList_make_full _ rfl _ _ 26 rfl w.heap.size 39 i0 _ 4 Tryd.underlying26 hi hz0 hz1 .i64 .i64 _ _ 0 rfl rfl rfl rfl (by rw [hz2]; omega) (by simp only [maxLen]; omega) (Nat.le_refl _) ?_)
    intro w1 hown hg1
    have HO : Hid (StepsO w1 w.heap.size (.slice (some ⟨w.heap.size, 0, none⟩) 0 0) 0 0 [] (fun _ => undef)) := ⟨⟨_, hown, fun j hj => by omega⟩, fun j hj => by omega, fun i j _ hj => by omega⟩
    have HG := Lib.hid (below_new hg1)
    clear hown hg1 hi hz0 hz1 hz2
    go_wp2
    refine wp_loop_rounds 1 ?_
    rw [rounds_succ]
    go_wp2
    go_ret
    exact ⟨_, _, rfl, HO.out, HG.out⟩
  | row x cap L ss tv0 hL h0 hc hm hb hh =>
    have hxb := hb
    have hmax := maxLen_int (Nat.le_trans hc hm)
    have HC := Lib.hid hh
    have HL := Lib.hid hL
    rw [hL] at hn ht ⊢
    have HT := Lib.hid ht
    clear hh hb hm ht hL
    go_enter Tryd.func35, Tryd.ntmps35
    go_wp2_with (at_make; refine wpList_make_full _ rfl _ _ 26 rfl w.heap.size 39 i0 _ 4 Tryd.underlying26 hi hz0 hz1 .i64 .i64 _ _ L rfl rfl rfl rfl (by rw [hz2]; omega) (by simp only [maxLen]; omega) (Nat.le_refl _) ?_)
    intro w1 hown hg1
    have HO : Hid (StepsO w1 w.heap.size (.slice (some ⟨w.heap.size, 0, none⟩) L L) L 0 ss (fun _ => undef)) := ⟨⟨_, hown, fun j hj => by omega⟩, fun j hj => by omega, fun i j _ hj => by omega⟩
    have HG := Lib.hid (below_new hg1)
    clear hown hg1 hi hz0 hz1 hz2
    go_wp2
    go_loopw [4] (fun i wr => ∃ (k : Nat) (tv : Nat → Value), i = .int .i64 k ∧ k ≤ L ∧ StepsO wr w.heap.size (.slice (some ⟨w.heap.size, 0, none⟩) L L) L k ss tv ∧ Below w.heap.size w wr) (fun i _ => L - (intOf i).toNat)
    case atStart => exact ⟨0, _, rfl, Nat.zero_le _, HO.out, HG.out⟩
    case round =>
      clear HO HG
      obtain ⟨k, tv, rfl, hk, hO, hB⟩ := hrel
      have HO := Lib.hid hO
      have HB := Lib.hid hB
      clear hO hB
      by_cases hlt : k < L
      · obtain ⟨c0, c1, c2, c3, c4⟩ := HC.out k hlt
        have T := Lib.hid (toStep_any (v := .agg #[.int .i64 (ss.getD k default).kind, .int .i64 (ss.getD k default).n, .int .i64 (ss.getD k default).k, tv0 k]) (s := ss.getD k default) (w := wr) ⟨_, rfl, c4.below HB.out⟩ (HT.out k hlt))
        have hxb' : (x.add (k * 4)).block < w.heap.size := by rw [addr_block]; exact hxb
        rw [← HB.out.cell (by exact hxb')] at c0 c1 c2 c3
        obtain ⟨S, hS⟩ : ∃ S, ss.getD k default = S := ⟨_, rfl⟩
        rw [hS] at c0 c1 c2 T
        have HS := Lib.hid hS
        obtain ⟨t, ht⟩ : ∃ t, tv0 k = t := ⟨_, rfl⟩
        rw [ht] at c3 T
        clear hS c4 ht hxb'
        go_wp2_with fail
        refine T.out.mono ?_
        rintro e w2 ⟨u, t', rfl, ⟨rfl, hr⟩, hb2⟩
        have hO2 := HO.out.below hb2 (Nat.le_refl _)
        have hsz := HB.out.size
        obtain ⟨z0, z1, z2, z3, d0, d1, d2, d3, df⟩ := hO2.place hlt
        have f0 := df (k * 4)
        have f1 := df (k * 4 + 1)
        have f2 := df (k * 4 + 2)
        have f3 := df (k * 4 + 3)
        have hnx := hO2.next hlt HS.out hsz hr (fun i hi a ea => ((HO.out.each i hi).lt a ea).2)
        have HB2 := Lib.hid (below_step' HB.out hb2 hsz)
        obtain ⟨a', cap', rfl⟩ := hr.form
        have HN := Lib.hid hnx.1
        have HGR : Hid (Below w.heap.size w _) := HB2.out.grown hnx.2 (Nat.le_trans hsz hb2.size) (fun b e => by cases e; exact Nat.le_refl _)
        clear hnx hO2 df hr hb2 c0 c1 c2 c3 T HB2
        obtain ⟨l', hl'⟩ : ∃ l, (ints S.taps).length = l := ⟨_, rfl⟩
        rw [hl'] at HN HGR ⊢
        clear hl'
        go_wp2
        go_roundw
        case rel => exact ⟨k + 1, _, by go_num, by omega, HN.out, HGR.out⟩
        case measure => simp [intOf]; omega
      · have e : k = L := by omega
        subst e
        go_wp2
        go_ret
        exact ⟨_, tv, rfl, HO.out, HB.out⟩

/-- How the walk reads a step. -/
theorem StepsO.at {w : World} {B : Nat} {V : Value} {n k : Nat} {ss : List St} {tv : Nat → Value} (h : StepsO w B V n k ss tv) {j : Nat} (hj : j < k) (hk : k ≤ n) :
    ∃ g cap a c, V = .slice (some ⟨g, 0, none⟩) n cap ∧ n ≤ cap ∧ cap ≤ maxLen ∧ g < w.heap.size ∧ tv j = .slice a (ss.getD j default).taps.length c ∧ w.cell? ⟨g, j * 4, none⟩ = some (.int .i64 (ss.getD j default).kind) ∧ w.cell? ⟨g, j * 4 + 1, none⟩ = some (.int .i64 (ss.getD j default).n) ∧ w.cell? ⟨g, j * 4 + 2, none⟩ = some (.int .i64 (ss.getD j default).k) ∧ w.cell? ⟨g, j * 4 + 3, none⟩ = some (.slice a (ss.getD j default).taps.length c) ∧
      Row w B 2 (.slice a (ss.getD j default).taps.length c) (ints (ss.getD j default).taps) := by
  obtain ⟨⟨cs, h1, h2⟩, h3, h4⟩ := h
  have hr := h3 j hj
  obtain ⟨a, c, e⟩ := hr.form
  rw [ints_length] at e
  obtain ⟨q1, q2, q3, q4⟩ := h2 j hj
  rcases h1.2 with ⟨_, h0⟩ | ⟨g, cap, cur, rfl, hb, hg, hnc, hcm, _⟩
  · omega
  · have hl : cs.length = n * 4 := h1.1
    have key : ∀ i, i < 4 → w.cell? ⟨g, j * 4 + i, none⟩ = cs[j * 4 + i]? := fun i hi => World.ownsRow.cellAt h1 (j * 4 + i) (by omega)
    rw [e] at q4 hr
    exact ⟨g, cap, a, c, rfl, hnc, hcm, (Array.getElem?_eq_some_iff.1 hg).1, e, (key 0 (by omega)).trans q1, (key 1 (by omega)).trans q2, (key 2 (by omega)).trans q3, (key 3 (by omega)).trans q4, hr⟩

theorem infoPlan : (Tryd.prog.info? 28).map (·.size) = some 1 := by kernel_rfl

set_option maxRecDepth 100000 in
set_option maxHeartbeats 4000000 in
theorem toPlan_any {v : Value} {ss : List St} {w : World} (h : PlanIn w v ss) (hn : ss.length ≤ 1048576) (ht : ∀ j, j < ss.length → (ss.getD j default).taps.length ≤ 1048576) :
    Calls Tryd.prog 10 #[v] w fun e w' => ∃ V tv, e = .returned (.agg #[V]) ∧ StepsO w' w.heap.size V ss.length ss.length ss tv ∧ Below w.heap.size w w' := by
  obtain ⟨sv, rfl, h⟩ := h
  have T := Lib.hid (fun w' (hb : Below w.heap.size w w') => toStepS_any (h.below hb) hn ht)
  clear h hn ht
  go_enter Tryd.func10, Tryd.ntmps10
  go_wp2_with fail
  have HW : Hid (∃ W, W = (((w.alloc (.cells #[sv] 24)).alloc (.cells #[.slice none 0 0] 28)).alloc (.cells #[.slice none 0 0] 28))) := ⟨_, rfl⟩
  obtain ⟨W, hW⟩ := HW.out
  have hs : W.heap.size = w.heap.size + 1 + 1 + 1 := by rw [hW]; simp
  have k0 : W.cell? ⟨w.heap.size + 1 + 1, 0, none⟩ = some (.slice none 0 0) := by rw [hW]; go_simp
  have kf : W.frozen? ⟨w.heap.size + 1 + 1, 0, none⟩ = false := by rw [hW]; go_simp
  have j0 : W.cell? ⟨w.heap.size + 1, 0, none⟩ = some (.slice none 0 0) := by rw [hW]; go_simp
  have g0 : W.frozen? ⟨w.heap.size + 1, 0, none⟩ = false := by rw [hW]; go_simp
  have HB : Hid (Below w.heap.size w W) := by
    rw [hW]
    exact (((Below.refl w.heap.size w).alloc (Nat.le_refl _) _).alloc (by simp) _ |>.alloc (by simp; omega) _)
  rw [← hW]
  clear hW HW
  refine (T.out _ HB.out).mono ?_
  rintro e w1 ⟨V, tv, rfl, hO, hb⟩
  have b1 : w.heap.size + 1 < W.heap.size := by omega
  have b2 : w.heap.size + 1 + 1 < W.heap.size := by omega
  rw [← hb.cell (by exact b2)] at k0
  rw [← hb.cell (by exact b1)] at j0
  rw [← hb.frozen (by exact b2)] at kf
  rw [← hb.frozen (by exact b1)] at g0
  have HO := Lib.hid hO
  have HB2 := Lib.hid (below_step' HB.out hb HB.out.size)
  have HL := Lib.hid (hO.lt)
  obtain ⟨a', cap', rfl⟩ := hO.form
  clear hO hb T HB b1 b2
  go_wp2
  (try simp only [Exit.inBlock, Exit.then])
  refine bodyPost_ret (res_cell1' rfl _ _ _ rfl (run_loadVar_mid _ _ _ _ [.slice a' ss.length cap'] _ ?_ Tryd.underlying28 rfl infoPlan)) rfl ?_
  · intro j v hv
    rcases j with _ | j <;> simp at hv <;> subst hv <;> go_simp
  · refine ⟨_, tv, rfl, ?_, ?_⟩
    · refine StepsO.base (B := W.heap.size) (StepsO.other (StepsO.other HO.out _ ?_) _ ?_) (by omega) <;> omega
    · refine ((HB2.out.setCell ?_ _).setCell ?_ _) <;> (simp only []; omega)

end Go.Proofs.YtajopgffnfahjaaDoor
/-
  Marks on steps: markStepS, heldStepS, markPlan, heldPlan.
-/
set_option linter.unusedVariables false
set_option linter.unusedSimpArgs false
namespace Go.Proofs.YtajopgffnfahjaaDoor
open Go.RowKit

/-- A marked step, from m on. -/
def mkS (s : St) (m : Nat) : St := ⟨m, (m + 1 : Nat), (m + 2 : Nat), marks (m + 3) s.taps.length⟩
/-- The next mark behind steps. -/
def mkN : List St → Nat → Nat
  | [], m => m
  | s :: ss, m => mkN ss (m + 3 + s.taps.length)
theorem mkN_append : ∀ (a b : List St) (m : Nat), mkN (a ++ b) m = mkN b (mkN a m)
  | [], b, m => rfl
  | s :: a, b, m => by simp only [List.cons_append, mkN]; exact mkN_append a b _
theorem mkN_ge : ∀ (a : List St) (m : Nat), m ≤ mkN a m
  | [], m => Nat.le_refl _
  | s :: a, m => by have := mkN_ge a (m + 3 + s.taps.length); simp only [mkN]; omega
theorem mkN_take {ss : List St} {k m : Nat} (h : k < ss.length) : mkN (ss.take (k + 1)) m = mkN (ss.take k) m + 3 + (ss.getD k default).taps.length := by
  rw [List.take_add_one, List.getElem?_eq_getElem h, mkN_append, List.getD_eq_getElem?_getD, List.getElem?_eq_getElem h]
  rfl
theorem mkN_le {ss : List St} (k m : Nat) : mkN (ss.take k) m ≤ mkN ss m := by
  have h : mkN ss m = mkN (ss.drop k) (mkN (ss.take k) m) := by rw [← mkN_append, List.take_append_drop]
  rw [h]
  exact mkN_ge _ _

theorem getD_set {ss : List St} {j i : Nat} {s : St} (hj : j < ss.length) : (ss.set j s).getD i default = if i = j then s else ss.getD i default := by
  rw [List.getD_eq_getElem?_getD, List.getElem?_set]
  by_cases e : j = i
  · subst e
    rw [if_pos rfl, if_pos rfl, if_pos hj]
    rfl
  · rw [if_neg e, if_neg (fun h => e h.symm), List.getD_eq_getElem?_getD]

/-- Three numbers of a step are overwritten. -/
theorem StepsO.mark3 {w : World} {B g n cap : Nat} {ss : List St} {tv : Nat → Value} (h : StepsO w B (.slice (some ⟨g, 0, none⟩) n cap) n n ss tv) (hn : ss.length = n) {j : Nat} (hj : j < n) (a0 a1 a2 : Int) :
    StepsO (((w.setCell ⟨g, j * 4, none⟩ (.int .i64 a0)).setCell ⟨g, j * 4 + 1, none⟩ (.int .i64 a1)).setCell ⟨g, j * 4 + 2, none⟩ (.int .i64 a2)) B (.slice (some ⟨g, 0, none⟩) n cap) n n (ss.set j ⟨a0, a1, a2, (ss.getD j default).taps⟩) tv ∧
    w.grownBy (((w.setCell ⟨g, j * 4, none⟩ (.int .i64 a0)).setCell ⟨g, j * 4 + 1, none⟩ (.int .i64 a1)).setCell ⟨g, j * 4 + 2, none⟩ (.int .i64 a2)) (some g) := by
  obtain ⟨⟨cs, h1, h2⟩, h3, h4⟩ := h
  have hl : cs.length = n * 4 := h1.1
  obtain ⟨s1, g1⟩ := World.ownsRow.stored h1 (j * 4) (.int .i64 a0)
  obtain ⟨s2, g2⟩ := World.ownsRow.stored s1 (j * 4 + 1) (.int .i64 a1)
  obtain ⟨s3, g3⟩ := World.ownsRow.stored s2 (j * 4 + 2) (.int .i64 a2)
  have gg := (g1.trans g2).trans g3
  have ht : ∀ i, ((ss.set j ⟨a0, a1, a2, (ss.getD j default).taps⟩).getD i default).taps = (ss.getD i default).taps := fun i => by
    rw [getD_set (by omega)]
    by_cases e : i = j
    · rw [if_pos e, e]
    · rw [if_neg e]
  refine ⟨⟨⟨_, s3, fun i hi => ?_⟩, fun i hi => ?_, h4⟩, gg⟩
  · rw [getD_set (by omega)]
    obtain ⟨q0, q1, q2, q3⟩ := h2 i hi
    by_cases e : i = j
    · subst e
      rw [if_pos rfl]
      refine ⟨?_, ?_, ?_, ?_⟩
      · rw [List.getElem?_set_ne (by omega), List.getElem?_set_ne (by omega), List.getElem?_set_self (by omega)]
      · rw [List.getElem?_set_ne (by omega), List.getElem?_set_self (by simp; omega)]
      · rw [List.getElem?_set_self (by simp; omega)]
      · rw [List.getElem?_set_ne (by omega), List.getElem?_set_ne (by omega), List.getElem?_set_ne (by omega)]
        exact q3
    · rw [if_neg e]
      have key : ∀ t, t < 4 → (((cs.set (j * 4) (.int .i64 a0)).set (j * 4 + 1) (.int .i64 a1)).set (j * 4 + 2) (.int .i64 a2))[i * 4 + t]? = cs[i * 4 + t]? := fun t ht => by
        rw [List.getElem?_set_ne (by omega), List.getElem?_set_ne (by omega), List.getElem?_set_ne (by omega)]
      exact ⟨(key 0 (by omega)).trans q0, (key 1 (by omega)).trans q1, (key 2 (by omega)).trans q2, (key 3 (by omega)).trans q3⟩
  · rw [ht i]
    exact (h3 i hi).kept gg (ownsRow_apart (h3 i hi) h1 (Ne.symm step_ne_int))

/-- The taps of a step are overwritten. -/
theorem StepsO.markT {w w' : World} {B n : Nat} {V : Value} {ss : List St} {tv : Nat → Value} (h : StepsO w B V n n ss tv) (hn : ss.length = n) {j : Nat} (hj : j < n) {zs : List Int} {a0 a1 a2 : Int}
    (e0 : (ss.getD j default).kind = a0) (e1 : (ss.getD j default).n = a1) (e2 : (ss.getD j default).k = a2) (hr : Row w' B 2 (tv j) (ints zs)) (hg : w.grownBy w' (tv j).ownBlock) :
    StepsO w' B V n n (ss.set j ⟨a0, a1, a2, zs⟩) tv := by
  obtain ⟨⟨cs, h1, h2⟩, h3, h4⟩ := h
  refine ⟨⟨cs, World.ownsRow.kept h1 hg (ownsRow_apart h1 (h3 j hj) step_ne_int), fun i hi => ?_⟩, fun i hi => ?_, h4⟩
  · rw [getD_set (by omega)]
    by_cases e : i = j
    · subst e
      rw [if_pos rfl]
      obtain ⟨q0, q1, q2, q3⟩ := h2 i hi
      rw [e0] at q0
      rw [e1] at q1
      rw [e2] at q2
      exact ⟨q0, q1, q2, q3⟩
    · rw [if_neg e]
      exact h2 i hi
  · rw [getD_set (by omega)]
    by_cases e : i = j
    · subst e
      rw [if_pos rfl]
      exact hr
    · rw [if_neg e]
      refine (h3 i hi).kept hg ?_
      cases hb : (tv i).ownBlock with
      | none => exact .inl rfl
      | some b =>
        refine .inr fun he => ?_
        rcases Nat.lt_or_gt_of_ne e with hlt | hlt
        · exact absurd rfl (h4 i j hlt hj b b hb he.symm)
        · exact absurd rfl (h4 j i hlt hi b b he.symm hb)

/-- Whatever is not these steps' own lies as it lay. -/
structure Only (V : Value) (tv : Nat → Value) (n : Nat) (w w' : World) : Prop where
  os : w'.os = w.os
  tape : w'.tape = w.tape
  output : w'.output = w.output
  size : w.heap.size ≤ w'.heap.size
  block : ∀ b, b < w.heap.size → V.ownBlock ≠ some b → (∀ j, j < n → (tv j).ownBlock ≠ some b) → w'.heap[b]? = w.heap[b]?
theorem Only.refl (V : Value) (tv : Nat → Value) (n : Nat) (w : World) : Only V tv n w w := ⟨rfl, rfl, rfl, Nat.le_refl _, fun _ _ _ _ => rfl⟩
theorem Only.trans {V : Value} {tv : Nat → Value} {n : Nat} {X Y Z : World} (h : Only V tv n X Y) (k : Only V tv n Y Z) : Only V tv n X Z :=
  ⟨k.os.trans h.os, k.tape.trans h.tape, k.output.trans h.output, Nat.le_trans h.size k.size, fun b hb h1 h2 => (k.block b (Nat.lt_of_lt_of_le hb h.size) h1 h2).trans (h.block b hb h1 h2)⟩
theorem Only.row {V : Value} {tv : Nat → Value} {n : Nat} {w w' : World} (hg : w.grownBy w' V.ownBlock) : Only V tv n w w' := ⟨hg.os, hg.tape, hg.output, hg.size, fun b hb h1 _ => hg.block b hb (fun e => h1 e.symm)⟩
theorem Only.tap {V : Value} {tv : Nat → Value} {n j : Nat} {w w' : World} (hj : j < n) (hg : w.grownBy w' (tv j).ownBlock) : Only V tv n w w' := ⟨hg.os, hg.tape, hg.output, hg.size, fun b hb _ h2 => hg.block b hb (fun e => h2 j hj e.symm)⟩
theorem Only.below {B : Nat} {V : Value} {tv : Nat → Value} {n : Nat} {ss : List St} {w w' : World} (h : Only V tv n w w') (hs : StepsO w B V n n ss tv) (hB : B ≤ w.heap.size) : Below B w w' :=
  ⟨h.os, h.tape, h.output, h.size, fun b hb => h.block b (Nat.lt_of_lt_of_le hb hB) (fun e => by have := (hs.lt b e).1; omega) (fun j hj e => by have := ((hs.each j hj).lt b e).1; omega)⟩

/-- Marked steps, as far as the first k. -/
structure Mkd (ss : List St) (m k : Nat) (ss' : List St) : Prop where
  len : ss'.length = ss.length
  done : ∀ i, i < k → ss'.getD i default = mkS (ss.getD i default) (mkN (ss.take i) m)
  rest : ∀ i, k ≤ i → ss'.getD i default = ss.getD i default

set_option maxRecDepth 100000 in
set_option maxHeartbeats 4000000 in
theorem markStepS_any {w : World} {B : Nat} {V : Value} {ss : List St} {tv : Nat → Value} (h : StepsO w B V ss.length ss.length ss tv) {m : Nat} (hm : mkN ss m ≤ 10000000000000) :
    Calls Tryd.prog 40 #[V, .int .i64 m] w fun e w' => e = .returned (.int .i64 (mkN ss m)) ∧ (∃ ss', Mkd ss m ss.length ss' ∧ StepsO w' B V ss.length ss.length ss' tv) ∧ Only V tv ss.length w w' := by
  obtain ⟨L, hL⟩ : ∃ L, ss.length = L := ⟨_, rfl⟩
  obtain ⟨a, cap, rfl⟩ := h.form
  have hgn : L = 0 ∨ ∃ g, a = some ⟨g, 0, none⟩ := by
    by_cases h0 : L = 0
    · exact .inl h0
    · obtain ⟨g, cp, _, _, e, _⟩ := h.at (j := 0) (by omega) (Nat.le_refl _)
      simp only [Value.slice.injEq] at e
      exact .inr ⟨g, e.1⟩
  have hmax : (L : Int) ≤ 9223372036854775807 := by
    by_cases h0 : L = 0
    · omega
    · obtain ⟨g, cp, aa, cc, e, hc, hm, _⟩ := h.at (j := 0) (by omega) (Nat.le_refl _)
      unfold maxLen at hm
      omega
  have HM := Lib.hid hm
  have HO := Lib.hid h
  have HL := Lib.hid hL
  rw [hL] at HO ⊢
  clear h hL hm
  go_enter Tryd.func40, Tryd.ntmps40
  go_wp2
  go_loopw [1, 5] (fun y i wr => ∃ (k : Nat) (ss' : List St), i = .int .i64 k ∧ y = .int .i64 (mkN (ss.take k) m : Nat) ∧ k ≤ L ∧ Mkd ss m k ss' ∧ StepsO wr B (.slice a L cap) L L ss' tv ∧ Only (.slice a L cap) tv L w wr) (fun _ i _ => L - (intOf i).toNat)
  case atStart => exact ⟨0, ss, rfl, rfl, Nat.zero_le _, ⟨rfl, fun i hi => by omega, fun i _ => rfl⟩, HO.out, Only.refl _ _ _ _⟩
  case round =>
    obtain ⟨k, ss', rfl, rfl, hk, hmk, hO, hOn⟩ := hrel
    by_cases hlt : k < L
    · obtain ⟨g, rfl⟩ : ∃ g, a = some ⟨g, 0, none⟩ := by
        rcases hgn with h0 | h0
        · omega
        · exact h0
      have hl' : ss'.length = L := by rw [hmk.len]; exact HL.out
      obtain ⟨z0, z1, z2, z3, -, -, -, -, df⟩ := hO.place hlt
      have f0 := df (k * 4)
      have f1 := df (k * 4 + 1)
      have f2 := df (k * 4 + 2)
      have htk : mkN (ss.take (k + 1)) m = mkN (ss.take k) m + 3 + (ss.getD k default).taps.length := mkN_take (by rw [HL.out]; exact hlt)
      have hle := mkN_le (ss := ss) (k + 1) m
      have hM := HM.out
      obtain ⟨p, hp⟩ : ∃ p, mkN (ss.take k) m = p := ⟨_, rfl⟩
      have HPK := Lib.hid hp
      rw [hp] at htk ⊢
      have hsk : ss'.getD k default = ss.getD k default := hmk.rest k (Nat.le_refl _)
      obtain ⟨p1, hp1⟩ : ∃ p1 : Int, (p : Int) + 1 = p1 := ⟨_, rfl⟩
      obtain ⟨p2, hp2⟩ : ∃ p2 : Int, p1 + 1 = p2 := ⟨_, rfl⟩
      obtain ⟨p3, hp3⟩ : ∃ p3 : Int, p2 + 1 = p3 := ⟨_, rfl⟩
      obtain ⟨g', cp, ta, tc, e, -, -, -, etv, d0, d1, d2, d3, -⟩ := hO.at hlt (Nat.le_refl _)
      simp only [Value.slice.injEq, Option.some.injEq, Addr.mk.injEq, and_true, true_and] at e
      obtain ⟨rfl, -⟩ := e
      obtain ⟨hO3, hg3⟩ := hO.mark3 hl' hlt (p : Int) p1 p2
      rw [hsk] at hO3 etv d0 d1 d2 d3
      obtain ⟨S, hS⟩ : ∃ S, ss.getD k default = S := ⟨_, rfl⟩
      have HSK := Lib.hid hS
      rw [hS] at hO3 htk etv d0 d1 d2 d3
      have hl3 : (ss'.set k ⟨(p : Int), p1, p2, S.taps⟩).length = L := by rw [List.length_set]; exact hl'
      have hgk : (ss'.set k ⟨(p : Int), p1, p2, S.taps⟩).getD k default = ⟨(p : Int), p1, p2, S.taps⟩ := by rw [getD_set (by omega), if_pos rfl]
      have hrow := hO3.each k hlt
      rw [hgk] at hrow
      simp only at hrow
      have MK := markInt64_any (m := p + 3) hrow (by omega) (by rw [ints_length]; omega)
      rw [show ((p + 3 : Nat) : Int) = p3 by omega, ints_length, show p + 3 + S.taps.length = mkN (ss.take (k + 1)) m by omega] at MK
      have HNX : Hid (∀ w', Row w' B 2 (tv k) (ints (marks (p + 3) S.taps.length)) →
          (((wr.setCell ⟨g, k * 4, none⟩ (.int .i64 p)).setCell ⟨g, k * 4 + 1, none⟩ (.int .i64 p1)).setCell ⟨g, k * 4 + 2, none⟩ (.int .i64 p2)).grownBy w' (tv k).ownBlock →
          ∃ ss'', Mkd ss m (k + 1) ss'' ∧ StepsO w' B (.slice (some ⟨g, 0, none⟩) L cap) L L ss'' tv ∧ Only (.slice (some ⟨g, 0, none⟩) L cap) tv L w w') := fun w' hr hg => by
        refine ⟨_, ⟨?_, fun i hi => ?_, fun i hi => ?_⟩, hO3.markT hl3 hlt (by rw [hgk]) (by rw [hgk]) (by rw [hgk]) hr hg, (hOn.trans (Only.row hg3)).trans (Only.tap hlt hg)⟩
        · rw [List.length_set, List.length_set]
          exact hmk.len
        · rw [getD_set (by omega)]
          by_cases e : i = k
          · subst e
            rw [if_pos rfl, HPK.out, HSK.out]
            unfold mkS
            rw [show ((p + 1 : Nat) : Int) = p1 by omega, show ((p + 2 : Nat) : Int) = p2 by omega]
          · rw [if_neg e, getD_set (by omega), if_neg e]
            exact hmk.done i (by omega)
        · rw [getD_set (by omega), if_neg (by omega), getD_set (by omega), if_neg (by omega)]
          exact hmk.rest i (by omega)
      obtain ⟨q, hq⟩ : ∃ q, mkN (ss.take (k + 1)) m = q := ⟨_, rfl⟩
      have HQ := Lib.hid hq
      rw [hq] at MK
      have e1 : IntKind.i64.wrap ((p : Int) + 1) = p1 := by rw [hp1]; exact IntWalk.i64_in _ (by omega)
      have e2 : IntKind.i64.wrap (p1 + 1) = p2 := by rw [hp2]; exact IntWalk.i64_in _ (by omega)
      have e3 : IntKind.i64.wrap (p2 + 1) = p3 := by rw [hp3]; exact IntWalk.i64_in _ (by omega)
      have MK := Lib.hid (MK.mono fun e w' he => And.intro he.1 (HNX.out w' he.2.1 he.2.2))
      rw [etv] at MK
      have HLT := Lib.hid hlt
      clear hO3 hg3 hrow hgk hl3 HNX hS htk hle hM hp hp1 hp2 hp3 hq hsk hl' hmk hO hOn df etv
      go_wp2_with fail
      with_reducible refine MK.out.mono ?_
      rintro e w5 ⟨rfl, ss'', hmk, hO, hOn⟩
      have HMK := Lib.hid hmk
      have HO2 := Lib.hid hO
      have HON := Lib.hid hOn
      clear hmk hO hOn MK d0 d1 d2 d3 f0 f1 f2
      go_wp2
      go_roundw
      case rel => exact ⟨k + 1, ss'', by go_num, by rw [HQ.out], HLT.out, HMK.out, HO2.out, HON.out⟩
      case measure => have := HLT.out; simp [intOf]; omega
    · have e : k = L := by omega
      subst e
      have HR : Hid (mkN (ss.take k) m = mkN ss m) := by show mkN (ss.take k) m = mkN ss m; rw [← HL.out, List.take_length]
      have HMK := Lib.hid hmk
      have HO2 := Lib.hid hO
      have HON := Lib.hid hOn
      rw [HR.out]
      clear hmk hO hOn
      go_wp2
      go_ret
      exact ⟨rfl, ⟨ss', HMK.out, HO2.out⟩, HON.out⟩

end Go.Proofs.YtajopgffnfahjaaDoor
/-
  Marks on steps that are found again: heldStepS; markPlan, heldPlan.
-/
set_option linter.unusedVariables false
set_option linter.unusedSimpArgs false
namespace Go.Proofs.YtajopgffnfahjaaDoor
open Go.RowKit

set_option maxRecDepth 100000 in
set_option maxHeartbeats 4000000 in
theorem heldStepS_any {w : World} {B : Nat} {V : Value} {ss ss' : List St} {tv : Nat → Value} (h : StepsO w B V ss.length ss.length ss' tv) {m : Nat} (hk : Mkd ss m ss.length ss') (hm : mkN ss m ≤ 10000000000000) :
    Calls Tryd.prog 41 #[V, .int .i64 m] w fun e w' => e = .returned (.int .i64 (mkN ss m)) ∧ w' = w := by
  obtain ⟨L, hL⟩ : ∃ L, ss.length = L := ⟨_, rfl⟩
  obtain ⟨a, cap, rfl⟩ := h.form
  have hmax : (L : Int) ≤ 9223372036854775807 := by
    by_cases h0 : L = 0
    · omega
    · obtain ⟨g, cp, aa, cc, e, hc, hm, _⟩ := h.at (j := 0) (by omega) (Nat.le_refl _)
      unfold maxLen at hm
      omega
  have HM := Lib.hid hm
  have HL := Lib.hid hL
  rw [hL] at h hk ⊢
  have HO := Lib.hid h
  have HMK := Lib.hid hk
  clear h hL hm hk
  go_enter Tryd.func41, Tryd.ntmps41
  go_wp2
  go_loopw [1, 5] (fun y i wr => ∃ (k : Nat), i = .int .i64 k ∧ y = .int .i64 (mkN (ss.take k) m : Nat) ∧ k ≤ L ∧ wr = w) (fun _ i _ => L - (intOf i).toNat)
  case atStart => exact ⟨0, rfl, rfl, Nat.zero_le _, rfl⟩
  case round =>
    obtain ⟨k, rfl, rfl, hk, rfl⟩ := hrel
    by_cases hlt : k < L
    · have htk : mkN (ss.take (k + 1)) m = mkN (ss.take k) m + 3 + (ss.getD k default).taps.length := mkN_take (by rw [HL.out]; exact hlt)
      have hle := mkN_le (ss := ss) (k + 1) m
      have hM := HM.out
      obtain ⟨p, hp⟩ : ∃ p, mkN (ss.take k) m = p := ⟨_, rfl⟩
      have hsk := HMK.out.done k hlt
      rw [hp] at htk hsk ⊢
      obtain ⟨p1, hp1⟩ : ∃ p1 : Int, (p : Int) + 1 = p1 := ⟨_, rfl⟩
      obtain ⟨p2, hp2⟩ : ∃ p2 : Int, p1 + 1 = p2 := ⟨_, rfl⟩
      obtain ⟨p3, hp3⟩ : ∃ p3 : Int, p2 + 1 = p3 := ⟨_, rfl⟩
      obtain ⟨g, cp, ta, tc, e, -, -, -, -, d0, d1, d2, d3, hr⟩ := HO.out.at hlt (Nat.le_refl _)
      simp only [Value.slice.injEq] at e
      obtain ⟨rfl, -, rfl⟩ := e
      rw [hsk] at d0 d1 d2 d3 hr
      simp only [mkS, marks_length] at d0 d1 d2 d3 hr
      obtain ⟨T, hT⟩ : ∃ T, (ss.getD k default).taps.length = T := ⟨_, rfl⟩
      rw [hT] at htk d3 hr
      rw [show ((p + 1 : Nat) : Int) = p1 by omega] at d1
      rw [show ((p + 2 : Nat) : Int) = p2 by omega] at d2
      have MK := heldInt64_any (m := p + 3) hr.reads (by omega) (by omega)
      rw [show ((p + 3 : Nat) : Int) = p3 by omega, show p + 3 + T = mkN (ss.take (k + 1)) m by omega] at MK
      obtain ⟨q, hq⟩ : ∃ q, mkN (ss.take (k + 1)) m = q := ⟨_, rfl⟩
      have HQ := Lib.hid hq
      rw [hq] at MK
      have e1 : IntKind.i64.wrap ((p : Int) + 1) = p1 := by rw [hp1]; exact IntWalk.i64_in _ (by omega)
      have e2 : IntKind.i64.wrap (p1 + 1) = p2 := by rw [hp2]; exact IntWalk.i64_in _ (by omega)
      have e3 : IntKind.i64.wrap (p2 + 1) = p3 := by rw [hp3]; exact IntWalk.i64_in _ (by omega)
      have MK := Lib.hid MK
      have HLT := Lib.hid hlt
      have gq : decide ((q : Int) < 0) = false := decide_eq_false (by omega)
      clear hr hT htk hle hM hp hp1 hp2 hp3 hq hsk
      go_wp2_with fail
      with_reducible refine MK.out.mono ?_
      rintro e w5 ⟨rfl, rfl⟩
      clear MK d0 d1 d2 d3
      go_wp2
      go_roundw
      case rel => exact ⟨k + 1, by go_num, by rw [HQ.out], HLT.out, (by first | rfl | trivial)⟩
      case measure => have := HLT.out; simp [intOf]; omega
    · have e : k = L := by omega
      subst e
      have HR : Hid (mkN (ss.take k) m = mkN ss m) := by show mkN (ss.take k) m = mkN ss m; rw [← HL.out, List.take_length]
      rw [HR.out]
      go_wp2
      go_ret
      exact ⟨rfl, rfl⟩

set_option maxRecDepth 100000 in
theorem markPlan_any {w : World} {B : Nat} {V : Value} {ss : List St} {tv : Nat → Value} (h : StepsO w B V ss.length ss.length ss tv) {m : Nat} (hm : mkN ss m ≤ 10000000000000) :
    Calls Tryd.prog 13 #[.agg #[V], .int .i64 m] w fun e w' => e = .returned (.int .i64 (mkN ss m)) ∧ (∃ ss', Mkd ss m ss.length ss' ∧ StepsO w' B V ss.length ss.length ss' tv) ∧ Only V tv ss.length w w' := by
  obtain ⟨a, cap, rfl⟩ := h.form
  have hb : Below w.heap.size w (w.alloc (.cells #[.slice a ss.length cap] 28)) := (Below.refl _ _).alloc (Nat.le_refl _) _
  have MS := markStepS_any (h.below hb (Nat.le_refl _)) hm
  have HOn : Hid (Only (.slice a ss.length cap) tv ss.length w (w.alloc (.cells #[.slice a ss.length cap] 28))) := ⟨hb.os, hb.tape, hb.output, hb.size, fun b hb1 _ _ => hb.block b hb1⟩
  have MS := Lib.hid MS
  obtain ⟨N, hN⟩ : ∃ N, mkN ss m = N := ⟨_, rfl⟩
  rw [hN] at MS ⊢
  clear h hb hN hm
  go_enter Tryd.func13, Tryd.ntmps13
  go_wp2_with fail
  with_reducible refine MS.out.mono ?_
  rintro e w5 ⟨rfl, hm, hO⟩
  have HM := Lib.hid hm
  have HO := Lib.hid (HOn.out.trans hO)
  clear hm hO
  go_wp2
  go_ret
  exact ⟨rfl, HM.out, HO.out⟩

set_option maxRecDepth 100000 in
theorem heldPlan_any {w : World} {B : Nat} {V : Value} {ss ss' : List St} {tv : Nat → Value} (h : StepsO w B V ss.length ss.length ss' tv) {m : Nat} (hk : Mkd ss m ss.length ss') (hm : mkN ss m ≤ 10000000000000) :
    Calls Tryd.prog 14 #[.agg #[V], .int .i64 m] w fun e w' => e = .returned (.int .i64 (mkN ss m)) ∧ Below w.heap.size w w' := by
  obtain ⟨a, cap, rfl⟩ := h.form
  have hb : Below w.heap.size w (w.alloc (.cells #[.slice a ss.length cap] 28)) := (Below.refl _ _).alloc (Nat.le_refl _) _
  have MS := Lib.hid (heldStepS_any (h.below hb (Nat.le_refl _)) hk hm)
  have HB := Lib.hid hb
  obtain ⟨N, hN⟩ : ∃ N, mkN ss m = N := ⟨_, rfl⟩
  rw [hN] at MS ⊢
  have gN : decide ((N : Int) < 0) = false := decide_eq_false (by omega)
  clear h hb hN hm hk
  go_enter Tryd.func14, Tryd.ntmps14
  go_wp2_with fail
  with_reducible refine MS.out.mono ?_
  rintro e w5 ⟨rfl, rfl⟩
  go_wp2
  go_ret
  exact ⟨rfl, HB.out⟩

end Go.Proofs.YtajopgffnfahjaaDoor
/-
  Which steps are valid: the model.
-/
set_option linter.unusedVariables false
set_option linter.unusedSimpArgs false
namespace Go.Proofs.YtajopgffnfahjaaDoor
open Go.RowKit

def inZ (z lo hi : Int) : Bool := decide (lo ≤ z) && decide (z ≤ hi)
theorem inZ_t {z lo hi : Int} (h : lo ≤ z ∧ z ≤ hi) : inZ z lo hi = true := by simp [inZ, h.1, h.2]
theorem inZ_f {z lo hi : Int} (h : ¬ (lo ≤ z ∧ z ≤ hi)) : inZ z lo hi = false := by
  simp only [inZ, Bool.and_eq_false_iff, decide_eq_false_iff_not]
  omega
theorem inZ_iff {z lo hi : Int} : inZ z lo hi = true ↔ lo ≤ z ∧ z ≤ hi := by simp [inZ]
/-- Numbers that gains and taps can be. -/
def partsB (zs : List Int) : Bool := zs.all fun z => inZ z (-256) 256

/-- Which steps are valid. -/
def validSt (s : St) : Bool :=
  if s.kind = 1 then s.taps.isEmpty && (inZ s.n (-256) 256 && inZ s.k (-256) 256)
  else if s.kind = 2 then s.taps.isEmpty && decide (s.k = 0) && inZ s.n 0 300
  else if s.kind = 3 then decide (s.n = 0) && decide (s.k = 0) && (inZ s.taps.length 1 8 && partsB s.taps)
  else if s.kind = 4 then s.taps.isEmpty && (inZ s.n 1 1024 && inZ s.k 0 (s.n - 1))
  else if s.kind = 5 ∨ s.kind = 6 then s.taps.isEmpty && decide (s.k = 0) && inZ s.n 1 64
  else if s.kind = 7 ∨ s.kind = 8 ∨ s.kind = 9 ∨ s.kind = 10 then s.taps.isEmpty && decide (s.k = 0) && inZ s.n 1 16
  else if s.kind = 11 ∨ s.kind = 12 ∨ s.kind = 13 then s.taps.isEmpty && decide (s.k = 0) && decide (s.n = 0)
  else false

theorem in_any (n lo hi : Int) (w : World) :
    Calls Tryd.prog 83 #[.int .i64 n, .int .i64 lo, .int .i64 hi] w fun e w' => e = .returned (.bool (inZ n lo hi)) ∧ w' = w := by
  by_cases h1 : lo ≤ n
  · by_cases h2 : n ≤ hi
    · rw [inZ_t ⟨h1, h2⟩]
      go_enter Tryd.func83, Tryd.ntmps83
      go_wp2
      go_ret
      exact ⟨rfl, rfl⟩
    · have g : decide (n ≤ hi) = false := decide_eq_false h2
      rw [inZ_f (fun h => h2 h.2)]
      clear h2
      go_enter Tryd.func83, Tryd.ntmps83
      go_wp2
      go_ret
      exact ⟨rfl, rfl⟩
  · have h2 : n < lo := by omega
    rw [inZ_f (fun h => h1 h.1)]
    clear h1
    go_enter Tryd.func83, Tryd.ntmps83
    go_wp2
    go_ret
    exact ⟨rfl, rfl⟩

set_option maxRecDepth 100000 in
set_option maxHeartbeats 4000000 in
theorem partsM_any {v : Value} {zs : List Int} {w : World} (h : Reads w v (ints zs)) :
    Calls Tryd.prog 84 #[v] w fun e w' => e = .returned (.bool (partsB zs)) ∧ w' = w := by
  generalize hcs : ints zs = cs at h
  cases h with
  | none a cap =>
    have : zs = [] := by simpa [ints] using hcs
    subst this
    clear hcs
    go_enter Tryd.func84, Tryd.ntmps84
    go_wp2
    refine wp_loop_rounds 1 ?_
    rw [rounds_succ]
    go_wp2
    go_ret
    exact ⟨rfl, rfl⟩
  | row g cap L cs hL h0 hc hm hcell =>
    have hmax := maxLen_int (Nat.le_trans hc hm)
    have hlen : zs.length = L := by rw [← hL, ← hcs, ints_length]
    have HC : Hid (∀ j, j < L → w.cell? ⟨g, j, none⟩ = some (.int .i64 (zs.getD j 0))) := fun j hj => by rw [hcell j hj, ← hcs, ints_getD (by omega)]
    have HL := Lib.hid hlen
    have HP : Hid (∀ j, j < L → inZ (zs.getD j 0) (-256) 256 = false → partsB zs = false) := fun j hj hf => by
      have hl2 : j < zs.length := by have := hlen; omega
      cases hp : partsB zs with
      | false => rfl
      | true =>
        exfalso
        have := List.all_eq_true.1 hp zs[j] (List.getElem_mem _)
        rw [List.getD_eq_getElem?_getD, List.getElem?_eq_getElem hl2] at hf
        simp only [Option.getD_some] at hf
        rw [hf] at this
        cases this
    have HQ : Hid ((∀ j, j < L → inZ (zs.getD j 0) (-256) 256 = true) → partsB zs = true) := fun hall => by
      refine List.all_eq_true.2 fun z hz => ?_
      obtain ⟨j, hj, rfl⟩ := List.getElem_of_mem hz
      have := hall j (by have := hlen; omega)
      rwa [List.getD_eq_getElem?_getD, List.getElem?_eq_getElem hj] at this
    clear hcell h0 hL hcs hlen hm hc
    obtain ⟨pb, hpb⟩ : ∃ b, partsB zs = b := ⟨_, rfl⟩
    rw [hpb] at HP HQ ⊢
    clear hpb
    go_enter Tryd.func84, Tryd.ntmps84
    go_wp2
    go_loopw [3] (fun i wr => ∃ k : Nat, i = .int .i64 k ∧ k ≤ L ∧ (∀ j, j < k → inZ (zs.getD j 0) (-256) 256 = true) ∧ wr = w) (fun i _ => L - (intOf i).toNat)
    case atStart => exact ⟨0, rfl, Nat.zero_le _, fun j hj => by omega, rfl⟩
    case round =>
      obtain ⟨k, rfl, hk, hj, rfl⟩ := hrel
      have HJ := Lib.hid hj
      clear hj
      by_cases hlt : k < L
      · have c1 := HC.out k hlt
        obtain ⟨z, hz⟩ : ∃ z, zs.getD k 0 = z := ⟨_, rfl⟩
        have HZ := Lib.hid hz
        rw [hz] at c1
        clear hz
        go_wp2_with fail
        refine (in_any z (-256) 256 _).mono ?_
        rintro e w' ⟨rfl, rfl⟩
        obtain ⟨b, hb⟩ : ∃ b, inZ z (-256) 256 = b := ⟨_, rfl⟩
        rw [hb]
        have HB := Lib.hid hb
        clear hb
        cases b
        · have e : pb = false := HP.out k hlt (by rw [HZ.out]; exact HB.out)
          subst e
          go_wp2
          go_ret
          exact ⟨rfl, rfl⟩
        · have HK : Hid (∀ j, j < k + 1 → inZ (zs.getD j 0) (-256) 256 = true) := fun j hj => by
            by_cases e : j = k
            · rw [e, HZ.out]; exact HB.out
            · exact HJ.out j (by omega)
          go_wp2
          go_roundw
          case rel => exact ⟨k + 1, by go_num, by omega, HK.out, (by first | rfl | trivial)⟩
          case measure => simp [intOf]; omega
      · have e : k = L := by omega
        subst e
        have e : pb = true := HQ.out HJ.out
        subst e
        go_wp2
        go_ret
        exact ⟨rfl, rfl⟩

theorem turnCode_any (n k : Int) (w : World) :
    Calls Tryd.prog 85 #[.int .i64 n, .int .i64 k] w fun e w' => e = .returned (.int .i64 (if inZ n 1 1024 && inZ k 0 (n - 1) then 0 else 2)) ∧ w' = w := by
  obtain ⟨b, hb⟩ : ∃ b, inZ n 1 1024 = b := ⟨_, rfl⟩
  have I1 := Lib.hid (fun w => in_any n 1 1024 w)
  rw [hb] at I1 ⊢
  cases b
  · clear hb
    go_enter Tryd.func85, Tryd.ntmps85
    go_wp2_with fail
    refine (I1.out _).mono ?_
    rintro e w' ⟨rfl, rfl⟩
    go_wp2
    go_ret
    exact ⟨rfl, rfl⟩
  · have h1 := inZ_iff.1 hb
    have eW : IntKind.i64.wrap (n - 1) = n - 1 := IntWalk.i64_in _ (by omega)
    obtain ⟨c, hc⟩ : ∃ c, inZ k 0 (n - 1) = c := ⟨_, rfl⟩
    have I2 := Lib.hid (fun w => in_any k 0 (n - 1) w)
    rw [hc] at I2 ⊢
    clear hb hc h1
    cases c
    all_goals
      go_enter Tryd.func85, Tryd.ntmps85
      go_wp2_with fail
      refine (I1.out _).mono ?_
      rintro e w' ⟨rfl, rfl⟩
      go_wp2_with fail
      refine (I2.out _).mono ?_
      rintro e w' ⟨rfl, rfl⟩
      go_wp2
      go_ret
      exact ⟨rfl, rfl⟩

end Go.Proofs.YtajopgffnfahjaaDoor
/-
  Which steps are valid: the table of the model.
-/
set_option linter.unusedVariables false
set_option linter.unusedSimpArgs false
namespace Go.Proofs.YtajopgffnfahjaaDoor
open Go.RowKit

/-- Where a step lies, as a pointer to it reads. -/
structure StepAt (w : World) (g o : Nat) (kd n k : Int) (a : Option Addr) (L c : Nat) : Prop where
  c0 : w.cell? ⟨g, o, none⟩ = some (.int .i64 kd)
  c1 : w.cell? ⟨g, o + 1, none⟩ = some (.int .i64 n)
  c2 : w.cell? ⟨g, o + 2, none⟩ = some (.int .i64 k)
  c3 : w.cell? ⟨g, o + 3, none⟩ = some (.slice a L c)

theorem StepAt.below {w w' : World} {g o : Nat} {kd n k : Int} {a : Option Addr} {L c : Nat} (h : StepAt w g o kd n k a L c) (hb : Below w.heap.size w w') : StepAt w' g o kd n k a L c := by
  have hg : g < w.heap.size := World.block_lt_of_cell? _ _ h.c0
  exact ⟨by rw [hb.cell (by exact hg)]; exact h.c0, by rw [hb.cell (by exact hg)]; exact h.c1, by rw [hb.cell (by exact hg)]; exact h.c2, by rw [hb.cell (by exact hg)]; exact h.c3⟩

/-- How many numbers the text of a kind mentions. -/
def toldL : List Int := [0, 2, 1, -1, 2, 1, 1, 1, 1, 1, 1, 0, 0, 0]

set_option maxRecDepth 100000 in
set_option maxHeartbeats 4000000 in
theorem words_any (w : World) :
    Calls Tryd.prog 45 #[] w fun e w' => ∃ V b, e = .returned (.tuple #[V, .slice (some ⟨b, 0, none⟩) 14 14]) ∧ (∀ j, j < 14 → w'.cell? ⟨b, j, none⟩ = some (.int .i64 (toldL.getD j 0))) ∧ Below w.heap.size w w' := by
  go_enter Tryd.func45, Tryd.ntmps45
  go_wp2
  go_ret2
  refine ⟨_, _, rfl, ?_, ((Below.refl _ _).alloc (Nat.le_refl _) _).alloc (by simp) _⟩
  intro j hj
  rcases j with _ | _ | _ | _ | _ | _ | _ | _ | _ | _ | _ | _ | _ | _ | j
  all_goals first | omega | (unfold toldL; go_simp; done) | (unfold toldL; go_simp; rfl)

end Go.Proofs.YtajopgffnfahjaaDoor
/-
  Which steps are valid: the model's l07Step, kind by kind (written by genval.py).
-/
set_option linter.unusedVariables false
set_option linter.unusedSimpArgs false
namespace Go.Proofs.YtajopgffnfahjaaDoor
open Go.RowKit

set_option maxRecDepth 100000 in
set_option maxHeartbeats 4000000 in
theorem l07Step_1_l (n k : Int) (a : Option Addr) (L c g o : Nat) (hL : L ≤ 9223372036854775807) (w : World) (h : StepAt w g o 1 n k a L c) (h0 : ¬ L = 0) :
    Calls Tryd.prog 47 #[.pointer (some ⟨g, o, none⟩)] w fun e w' => e = .returned (.bool false) ∧ Below w.heap.size w w' := by
  have H := Lib.hid h
  obtain ⟨c0, c1, c2, c3⟩ := h
  go_enter Tryd.func47, Tryd.ntmps47
  go_wp2_with fail
  refine (in_any 1 1 13 _).mono ?_
  rintro e w' ⟨rfl, rfl⟩
  rw [show inZ 1 1 13 = true from rfl]
  go_wp2_with fail
  refine (words_any _).mono ?_
  rintro e w1 ⟨V, b, rfl, ht, hb1⟩
  have tk := ht 1 (by decide)
  rw [show toldL.getD 1 0 = 2 from rfl] at tk
  have H1 := Lib.hid (H.out.below hb1)
  have HB := Lib.hid hb1
  clear ht hb1 c0 c1 c2 c3
  obtain ⟨c0, c1, c2, c3⟩ := H1.out
  have hLi : 0 < (L : Int) := by omega
  go_wp2
  go_ret
  exact ⟨rfl, HB.out⟩

set_option maxRecDepth 100000 in
set_option maxHeartbeats 4000000 in
theorem l07Step_1_t (n k : Int) (a : Option Addr) (L c g o : Nat) (hL : L ≤ 9223372036854775807) (w : World) (h : StepAt w g o 1 n k a L c) (hl : L = 0) :
    Calls Tryd.prog 47 #[.pointer (some ⟨g, o, none⟩)] w fun e w' => e = .returned (.bool (inZ n (-256) 256 && inZ k (-256) 256)) ∧ Below w.heap.size w w' := by
  subst hl
  have hP : partsB [n, k] = (inZ n (-256) 256 && inZ k (-256) 256) := by simp [partsB]
  obtain ⟨v, hv⟩ : ∃ v, (inZ n (-256) 256 && inZ k (-256) 256) = v := ⟨_, rfl⟩
  rw [hv] at hP ⊢
  clear hv
  have H := Lib.hid h
  obtain ⟨c0, c1, c2, c3⟩ := h
  go_enter Tryd.func47, Tryd.ntmps47
  go_wp2_with fail
  refine (in_any 1 1 13 _).mono ?_
  rintro e w' ⟨rfl, rfl⟩
  rw [show inZ 1 1 13 = true from rfl]
  go_wp2_with fail
  refine (words_any _).mono ?_
  rintro e w1 ⟨V, b, rfl, ht, hb1⟩
  have tk := ht 1 (by decide)
  rw [show toldL.getD 1 0 = 2 from rfl] at tk
  have H1 := Lib.hid (H.out.below hb1)
  have HB := Lib.hid hb1
  clear ht hb1 c0 c1 c2 c3
  obtain ⟨c0, c1, c2, c3⟩ := H1.out
  go_wp2
  go_still_tail 8, (by kernel_rfl)
  change wpList _ _ _ _ _ w1.drew
  go_wp2_with fail
  refine (partsM_any (zs := [n, k]) (.row _ 2 2 _ rfl (by decide) (by decide) (by simp [maxLen]) ?_)).mono ?_
  · intro j hj
    rcases j with _ | _ | j
    · go_simp; rfl
    · go_simp; rfl
    · omega
  rintro e w2 ⟨rfl, rfl⟩
  rw [hP]
  go_wp2
  go_ret
  exact ⟨rfl, (below_draws HB.out 1).alloc HB.out.size _⟩

set_option maxRecDepth 100000 in
set_option maxHeartbeats 4000000 in
theorem l07Step_2_k (n k : Int) (a : Option Addr) (L c g o : Nat) (hL : L ≤ 9223372036854775807) (w : World) (h : StepAt w g o 2 n k a L c) (h0 : ¬ k = 0) :
    Calls Tryd.prog 47 #[.pointer (some ⟨g, o, none⟩)] w fun e w' => e = .returned (.bool false) ∧ Below w.heap.size w w' := by
  have H := Lib.hid h
  obtain ⟨c0, c1, c2, c3⟩ := h
  go_enter Tryd.func47, Tryd.ntmps47
  go_wp2_with fail
  refine (in_any 2 1 13 _).mono ?_
  rintro e w' ⟨rfl, rfl⟩
  rw [show inZ 2 1 13 = true from rfl]
  go_wp2_with fail
  refine (words_any _).mono ?_
  rintro e w1 ⟨V, b, rfl, ht, hb1⟩
  have tk := ht 2 (by decide)
  rw [show toldL.getD 2 0 = 1 from rfl] at tk
  have H1 := Lib.hid (H.out.below hb1)
  have HB := Lib.hid hb1
  clear ht hb1 c0 c1 c2 c3
  obtain ⟨c0, c1, c2, c3⟩ := H1.out
  go_wp2
  go_ret
  exact ⟨rfl, HB.out⟩

set_option maxRecDepth 100000 in
set_option maxHeartbeats 4000000 in
theorem l07Step_2_l (n k : Int) (a : Option Addr) (L c g o : Nat) (hL : L ≤ 9223372036854775807) (w : World) (h : StepAt w g o 2 n k a L c) (hk : k = 0) (h0 : ¬ L = 0) :
    Calls Tryd.prog 47 #[.pointer (some ⟨g, o, none⟩)] w fun e w' => e = .returned (.bool false) ∧ Below w.heap.size w w' := by
  subst hk
  have H := Lib.hid h
  obtain ⟨c0, c1, c2, c3⟩ := h
  go_enter Tryd.func47, Tryd.ntmps47
  go_wp2_with fail
  refine (in_any 2 1 13 _).mono ?_
  rintro e w' ⟨rfl, rfl⟩
  rw [show inZ 2 1 13 = true from rfl]
  go_wp2_with fail
  refine (words_any _).mono ?_
  rintro e w1 ⟨V, b, rfl, ht, hb1⟩
  have tk := ht 2 (by decide)
  rw [show toldL.getD 2 0 = 1 from rfl] at tk
  have H1 := Lib.hid (H.out.below hb1)
  have HB := Lib.hid hb1
  clear ht hb1 c0 c1 c2 c3
  obtain ⟨c0, c1, c2, c3⟩ := H1.out
  have hLi : 0 < (L : Int) := by omega
  go_wp2
  go_ret
  exact ⟨rfl, HB.out⟩

set_option maxRecDepth 100000 in
set_option maxHeartbeats 4000000 in
theorem l07Step_2_t (n k : Int) (a : Option Addr) (L c g o : Nat) (hL : L ≤ 9223372036854775807) (w : World) (h : StepAt w g o 2 n k a L c) (hk : k = 0) (hl : L = 0) :
    Calls Tryd.prog 47 #[.pointer (some ⟨g, o, none⟩)] w fun e w' => e = .returned (.bool (inZ n 0 300)) ∧ Below w.heap.size w w' := by
  subst hk
  subst hl
  have I := Lib.hid (fun w => in_any n 0 300 w)
  obtain ⟨v, hv⟩ : ∃ v, inZ n 0 300 = v := ⟨_, rfl⟩
  rw [hv] at I ⊢
  clear hv
  have H := Lib.hid h
  obtain ⟨c0, c1, c2, c3⟩ := h
  go_enter Tryd.func47, Tryd.ntmps47
  go_wp2_with fail
  refine (in_any 2 1 13 _).mono ?_
  rintro e w' ⟨rfl, rfl⟩
  rw [show inZ 2 1 13 = true from rfl]
  go_wp2_with fail
  refine (words_any _).mono ?_
  rintro e w1 ⟨V, b, rfl, ht, hb1⟩
  have tk := ht 2 (by decide)
  rw [show toldL.getD 2 0 = 1 from rfl] at tk
  have H1 := Lib.hid (H.out.below hb1)
  have HB := Lib.hid hb1
  clear ht hb1 c0 c1 c2 c3
  obtain ⟨c0, c1, c2, c3⟩ := H1.out
  go_wp2_with fail
  refine (I.out _).mono ?_
  rintro e w2 ⟨rfl, rfl⟩
  go_wp2
  go_ret
  exact ⟨rfl, HB.out⟩

set_option maxRecDepth 100000 in
set_option maxHeartbeats 4000000 in
theorem l07Step_3_k (n k : Int) (a : Option Addr) (L c g o : Nat) (hL : L ≤ 9223372036854775807) (w : World) (h : StepAt w g o 3 n k a L c) (h0 : ¬ k = 0) :
    Calls Tryd.prog 47 #[.pointer (some ⟨g, o, none⟩)] w fun e w' => e = .returned (.bool false) ∧ Below w.heap.size w w' := by
  have H := Lib.hid h
  obtain ⟨c0, c1, c2, c3⟩ := h
  go_enter Tryd.func47, Tryd.ntmps47
  go_wp2_with fail
  refine (in_any 3 1 13 _).mono ?_
  rintro e w' ⟨rfl, rfl⟩
  rw [show inZ 3 1 13 = true from rfl]
  go_wp2_with fail
  refine (words_any _).mono ?_
  rintro e w1 ⟨V, b, rfl, ht, hb1⟩
  have tk := ht 3 (by decide)
  rw [show toldL.getD 3 0 = -1 from rfl] at tk
  have H1 := Lib.hid (H.out.below hb1)
  have HB := Lib.hid hb1
  clear ht hb1 c0 c1 c2 c3
  obtain ⟨c0, c1, c2, c3⟩ := H1.out
  go_wp2
  go_ret
  exact ⟨rfl, HB.out⟩

set_option maxRecDepth 100000 in
set_option maxHeartbeats 4000000 in
theorem l07Step_3_n (n k : Int) (a : Option Addr) (L c g o : Nat) (hL : L ≤ 9223372036854775807) (w : World) (h : StepAt w g o 3 n k a L c) (hk : k = 0) (h0 : ¬ n = 0) :
    Calls Tryd.prog 47 #[.pointer (some ⟨g, o, none⟩)] w fun e w' => e = .returned (.bool false) ∧ Below w.heap.size w w' := by
  subst hk
  have H := Lib.hid h
  obtain ⟨c0, c1, c2, c3⟩ := h
  go_enter Tryd.func47, Tryd.ntmps47
  go_wp2_with fail
  refine (in_any 3 1 13 _).mono ?_
  rintro e w' ⟨rfl, rfl⟩
  rw [show inZ 3 1 13 = true from rfl]
  go_wp2_with fail
  refine (words_any _).mono ?_
  rintro e w1 ⟨V, b, rfl, ht, hb1⟩
  have tk := ht 3 (by decide)
  rw [show toldL.getD 3 0 = -1 from rfl] at tk
  have H1 := Lib.hid (H.out.below hb1)
  have HB := Lib.hid hb1
  clear ht hb1 c0 c1 c2 c3
  obtain ⟨c0, c1, c2, c3⟩ := H1.out
  go_wp2
  go_ret
  exact ⟨rfl, HB.out⟩

set_option maxRecDepth 100000 in
set_option maxHeartbeats 4000000 in
theorem l07Step_3_t (n k : Int) (a : Option Addr) (L c g o : Nat) (hL : L ≤ 9223372036854775807) (w : World) (h : StepAt w g o 3 n k a L c) (hk : k = 0) (hn : n = 0) (zs : List Int) (hr : ∀ w1, Below w.heap.size w w1 → Reads w1 (.slice a L c) (ints zs)) :
    Calls Tryd.prog 47 #[.pointer (some ⟨g, o, none⟩)] w fun e w' => e = .returned (.bool (inZ L 1 8 && partsB zs)) ∧ Below w.heap.size w w' := by
  subst hk
  subst hn
  have I := Lib.hid (fun w => in_any L 1 8 w)
  have P0 := Lib.hid (fun w1 (hb : Below w.heap.size w w1) => partsM_any (hr w1 hb))
  clear hr
  obtain ⟨v, hv⟩ : ∃ v, inZ L 1 8 = v := ⟨_, rfl⟩
  obtain ⟨u, hu⟩ : ∃ u, partsB zs = u := ⟨_, rfl⟩
  rw [hv] at I ⊢
  rw [hu] at P0 ⊢
  clear hv hu
  have H := Lib.hid h
  obtain ⟨c0, c1, c2, c3⟩ := h
  go_enter Tryd.func47, Tryd.ntmps47
  go_wp2_with fail
  refine (in_any 3 1 13 _).mono ?_
  rintro e w' ⟨rfl, rfl⟩
  rw [show inZ 3 1 13 = true from rfl]
  go_wp2_with fail
  refine (words_any _).mono ?_
  rintro e w1 ⟨V, b, rfl, ht, hb1⟩
  have tk := ht 3 (by decide)
  rw [show toldL.getD 3 0 = -1 from rfl] at tk
  have H1 := Lib.hid (H.out.below hb1)
  have HB := Lib.hid hb1
  clear ht hb1 c0 c1 c2 c3
  obtain ⟨c0, c1, c2, c3⟩ := H1.out
  go_wp2_with fail
  refine (I.out _).mono ?_
  rintro e w2 ⟨rfl, rfl⟩
  have P := Lib.hid (P0.out w2 HB.out)
  cases v
  · go_wp2
    go_ret
    exact ⟨rfl, HB.out⟩
  · go_wp2_with fail
    refine P.out.mono ?_
    rintro e w2 ⟨rfl, rfl⟩
    go_wp2
    go_ret
    exact ⟨rfl, HB.out⟩

set_option maxRecDepth 100000 in
set_option maxHeartbeats 4000000 in
theorem l07Step_4_l (n k : Int) (a : Option Addr) (L c g o : Nat) (hL : L ≤ 9223372036854775807) (w : World) (h : StepAt w g o 4 n k a L c) (h0 : ¬ L = 0) :
    Calls Tryd.prog 47 #[.pointer (some ⟨g, o, none⟩)] w fun e w' => e = .returned (.bool false) ∧ Below w.heap.size w w' := by
  have H := Lib.hid h
  obtain ⟨c0, c1, c2, c3⟩ := h
  go_enter Tryd.func47, Tryd.ntmps47
  go_wp2_with fail
  refine (in_any 4 1 13 _).mono ?_
  rintro e w' ⟨rfl, rfl⟩
  rw [show inZ 4 1 13 = true from rfl]
  go_wp2_with fail
  refine (words_any _).mono ?_
  rintro e w1 ⟨V, b, rfl, ht, hb1⟩
  have tk := ht 4 (by decide)
  rw [show toldL.getD 4 0 = 2 from rfl] at tk
  have H1 := Lib.hid (H.out.below hb1)
  have HB := Lib.hid hb1
  clear ht hb1 c0 c1 c2 c3
  obtain ⟨c0, c1, c2, c3⟩ := H1.out
  have hLi : 0 < (L : Int) := by omega
  go_wp2
  go_ret
  exact ⟨rfl, HB.out⟩

set_option maxRecDepth 100000 in
set_option maxHeartbeats 4000000 in
theorem l07Step_4_true (n k : Int) (a : Option Addr) (L c g o : Nat) (hL : L ≤ 9223372036854775807) (w : World) (h : StepAt w g o 4 n k a L c) (hl : L = 0) (hv : (inZ n 1 1024 && inZ k 0 (n - 1)) = true) :
    Calls Tryd.prog 47 #[.pointer (some ⟨g, o, none⟩)] w fun e w' => e = .returned (.bool true) ∧ Below w.heap.size w w' := by
  subst hl
  have T := Lib.hid (fun w => turnCode_any n k w)
  simp only [hv, if_true, Bool.false_eq_true, if_false] at T
  clear hv
  have H := Lib.hid h
  obtain ⟨c0, c1, c2, c3⟩ := h
  go_enter Tryd.func47, Tryd.ntmps47
  go_wp2_with fail
  refine (in_any 4 1 13 _).mono ?_
  rintro e w' ⟨rfl, rfl⟩
  rw [show inZ 4 1 13 = true from rfl]
  go_wp2_with fail
  refine (words_any _).mono ?_
  rintro e w1 ⟨V, b, rfl, ht, hb1⟩
  have tk := ht 4 (by decide)
  rw [show toldL.getD 4 0 = 2 from rfl] at tk
  have H1 := Lib.hid (H.out.below hb1)
  have HB := Lib.hid hb1
  clear ht hb1 c0 c1 c2 c3
  obtain ⟨c0, c1, c2, c3⟩ := H1.out
  go_wp2
  go_quiet ((go_at_call 85; exact Calls.quiet_of_same (T.out _)))
  go_wp2
  go_ret
  exact ⟨rfl, below_draws HB.out _⟩

set_option maxRecDepth 100000 in
set_option maxHeartbeats 4000000 in
theorem l07Step_4_false (n k : Int) (a : Option Addr) (L c g o : Nat) (hL : L ≤ 9223372036854775807) (w : World) (h : StepAt w g o 4 n k a L c) (hl : L = 0) (hv : (inZ n 1 1024 && inZ k 0 (n - 1)) = false) :
    Calls Tryd.prog 47 #[.pointer (some ⟨g, o, none⟩)] w fun e w' => e = .returned (.bool false) ∧ Below w.heap.size w w' := by
  subst hl
  have T := Lib.hid (fun w => turnCode_any n k w)
  simp only [hv, if_true, Bool.false_eq_true, if_false] at T
  clear hv
  have H := Lib.hid h
  obtain ⟨c0, c1, c2, c3⟩ := h
  go_enter Tryd.func47, Tryd.ntmps47
  go_wp2_with fail
  refine (in_any 4 1 13 _).mono ?_
  rintro e w' ⟨rfl, rfl⟩
  rw [show inZ 4 1 13 = true from rfl]
  go_wp2_with fail
  refine (words_any _).mono ?_
  rintro e w1 ⟨V, b, rfl, ht, hb1⟩
  have tk := ht 4 (by decide)
  rw [show toldL.getD 4 0 = 2 from rfl] at tk
  have H1 := Lib.hid (H.out.below hb1)
  have HB := Lib.hid hb1
  clear ht hb1 c0 c1 c2 c3
  obtain ⟨c0, c1, c2, c3⟩ := H1.out
  go_wp2
  go_quiet ((go_at_call 85; exact Calls.quiet_of_same (T.out _)))
  go_wp2
  go_ret
  exact ⟨rfl, below_draws HB.out _⟩

end Go.Proofs.YtajopgffnfahjaaDoor
