/-
  Several texts of this claim, one behind the other; each says what it holds.
-/
import Derived.Test.YtdefhmpmgcahpaaDoorWalkI64
import Derived.Deep.Slices
import Derived.Lib.SmallJoins
import Derived.Test.YtdefhmpmgcahpaaDoorBls
import Derived.Deep.MidRow
/-
  Steps and plans that came in, opened; steps as the walk reads them.
-/
set_option linter.unusedVariables false
set_option linter.unusedSimpArgs false
namespace Go.Proofs.YtdefhmpmgcahpaaDoor
open Go.RowKit Go.ChangeShapes Go.WideShapes Go.Joins

/-- A step. -/
structure St where
  kind : Int
  n : Int
  k : Int
  taps : List Int
instance : Inhabited St := ⟨⟨0, 0, 0, []⟩⟩

/-- A slice of integers that came in. -/
inductive IntsIn (w : World) : Value → List Int → Prop
  | nil (a : Option Addr) (cap : Nat) : IntsIn w (.slice a 0 cap) []
  | row (x : Addr) (cap L : Nat) (zs : List Int) (hL : zs.length = L) (h0 : 0 < L) (hc : L ≤ cap) (hm : cap ≤ maxLen) (hb : x.block < w.heap.size) (h : ∀ j, j < L → w.cell? (x.add j) = some (.int .i64 (zs.getD j 0))) : IntsIn w (.slice (some x) L cap) zs

/-- A step that came in. -/
def StepIn (w : World) (v : Value) (s : St) : Prop := ∃ tv, v = .agg #[.int .i64 s.kind, .int .i64 s.n, .int .i64 s.k, tv] ∧ IntsIn w tv s.taps

/-- A slice of steps that came in. -/
inductive StepsIn (w : World) : Value → List St → Prop
  | nil (a : Option Addr) (cap : Nat) : StepsIn w (.slice a 0 cap) []
  | row (x : Addr) (cap L : Nat) (ss : List St) (tv : Nat → Value) (hL : ss.length = L) (h0 : 0 < L) (hc : L ≤ cap) (hm : cap ≤ maxLen) (hb : x.block < w.heap.size)
      (h : ∀ j, j < L → w.cell? (x.add (j * 4)) = some (.int .i64 (ss.getD j default).kind) ∧ w.cell? ⟨(x.add (j * 4)).block, (x.add (j * 4)).off + 1, none⟩ = some (.int .i64 (ss.getD j default).n) ∧ w.cell? ⟨(x.add (j * 4)).block, (x.add (j * 4)).off + 2, none⟩ = some (.int .i64 (ss.getD j default).k) ∧ w.cell? ⟨(x.add (j * 4)).block, (x.add (j * 4)).off + 3, none⟩ = some (tv j) ∧ IntsIn w (tv j) (ss.getD j default).taps) : StepsIn w (.slice (some x) L cap) ss

/-- A plan that came in. -/
def PlanIn (w : World) (v : Value) (ss : List St) : Prop := ∃ sv, v = .agg #[sv] ∧ StepsIn w sv ss

theorem IntsIn.below {w w' : World} {v : Value} {zs : List Int} (h : IntsIn w v zs) (hb : Below w.heap.size w w') : IntsIn w' v zs := by
  cases h with
  | nil a cap => exact .nil a cap
  | row x cap L zs hL h0 hc hm hx hh =>
    exact .row x cap L zs hL h0 hc hm (Nat.lt_of_lt_of_le hx hb.size) fun j hj => by rw [hb.cell (by rw [addr_block]; exact hx)]; exact hh j hj
theorem StepIn.below {w w' : World} {v : Value} {s : St} (h : StepIn w v s) (hb : Below w.heap.size w w') : StepIn w' v s := by
  obtain ⟨tv, e, h⟩ := h
  exact ⟨tv, e, h.below hb⟩
theorem StepsIn.below {w w' : World} {v : Value} {ss : List St} (h : StepsIn w v ss) (hb : Below w.heap.size w w') : StepsIn w' v ss := by
  cases h with
  | nil a cap => exact .nil a cap
  | row x cap L ss tv hL h0 hc hm hx hh =>
    refine .row x cap L ss tv hL h0 hc hm (Nat.lt_of_lt_of_le hx hb.size) fun j hj => ?_
    obtain ⟨h1, h2, h3, h4, h5⟩ := hh j hj
    have hxb : (x.add (j * 4)).block < w.heap.size := by rw [addr_block]; exact hx
    rw [hb.cell hxb, hb.cell (by exact hxb), hb.cell (by exact hxb), hb.cell (by exact hxb)]
    exact ⟨h1, h2, h3, h4, h5.below hb⟩
theorem PlanIn.below {w w' : World} {v : Value} {ss : List St} (h : PlanIn w v ss) (hb : Below w.heap.size w w') : PlanIn w' v ss := by
  obtain ⟨sv, e, h⟩ := h
  exact ⟨sv, e, h.below hb⟩

section
variable {H : Type} {enc : TypeId × Value → H} {P : Program} {w : World} {base : Nat} {held : Bool}

theorem intsIn_open {t e : TypeId} {fuel : Nat} {v : Value} {x : DataW H × List MemPlace}
    (ht : P.underlying t = some (.slice e)) (he : P.underlying e = some (.int .i64)) (hc : P.cellsOf e = 1) (h : DataW.trod enc P w base (fun _ => true) held fuel t [v] = some x) : ∃ zs, IntsIn w v zs := by
  rcases open_ints ht he hc h with ⟨hcs, _⟩ | ⟨a, l, c, zs, hcs, _, hl, hm, hz, _, hcell, hwz⟩
  · simp only [List.cons.injEq, and_true] at hcs
    subst hcs
    exact ⟨[], .nil _ _⟩
  · simp only [List.cons.injEq, and_true] at hcs
    subst hcs
    simp only [if_true] at hz
    by_cases h0 : l = 0
    · subst h0
      exact ⟨[], .nil _ _⟩
    · refine ⟨zs.take l, .row a c l _ (by rw [List.length_take]; omega) (by omega) hl hm ?_ fun j hj => ?_⟩
      · have := World.block_lt_of_cell? _ _ (hcell 0 (by omega))
        rwa [addr_block] at this
      · rw [hcell j (by omega)]
        simp [List.getD, List.getElem?_take, hj]

theorem four_cells {xs : List Value} (h : xs.length = 4) : ∃ a b c d, xs = [a, b, c, d] := by
  match xs, h with
  | [a, b, c, d], _ => exact ⟨a, b, c, d, rfl⟩

theorem stepCells_open {t ti : TypeId} {f0 f1 f2 f3 : Field} {fuel : Nat} {cs : List Value} {x : DataW H × List MemPlace}
    (ht : P.underlying t = some (.struct #[f0, f1, f2, f3])) (hone : Go.Deep.oneCellFields P #[f0, f1, f2, f3] = true)
    (e0 : P.underlying f0.type = some (.int .i64)) (e1 : P.underlying f1.type = some (.int .i64)) (e2 : P.underlying f2.type = some (.int .i64)) (e3 : P.underlying f3.type = some (.slice ti)) (ei : P.underlying ti = some (.int .i64)) (hc : P.cellsOf ti = 1) (hC : P.cellsOf t = 4)
    (h : DataW.trod enc P w base (fun _ => true) held fuel t cs = some x) : ∃ s : St, ∃ tv, cs = [.int .i64 s.kind, .int .i64 s.n, .int .i64 s.k, tv] ∧ IntsIn w tv s.taps := by
  obtain ⟨xs, n, _, _, hl, hxl, hf⟩ := DataW.trod_struct ht h
  obtain ⟨a, b, c, d, rfl⟩ := four_cells (hl.trans hC)
  have hx4 : xs.length = 4 := hxl
  obtain ⟨o0, k0⟩ := Go.Deep.hone_of hone 0 f0 rfl
  obtain ⟨o1, k1⟩ := Go.Deep.hone_of hone 1 f1 rfl
  obtain ⟨o2, k2⟩ := Go.Deep.hone_of hone 2 f2 rfl
  obtain ⟨o3, k3⟩ := Go.Deep.hone_of hone 3 f3 rfl
  have g0 := hf 0 f0 rfl
  have g1 := hf 1 f1 rfl
  have g2 := hf 2 f2 rfl
  have g3 := hf 3 f3 rfl
  rw [o0, k0, List.getElem?_eq_getElem (by omega)] at g0
  rw [o1, k1, List.getElem?_eq_getElem (by omega)] at g1
  rw [o2, k2, List.getElem?_eq_getElem (by omega)] at g2
  rw [o3, k3, List.getElem?_eq_getElem (by omega)] at g3
  simp only [List.drop, List.take] at g0 g1 g2 g3
  obtain ⟨z0, q0, _⟩ := DataW.trod_int e0 g0
  obtain ⟨z1, q1, _⟩ := DataW.trod_int e1 g1
  obtain ⟨z2, q2, _⟩ := DataW.trod_int e2 g2
  obtain ⟨zs, q3⟩ := intsIn_open e3 ei hc g3
  simp only [List.cons.injEq, and_true] at q0 q1 q2
  subst q0; subst q1; subst q2
  exact ⟨⟨z0, z1, z2, zs⟩, d, rfl, q3⟩

theorem stepIn_open {r : Reach} {b0 : Nat} {t ti : TypeId} {f0 f1 f2 f3 : Field} {v : Value} {d : DataW H} {p : List MemPlace}
    (ht : P.underlying t = some (.struct #[f0, f1, f2, f3])) (hone : Go.Deep.oneCellFields P #[f0, f1, f2, f3] = true)
    (e0 : P.underlying f0.type = some (.int .i64)) (e1 : P.underlying f1.type = some (.int .i64)) (e2 : P.underlying f2.type = some (.int .i64)) (e3 : P.underlying f3.type = some (.slice ti)) (ei : P.underlying ti = some (.int .i64)) (hc : P.cellsOf ti = 1) (hC : P.cellsOf t = 4)
    (hv : Value.okWide P w r b0 t v) (h : DataW.Trod enc P w base (fun _ => true) held t v d p) : ∃ s, StepIn w v s := by
  obtain ⟨cs, rfl, hsz⟩ := okWide_struct ht hv
  obtain ⟨fuel, hf⟩ := h
  obtain ⟨s, tv, hcs, hI⟩ := stepCells_open ht hone e0 e1 e2 e3 ei hc hC hf
  obtain ⟨l⟩ := cs
  have : l = [.int .i64 s.kind, .int .i64 s.n, .int .i64 s.k, tv] := by simpa [Value.cells] using hcs
  subst this
  exact ⟨s, tv, rfl, hI⟩

theorem stepsIn_open {t e ti : TypeId} {f0 f1 f2 f3 : Field} {fuel : Nat} {v : Value} {x : DataW H × List MemPlace}
    (hs : P.underlying t = some (.slice e)) (ht : P.underlying e = some (.struct #[f0, f1, f2, f3])) (hone : Go.Deep.oneCellFields P #[f0, f1, f2, f3] = true)
    (e0 : P.underlying f0.type = some (.int .i64)) (e1 : P.underlying f1.type = some (.int .i64)) (e2 : P.underlying f2.type = some (.int .i64)) (e3 : P.underlying f3.type = some (.slice ti)) (ei : P.underlying ti = some (.int .i64)) (hc : P.cellsOf ti = 1) (hC : P.cellsOf e = 4)
    (h : DataW.trod enc P w base (fun _ => true) held fuel t [v] = some x) : ∃ ss, StepsIn w v ss := by
  rcases Go.Deep.open_slice hs h with ⟨h0, _⟩ | ⟨a, len, cap, m, n, D, Pl, hcs, hb, hl, hm, hmm, hx, hi⟩
  · simp only [List.cons.injEq, and_true] at h0
    subst h0
    exact ⟨[], .nil _ _⟩
  · simp only [List.cons.injEq, and_true] at hcs
    subst hcs
    simp only [if_true] at hmm
    subst hmm
    by_cases h0 : len = 0
    · subst h0
      exact ⟨[], .nil _ _⟩
    · have key : ∀ j, j < len → ∃ q : St × Value, w.cell? (a.add (j * 4)) = some (.int .i64 q.1.kind) ∧ w.cell? ⟨(a.add (j * 4)).block, (a.add (j * 4)).off + 1, none⟩ = some (.int .i64 q.1.n) ∧ w.cell? ⟨(a.add (j * 4)).block, (a.add (j * 4)).off + 2, none⟩ = some (.int .i64 q.1.k) ∧ w.cell? ⟨(a.add (j * 4)).block, (a.add (j * 4)).off + 3, none⟩ = some q.2 ∧ IntsIn w q.2 q.1.taps := fun j hj => by
        obtain ⟨cs', hc', ht'⟩ := hi j (by omega)
        rw [hC] at hc'
        obtain ⟨s, tv, e, hI⟩ := stepCells_open ht hone e0 e1 e2 e3 ei hc hC ht'
        obtain ⟨_, _, hat⟩ := World.cells?_some hc'
        subst e
        refine ⟨(s, tv), ?_, ?_, ?_, ?_, hI⟩
        · have := hat 0 (by decide)
          rwa [show (a.add (j * 4)).add 0 = a.add (j * 4) by unfold Addr.add; simp] at this
        · exact hat 1 (by decide)
        · exact hat 2 (by decide)
        · exact hat 3 (by decide)
      obtain ⟨q, hq⟩ := Go.Deep.choose_lt (n := len) key
      refine ⟨(List.range len).map fun j => (q j).1, .row a m len _ (fun j => (q j).2) (by simp) (by omega) hl hm ?_ fun j hj => ?_⟩
      · have := World.block_lt_of_cell? _ _ (hq 0 (by omega)).1
        rwa [addr_block] at this
      · have e : ((List.range len).map fun j => (q j).1).getD j default = (q j).1 := by simp [List.getD, hj]
        rw [e]
        exact hq j hj

theorem planIn_open {r : Reach} {b0 : Nat} {t e ti : TypeId} {g0 f0 f1 f2 f3 : Field} {v : Value} {d : DataW H} {p : List MemPlace}
    (hp : P.underlying t = some (.struct #[g0])) (hop : Go.Deep.oneCellFields P #[g0] = true) (hCp : P.cellsOf t = 1) (hs : P.underlying g0.type = some (.slice e)) (ht : P.underlying e = some (.struct #[f0, f1, f2, f3])) (hone : Go.Deep.oneCellFields P #[f0, f1, f2, f3] = true)
    (e0 : P.underlying f0.type = some (.int .i64)) (e1 : P.underlying f1.type = some (.int .i64)) (e2 : P.underlying f2.type = some (.int .i64)) (e3 : P.underlying f3.type = some (.slice ti)) (ei : P.underlying ti = some (.int .i64)) (hc : P.cellsOf ti = 1) (hC : P.cellsOf e = 4)
    (hv : Value.okWide P w r b0 t v) (h : DataW.Trod enc P w base (fun _ => true) held t v d p) : ∃ ss, PlanIn w v ss := by
  obtain ⟨cs, rfl, hsz⟩ := okWide_struct hp hv
  obtain ⟨fuel, hf⟩ := h
  obtain ⟨xs, n, _, _, hl, hxl, hff⟩ := DataW.trod_struct hp hf
  obtain ⟨l⟩ := cs
  have hl1 : l.length = 1 := by simpa [Value.cells, hCp] using hl
  obtain ⟨c, rfl⟩ := List.length_eq_one_iff.1 hl1
  obtain ⟨o0, k0⟩ := Go.Deep.hone_of hop 0 g0 rfl
  have hx1 : xs.length = 1 := hxl
  have q0 := hff 0 g0 rfl
  rw [o0, k0, List.getElem?_eq_getElem (by omega)] at q0
  simp only [Value.cells, List.drop, List.take] at q0
  obtain ⟨ss, hss⟩ := stepsIn_open hs ht hone e0 e1 e2 e3 ei hc hC q0
  exact ⟨ss, c, rfl, hss⟩

end

end Go.Proofs.YtdefhmpmgcahpaaDoor
/-
  toInt64S, toStep: copies of what came in.
-/
set_option linter.unusedVariables false
set_option linter.unusedSimpArgs false
namespace Go.Proofs.YtdefhmpmgcahpaaDoor
open Go.RowKit

theorem info_i64 : (Tryd.prog.info? 2).map (fun i => (i.zero, i.size, i.bytes)) = some (some (.int .i64 0), 1, 8) := by kernel_rfl
theorem info_parts' {e : TypeId} {z : Value} {s b : Nat} (h : (Tryd.prog.info? e).map (fun i => (i.zero, i.size, i.bytes)) = some (some z, s, b)) : ∃ i, Tryd.prog.info? e = some i ∧ i.zero = some z ∧ i.size = s ∧ i.bytes = b := by
  cases h' : Tryd.prog.info? e with
  | none => rw [h'] at h; cases h
  | some i =>
    rw [h'] at h
    simp only [Option.map_some, Option.some.injEq, Prod.mk.injEq] at h
    exact ⟨i, rfl, h.1, h.2.1, h.2.2⟩

theorem ints_snoc (zs : List Int) (a : Int) : ints (zs ++ [a]) = ints zs ++ [.int .i64 a] := by simp [ints]
theorem fillI_step {zs : List Int} {n k : Nat} (hk : k < n) (hz : n ≤ zs.length) :
    (ints (zs.take k) ++ List.replicate (n - k) (Value.int .i64 0)).set k (.int .i64 (zs.getD k 0)) = ints (zs.take (k + 1)) ++ List.replicate (n - (k + 1)) (Value.int .i64 0) := by
  have hl : (ints (zs.take k)).length = k := by rw [ints_length, List.length_take]; omega
  rw [List.set_append_right _ _ (by omega), hl, Nat.sub_self]
  obtain ⟨m, hm⟩ : ∃ m, n - k = m + 1 := ⟨n - k - 1, by omega⟩
  rw [hm, List.replicate_succ, List.set_cons_zero, show n - (k + 1) = m by omega, List.take_add_one]
  have e : zs[k]?.toList = [zs.getD k 0] := by simp [List.getD, show k < zs.length by omega]
  rw [e, ints_snoc, List.append_assoc]
  rfl
theorem grown_newI {w w1 w2 : World} {row : Option Nat} {B : Nat} (h : w.grownBy w1 row) (k : w1.grownBy w2 (some B)) (hB : w.heap.size ≤ B) : w.grownBy w2 row :=
  ⟨k.os.trans h.os, k.tape.trans h.tape, k.output.trans h.output, Nat.le_trans h.size k.size, fun j hj hr => (k.block j (Nat.lt_of_lt_of_le hj h.size) (by simp; omega)).trans (h.block j hj hr)⟩
theorem below_new {w w1 : World} (h : w.grownBy w1 none) : Below w.heap.size w w1 := (Below.refl _ _).grown h (Nat.le_refl _) (fun b e => by cases e)

set_option maxRecDepth 100000 in
set_option maxHeartbeats 4000000 in
theorem toInt64_any {v : Value} {zs : List Int} {w : World} (h : IntsIn w v zs) (hl : zs.length ≤ 1048576) :
    Calls Tryd.prog 114 #[v] w fun e w' => ∃ u, e = .returned u ∧ Row w' w.heap.size 2 u (ints zs) ∧ w.grownBy w' none := by
  obtain ⟨i0, hi, hz0, hz1, hz2⟩ := info_parts' info_i64
  cases h with
  | nil a cap =>
    go_enter Tryd.func114, Tryd.ntmps114
    go_wp2_with (at_make; refine wpList_make_full _ rfl _ _ 34 rfl w.heap.size 2 i0 (.int .i64 0) 1 Tryd.underlying34 hi hz0 hz1 .i64 .i64 _ _ 0 rfl rfl rfl rfl (by rw [hz2]; omega) (by simp only [maxLen]; omega) (Nat.le_refl _) ?_)
    intro w1 hown hg1
    rw [toList_madeCells_one] at hown
    have HO : Hid (Row w1 w.heap.size 2 (.slice (some ⟨w.heap.size, 0, none⟩) 0 0) []) := by
      show w1.ownsRow _ _ _ _ _ _
      simpa using hown
    have HG := Lib.hid hg1
    clear hown hg1 hi hz0 hz1 hz2
    go_wp2
    refine wp_loop_rounds 1 ?_
    rw [rounds_succ]
    go_wp2
    go_ret
    exact ⟨_, rfl, HO.out, HG.out⟩
  | row x cap L zs hL h0 hc hm hb hh =>
    have hxb := hb
    have hmax := maxLen_int (Nat.le_trans hc hm)
    have HC := Lib.hid hh
    have HL := Lib.hid hL
    have hLb : L ≤ 1048576 := by omega
    clear hh hb hL hl hm
    go_enter Tryd.func114, Tryd.ntmps114
    go_wp2_with (at_make; refine wpList_make_full _ rfl _ _ 34 rfl w.heap.size 2 i0 (.int .i64 0) 1 Tryd.underlying34 hi hz0 hz1 .i64 .i64 _ _ L rfl rfl rfl rfl (by rw [hz2]; omega) (by simp only [maxLen]; omega) (Nat.le_refl _) ?_)
    intro w1 hown hg1
    rw [toList_madeCells_one] at hown
    have HO : Hid (Row w1 w.heap.size 2 (.slice (some ⟨w.heap.size, 0, none⟩) L L) (List.replicate L (.int .i64 0))) := by
      show w1.ownsRow _ _ _ _ _ _
      simpa using hown
    have HG := Lib.hid hg1
    clear hown hg1 hi hz0 hz1 hz2
    have hzl : zs.length = L := HL.out
    go_wp2
    go_loopw [4] (fun i wr => ∃ k : Nat, i = .int .i64 k ∧ k ≤ L ∧ Row wr w.heap.size 2 (.slice (some ⟨w.heap.size, 0, none⟩) L L) (ints (zs.take k) ++ List.replicate (L - k) (.int .i64 0)) ∧ w.grownBy wr none) (fun i _ => L - (intOf i).toNat)
    case atStart => exact ⟨0, rfl, Nat.zero_le _, HO.out, HG.out⟩
    case round =>
      obtain ⟨k, rfl, hk, hr, hg⟩ := hrel
      by_cases hlt : k < L
      · have hx1 : wr.cell? (x.add k) = some (.int .i64 (zs.getD k 0)) := by
          rw [← HC.out k hlt]
          exact World.cell?_of_block (hg.block (x.add k).block (by rw [addr_block]; exact hxb) (by simp))
        have hS := hr.set k (.int .i64 (zs.getD k 0))
        rw [fillI_step hlt (by omega)] at hS
        have c1 := hr.cellAt hlt
        have f1 := hr.frozenAt k
        obtain ⟨u, hu⟩ : ∃ u, (ints (zs.take k) ++ List.replicate (L - k) (Value.int .i64 0)).getD k undef = u := ⟨_, rfl⟩
        rw [hu] at c1
        have hg2 := grown_newI hg hS.2 (Nat.le_refl _)
        obtain ⟨z, hzz⟩ : ∃ z, zs.getD k 0 = z := ⟨_, rfl⟩
        rw [hzz] at hx1 hS hg2
        have HS := Lib.hid hS.1
        have HG2 := Lib.hid hg2
        clear hS hg2 hu hzz hr hg
        go_wp2
        go_roundw
        case rel => exact ⟨k + 1, by go_num, by omega, HS.out, HG2.out⟩
        case measure => simp [intOf]; omega
      · have e : k = L := by omega
        subst e
        have HR := Lib.hid hr
        have HG2 := Lib.hid hg
        clear hr hg
        go_wp2
        go_ret
        refine ⟨_, rfl, ?_, HG2.out⟩
        have := HR.out
        rwa [Nat.sub_self, List.replicate_zero, List.append_nil, List.take_of_length_le (by omega)] at this

/-- The cells of a step. -/
def stCells (s : St) (tv : Value) : List Value := [.int .i64 s.kind, .int .i64 s.n, .int .i64 s.k, tv]
/-- A step whose taps lie in a row of the call's own. -/
def StepO (w : World) (B : Nat) (v : Value) (s : St) (tv : Value) : Prop := v = .agg #[.int .i64 s.kind, .int .i64 s.n, .int .i64 s.k, tv] ∧ Row w B 2 tv (ints s.taps)

theorem IntsIn.form {w : World} {v : Value} {zs : List Int} (h : IntsIn w v zs) : ∃ a cap, v = .slice a zs.length cap ∧ zs.length ≤ 9223372036854775807 := by
  cases h with
  | nil a cap => exact ⟨a, cap, rfl, by simp⟩
  | row x cap L zs hL h0 hc hm hb hh => exact ⟨_, cap, by rw [hL], by unfold maxLen at hm; omega⟩
theorem Row.form {w : World} {B : Nat} {e : TypeId} {v : Value} {cs : List Value} (h : Row w B e v cs) : ∃ a cap, v = .slice a cs.length cap := by
  rcases h.shape with ⟨a, cap, rfl, rfl⟩ | ⟨g, cap, rfl, _⟩
  · exact ⟨a, cap, rfl⟩
  · exact ⟨_, cap, rfl⟩

theorem Row.base' {w : World} {B B' : Nat} {e : TypeId} {v : Value} {cs : List Value} (h : Row w B' e v cs) (hB : B ≤ B') : Row w B e v cs := by
  refine ⟨h.1, ?_⟩
  rcases h.2 with hn | ⟨g, cap, cur, rfl, hb, rest⟩
  · exact .inl hn
  · exact .inr ⟨g, cap, cur, rfl, Nat.le_trans hB hb, rest⟩
theorem Row.other {w : World} {B : Nat} {e : TypeId} {v : Value} {cs : List Value} (h : Row w B e v cs) {b j : Nat} (u : Value) (hne : v.ownBlock ≠ some b) : Row (w.setCell ⟨b, j, none⟩ u) B e v cs :=
  h.kept (row := some b) ⟨rfl, rfl, rfl, by simp, fun k _ hk => heap_setCell_other w ⟨b, j, none⟩ k u (fun e => hk (by simp [e]))⟩ (.inr hne)
theorem infoStep : (Tryd.prog.info? 36).map (·.size) = some 4 := by kernel_rfl

set_option maxRecDepth 100000 in
set_option maxHeartbeats 4000000 in
theorem toStep_any {v : Value} {s : St} {w : World} (h : StepIn w v s) (hl : s.taps.length ≤ 1048576) :
    Calls Tryd.prog 90 #[v] w fun e w' => ∃ u tv, e = .returned u ∧ StepO w' w.heap.size u s tv ∧ Below w.heap.size w w' := by
  obtain ⟨kd, n, k, taps⟩ := s
  obtain ⟨tv, rfl, h⟩ := h
  simp only at h hl ⊢
  have T := Lib.hid (fun w' (hb : Below w.heap.size w w') => toInt64_any (h.below hb) hl)
  obtain ⟨a, cap, rfl, hlen⟩ := h.form
  obtain ⟨L, hL⟩ : ∃ L, taps.length = L := ⟨_, rfl⟩
  rw [hL] at T hlen ⊢
  clear h hl hL
  go_enter Tryd.func90, Tryd.ntmps90
  go_wp2_with fail
  have HW : Hid (∃ W, W = (((w.alloc (.cells #[.int .i64 kd, .int .i64 n, .int .i64 k, .slice a L cap] 118)).alloc (.cells #[.int .i64 0, .int .i64 0, .int .i64 0, .slice none 0 0] 36)).alloc (.cells #[.int .i64 kd, .int .i64 n, .int .i64 k, .slice none 0 0] 36))) := ⟨_, rfl⟩
  obtain ⟨W, hW⟩ := HW.out
  have hs : W.heap.size = w.heap.size + 1 + 1 + 1 := by rw [hW]; simp
  have k0 : W.cell? ⟨w.heap.size + 1 + 1, 0, none⟩ = some (.int .i64 kd) := by rw [hW]; go_simp
  have k1 : W.cell? ⟨w.heap.size + 1 + 1, 1, none⟩ = some (.int .i64 n) := by rw [hW]; go_simp
  have k2 : W.cell? ⟨w.heap.size + 1 + 1, 2, none⟩ = some (.int .i64 k) := by rw [hW]; go_simp
  have k3 : W.cell? ⟨w.heap.size + 1 + 1, 3, none⟩ = some (.slice none 0 0) := by rw [hW]; go_simp
  have kf : W.frozen? ⟨w.heap.size + 1 + 1, 3, none⟩ = false := by rw [hW]; go_simp
  have j0 : W.cell? ⟨w.heap.size + 1, 0, none⟩ = some (.int .i64 0) := by rw [hW]; go_simp
  have j1 : W.cell? ⟨w.heap.size + 1, 1, none⟩ = some (.int .i64 0) := by rw [hW]; go_simp
  have j2 : W.cell? ⟨w.heap.size + 1, 2, none⟩ = some (.int .i64 0) := by rw [hW]; go_simp
  have j3 : W.cell? ⟨w.heap.size + 1, 3, none⟩ = some (.slice none 0 0) := by rw [hW]; go_simp
  have g0 : W.frozen? ⟨w.heap.size + 1, 0, none⟩ = false := by rw [hW]; go_simp
  have g1 : W.frozen? ⟨w.heap.size + 1, 1, none⟩ = false := by rw [hW]; go_simp
  have g2 : W.frozen? ⟨w.heap.size + 1, 2, none⟩ = false := by rw [hW]; go_simp
  have g3 : W.frozen? ⟨w.heap.size + 1, 3, none⟩ = false := by rw [hW]; go_simp
  have HB : Hid (Below w.heap.size w W) := by
    rw [hW]
    exact (((Below.refl w.heap.size w).alloc (Nat.le_refl _) _).alloc (by simp) _ |>.alloc (by simp; omega) _)
  rw [← hW]
  clear hW HW
  refine (T.out _ HB.out).mono ?_
  rintro e w1 ⟨u, rfl, hr, hg⟩
  have hb := below_new hg
  have hlt : ∀ i x, W.cell? ⟨i, x, none⟩ ≠ none → i < W.heap.size := fun i x hx => by
    cases hc : W.cell? ⟨i, x, none⟩ with
    | none => exact absurd hc hx
    | some v => exact World.block_lt_of_cell? _ _ hc
  have b1 : w.heap.size + 1 < W.heap.size := by omega
  have b2 : w.heap.size + 1 + 1 < W.heap.size := by omega
  rw [← hb.cell (by exact b2)] at k0 k1 k2 k3
  rw [← hb.cell (by exact b1)] at j0 j1 j2 j3
  rw [← hb.frozen (by exact b2)] at kf
  rw [← hb.frozen (by exact b1)] at g0 g1 g2 g3
  have HR := Lib.hid (hr.base' (B := w.heap.size) (by omega))
  have HB2 := Lib.hid (below_step' HB.out hb HB.out.size)
  have HL : Hid (∀ g, u.ownBlock = some g → w.heap.size + 1 + 1 < g) := fun g hg' => by have := (hr.lt g hg').1; omega
  obtain ⟨a', cap', rfl⟩ := hr.form
  clear hr hg hb hlt T HB b1 b2
  go_wp2
  (try simp only [Exit.inBlock, Exit.then])
  refine bodyPost_ret (res_cell1' rfl _ _ _ rfl (run_loadVar_mid _ _ _ _ [.int .i64 kd, .int .i64 n, .int .i64 k, .slice a' (ints taps).length cap'] _ ?_ Tryd.underlying36 rfl infoStep)) rfl ?_
  · intro j v hv
    rcases j with _ | _ | _ | _ | j <;> simp at hv <;> subst hv <;> go_simp
  · refine ⟨_, _, rfl, ⟨rfl, ?_⟩, ?_⟩
    · have hne1 : (Value.slice a' (ints taps).length cap').ownBlock ≠ some (w.heap.size + 1 + 1) := fun e => by have := HL.out _ e; omega
      have hne2 : (Value.slice a' (ints taps).length cap').ownBlock ≠ some (w.heap.size + 1) := fun e => by have := HL.out _ e; omega
      exact ((((HR.out.other _ hne1).other _ hne2).other _ hne2).other _ hne2).other _ hne2
    · refine (((((HB2.out.setCell ?_ _).setCell ?_ _).setCell ?_ _).setCell ?_ _).setCell ?_ _) <;> (simp only []; omega)

end Go.Proofs.YtdefhmpmgcahpaaDoor
/-
  szPlan, toPlan: plans that came in, measured and copied.
-/
set_option linter.unusedVariables false
set_option linter.unusedSimpArgs false
namespace Go.Proofs.YtdefhmpmgcahpaaDoor
open Go.RowKit

/-- What is left behind measuring. -/
def SzTo (left : Nat) (ok : Prop) (w : World) (e : Ending) (w' : World) : Prop := ∃ r : Int, e = .returned (.int .i64 r) ∧ (r = -1 ∨ (0 ≤ r ∧ r ≤ left ∧ ok)) ∧ Below w.heap.size w w'

theorem szInt64_any (a : Option Addr) (len cap left : Nat) (hl : len ≤ 9223372036854775807) (hf : left ≤ 1048576) (w : World) :
    Calls Tryd.prog 113 #[.slice a len cap, .int .i64 left] w fun e w' => e = .returned (.int .i64 (if len ≤ left then ((left - len : Nat) : Int) else -1)) ∧ w' = w := by
  have eW : IntKind.i64.wrap ((left : Int) - (len : Int)) = (left : Int) - (len : Int) := IntWalk.i64_in _ (by omega)
  by_cases h : len ≤ left
  · have h2 : ¬ ((left : Int) - (len : Int) < 0) := by omega
    rw [if_pos h]
    have e : ((left - len : Nat) : Int) = (left : Int) - (len : Int) := by omega
    rw [e]
    clear h e hl hf
    go_enter Tryd.func113, Tryd.ntmps113
    go_wp2
    go_ret
    exact ⟨rfl, rfl⟩
  · have h2 : ((left : Int) - (len : Int) < 0) := by omega
    rw [if_neg h]
    clear h hl hf
    go_enter Tryd.func113, Tryd.ntmps113
    go_wp2
    go_ret
    exact ⟨rfl, rfl⟩

theorem szStep_any {v : Value} {s : St} {w : World} (h : StepIn w v s) (left : Nat) (hf : left ≤ 1048576) :
    Calls Tryd.prog 83 #[v, .int .i64 left] w (SzTo left (s.taps.length ≤ 1048576) w) := by
  obtain ⟨kd, n, k, taps⟩ := s
  obtain ⟨tv, rfl, h⟩ := h
  simp only at h ⊢
  obtain ⟨a, cap, rfl, hlen⟩ := h.form
  obtain ⟨L, hL⟩ : ∃ L, taps.length = L := ⟨_, rfl⟩
  rw [hL] at hlen ⊢
  have T := Lib.hid (fun w => szInt64_any a L cap left hlen hf w)
  clear h hL
  go_enter Tryd.func83, Tryd.ntmps83
  go_wp2_with fail
  refine (T.out _).mono ?_
  rintro e w1 ⟨rfl, rfl⟩
  by_cases hle : L ≤ left
  · rw [if_pos hle]
    have g : ¬ ((left - L : Nat) : Int) < 0 := by omega
    obtain ⟨m, hm⟩ : ∃ m, left - L = m := ⟨_, rfl⟩
    rw [hm] at g ⊢
    go_wp2
    go_ret
    exact ⟨_, rfl, .inr ⟨by omega, by omega, by omega⟩, (Below.refl _ _).alloc (Nat.le_refl _) _⟩
  · rw [if_neg hle]
    clear hle
    go_wp2
    go_ret
    exact ⟨_, rfl, .inl rfl, (Below.refl _ _).alloc (Nat.le_refl _) _⟩

set_option maxRecDepth 100000 in
set_option maxHeartbeats 4000000 in
theorem szStepS_any {v : Value} {ss : List St} {w : World} (h : StepsIn w v ss) (left : Nat) (hf : left ≤ 1048576) :
    Calls Tryd.prog 56 #[v, .int .i64 left] w (SzTo left (ss.length ≤ 1048576 ∧ ∀ j, j < ss.length → (ss.getD j default).taps.length ≤ 1048576) w) := by
  cases h with
  | nil a cap =>
    have eW : IntKind.i64.wrap ((left : Int) - 0) = (left : Int) := by rw [Int.sub_zero]; exact IntWalk.i64_in _ (by omega)
    have h2 : ¬ ((left : Int) < 0) := by omega
    go_enter Tryd.func56, Tryd.ntmps56
    go_wp2
    refine wp_loop_rounds 1 ?_
    rw [rounds_succ]
    go_wp2
    go_ret
    exact ⟨_, rfl, .inr ⟨by omega, by omega, by simp, fun j hj => by simp at hj⟩, Below.refl _ _⟩
  | row x cap L ss tv hL h0 hc hm hb hh =>
    have hmax := maxLen_int (Nat.le_trans hc hm)
    have eW : IntKind.i64.wrap ((left : Int) - (L : Int)) = (left : Int) - (L : Int) := IntWalk.i64_in _ (by omega)
    by_cases hle : L ≤ left
    · have h2 : ¬ ((left : Int) - (L : Int) < 0) := by omega
      have HC := Lib.hid hh
      have HL := Lib.hid hL
      have hxb := hb
      clear hh hL hb hm
      go_enter Tryd.func56, Tryd.ntmps56
      go_wp2
      go_loopw [1, 5] (fun l i wr => ∃ k m : Nat, l = .int .i64 m ∧ i = .int .i64 k ∧ m ≤ left ∧ k ≤ L ∧ (∀ j, j < k → (ss.getD j default).taps.length ≤ 1048576) ∧ Below w.heap.size w wr) (fun _ i _ => L - (intOf i).toNat)
      case atStart => exact ⟨0, left - L, by go_num, rfl, by omega, Nat.zero_le _, fun j hj => by omega, Below.refl _ _⟩
      case round =>
        obtain ⟨k, m, rfl, rfl, hm, hk, hj, hB⟩ := hrel
        by_cases hlt : k < L
        · obtain ⟨c0, c1, c2, c3, c4⟩ := HC.out k hlt
          have T := Lib.hid (szStep_any (v := .agg #[.int .i64 (ss.getD k default).kind, .int .i64 (ss.getD k default).n, .int .i64 (ss.getD k default).k, tv k]) (s := ss.getD k default) (w := wr) ⟨_, rfl, c4.below hB⟩ m (by omega))
          have hxb' : (x.add (k * 4)).block < w.heap.size := by rw [addr_block]; exact hxb
          rw [← hB.cell (by exact hxb')] at c0 c1 c2 c3
          obtain ⟨S, hS⟩ : ∃ S, ss.getD k default = S := ⟨_, rfl⟩
          rw [hS] at c0 c1 c2 T
          have HJ := Lib.hid hj
          have HB := Lib.hid hB
          have HS := Lib.hid hS
          obtain ⟨t, ht⟩ : ∃ t, tv k = t := ⟨_, rfl⟩
          rw [ht] at c3 T
          clear hj hB hS c4 ht
          go_wp2_with fail
          refine T.out.mono ?_
          rintro e w2 ⟨r, rfl, hr, hb2⟩
          have HB2 := Lib.hid (below_step' HB.out hb2 HB.out.size)
          clear hb2 c0 c1 c2 c3 T
          rcases hr with rfl | ⟨r0, rl, ok⟩
          · go_wp2
            go_ret
            exact ⟨_, rfl, .inl rfl, HB2.out⟩
          · obtain ⟨m', rfl⟩ : ∃ m' : Nat, r = m' := ⟨r.toNat, by omega⟩
            have g : ¬ (m' : Int) < 0 := by omega
            clear r0
            have HK : Hid (∀ j, j < k + 1 → (ss.getD j default).taps.length ≤ 1048576) := fun j hj => by
              by_cases e : j = k
              · rw [e, HS.out]; exact ok
              · exact HJ.out j (by omega)
            clear ok
            go_wp2
            go_roundw
            case rel => exact ⟨k + 1, m', rfl, by go_num, by omega, by omega, HK.out, HB2.out⟩
            case measure => simp [intOf]; omega
        · have e : k = L := by omega
          subst e
          have HJ := Lib.hid hj
          have HB := Lib.hid hB
          clear hj hB
          go_wp2
          go_ret
          exact ⟨_, rfl, .inr ⟨by omega, by omega, by rw [HL.out]; omega, by rw [HL.out]; exact HJ.out⟩, HB.out⟩
    · have h2 : ((left : Int) - (L : Int) < 0) := by omega
      clear hh hL hb hm hle
      go_enter Tryd.func56, Tryd.ntmps56
      go_wp2
      go_ret
      exact ⟨_, rfl, .inl rfl, Below.refl _ _⟩

end Go.Proofs.YtdefhmpmgcahpaaDoor
/-
  Steps that the call itself has made: toStepS, toPlan.
-/
set_option linter.unusedVariables false
set_option linter.unusedSimpArgs false
namespace Go.Proofs.YtdefhmpmgcahpaaDoor
open Go.RowKit

section
variable {w w' : World} {B : Nat} {e : TypeId} {sz n : Nat} {v : Value} {cs : List Value}

theorem ownsRow_below {B' : Nat} (h : w.ownsRow B e sz v n cs) (hb : Below B' w w') (hv : ∀ k, v.ownBlock = some k → k < B') : w'.ownsRow B e sz v n cs := by
  refine ⟨h.1, ?_⟩
  rcases h.2 with hn | ⟨g, cap, cur, rfl, hbb, hgg, rest⟩
  · exact .inl hn
  · refine .inr ⟨g, cap, cur, rfl, hbb, ?_, rest⟩
    rw [hb.block g (hv g (by simp [Value.ownBlock]))]
    exact hgg
theorem ownsRow_lt (h : w.ownsRow B e sz v n cs) : ∀ k, v.ownBlock = some k → B ≤ k ∧ k < w.heap.size := World.ownsRow.lt h
theorem ownsRow_apart {B1 B2 : Nat} {e1 e2 : TypeId} {s1 s2 n1 n2 : Nat} {v u : Value} {cs ds : List Value} (h : w.ownsRow B1 e1 s1 v n1 cs) (k : w.ownsRow B2 e2 s2 u n2 ds) (hne : e1 ≠ e2) : v.ownBlock = none ∨ v.ownBlock ≠ u.ownBlock := by
  rcases h.2 with ⟨rfl, -⟩ | ⟨g, cap, cur, rfl, -, hg, -⟩
  · exact .inl rfl
  · refine .inr fun e => ?_
    rcases k.2 with ⟨rfl, -⟩ | ⟨g', cap', cur', rfl, -, hg', -⟩
    · cases e
    · simp only [Value.ownBlock, Option.some.injEq] at e
      subst e
      rw [hg] at hg'
      simp only [Option.some.injEq, Obj.cells.injEq] at hg'
      exact hne hg'.2.1
end

/-- Cells of steps in a row, as far as the first k. -/
def Four (cs : List Value) (k : Nat) (ss : List St) (tv : Nat → Value) : Prop :=
  ∀ j, j < k → cs[j * 4]? = some (.int .i64 (ss.getD j default).kind) ∧ cs[j * 4 + 1]? = some (.int .i64 (ss.getD j default).n) ∧ cs[j * 4 + 2]? = some (.int .i64 (ss.getD j default).k) ∧ cs[j * 4 + 3]? = some (tv j)

theorem Four.next {cs : List Value} {k : Nat} {ss : List St} {tv : Nat → Value} (h : Four cs k ss tv) {s : St} {t : Value} (hs : ss.getD k default = s) (hl : k * 4 + 3 < cs.length) :
    Four ((((cs.set (k * 4) (.int .i64 s.kind)).set (k * 4 + 1) (.int .i64 s.n)).set (k * 4 + 2) (.int .i64 s.k)).set (k * 4 + 3) t) (k + 1) ss (fun i => if i = k then t else tv i) := by
  intro j hj
  dsimp only
  by_cases e : j = k
  · subst e
    rw [if_pos rfl, hs]
    refine ⟨?_, ?_, ?_, ?_⟩
    · rw [List.getElem?_set_ne (by omega), List.getElem?_set_ne (by omega), List.getElem?_set_ne (by omega), List.getElem?_set_self (by omega)]
    · rw [List.getElem?_set_ne (by omega), List.getElem?_set_ne (by omega), List.getElem?_set_self (by simp; omega)]
    · rw [List.getElem?_set_ne (by omega), List.getElem?_set_self (by simp; omega)]
    · rw [List.getElem?_set_self (by simp; omega)]
  · obtain ⟨h1, h2, h3, h4⟩ := h j (by omega)
    rw [if_neg e]
    have hn : ∀ i i', i < 4 → i' < 4 → k * 4 + i' ≠ j * 4 + i := fun i i' hi hi' => by omega
    have key : ∀ i, i < 4 → ((((cs.set (k * 4) (.int .i64 s.kind)).set (k * 4 + 1) (.int .i64 s.n)).set (k * 4 + 2) (.int .i64 s.k)).set (k * 4 + 3) t)[j * 4 + i]? = cs[j * 4 + i]? := fun i hi => by
      rw [List.getElem?_set_ne (hn i 3 hi (by omega)), List.getElem?_set_ne (hn i 2 hi (by omega)), List.getElem?_set_ne (hn i 1 hi (by omega)), List.getElem?_set_ne (show k * 4 ≠ j * 4 + i by omega)]
    exact ⟨(key 0 (by omega)).trans h1, (key 1 (by omega)).trans h2, (key 2 (by omega)).trans h3, (key 3 (by omega)).trans h4⟩

/-- Steps that the call itself has made, as far as the first k of n. -/
structure StepsO (w : World) (B : Nat) (V : Value) (n k : Nat) (ss : List St) (tv : Nat → Value) : Prop where
  row : ∃ cs, w.ownsRow B 36 4 V n cs ∧ Four cs k ss tv
  each : ∀ j, j < k → Row w B 2 (tv j) (ints (ss.getD j default).taps)
  inc : ∀ i j, i < j → j < k → ∀ a b, (tv i).ownBlock = some a → (tv j).ownBlock = some b → a ≠ b

theorem StepsO.lt {w : World} {B : Nat} {V : Value} {n k : Nat} {ss : List St} {tv : Nat → Value} (h : StepsO w B V n k ss tv) : ∀ b, V.ownBlock = some b → B ≤ b ∧ b < w.heap.size := by
  obtain ⟨cs, h, -⟩ := h.row
  exact ownsRow_lt h
theorem StepsO.below {w w' : World} {B B' : Nat} {V : Value} {n k : Nat} {ss : List St} {tv : Nat → Value} (h : StepsO w B V n k ss tv) (hb : Below B' w w') (hB : w.heap.size ≤ B') : StepsO w' B V n k ss tv := by
  obtain ⟨⟨cs, h1, h2⟩, h3, h4⟩ := h
  exact ⟨⟨cs, ownsRow_below h1 hb (fun k e => by have := ownsRow_lt h1 k e; omega), h2⟩, fun j hj => (h3 j hj).below hb (fun k e => by have := (h3 j hj).lt k e; omega), h4⟩

theorem StepsO.base {w : World} {B B' : Nat} {V : Value} {n k : Nat} {ss : List St} {tv : Nat → Value} (h : StepsO w B V n k ss tv) (hB : B' ≤ B) : StepsO w B' V n k ss tv := by
  obtain ⟨⟨cs, h1, h2⟩, h3, h4⟩ := h
  refine ⟨⟨cs, ⟨h1.1, ?_⟩, h2⟩, fun j hj => (h3 j hj).base' hB, h4⟩
  rcases h1.2 with hn | ⟨g, cap, cur, rfl, hb, rest⟩
  · exact .inl hn
  · exact .inr ⟨g, cap, cur, rfl, Nat.le_trans hB hb, rest⟩
theorem StepsO.form {w : World} {B : Nat} {V : Value} {n k : Nat} {ss : List St} {tv : Nat → Value} (h : StepsO w B V n k ss tv) : ∃ a cap, V = .slice a n cap := by
  obtain ⟨cs, h, -⟩ := h.row
  rcases h.2 with ⟨rfl, rfl⟩ | ⟨g, cap, cur, rfl, _⟩
  · exact ⟨_, _, rfl⟩
  · exact ⟨_, _, rfl⟩
theorem StepsO.other {w : World} {B : Nat} {V : Value} {n k : Nat} {ss : List St} {tv : Nat → Value} (h : StepsO w B V n k ss tv) {b i : Nat} (u : Value) (hb : b < B) : StepsO (w.setCell ⟨b, i, none⟩ u) B V n k ss tv := by
  have g : w.grownBy (w.setCell ⟨b, i, none⟩ u) (some b) := ⟨rfl, rfl, rfl, by simp, fun k _ hk => heap_setCell_other w ⟨b, i, none⟩ k u (fun e => hk (by simp [e]))⟩
  obtain ⟨⟨cs, h1, h2⟩, h3, h4⟩ := h
  exact ⟨⟨cs, World.ownsRow.kept h1 g (.inr fun e => by have := ownsRow_lt h1 b e; omega), h2⟩, fun j hj => (h3 j hj).kept g (.inr fun e => by have := (h3 j hj).lt b e; omega), h4⟩
theorem step_ne_int : (36 : TypeId) ≠ 2 := by decide

/-- One step more is laid. -/
theorem StepsO.next {w : World} {B g n k cap : Nat} {ss : List St} {tv : Nat → Value} (h : StepsO w B (.slice (some ⟨g, 0, none⟩) n cap) n k ss tv) (hk : k < n) {s : St} {t : Value} (hs : ss.getD k default = s) {b0 : Nat} (hB : B ≤ b0)
    (ht : Row w b0 2 t (ints s.taps)) (hb0 : ∀ i, i < k → ∀ a, (tv i).ownBlock = some a → a < b0) :
    StepsO ((((w.setCell ⟨g, k * 4, none⟩ (.int .i64 s.kind)).setCell ⟨g, k * 4 + 1, none⟩ (.int .i64 s.n)).setCell ⟨g, k * 4 + 2, none⟩ (.int .i64 s.k)).setCell ⟨g, k * 4 + 3, none⟩ t) B (.slice (some ⟨g, 0, none⟩) n cap) n (k + 1) ss (fun i => if i = k then t else tv i) ∧
    w.grownBy ((((w.setCell ⟨g, k * 4, none⟩ (.int .i64 s.kind)).setCell ⟨g, k * 4 + 1, none⟩ (.int .i64 s.n)).setCell ⟨g, k * 4 + 2, none⟩ (.int .i64 s.k)).setCell ⟨g, k * 4 + 3, none⟩ t) (some g) := by
  obtain ⟨⟨cs, h1, h2⟩, h3, h4⟩ := h
  have hl : cs.length = n * 4 := h1.1
  obtain ⟨s1, g1⟩ := World.ownsRow.stored h1 (k * 4) (.int .i64 s.kind)
  obtain ⟨s2, g2⟩ := World.ownsRow.stored s1 (k * 4 + 1) (.int .i64 s.n)
  obtain ⟨s3, g3⟩ := World.ownsRow.stored s2 (k * 4 + 2) (.int .i64 s.k)
  obtain ⟨s4, g4⟩ := World.ownsRow.stored s3 (k * 4 + 3) t
  have gg := ((g1.trans g2).trans g3).trans g4
  refine ⟨⟨⟨_, s4, h2.next hs (by omega)⟩, fun j hj => ?_, fun i j hij hj a b ea eb => ?_⟩, gg⟩
  · by_cases e : j = k
    · subst e
      rw [if_pos rfl, hs]
      exact (ht.base' hB).kept gg (ownsRow_apart ht h1 (Ne.symm step_ne_int))
    · rw [if_neg e]
      have := h3 j (by omega)
      exact this.kept gg (ownsRow_apart this h1 (Ne.symm step_ne_int))
  · have hik : i ≠ k := by omega
    simp only [if_neg hik] at ea
    by_cases e : j = k
    · subst e
      simp only [if_true] at eb
      have := hb0 i hij a ea
      have := (ht.lt b eb).1
      omega
    · simp only [if_neg e] at eb
      exact h4 i j hij (by omega) a b ea eb

theorem info_step : (Tryd.prog.info? 36).map (fun i => (i.zero, i.size, i.bytes)) = some (some (.agg #[.int .i64 0, .int .i64 0, .int .i64 0, .slice none 0 0]), 4, 48) := by kernel_rfl

/-- Steps that are being laid: how the walk finds the place of the next one. -/
theorem StepsO.place {w : World} {B g n k cap : Nat} {ss : List St} {tv : Nat → Value} (h : StepsO w B (.slice (some ⟨g, 0, none⟩) n cap) n k ss tv) {j : Nat} (hj : j < n) :
    ∃ z0 z1 z2 z3, w.cell? ⟨g, j * 4, none⟩ = some z0 ∧ w.cell? ⟨g, j * 4 + 1, none⟩ = some z1 ∧ w.cell? ⟨g, j * 4 + 2, none⟩ = some z2 ∧ w.cell? ⟨g, j * 4 + 3, none⟩ = some z3 ∧ ∀ i, w.frozen? ⟨g, i, none⟩ = false := by
  obtain ⟨cs, h1, -⟩ := h.row
  have hl : cs.length = n * 4 := h1.1
  have key : ∀ i, i < 4 → ∃ z, w.cell? ⟨g, j * 4 + i, none⟩ = some z := fun i hi => by
    rw [World.ownsRow.cellAt h1 (j * 4 + i) (by omega), List.getElem?_eq_getElem (by omega)]
    exact ⟨_, rfl⟩
  obtain ⟨z0, e0⟩ := key 0 (by omega)
  obtain ⟨z1, e1⟩ := key 1 (by omega)
  obtain ⟨z2, e2⟩ := key 2 (by omega)
  obtain ⟨z3, e3⟩ := key 3 (by omega)
  exact ⟨z0, z1, z2, z3, e0, e1, e2, e3, fun i => World.ownsRow.frozenAt h1 i⟩

set_option maxRecDepth 100000 in
set_option maxHeartbeats 4000000 in
theorem toStepS_any {v : Value} {ss : List St} {w : World} (h : StepsIn w v ss) (hn : ss.length ≤ 1048576) (ht : ∀ j, j < ss.length → (ss.getD j default).taps.length ≤ 1048576) :
    Calls Tryd.prog 59 #[v] w fun e w' => ∃ V tv, e = .returned V ∧ StepsO w' w.heap.size V ss.length ss.length ss tv ∧ Below w.heap.size w w' := by
  obtain ⟨i0, hi, hz0, hz1, hz2⟩ := info_parts' info_step
  cases h with
  | nil a cap =>
    go_enter Tryd.func59, Tryd.ntmps59
    go_wp2_with (at_make; refine wpList_make_full _ rfl _ _ 24 rfl w.heap.size 36 i0 _ 4 Tryd.underlying24 hi hz0 hz1 .i64 .i64 _ _ 0 rfl rfl rfl rfl (by rw [hz2]; omega) (by simp only [maxLen]; omega) (Nat.le_refl _) ?_)
    intro w1 hown hg1
    have HO : Hid (StepsO w1 w.heap.size (.slice (some ⟨w.heap.size, 0, none⟩) 0 0) 0 0 [] (fun _ => undef)) := ⟨⟨_, hown, fun j hj => by omega⟩, fun j hj => by omega, fun i j _ hj => by omega⟩
    have HG := Lib.hid (below_new hg1)
    clear hown hg1 hi hz0 hz1 hz2
    go_wp2
    refine wp_loop_rounds 1 ?_
    rw [rounds_succ]
    go_wp2
    go_ret
    exact ⟨_, _, rfl, HO.out, HG.out⟩
  | row x cap L ss tv0 hL h0 hc hm hb hh =>
    have hxb := hb
    have hmax := maxLen_int (Nat.le_trans hc hm)
    have HC := Lib.hid hh
    have HL := Lib.hid hL
    rw [hL] at hn ht ⊢
    have HT := Lib.hid ht
    clear hh hb hm ht hL
    go_enter Tryd.func59, Tryd.ntmps59
    go_wp2_with (at_make; refine wpList_make_full _ rfl _ _ 24 rfl w.heap.size 36 i0 _ 4 Tryd.underlying24 hi hz0 hz1 .i64 .i64 _ _ L rfl rfl rfl rfl (by rw [hz2]; omega) (by simp only [maxLen]; omega) (Nat.le_refl _) ?_)
    intro w1 hown hg1
    have HO : Hid (StepsO w1 w.heap.size (.slice (some ⟨w.heap.size, 0, none⟩) L L) L 0 ss (fun _ => undef)) := ⟨⟨_, hown, fun j hj => by omega⟩, fun j hj => by omega, fun i j _ hj => by omega⟩
    have HG := Lib.hid (below_new hg1)
    clear hown hg1 hi hz0 hz1 hz2
    go_wp2
    go_loopw [4] (fun i wr => ∃ (k : Nat) (tv : Nat → Value), i = .int .i64 k ∧ k ≤ L ∧ StepsO wr w.heap.size (.slice (some ⟨w.heap.size, 0, none⟩) L L) L k ss tv ∧ Below w.heap.size w wr) (fun i _ => L - (intOf i).toNat)
    case atStart => exact ⟨0, _, rfl, Nat.zero_le _, HO.out, HG.out⟩
    case round =>
      clear HO HG
      obtain ⟨k, tv, rfl, hk, hO, hB⟩ := hrel
      have HO := Lib.hid hO
      have HB := Lib.hid hB
      clear hO hB
      by_cases hlt : k < L
      · obtain ⟨c0, c1, c2, c3, c4⟩ := HC.out k hlt
        have T := Lib.hid (toStep_any (v := .agg #[.int .i64 (ss.getD k default).kind, .int .i64 (ss.getD k default).n, .int .i64 (ss.getD k default).k, tv0 k]) (s := ss.getD k default) (w := wr) ⟨_, rfl, c4.below HB.out⟩ (HT.out k hlt))
        have hxb' : (x.add (k * 4)).block < w.heap.size := by rw [addr_block]; exact hxb
        rw [← HB.out.cell (by exact hxb')] at c0 c1 c2 c3
        obtain ⟨S, hS⟩ : ∃ S, ss.getD k default = S := ⟨_, rfl⟩
        rw [hS] at c0 c1 c2 T
        have HS := Lib.hid hS
        obtain ⟨t, ht⟩ : ∃ t, tv0 k = t := ⟨_, rfl⟩
        rw [ht] at c3 T
        clear hS c4 ht hxb'
        go_wp2_with fail
        refine T.out.mono ?_
        rintro e w2 ⟨u, t', rfl, ⟨rfl, hr⟩, hb2⟩
        have hO2 := HO.out.below hb2 (Nat.le_refl _)
        have hsz := HB.out.size
        obtain ⟨z0, z1, z2, z3, d0, d1, d2, d3, df⟩ := hO2.place hlt
        have f0 := df (k * 4)
        have f1 := df (k * 4 + 1)
        have f2 := df (k * 4 + 2)
        have f3 := df (k * 4 + 3)
        have hnx := hO2.next hlt HS.out hsz hr (fun i hi a ea => ((HO.out.each i hi).lt a ea).2)
        have HB2 := Lib.hid (below_step' HB.out hb2 hsz)
        obtain ⟨a', cap', rfl⟩ := hr.form
        have HN := Lib.hid hnx.1
        have HGR : Hid (Below w.heap.size w _) := HB2.out.grown hnx.2 (Nat.le_trans hsz hb2.size) (fun b e => by cases e; exact Nat.le_refl _)
        clear hnx hO2 df hr hb2 c0 c1 c2 c3 T HB2
        obtain ⟨l', hl'⟩ : ∃ l, (ints S.taps).length = l := ⟨_, rfl⟩
        rw [hl'] at HN HGR ⊢
        clear hl'
        go_wp2
        go_roundw
        case rel => exact ⟨k + 1, _, by go_num, by omega, HN.out, HGR.out⟩
        case measure => simp [intOf]; omega
      · have e : k = L := by omega
        subst e
        go_wp2
        go_ret
        exact ⟨_, tv, rfl, HO.out, HB.out⟩

/-- How the walk reads a step. -/
theorem StepsO.at {w : World} {B : Nat} {V : Value} {n k : Nat} {ss : List St} {tv : Nat → Value} (h : StepsO w B V n k ss tv) {j : Nat} (hj : j < k) (hk : k ≤ n) :
    ∃ g cap a c, V = .slice (some ⟨g, 0, none⟩) n cap ∧ n ≤ cap ∧ cap ≤ maxLen ∧ g < w.heap.size ∧ tv j = .slice a (ss.getD j default).taps.length c ∧ w.cell? ⟨g, j * 4, none⟩ = some (.int .i64 (ss.getD j default).kind) ∧ w.cell? ⟨g, j * 4 + 1, none⟩ = some (.int .i64 (ss.getD j default).n) ∧ w.cell? ⟨g, j * 4 + 2, none⟩ = some (.int .i64 (ss.getD j default).k) ∧ w.cell? ⟨g, j * 4 + 3, none⟩ = some (.slice a (ss.getD j default).taps.length c) ∧
      Row w B 2 (.slice a (ss.getD j default).taps.length c) (ints (ss.getD j default).taps) := by
  obtain ⟨⟨cs, h1, h2⟩, h3, h4⟩ := h
  have hr := h3 j hj
  obtain ⟨a, c, e⟩ := hr.form
  rw [ints_length] at e
  obtain ⟨q1, q2, q3, q4⟩ := h2 j hj
  rcases h1.2 with ⟨_, h0⟩ | ⟨g, cap, cur, rfl, hb, hg, hnc, hcm, _⟩
  · omega
  · have hl : cs.length = n * 4 := h1.1
    have key : ∀ i, i < 4 → w.cell? ⟨g, j * 4 + i, none⟩ = cs[j * 4 + i]? := fun i hi => World.ownsRow.cellAt h1 (j * 4 + i) (by omega)
    rw [e] at q4 hr
    exact ⟨g, cap, a, c, rfl, hnc, hcm, (Array.getElem?_eq_some_iff.1 hg).1, e, (key 0 (by omega)).trans q1, (key 1 (by omega)).trans q2, (key 2 (by omega)).trans q3, (key 3 (by omega)).trans q4, hr⟩

theorem infoPlan : (Tryd.prog.info? 26).map (·.size) = some 1 := by kernel_rfl

set_option maxRecDepth 100000 in
set_option maxHeartbeats 4000000 in
theorem toPlan_any {v : Value} {ss : List St} {w : World} (h : PlanIn w v ss) (hn : ss.length ≤ 1048576) (ht : ∀ j, j < ss.length → (ss.getD j default).taps.length ≤ 1048576) :
    Calls Tryd.prog 27 #[v] w fun e w' => ∃ V tv, e = .returned (.agg #[V]) ∧ StepsO w' w.heap.size V ss.length ss.length ss tv ∧ Below w.heap.size w w' := by
  obtain ⟨sv, rfl, h⟩ := h
  have T := Lib.hid (fun w' (hb : Below w.heap.size w w') => toStepS_any (h.below hb) hn ht)
  clear h hn ht
  go_enter Tryd.func27, Tryd.ntmps27
  go_wp2_with fail
  have HW : Hid (∃ W, W = (((w.alloc (.cells #[sv] 46)).alloc (.cells #[.slice none 0 0] 26)).alloc (.cells #[.slice none 0 0] 26))) := ⟨_, rfl⟩
  obtain ⟨W, hW⟩ := HW.out
  have hs : W.heap.size = w.heap.size + 1 + 1 + 1 := by rw [hW]; simp
  have k0 : W.cell? ⟨w.heap.size + 1 + 1, 0, none⟩ = some (.slice none 0 0) := by rw [hW]; go_simp
  have kf : W.frozen? ⟨w.heap.size + 1 + 1, 0, none⟩ = false := by rw [hW]; go_simp
  have j0 : W.cell? ⟨w.heap.size + 1, 0, none⟩ = some (.slice none 0 0) := by rw [hW]; go_simp
  have g0 : W.frozen? ⟨w.heap.size + 1, 0, none⟩ = false := by rw [hW]; go_simp
  have HB : Hid (Below w.heap.size w W) := by
    rw [hW]
    exact (((Below.refl w.heap.size w).alloc (Nat.le_refl _) _).alloc (by simp) _ |>.alloc (by simp; omega) _)
  rw [← hW]
  clear hW HW
  refine (T.out _ HB.out).mono ?_
  rintro e w1 ⟨V, tv, rfl, hO, hb⟩
  have b1 : w.heap.size + 1 < W.heap.size := by omega
  have b2 : w.heap.size + 1 + 1 < W.heap.size := by omega
  rw [← hb.cell (by exact b2)] at k0
  rw [← hb.cell (by exact b1)] at j0
  rw [← hb.frozen (by exact b2)] at kf
  rw [← hb.frozen (by exact b1)] at g0
  have HO := Lib.hid hO
  have HB2 := Lib.hid (below_step' HB.out hb HB.out.size)
  have HL := Lib.hid (hO.lt)
  obtain ⟨a', cap', rfl⟩ := hO.form
  clear hO hb T HB b1 b2
  go_wp2
  (try simp only [Exit.inBlock, Exit.then])
  refine bodyPost_ret (res_cell1' rfl _ _ _ rfl (run_loadVar_mid _ _ _ _ [.slice a' ss.length cap'] _ ?_ Tryd.underlying26 rfl infoPlan)) rfl ?_
  · intro j v hv
    rcases j with _ | j <;> simp at hv <;> subst hv <;> go_simp
  · refine ⟨_, tv, rfl, ?_, ?_⟩
    · refine StepsO.base (B := W.heap.size) (StepsO.other (StepsO.other HO.out _ ?_) _ ?_) (by omega) <;> omega
    · refine ((HB2.out.setCell ?_ _).setCell ?_ _) <;> (simp only []; omega)

end Go.Proofs.YtdefhmpmgcahpaaDoor
/-
  Marks on steps: markStepS, heldStepS, markPlan, heldPlan.
-/
set_option linter.unusedVariables false
set_option linter.unusedSimpArgs false
namespace Go.Proofs.YtdefhmpmgcahpaaDoor
open Go.RowKit

/-- A marked step, from m on. -/
def mkS (s : St) (m : Nat) : St := ⟨m, (m + 1 : Nat), (m + 2 : Nat), marks (m + 3) s.taps.length⟩
/-- The next mark behind steps. -/
def mkN : List St → Nat → Nat
  | [], m => m
  | s :: ss, m => mkN ss (m + 3 + s.taps.length)
theorem mkN_append : ∀ (a b : List St) (m : Nat), mkN (a ++ b) m = mkN b (mkN a m)
  | [], b, m => rfl
  | s :: a, b, m => by simp only [List.cons_append, mkN]; exact mkN_append a b _
theorem mkN_ge : ∀ (a : List St) (m : Nat), m ≤ mkN a m
  | [], m => Nat.le_refl _
  | s :: a, m => by have := mkN_ge a (m + 3 + s.taps.length); simp only [mkN]; omega
theorem mkN_take {ss : List St} {k m : Nat} (h : k < ss.length) : mkN (ss.take (k + 1)) m = mkN (ss.take k) m + 3 + (ss.getD k default).taps.length := by
  rw [List.take_add_one, List.getElem?_eq_getElem h, mkN_append, List.getD_eq_getElem?_getD, List.getElem?_eq_getElem h]
  rfl
theorem mkN_le {ss : List St} (k m : Nat) : mkN (ss.take k) m ≤ mkN ss m := by
  have h : mkN ss m = mkN (ss.drop k) (mkN (ss.take k) m) := by rw [← mkN_append, List.take_append_drop]
  rw [h]
  exact mkN_ge _ _

theorem getD_set {ss : List St} {j i : Nat} {s : St} (hj : j < ss.length) : (ss.set j s).getD i default = if i = j then s else ss.getD i default := by
  rw [List.getD_eq_getElem?_getD, List.getElem?_set]
  by_cases e : j = i
  · subst e
    rw [if_pos rfl, if_pos rfl, if_pos hj]
    rfl
  · rw [if_neg e, if_neg (fun h => e h.symm), List.getD_eq_getElem?_getD]

/-- Three numbers of a step are overwritten. -/
theorem StepsO.mark3 {w : World} {B g n cap : Nat} {ss : List St} {tv : Nat → Value} (h : StepsO w B (.slice (some ⟨g, 0, none⟩) n cap) n n ss tv) (hn : ss.length = n) {j : Nat} (hj : j < n) (a0 a1 a2 : Int) :
    StepsO (((w.setCell ⟨g, j * 4, none⟩ (.int .i64 a0)).setCell ⟨g, j * 4 + 1, none⟩ (.int .i64 a1)).setCell ⟨g, j * 4 + 2, none⟩ (.int .i64 a2)) B (.slice (some ⟨g, 0, none⟩) n cap) n n (ss.set j ⟨a0, a1, a2, (ss.getD j default).taps⟩) tv ∧
    w.grownBy (((w.setCell ⟨g, j * 4, none⟩ (.int .i64 a0)).setCell ⟨g, j * 4 + 1, none⟩ (.int .i64 a1)).setCell ⟨g, j * 4 + 2, none⟩ (.int .i64 a2)) (some g) := by
  obtain ⟨⟨cs, h1, h2⟩, h3, h4⟩ := h
  have hl : cs.length = n * 4 := h1.1
  obtain ⟨s1, g1⟩ := World.ownsRow.stored h1 (j * 4) (.int .i64 a0)
  obtain ⟨s2, g2⟩ := World.ownsRow.stored s1 (j * 4 + 1) (.int .i64 a1)
  obtain ⟨s3, g3⟩ := World.ownsRow.stored s2 (j * 4 + 2) (.int .i64 a2)
  have gg := (g1.trans g2).trans g3
  have ht : ∀ i, ((ss.set j ⟨a0, a1, a2, (ss.getD j default).taps⟩).getD i default).taps = (ss.getD i default).taps := fun i => by
    rw [getD_set (by omega)]
    by_cases e : i = j
    · rw [if_pos e, e]
    · rw [if_neg e]
  refine ⟨⟨⟨_, s3, fun i hi => ?_⟩, fun i hi => ?_, h4⟩, gg⟩
  · rw [getD_set (by omega)]
    obtain ⟨q0, q1, q2, q3⟩ := h2 i hi
    by_cases e : i = j
    · subst e
      rw [if_pos rfl]
      refine ⟨?_, ?_, ?_, ?_⟩
      · rw [List.getElem?_set_ne (by omega), List.getElem?_set_ne (by omega), List.getElem?_set_self (by omega)]
      · rw [List.getElem?_set_ne (by omega), List.getElem?_set_self (by simp; omega)]
      · rw [List.getElem?_set_self (by simp; omega)]
      · rw [List.getElem?_set_ne (by omega), List.getElem?_set_ne (by omega), List.getElem?_set_ne (by omega)]
        exact q3
    · rw [if_neg e]
      have key : ∀ t, t < 4 → (((cs.set (j * 4) (.int .i64 a0)).set (j * 4 + 1) (.int .i64 a1)).set (j * 4 + 2) (.int .i64 a2))[i * 4 + t]? = cs[i * 4 + t]? := fun t ht => by
        rw [List.getElem?_set_ne (by omega), List.getElem?_set_ne (by omega), List.getElem?_set_ne (by omega)]
      exact ⟨(key 0 (by omega)).trans q0, (key 1 (by omega)).trans q1, (key 2 (by omega)).trans q2, (key 3 (by omega)).trans q3⟩
  · rw [ht i]
    exact (h3 i hi).kept gg (ownsRow_apart (h3 i hi) h1 (Ne.symm step_ne_int))

/-- The taps of a step are overwritten. -/
theorem StepsO.markT {w w' : World} {B n : Nat} {V : Value} {ss : List St} {tv : Nat → Value} (h : StepsO w B V n n ss tv) (hn : ss.length = n) {j : Nat} (hj : j < n) {zs : List Int} {a0 a1 a2 : Int}
    (e0 : (ss.getD j default).kind = a0) (e1 : (ss.getD j default).n = a1) (e2 : (ss.getD j default).k = a2) (hr : Row w' B 2 (tv j) (ints zs)) (hg : w.grownBy w' (tv j).ownBlock) :
    StepsO w' B V n n (ss.set j ⟨a0, a1, a2, zs⟩) tv := by
  obtain ⟨⟨cs, h1, h2⟩, h3, h4⟩ := h
  refine ⟨⟨cs, World.ownsRow.kept h1 hg (ownsRow_apart h1 (h3 j hj) step_ne_int), fun i hi => ?_⟩, fun i hi => ?_, h4⟩
  · rw [getD_set (by omega)]
    by_cases e : i = j
    · subst e
      rw [if_pos rfl]
      obtain ⟨q0, q1, q2, q3⟩ := h2 i hi
      rw [e0] at q0
      rw [e1] at q1
      rw [e2] at q2
      exact ⟨q0, q1, q2, q3⟩
    · rw [if_neg e]
      exact h2 i hi
  · rw [getD_set (by omega)]
    by_cases e : i = j
    · subst e
      rw [if_pos rfl]
      exact hr
    · rw [if_neg e]
      refine (h3 i hi).kept hg ?_
      cases hb : (tv i).ownBlock with
      | none => exact .inl rfl
      | some b =>
        refine .inr fun he => ?_
        rcases Nat.lt_or_gt_of_ne e with hlt | hlt
        · exact absurd rfl (h4 i j hlt hj b b hb he.symm)
        · exact absurd rfl (h4 j i hlt hi b b he.symm hb)

/-- Whatever is not these steps' own lies as it lay. -/
structure Only (V : Value) (tv : Nat → Value) (n : Nat) (w w' : World) : Prop where
  os : w'.os = w.os
  tape : w'.tape = w.tape
  output : w'.output = w.output
  size : w.heap.size ≤ w'.heap.size
  block : ∀ b, b < w.heap.size → V.ownBlock ≠ some b → (∀ j, j < n → (tv j).ownBlock ≠ some b) → w'.heap[b]? = w.heap[b]?
theorem Only.refl (V : Value) (tv : Nat → Value) (n : Nat) (w : World) : Only V tv n w w := ⟨rfl, rfl, rfl, Nat.le_refl _, fun _ _ _ _ => rfl⟩
theorem Only.trans {V : Value} {tv : Nat → Value} {n : Nat} {X Y Z : World} (h : Only V tv n X Y) (k : Only V tv n Y Z) : Only V tv n X Z :=
  ⟨k.os.trans h.os, k.tape.trans h.tape, k.output.trans h.output, Nat.le_trans h.size k.size, fun b hb h1 h2 => (k.block b (Nat.lt_of_lt_of_le hb h.size) h1 h2).trans (h.block b hb h1 h2)⟩
theorem Only.row {V : Value} {tv : Nat → Value} {n : Nat} {w w' : World} (hg : w.grownBy w' V.ownBlock) : Only V tv n w w' := ⟨hg.os, hg.tape, hg.output, hg.size, fun b hb h1 _ => hg.block b hb (fun e => h1 e.symm)⟩
theorem Only.tap {V : Value} {tv : Nat → Value} {n j : Nat} {w w' : World} (hj : j < n) (hg : w.grownBy w' (tv j).ownBlock) : Only V tv n w w' := ⟨hg.os, hg.tape, hg.output, hg.size, fun b hb _ h2 => hg.block b hb (fun e => h2 j hj e.symm)⟩
theorem Only.below {B : Nat} {V : Value} {tv : Nat → Value} {n : Nat} {ss : List St} {w w' : World} (h : Only V tv n w w') (hs : StepsO w B V n n ss tv) (hB : B ≤ w.heap.size) : Below B w w' :=
  ⟨h.os, h.tape, h.output, h.size, fun b hb => h.block b (Nat.lt_of_lt_of_le hb hB) (fun e => by have := (hs.lt b e).1; omega) (fun j hj e => by have := ((hs.each j hj).lt b e).1; omega)⟩

/-- Marked steps, as far as the first k. -/
structure Mkd (ss : List St) (m k : Nat) (ss' : List St) : Prop where
  len : ss'.length = ss.length
  done : ∀ i, i < k → ss'.getD i default = mkS (ss.getD i default) (mkN (ss.take i) m)
  rest : ∀ i, k ≤ i → ss'.getD i default = ss.getD i default

set_option maxRecDepth 100000 in
set_option maxHeartbeats 4000000 in
theorem markStepS_any {w : World} {B : Nat} {V : Value} {ss : List St} {tv : Nat → Value} (h : StepsO w B V ss.length ss.length ss tv) {m : Nat} (hm : mkN ss m ≤ 10000000000000) :
    Calls Tryd.prog 54 #[V, .int .i64 m] w fun e w' => e = .returned (.int .i64 (mkN ss m)) ∧ (∃ ss', Mkd ss m ss.length ss' ∧ StepsO w' B V ss.length ss.length ss' tv) ∧ Only V tv ss.length w w' := by
  obtain ⟨L, hL⟩ : ∃ L, ss.length = L := ⟨_, rfl⟩
  obtain ⟨a, cap, rfl⟩ := h.form
  have hgn : L = 0 ∨ ∃ g, a = some ⟨g, 0, none⟩ := by
    by_cases h0 : L = 0
    · exact .inl h0
    · obtain ⟨g, cp, _, _, e, _⟩ := h.at (j := 0) (by omega) (Nat.le_refl _)
      simp only [Value.slice.injEq] at e
      exact .inr ⟨g, e.1⟩
  have hmax : (L : Int) ≤ 9223372036854775807 := by
    by_cases h0 : L = 0
    · omega
    · obtain ⟨g, cp, aa, cc, e, hc, hm, _⟩ := h.at (j := 0) (by omega) (Nat.le_refl _)
      unfold maxLen at hm
      omega
  have HM := Lib.hid hm
  have HO := Lib.hid h
  have HL := Lib.hid hL
  rw [hL] at HO ⊢
  clear h hL hm
  go_enter Tryd.func54, Tryd.ntmps54
  go_wp2
  go_loopw [1, 5] (fun y i wr => ∃ (k : Nat) (ss' : List St), i = .int .i64 k ∧ y = .int .i64 (mkN (ss.take k) m : Nat) ∧ k ≤ L ∧ Mkd ss m k ss' ∧ StepsO wr B (.slice a L cap) L L ss' tv ∧ Only (.slice a L cap) tv L w wr) (fun _ i _ => L - (intOf i).toNat)
  case atStart => exact ⟨0, ss, rfl, rfl, Nat.zero_le _, ⟨rfl, fun i hi => by omega, fun i _ => rfl⟩, HO.out, Only.refl _ _ _ _⟩
  case round =>
    obtain ⟨k, ss', rfl, rfl, hk, hmk, hO, hOn⟩ := hrel
    by_cases hlt : k < L
    · obtain ⟨g, rfl⟩ : ∃ g, a = some ⟨g, 0, none⟩ := by
        rcases hgn with h0 | h0
        · omega
        · exact h0
      have hl' : ss'.length = L := by rw [hmk.len]; exact HL.out
      obtain ⟨z0, z1, z2, z3, -, -, -, -, df⟩ := hO.place hlt
      have f0 := df (k * 4)
      have f1 := df (k * 4 + 1)
      have f2 := df (k * 4 + 2)
      have htk : mkN (ss.take (k + 1)) m = mkN (ss.take k) m + 3 + (ss.getD k default).taps.length := mkN_take (by rw [HL.out]; exact hlt)
      have hle := mkN_le (ss := ss) (k + 1) m
      have hM := HM.out
      obtain ⟨p, hp⟩ : ∃ p, mkN (ss.take k) m = p := ⟨_, rfl⟩
      have HPK := Lib.hid hp
      rw [hp] at htk ⊢
      have hsk : ss'.getD k default = ss.getD k default := hmk.rest k (Nat.le_refl _)
      obtain ⟨p1, hp1⟩ : ∃ p1 : Int, (p : Int) + 1 = p1 := ⟨_, rfl⟩
      obtain ⟨p2, hp2⟩ : ∃ p2 : Int, p1 + 1 = p2 := ⟨_, rfl⟩
      obtain ⟨p3, hp3⟩ : ∃ p3 : Int, p2 + 1 = p3 := ⟨_, rfl⟩
      obtain ⟨g', cp, ta, tc, e, -, -, -, etv, d0, d1, d2, d3, -⟩ := hO.at hlt (Nat.le_refl _)
      simp only [Value.slice.injEq, Option.some.injEq, Addr.mk.injEq, and_true, true_and] at e
      obtain ⟨rfl, -⟩ := e
      obtain ⟨hO3, hg3⟩ := hO.mark3 hl' hlt (p : Int) p1 p2
      rw [hsk] at hO3 etv d0 d1 d2 d3
      obtain ⟨S, hS⟩ : ∃ S, ss.getD k default = S := ⟨_, rfl⟩
      have HSK := Lib.hid hS
      rw [hS] at hO3 htk etv d0 d1 d2 d3
      have hl3 : (ss'.set k ⟨(p : Int), p1, p2, S.taps⟩).length = L := by rw [List.length_set]; exact hl'
      have hgk : (ss'.set k ⟨(p : Int), p1, p2, S.taps⟩).getD k default = ⟨(p : Int), p1, p2, S.taps⟩ := by rw [getD_set (by omega), if_pos rfl]
      have hrow := hO3.each k hlt
      rw [hgk] at hrow
      simp only at hrow
      have MK := markInt64_any (m := p + 3) hrow (by omega) (by rw [ints_length]; omega)
      rw [show ((p + 3 : Nat) : Int) = p3 by omega, ints_length, show p + 3 + S.taps.length = mkN (ss.take (k + 1)) m by omega] at MK
      have HNX : Hid (∀ w', Row w' B 2 (tv k) (ints (marks (p + 3) S.taps.length)) →
          (((wr.setCell ⟨g, k * 4, none⟩ (.int .i64 p)).setCell ⟨g, k * 4 + 1, none⟩ (.int .i64 p1)).setCell ⟨g, k * 4 + 2, none⟩ (.int .i64 p2)).grownBy w' (tv k).ownBlock →
          ∃ ss'', Mkd ss m (k + 1) ss'' ∧ StepsO w' B (.slice (some ⟨g, 0, none⟩) L cap) L L ss'' tv ∧ Only (.slice (some ⟨g, 0, none⟩) L cap) tv L w w') := fun w' hr hg => by
        refine ⟨_, ⟨?_, fun i hi => ?_, fun i hi => ?_⟩, hO3.markT hl3 hlt (by rw [hgk]) (by rw [hgk]) (by rw [hgk]) hr hg, (hOn.trans (Only.row hg3)).trans (Only.tap hlt hg)⟩
        · rw [List.length_set, List.length_set]
          exact hmk.len
        · rw [getD_set (by omega)]
          by_cases e : i = k
          · subst e
            rw [if_pos rfl, HPK.out, HSK.out]
            unfold mkS
            rw [show ((p + 1 : Nat) : Int) = p1 by omega, show ((p + 2 : Nat) : Int) = p2 by omega]
          · rw [if_neg e, getD_set (by omega), if_neg e]
            exact hmk.done i (by omega)
        · rw [getD_set (by omega), if_neg (by omega), getD_set (by omega), if_neg (by omega)]
          exact hmk.rest i (by omega)
      obtain ⟨q, hq⟩ : ∃ q, mkN (ss.take (k + 1)) m = q := ⟨_, rfl⟩
      have HQ := Lib.hid hq
      rw [hq] at MK
      have e1 : IntKind.i64.wrap ((p : Int) + 1) = p1 := by rw [hp1]; exact IntWalk.i64_in _ (by omega)
      have e2 : IntKind.i64.wrap (p1 + 1) = p2 := by rw [hp2]; exact IntWalk.i64_in _ (by omega)
      have e3 : IntKind.i64.wrap (p2 + 1) = p3 := by rw [hp3]; exact IntWalk.i64_in _ (by omega)
      have MK := Lib.hid (MK.mono fun e w' he => And.intro he.1 (HNX.out w' he.2.1 he.2.2))
      rw [etv] at MK
      have HLT := Lib.hid hlt
      clear hO3 hg3 hrow hgk hl3 HNX hS htk hle hM hp hp1 hp2 hp3 hq hsk hl' hmk hO hOn df etv
      go_wp2_with fail
      with_reducible refine MK.out.mono ?_
      rintro e w5 ⟨rfl, ss'', hmk, hO, hOn⟩
      have HMK := Lib.hid hmk
      have HO2 := Lib.hid hO
      have HON := Lib.hid hOn
      clear hmk hO hOn MK d0 d1 d2 d3 f0 f1 f2
      go_wp2
      go_roundw
      case rel => exact ⟨k + 1, ss'', by go_num, by rw [HQ.out], HLT.out, HMK.out, HO2.out, HON.out⟩
      case measure => have := HLT.out; simp [intOf]; omega
    · have e : k = L := by omega
      subst e
      have HR : Hid (mkN (ss.take k) m = mkN ss m) := by show mkN (ss.take k) m = mkN ss m; rw [← HL.out, List.take_length]
      have HMK := Lib.hid hmk
      have HO2 := Lib.hid hO
      have HON := Lib.hid hOn
      rw [HR.out]
      clear hmk hO hOn
      go_wp2
      go_ret
      exact ⟨rfl, ⟨ss', HMK.out, HO2.out⟩, HON.out⟩

end Go.Proofs.YtdefhmpmgcahpaaDoor
/-
  Marks on steps that are found again: heldStepS; markPlan, heldPlan.
-/
set_option linter.unusedVariables false
set_option linter.unusedSimpArgs false
namespace Go.Proofs.YtdefhmpmgcahpaaDoor
open Go.RowKit

set_option maxRecDepth 100000 in
set_option maxHeartbeats 4000000 in
theorem heldStepS_any {w : World} {B : Nat} {V : Value} {ss ss' : List St} {tv : Nat → Value} (h : StepsO w B V ss.length ss.length ss' tv) {m : Nat} (hk : Mkd ss m ss.length ss') (hm : mkN ss m ≤ 10000000000000) :
    Calls Tryd.prog 55 #[V, .int .i64 m] w fun e w' => e = .returned (.int .i64 (mkN ss m)) ∧ w' = w := by
  obtain ⟨L, hL⟩ : ∃ L, ss.length = L := ⟨_, rfl⟩
  obtain ⟨a, cap, rfl⟩ := h.form
  have hmax : (L : Int) ≤ 9223372036854775807 := by
    by_cases h0 : L = 0
    · omega
    · obtain ⟨g, cp, aa, cc, e, hc, hm, _⟩ := h.at (j := 0) (by omega) (Nat.le_refl _)
      unfold maxLen at hm
      omega
  have HM := Lib.hid hm
  have HL := Lib.hid hL
  rw [hL] at h hk ⊢
  have HO := Lib.hid h
  have HMK := Lib.hid hk
  clear h hL hm hk
  go_enter Tryd.func55, Tryd.ntmps55
  go_wp2
  go_loopw [1, 5] (fun y i wr => ∃ (k : Nat), i = .int .i64 k ∧ y = .int .i64 (mkN (ss.take k) m : Nat) ∧ k ≤ L ∧ wr = w) (fun _ i _ => L - (intOf i).toNat)
  case atStart => exact ⟨0, rfl, rfl, Nat.zero_le _, rfl⟩
  case round =>
    obtain ⟨k, rfl, rfl, hk, rfl⟩ := hrel
    by_cases hlt : k < L
    · have htk : mkN (ss.take (k + 1)) m = mkN (ss.take k) m + 3 + (ss.getD k default).taps.length := mkN_take (by rw [HL.out]; exact hlt)
      have hle := mkN_le (ss := ss) (k + 1) m
      have hM := HM.out
      obtain ⟨p, hp⟩ : ∃ p, mkN (ss.take k) m = p := ⟨_, rfl⟩
      have hsk := HMK.out.done k hlt
      rw [hp] at htk hsk ⊢
      obtain ⟨p1, hp1⟩ : ∃ p1 : Int, (p : Int) + 1 = p1 := ⟨_, rfl⟩
      obtain ⟨p2, hp2⟩ : ∃ p2 : Int, p1 + 1 = p2 := ⟨_, rfl⟩
      obtain ⟨p3, hp3⟩ : ∃ p3 : Int, p2 + 1 = p3 := ⟨_, rfl⟩
      obtain ⟨g, cp, ta, tc, e, -, -, -, -, d0, d1, d2, d3, hr⟩ := HO.out.at hlt (Nat.le_refl _)
      simp only [Value.slice.injEq] at e
      obtain ⟨rfl, -, rfl⟩ := e
      rw [hsk] at d0 d1 d2 d3 hr
      simp only [mkS, marks_length] at d0 d1 d2 d3 hr
      obtain ⟨T, hT⟩ : ∃ T, (ss.getD k default).taps.length = T := ⟨_, rfl⟩
      rw [hT] at htk d3 hr
      rw [show ((p + 1 : Nat) : Int) = p1 by omega] at d1
      rw [show ((p + 2 : Nat) : Int) = p2 by omega] at d2
      have MK := heldInt64_any (m := p + 3) hr.reads (by omega) (by omega)
      rw [show ((p + 3 : Nat) : Int) = p3 by omega, show p + 3 + T = mkN (ss.take (k + 1)) m by omega] at MK
      obtain ⟨q, hq⟩ : ∃ q, mkN (ss.take (k + 1)) m = q := ⟨_, rfl⟩
      have HQ := Lib.hid hq
      rw [hq] at MK
      have e1 : IntKind.i64.wrap ((p : Int) + 1) = p1 := by rw [hp1]; exact IntWalk.i64_in _ (by omega)
      have e2 : IntKind.i64.wrap (p1 + 1) = p2 := by rw [hp2]; exact IntWalk.i64_in _ (by omega)
      have e3 : IntKind.i64.wrap (p2 + 1) = p3 := by rw [hp3]; exact IntWalk.i64_in _ (by omega)
      have MK := Lib.hid MK
      have HLT := Lib.hid hlt
      have gq : decide ((q : Int) < 0) = false := decide_eq_false (by omega)
      clear hr hT htk hle hM hp hp1 hp2 hp3 hq hsk
      go_wp2_with fail
      with_reducible refine MK.out.mono ?_
      rintro e w5 ⟨rfl, rfl⟩
      clear MK d0 d1 d2 d3
      go_wp2
      go_roundw
      case rel => exact ⟨k + 1, by go_num, by rw [HQ.out], HLT.out, (by first | rfl | trivial)⟩
      case measure => have := HLT.out; simp [intOf]; omega
    · have e : k = L := by omega
      subst e
      have HR : Hid (mkN (ss.take k) m = mkN ss m) := by show mkN (ss.take k) m = mkN ss m; rw [← HL.out, List.take_length]
      rw [HR.out]
      go_wp2
      go_ret
      exact ⟨rfl, rfl⟩

set_option maxRecDepth 100000 in
theorem markPlan_any {w : World} {B : Nat} {V : Value} {ss : List St} {tv : Nat → Value} (h : StepsO w B V ss.length ss.length ss tv) {m : Nat} (hm : mkN ss m ≤ 10000000000000) :
    Calls Tryd.prog 23 #[.agg #[V], .int .i64 m] w fun e w' => e = .returned (.int .i64 (mkN ss m)) ∧ (∃ ss', Mkd ss m ss.length ss' ∧ StepsO w' B V ss.length ss.length ss' tv) ∧ Only V tv ss.length w w' := by
  obtain ⟨a, cap, rfl⟩ := h.form
  have hb : Below w.heap.size w (w.alloc (.cells #[.slice a ss.length cap] 26)) := (Below.refl _ _).alloc (Nat.le_refl _) _
  have MS := markStepS_any (h.below hb (Nat.le_refl _)) hm
  have HOn : Hid (Only (.slice a ss.length cap) tv ss.length w (w.alloc (.cells #[.slice a ss.length cap] 26))) := ⟨hb.os, hb.tape, hb.output, hb.size, fun b hb1 _ _ => hb.block b hb1⟩
  have MS := Lib.hid MS
  obtain ⟨N, hN⟩ : ∃ N, mkN ss m = N := ⟨_, rfl⟩
  rw [hN] at MS ⊢
  clear h hb hN hm
  go_enter Tryd.func23, Tryd.ntmps23
  go_wp2_with fail
  with_reducible refine MS.out.mono ?_
  rintro e w5 ⟨rfl, hm, hO⟩
  have HM := Lib.hid hm
  have HO := Lib.hid (HOn.out.trans hO)
  clear hm hO
  go_wp2
  go_ret
  exact ⟨rfl, HM.out, HO.out⟩

set_option maxRecDepth 100000 in
theorem heldPlan_any {w : World} {B : Nat} {V : Value} {ss ss' : List St} {tv : Nat → Value} (h : StepsO w B V ss.length ss.length ss' tv) {m : Nat} (hk : Mkd ss m ss.length ss') (hm : mkN ss m ≤ 10000000000000) :
    Calls Tryd.prog 24 #[.agg #[V], .int .i64 m] w fun e w' => e = .returned (.int .i64 (mkN ss m)) ∧ Below w.heap.size w w' := by
  obtain ⟨a, cap, rfl⟩ := h.form
  have hb : Below w.heap.size w (w.alloc (.cells #[.slice a ss.length cap] 26)) := (Below.refl _ _).alloc (Nat.le_refl _) _
  have MS := Lib.hid (heldStepS_any (h.below hb (Nat.le_refl _)) hk hm)
  have HB := Lib.hid hb
  obtain ⟨N, hN⟩ : ∃ N, mkN ss m = N := ⟨_, rfl⟩
  rw [hN] at MS ⊢
  have gN : decide ((N : Int) < 0) = false := decide_eq_false (by omega)
  clear h hb hN hm hk
  go_enter Tryd.func24, Tryd.ntmps24
  go_wp2_with fail
  with_reducible refine MS.out.mono ?_
  rintro e w5 ⟨rfl, rfl⟩
  go_wp2
  go_ret
  exact ⟨rfl, HB.out⟩

end Go.Proofs.YtdefhmpmgcahpaaDoor
