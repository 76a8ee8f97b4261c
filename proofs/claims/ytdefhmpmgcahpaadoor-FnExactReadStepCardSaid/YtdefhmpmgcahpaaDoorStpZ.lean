import Derived.Test.YtdefhmpmgcahpaaDoorWalkI64Z
import Derived.Deep.Slices
import Derived.Lib.SmallJoins
/-
  Steps and plans that came in, opened; steps as the walk reads them.
-/
set_option linter.unusedVariables false
set_option linter.unusedSimpArgs false
namespace Go.Proofs.YtdefhmpmgcahpaaDoor
open Go.RowKit Go.ChangeShapes Go.WideShapes Go.Joins

/-- A step. -/
structure St where
  kind : Int
  n : Int
  k : Int
  taps : List Int
instance : Inhabited St := ⟨⟨0, 0, 0, []⟩⟩

/-- A slice of integers that came in. -/
inductive IntsIn (w : World) : Value → List Int → Prop
  | nil (a : Option Addr) (cap : Nat) : IntsIn w (.slice a 0 cap) []
  | row (x : Addr) (cap L : Nat) (zs : List Int) (hL : zs.length = L) (h0 : 0 < L) (hc : L ≤ cap) (hm : cap ≤ maxLen) (hb : x.block < w.heap.size) (h : ∀ j, j < L → w.cell? (x.add j) = some (.int .i64 (zs.getD j 0))) : IntsIn w (.slice (some x) L cap) zs

/-- A step that came in. -/
def StepIn (w : World) (v : Value) (s : St) : Prop := ∃ tv, v = .agg #[.int .i64 s.kind, .int .i64 s.n, .int .i64 s.k, tv] ∧ IntsIn w tv s.taps

/-- A slice of steps that came in. -/
inductive StepsIn (w : World) : Value → List St → Prop
  | nil (a : Option Addr) (cap : Nat) : StepsIn w (.slice a 0 cap) []
  | row (x : Addr) (cap L : Nat) (ss : List St) (tv : Nat → Value) (hL : ss.length = L) (h0 : 0 < L) (hc : L ≤ cap) (hm : cap ≤ maxLen) (hb : x.block < w.heap.size)
      (h : ∀ j, j < L → w.cell? (x.add (j * 4)) = some (.int .i64 (ss.getD j default).kind) ∧ w.cell? ⟨(x.add (j * 4)).block, (x.add (j * 4)).off + 1, none⟩ = some (.int .i64 (ss.getD j default).n) ∧ w.cell? ⟨(x.add (j * 4)).block, (x.add (j * 4)).off + 2, none⟩ = some (.int .i64 (ss.getD j default).k) ∧ w.cell? ⟨(x.add (j * 4)).block, (x.add (j * 4)).off + 3, none⟩ = some (tv j) ∧ IntsIn w (tv j) (ss.getD j default).taps) : StepsIn w (.slice (some x) L cap) ss

/-- A plan that came in. -/
def PlanIn (w : World) (v : Value) (ss : List St) : Prop := ∃ sv, v = .agg #[sv] ∧ StepsIn w sv ss

theorem IntsIn.below {w w' : World} {v : Value} {zs : List Int} (h : IntsIn w v zs) (hb : Below w.heap.size w w') : IntsIn w' v zs := by
  cases h with
  | nil a cap => exact .nil a cap
  | row x cap L zs hL h0 hc hm hx hh =>
    exact .row x cap L zs hL h0 hc hm (Nat.lt_of_lt_of_le hx hb.size) fun j hj => by rw [hb.cell (by rw [addr_block]; exact hx)]; exact hh j hj
theorem StepIn.below {w w' : World} {v : Value} {s : St} (h : StepIn w v s) (hb : Below w.heap.size w w') : StepIn w' v s := by
  obtain ⟨tv, e, h⟩ := h
  exact ⟨tv, e, h.below hb⟩
theorem StepsIn.below {w w' : World} {v : Value} {ss : List St} (h : StepsIn w v ss) (hb : Below w.heap.size w w') : StepsIn w' v ss := by
  cases h with
  | nil a cap => exact .nil a cap
  | row x cap L ss tv hL h0 hc hm hx hh =>
    refine .row x cap L ss tv hL h0 hc hm (Nat.lt_of_lt_of_le hx hb.size) fun j hj => ?_
    obtain ⟨h1, h2, h3, h4, h5⟩ := hh j hj
    have hxb : (x.add (j * 4)).block < w.heap.size := by rw [addr_block]; exact hx
    rw [hb.cell hxb, hb.cell (by exact hxb), hb.cell (by exact hxb), hb.cell (by exact hxb)]
    exact ⟨h1, h2, h3, h4, h5.below hb⟩
theorem PlanIn.below {w w' : World} {v : Value} {ss : List St} (h : PlanIn w v ss) (hb : Below w.heap.size w w') : PlanIn w' v ss := by
  obtain ⟨sv, e, h⟩ := h
  exact ⟨sv, e, h.below hb⟩

section
variable {H : Type} {enc : TypeId × Value → H} {P : Program} {w : World} {base : Nat} {held : Bool}

theorem intsIn_open {t e : TypeId} {fuel : Nat} {v : Value} {x : DataW H × List MemPlace}
    (ht : P.underlying t = some (.slice e)) (he : P.underlying e = some (.int .i64)) (hc : P.cellsOf e = 1) (h : DataW.trod enc P w base (fun _ => true) held fuel t [v] = some x) : ∃ zs, IntsIn w v zs := by
  rcases open_ints ht he hc h with ⟨hcs, _⟩ | ⟨a, l, c, zs, hcs, _, hl, hm, hz, _, hcell, hwz⟩
  · simp only [List.cons.injEq, and_true] at hcs
    subst hcs
    exact ⟨[], .nil _ _⟩
  · simp only [List.cons.injEq, and_true] at hcs
    subst hcs
    simp only [if_true] at hz
    by_cases h0 : l = 0
    · subst h0
      exact ⟨[], .nil _ _⟩
    · refine ⟨zs.take l, .row a c l _ (by rw [List.length_take]; omega) (by omega) hl hm ?_ fun j hj => ?_⟩
      · have := World.block_lt_of_cell? _ _ (hcell 0 (by omega))
        rwa [addr_block] at this
      · rw [hcell j (by omega)]
        simp [List.getD, List.getElem?_take, hj]

theorem four_cells {xs : List Value} (h : xs.length = 4) : ∃ a b c d, xs = [a, b, c, d] := by
  match xs, h with
  | [a, b, c, d], _ => exact ⟨a, b, c, d, rfl⟩

theorem stepCells_open {t ti : TypeId} {f0 f1 f2 f3 : Field} {fuel : Nat} {cs : List Value} {x : DataW H × List MemPlace}
    (ht : P.underlying t = some (.struct #[f0, f1, f2, f3])) (hone : Go.Deep.oneCellFields P #[f0, f1, f2, f3] = true)
    (e0 : P.underlying f0.type = some (.int .i64)) (e1 : P.underlying f1.type = some (.int .i64)) (e2 : P.underlying f2.type = some (.int .i64)) (e3 : P.underlying f3.type = some (.slice ti)) (ei : P.underlying ti = some (.int .i64)) (hc : P.cellsOf ti = 1) (hC : P.cellsOf t = 4)
    (h : DataW.trod enc P w base (fun _ => true) held fuel t cs = some x) : ∃ s : St, ∃ tv, cs = [.int .i64 s.kind, .int .i64 s.n, .int .i64 s.k, tv] ∧ IntsIn w tv s.taps := by
  obtain ⟨xs, n, _, _, hl, hxl, hf⟩ := DataW.trod_struct ht h
  obtain ⟨a, b, c, d, rfl⟩ := four_cells (hl.trans hC)
  have hx4 : xs.length = 4 := hxl
  obtain ⟨o0, k0⟩ := Go.Deep.hone_of hone 0 f0 rfl
  obtain ⟨o1, k1⟩ := Go.Deep.hone_of hone 1 f1 rfl
  obtain ⟨o2, k2⟩ := Go.Deep.hone_of hone 2 f2 rfl
  obtain ⟨o3, k3⟩ := Go.Deep.hone_of hone 3 f3 rfl
  have g0 := hf 0 f0 rfl
  have g1 := hf 1 f1 rfl
  have g2 := hf 2 f2 rfl
  have g3 := hf 3 f3 rfl
  rw [o0, k0, List.getElem?_eq_getElem (by omega)] at g0
  rw [o1, k1, List.getElem?_eq_getElem (by omega)] at g1
  rw [o2, k2, List.getElem?_eq_getElem (by omega)] at g2
  rw [o3, k3, List.getElem?_eq_getElem (by omega)] at g3
  simp only [List.drop, List.take] at g0 g1 g2 g3
  obtain ⟨z0, q0, _⟩ := DataW.trod_int e0 g0
  obtain ⟨z1, q1, _⟩ := DataW.trod_int e1 g1
  obtain ⟨z2, q2, _⟩ := DataW.trod_int e2 g2
  obtain ⟨zs, q3⟩ := intsIn_open e3 ei hc g3
  simp only [List.cons.injEq, and_true] at q0 q1 q2
  subst q0; subst q1; subst q2
  exact ⟨⟨z0, z1, z2, zs⟩, d, rfl, q3⟩

theorem stepIn_open {r : Reach} {b0 : Nat} {t ti : TypeId} {f0 f1 f2 f3 : Field} {v : Value} {d : DataW H} {p : List MemPlace}
    (ht : P.underlying t = some (.struct #[f0, f1, f2, f3])) (hone : Go.Deep.oneCellFields P #[f0, f1, f2, f3] = true)
    (e0 : P.underlying f0.type = some (.int .i64)) (e1 : P.underlying f1.type = some (.int .i64)) (e2 : P.underlying f2.type = some (.int .i64)) (e3 : P.underlying f3.type = some (.slice ti)) (ei : P.underlying ti = some (.int .i64)) (hc : P.cellsOf ti = 1) (hC : P.cellsOf t = 4)
    (hv : Value.okWide P w r b0 t v) (h : DataW.Trod enc P w base (fun _ => true) held t v d p) : ∃ s, StepIn w v s := by
  obtain ⟨cs, rfl, hsz⟩ := okWide_struct ht hv
  obtain ⟨fuel, hf⟩ := h
  obtain ⟨s, tv, hcs, hI⟩ := stepCells_open ht hone e0 e1 e2 e3 ei hc hC hf
  obtain ⟨l⟩ := cs
  have : l = [.int .i64 s.kind, .int .i64 s.n, .int .i64 s.k, tv] := by simpa [Value.cells] using hcs
  subst this
  exact ⟨s, tv, rfl, hI⟩

theorem stepsIn_open {t e ti : TypeId} {f0 f1 f2 f3 : Field} {fuel : Nat} {v : Value} {x : DataW H × List MemPlace}
    (hs : P.underlying t = some (.slice e)) (ht : P.underlying e = some (.struct #[f0, f1, f2, f3])) (hone : Go.Deep.oneCellFields P #[f0, f1, f2, f3] = true)
    (e0 : P.underlying f0.type = some (.int .i64)) (e1 : P.underlying f1.type = some (.int .i64)) (e2 : P.underlying f2.type = some (.int .i64)) (e3 : P.underlying f3.type = some (.slice ti)) (ei : P.underlying ti = some (.int .i64)) (hc : P.cellsOf ti = 1) (hC : P.cellsOf e = 4)
    (h : DataW.trod enc P w base (fun _ => true) held fuel t [v] = some x) : ∃ ss, StepsIn w v ss := by
  rcases Go.Deep.open_slice hs h with ⟨h0, _⟩ | ⟨a, len, cap, m, n, D, Pl, hcs, hb, hl, hm, hmm, hx, hi⟩
  · simp only [List.cons.injEq, and_true] at h0
    subst h0
    exact ⟨[], .nil _ _⟩
  · simp only [List.cons.injEq, and_true] at hcs
    subst hcs
    simp only [if_true] at hmm
    subst hmm
    by_cases h0 : len = 0
    · subst h0
      exact ⟨[], .nil _ _⟩
    · have key : ∀ j, j < len → ∃ q : St × Value, w.cell? (a.add (j * 4)) = some (.int .i64 q.1.kind) ∧ w.cell? ⟨(a.add (j * 4)).block, (a.add (j * 4)).off + 1, none⟩ = some (.int .i64 q.1.n) ∧ w.cell? ⟨(a.add (j * 4)).block, (a.add (j * 4)).off + 2, none⟩ = some (.int .i64 q.1.k) ∧ w.cell? ⟨(a.add (j * 4)).block, (a.add (j * 4)).off + 3, none⟩ = some q.2 ∧ IntsIn w q.2 q.1.taps := fun j hj => by
        obtain ⟨cs', hc', ht'⟩ := hi j (by omega)
        rw [hC] at hc'
        obtain ⟨s, tv, e, hI⟩ := stepCells_open ht hone e0 e1 e2 e3 ei hc hC ht'
        obtain ⟨_, _, hat⟩ := World.cells?_some hc'
        subst e
        refine ⟨(s, tv), ?_, ?_, ?_, ?_, hI⟩
        · have := hat 0 (by decide)
          rwa [show (a.add (j * 4)).add 0 = a.add (j * 4) by unfold Addr.add; simp] at this
        · exact hat 1 (by decide)
        · exact hat 2 (by decide)
        · exact hat 3 (by decide)
      obtain ⟨q, hq⟩ := Go.Deep.choose_lt (n := len) key
      refine ⟨(List.range len).map fun j => (q j).1, .row a m len _ (fun j => (q j).2) (by simp) (by omega) hl hm ?_ fun j hj => ?_⟩
      · have := World.block_lt_of_cell? _ _ (hq 0 (by omega)).1
        rwa [addr_block] at this
      · have e : ((List.range len).map fun j => (q j).1).getD j default = (q j).1 := by simp [List.getD, hj]
        rw [e]
        exact hq j hj

theorem planIn_open {r : Reach} {b0 : Nat} {t e ti : TypeId} {g0 f0 f1 f2 f3 : Field} {v : Value} {d : DataW H} {p : List MemPlace}
    (hp : P.underlying t = some (.struct #[g0])) (hop : Go.Deep.oneCellFields P #[g0] = true) (hCp : P.cellsOf t = 1) (hs : P.underlying g0.type = some (.slice e)) (ht : P.underlying e = some (.struct #[f0, f1, f2, f3])) (hone : Go.Deep.oneCellFields P #[f0, f1, f2, f3] = true)
    (e0 : P.underlying f0.type = some (.int .i64)) (e1 : P.underlying f1.type = some (.int .i64)) (e2 : P.underlying f2.type = some (.int .i64)) (e3 : P.underlying f3.type = some (.slice ti)) (ei : P.underlying ti = some (.int .i64)) (hc : P.cellsOf ti = 1) (hC : P.cellsOf e = 4)
    (hv : Value.okWide P w r b0 t v) (h : DataW.Trod enc P w base (fun _ => true) held t v d p) : ∃ ss, PlanIn w v ss := by
  obtain ⟨cs, rfl, hsz⟩ := okWide_struct hp hv
  obtain ⟨fuel, hf⟩ := h
  obtain ⟨xs, n, _, _, hl, hxl, hff⟩ := DataW.trod_struct hp hf
  obtain ⟨l⟩ := cs
  have hl1 : l.length = 1 := by simpa [Value.cells, hCp] using hl
  obtain ⟨c, rfl⟩ := List.length_eq_one_iff.1 hl1
  obtain ⟨o0, k0⟩ := Go.Deep.hone_of hop 0 g0 rfl
  have hx1 : xs.length = 1 := hxl
  have q0 := hff 0 g0 rfl
  rw [o0, k0, List.getElem?_eq_getElem (by omega)] at q0
  simp only [Value.cells, List.drop, List.take] at q0
  obtain ⟨ss, hss⟩ := stepsIn_open hs ht hone e0 e1 e2 e3 ei hc hC q0
  exact ⟨ss, c, rfl, hss⟩

end

end Go.Proofs.YtdefhmpmgcahpaaDoor
