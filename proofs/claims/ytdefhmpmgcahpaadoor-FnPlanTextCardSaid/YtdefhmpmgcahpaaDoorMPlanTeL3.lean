/-
  Several texts of this claim, one behind the other; each says what it holds.
-/
import Derived.Test.YtdefhmpmgcahpaaDoorMPlanTeL5
import Derived.Test.YtdefhmpmgcahpaaDoorRows
import Derived.LaidMore
import Derived.OpenShut
import Derived.ProofKit
import Derived.Test.YtdefhmpmgcahpaaDoorMPlanTeL11
import Derived.Lib.LaidTab
import Derived.Stop.LaidErr
import Derived.HandedShaped
import Derived.Handed
import Derived.Shelf.Vars
import Derived.Test.YtdefhmpmgcahpaaDoorLPtZ
/-
  What the listed table reads as.
-/
set_option linter.unusedVariables false
namespace Go.Proofs.YtdefhmpmgcahpaaDoor
open Go.ChangeShapes Go.WideShapes Go.ChangeAt Go.RowKit

/-- A row of the table as it is listed. -/
def laidQ (q : Nat) : DataW Unit := .agg [.lit (.string (wordOf q).data.toList), .lit (.int .i64 (cntOf q)), .lit (.int .i64 (loOf q)), .lit (.int .i64 (hiOf q))]

theorem row_of {t : TypeId} {f0 f1 f2 f3 : Field} {P : Program} {w : World} {base : Nat} {spare : Nat → Bool} {held : Bool} {enc : TypeId × Value → Unit} {fuel : Nat} {cs : List Value} {x : DataW Unit × List MemPlace} {l : List UInt8} {c lo hi : Int}
    (ht : P.underlying t = some (.struct #[f0, f1, f2, f3])) (hone : Go.Deep.oneCellFields P #[f0, f1, f2, f3] = true)
    (e0 : P.underlying f0.type = some .string) (e1 : P.underlying f1.type = some (.int .i64)) (e2 : P.underlying f2.type = some (.int .i64)) (e3 : P.underlying f3.type = some (.int .i64)) (hC : P.cellsOf t = 4)
    (h : DataW.trod enc P w base spare held fuel t cs = some x) (hx : x.1 = .agg [.lit (.string l), .lit (.int .i64 c), .lit (.int .i64 lo), .lit (.int .i64 hi)]) :
    ∃ s : ByteArray, s.data.toList = l ∧ cs = [.string s, .int .i64 c, .int .i64 lo, .int .i64 hi] := by
  obtain ⟨xs, n, _, ex, hl, hxl, hf⟩ := DataW.trod_struct ht h
  obtain ⟨a, b, d, e, rfl⟩ := four_cells (hl.trans hC)
  have hx4 : xs.length = 4 := hxl
  obtain ⟨o0, k0⟩ := Go.Deep.hone_of hone 0 f0 rfl
  obtain ⟨o1, k1⟩ := Go.Deep.hone_of hone 1 f1 rfl
  obtain ⟨o2, k2⟩ := Go.Deep.hone_of hone 2 f2 rfl
  obtain ⟨o3, k3⟩ := Go.Deep.hone_of hone 3 f3 rfl
  have g0 := hf 0 f0 rfl
  have g1 := hf 1 f1 rfl
  have g2 := hf 2 f2 rfl
  have g3 := hf 3 f3 rfl
  rw [o0, k0, List.getElem?_eq_getElem (by omega)] at g0
  rw [o1, k1, List.getElem?_eq_getElem (by omega)] at g1
  rw [o2, k2, List.getElem?_eq_getElem (by omega)] at g2
  rw [o3, k3, List.getElem?_eq_getElem (by omega)] at g3
  simp only [List.drop, List.take] at g0 g1 g2 g3
  obtain ⟨s, q0, y0, _⟩ := DataW.trod_string e0 g0
  obtain ⟨z1, q1, y1, _⟩ := DataW.trod_int e1 g1
  obtain ⟨z2, q2, y2, _⟩ := DataW.trod_int e2 g2
  obtain ⟨z3, q3, y3, _⟩ := DataW.trod_int e3 g3
  have he : xs.map (·.1) = [.lit (.string l), .lit (.int .i64 c), .lit (.int .i64 lo), .lit (.int .i64 hi)] := by
    rw [ex] at hx
    exact DataW.agg.inj hx
  have hi : ∀ j (hj : j < xs.length), ([.lit (.string l), .lit (.int .i64 c), .lit (.int .i64 lo), .lit (.int .i64 hi)] : List (DataW Unit))[j]? = some (xs[j]).1 := fun j hj => by
    rw [← he, List.getElem?_map, List.getElem?_eq_getElem hj]
    rfl
  have r0 := hi 0 (by omega)
  have r1 := hi 1 (by omega)
  have r2 := hi 2 (by omega)
  have r3 := hi 3 (by omega)
  rw [y0] at r0
  rw [y1] at r1
  rw [y2] at r2
  rw [y3] at r3
  simp at r0 r1 r2 r3
  simp only [List.cons.injEq, and_true] at q0 q1 q2 q3
  subst q0; subst q1; subst q2; subst q3; subst r1; subst r2; subst r3
  exact ⟨s, r0.symm, rfl⟩

set_option maxRecDepth 100000 in
theorem tab_of {W : World} {cs : Array Value} {fuel : Nat} {x : DataW Unit × List MemPlace} {enc : TypeId × Value → Unit} {base : Nat} {spare : Nat → Bool} {held : Bool} (hv : W.var? Tryd.prog "loop.example/g01155/impl.forms" = some cs)
    (hd : DataW.trod enc Tryd.prog W base spare held fuel 64 cs.toList = some x) (hx : x.1 = .agg ((List.range 14).map laidQ)) : Tab W := by
  have hg : Tryd.prog.globalNamed "loop.example/g01155/impl.forms" = some 0 := by kernel_rfl
  obtain ⟨xs, m, _, ex, _, hl, hel⟩ := DataW.trod_array Tryd.underlying64 hd
  have c4 : Tryd.prog.cellsOf 63 = 4 := by kernel_rfl
  have e3 : xs.map (·.1) = (List.range 14).map laidQ := by
    rw [ex] at hx
    exact DataW.agg.inj hx
  have key : ∀ q, q < 14 → cs[q * 4]? = some (.string (wordOf q)) ∧ cs[q * 4 + 1]? = some (.int .i64 (cntOf q)) ∧ cs[q * 4 + 2]? = some (.int .i64 (loOf q)) ∧ cs[q * 4 + 3]? = some (.int .i64 (hiOf q)) := fun q hq => by
    have hE := hel q hq
    rw [c4, List.getElem?_eq_getElem (by omega)] at hE
    have hx1 : (xs[q]'(by omega)).1 = laidQ q := by
      have : (xs.map (·.1))[q]? = some (laidQ q) := by rw [e3]; simp [hq]
      rw [List.getElem?_map, List.getElem?_eq_getElem (by omega)] at this
      simpa using this
    obtain ⟨s, hs, hcs⟩ := row_of Tryd.underlying63 (by kernel_rfl) Tryd.underlying9 Tryd.underlying3 Tryd.underlying2 Tryd.underlying2 c4 hE hx1
    have hs' : s = wordOf q := by
      apply ByteArray.ext
      apply Array.ext'
      exact hs
    subst hs'
    have hat : ∀ j, j < 4 → cs[q * 4 + j]? = ([.string (wordOf q), .int .i64 (cntOf q), .int .i64 (loOf q), .int .i64 (hiOf q)] : List Value)[j]? := fun j hj => by
      rw [← hcs, List.getElem?_take, if_pos hj, List.getElem?_drop]
      simp
    exact ⟨hat 0 (by decide), hat 1 (by decide), hat 2 (by decide), hat 3 (by decide)⟩
  refine ⟨fun q hq => ?_, fun q hq => ?_, fun q hq => ?_, fun q hq => ?_⟩
  · rw [World.var?_cell hg hv]; exact (key q hq).1
  · rw [World.var?_cell hg hv]; exact (key q hq).2.1
  · rw [World.var?_cell hg hv]; exact (key q hq).2.2.1
  · rw [World.var?_cell hg hv]; exact (key q hq).2.2.2

set_option maxRecDepth 100000 in
theorem of_laid {W : World} (h : laidMetH Tryd.prog [("loop.example/g01155/impl.forms", Rows.laid_loop_example_g01155_impl_forms)] W) : Tab W := by
  rw [MakeChecks.laidMetH_plain _ _ _ (by kernel_rfl)] at h
  obtain ⟨ps, ⟨g0, t0, cs0, f0, p0, q0, hg0, ht0, hv0, hd0, _⟩, _⟩ := h
  obtain rfl := Option.some.inj ((show Tryd.prog.globalNamed "loop.example/g01155/impl.forms" = some 0 by kernel_rfl).symm.trans hg0)
  obtain rfl := Option.some.inj ((show (Tryd.prog.globals[0]?).map (·.type) = some 64 by kernel_rfl).symm.trans ht0)
  exact tab_of hv0 hd0 rfl

end Go.Proofs.YtdefhmpmgcahpaaDoor
/-
  Rows that are shaped and lay variables.
-/
set_option linter.unusedVariables false
set_option linter.unusedSimpArgs false
namespace Go.Proofs.YtdefhmpmgcahpaaDoor
open Go.ChangeShapes Go.WideShapes Go.ChangeAt Go.RowKit

/-- The plain wrap over listed variables, the world's shape kept. -/
theorem handed_and_shaped {H : Type} {enc : TypeId × Value → H} {a : Assume} {C : Checked} {os : Os} {f : FuncId} {fn : Func} {s : ChangeSpec} {conds : List PathCond} {apart fresh handsOn again : Bool} {X : World → Array Value → Prop}
    (hX : ∀ (w w' : World) (args : Array Value), w.heap = w'.heap → X w args → X w' args)
    (own : ownKnob C.prog.godebug = none) (started : os.Started) (noInit : C.prog.inits.idxOf? f = none) (hfn : C.prog.funcs[f]? = some fn)
    (witness : ∃ (w : World) (tape : Tape) (i : Input), w.os = os ∧ (w.forCall tape i).Shaped C.prog ∧ i.vars = [] ∧ Input.okWide C.prog (w.forCall tape i) .any w.heap.size f i ∧
      ((s.pre enc C.prog fn conds apart (w.forCall tape i).memory i.args ∧ X (w.forCall tape i).memory i.args) ∧ sizedMet enc C.prog fn (OpenSpec.ofChange s) apart (w.forCall tape i).memory i.args) ∧ a.holds C.prog (lone (Frame.enter C.prog f i.args .normal) [] (w.forCall tape i)))
    (contract : ∀ (W : World) (base : Nat) (args : Array Value) (ds gs : List (DataW H)) (before : List MemPlace),
      (∀ (j : Nat) t v, fn.params[j]? = some t → args[j]? = some v → Value.okWide C.prog W .any base t v) →
      DataW.Whole enc C.prog fn.params.toList s.vars apart W args.toList ds gs before →
      conds.all (PathCond.test C.prog ⟨fn.params.toList, ds, s.plain.varTypes C.prog, gs⟩) = true →
      (DataW.weightsEach C.prog (fn.params.toList ++ s.plain.varTypes C.prog) (ds ++ gs)).all (· ≤ reachBytes) = true → X W args ∧ W.ShapedOpen C.prog →
      a.holds C.prog (lone (Frame.enter C.prog f args .normal) [] W) →
      Calls C.prog f args W fun e W' => ∃ v, e = .returned v ∧ s.post enc C.prog fn apart fresh handsOn again W args v W') :
    ReturnsInHanded a C os f .any (fun w args => (s.pre enc C.prog fn conds apart w args ∧ X w args) ∧ sizedMet enc C.prog fn (OpenSpec.ofChange s) apart w args) (s.post enc C.prog fn apart fresh handsOn again) := by
  refine returnsInHanded_of_calls own started noInit witness ?_
  intro w tape i _ hsh _ hok hpre hholds
  obtain ⟨_, _, _, fn', hfn', _, _, _, _, hval⟩ := hok
  have e : fn' = fn := Option.some.inj (hfn'.symm.trans hfn)
  subst e
  obtain ⟨⟨⟨ds, gs, before, hw, hc⟩, hx⟩, hz⟩ := hpre
  have hw' := DataW.Whole.of_heap (w' := w.forCall tape i) (by rfl) hw
  refine (contract (w.forCall tape i) w.heap.size i.args ds gs before hval hw' hc (hz.weights hw) ⟨hX _ _ _ (by rfl) hx, hsh⟩ hholds).mono fun e W' ⟨v, he, hp⟩ => ?_
  subst he
  exact ChangeSpec.post_blind hp

set_option maxRecDepth 100000 in
theorem pow_data : (Rows.laid_internal_strconv_uint64pow10 : DataW Unit) = Lib.tabData .u64 Lib.pow10Tab := by rfl

theorem star_err : "*" ++ "errors.errorString" = "*errors.errorString" := by decide
theorem row_err (u : TypeId) (h : Tryd.prog.typeName? 3 u = some "*errors.errorString") : u = 195 :=
  typeName_ptr_named (nm := "errors.errorString") (by rw [star_err]; kernel_rfl) (by kernel_rfl) (by decide) u (by rw [star_err]; exact h)

end Go.Proofs.YtdefhmpmgcahpaaDoor
/-
  What FnPlanText's row lays.
-/
set_option linter.unusedVariables false
set_option linter.unusedSimpArgs false
namespace Go.Proofs.YtdefhmpmgcahpaaDoor
open Go.ChangeShapes Go.WideShapes Go.ChangeAt Go.RowKit

set_option maxRecDepth 100000 in
theorem tab_head {W : World} {r : List (String × DataW Unit)} (h : laidMet Tryd.prog (("loop.example/g01155/impl.forms", Rows.laid_loop_example_g01155_impl_forms) :: r) W) : Tab W := by
  obtain ⟨ps, ⟨g0, t0, cs0, f0, p0, q0, hg0, ht0, hv0, hd0, _⟩, _⟩ := h
  obtain rfl := Option.some.inj ((show Tryd.prog.globalNamed "loop.example/g01155/impl.forms" = some 0 by kernel_rfl).symm.trans hg0)
  obtain rfl := Option.some.inj ((show (Tryd.prog.globals[0]?).map (·.type) = some 64 by kernel_rfl).symm.trans ht0)
  exact tab_of hv0 hd0 rfl

set_option maxRecDepth 100000 in
theorem of_laid8 {W : World} (h : laidMetH Tryd.prog Rows.fnPlanTextRow.laid W ∧ W.ShapedOpen Tryd.prog) : GloS W := by
  obtain ⟨h, hsh⟩ := h
  rw [MakeChecks.laidMetH_plain _ _ _ (by kernel_rfl)] at h
  replace h : laidMet Tryd.prog [("math/bits.deBruijn32tab", Rows.laid_math_bits_deBruijn32tab), ("math/bits.deBruijn64tab", Rows.laid_math_bits_deBruijn64tab), ("internal/strconv.uint64pow10", Rows.laid_internal_strconv_uint64pow10), ("unicode/utf8.acceptRanges", Rows.laid_unicode_utf8_acceptRanges), ("strconv.ErrRange", Rows.laid_strconv_ErrRange), ("strconv.ErrSyntax", Rows.laid_strconv_ErrSyntax), ("loop.example/g01155/impl.forms", Rows.laid_loop_example_g01155_impl_forms), ("unicode/utf8.first", Rows.laid_unicode_utf8_first)] W := h
  have h2 := h.tail.tail
  have h4 := h2.tail.tail
  have h5 := h4.tail
  have h6 := h5.tail
  rw [pow_data] at h2
  have hp : Pow10 W := Lib.tabIs_of_head (g := 1) (t := 176) (e := 106) (n := 20) (by kernel_rfl) (by kernel_rfl) Tryd.underlying176 Tryd.underlying106 (by kernel_rfl) (by kernel_rfl) h2
  obtain ⟨a4, s4, hv4, -⟩ := laid_sentinel (g := 3) (ti := 70) (tp := 195) (te := 197) (ts := 9) h4 (by kernel_rfl) (by kernel_rfl) Tryd.underlying70 row_err Tryd.underlying195 Tryd.underlying197 rfl rfl Tryd.underlying9 (by kernel_rfl) (by kernel_rfl)
  obtain ⟨a5, s5, hv5, -⟩ := laid_sentinel (g := 2) (ti := 70) (tp := 195) (te := 197) (ts := 9) h5 (by kernel_rfl) (by kernel_rfl) Tryd.underlying70 row_err Tryd.underlying195 Tryd.underlying197 rfl rfl Tryd.underlying9 (by kernel_rfl) (by kernel_rfl)
  refine ⟨⟨cell_of_shapedOpen_int (zero := #[.int .i64 0]) (t := 3) hsh (of_decide_eq_true (by kernel_rfl)) (by kernel_rfl) rfl (by kernel_rfl) (by kernel_rfl) Tryd.underlying3, ?_, ?_⟩, hp, tab_head h6⟩
  · exact ⟨_, _, by have h0 := World.var?_cell (g := 2) (by kernel_rfl) hv5 0; simpa using h0⟩
  · exact ⟨_, _, by have h0 := World.var?_cell (g := 3) (by kernel_rfl) hv4 0; simpa using h0⟩

end Go.Proofs.YtdefhmpmgcahpaaDoor
