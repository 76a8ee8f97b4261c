import Derived.Test.YtpphmolfhogepaaDoorRdi
import Derived.Test.YtpphmolfhogepaaDoorDlv
import Derived.Lib.LaidTab
import Derived.Stop.LaidErr
import Derived.HandedShaped
import Derived.Handed
import Derived.Shelf.Vars
/-
  The law of ReadDeed.
-/
set_option linter.unusedVariables false
set_option linter.unusedSimpArgs false
namespace Go.Proofs.YtpphmolfhogepaaDoor
open Go.ChangeShapes Go.WideShapes Go.ChangeAt Go.RowKit

/-- The plain wrap over listed variables, the world's shape kept. -/
theorem handed_and_shaped {H : Type} {enc : TypeId × Value → H} {a : Assume} {C : Checked} {os : Os} {f : FuncId} {fn : Func} {s : ChangeSpec} {conds : List PathCond} {apart fresh handsOn again : Bool} {X : World → Array Value → Prop}
    (hX : ∀ (w w' : World) (args : Array Value), w.heap = w'.heap → X w args → X w' args)
    (own : ownKnob C.prog.godebug = none) (started : os.Started) (noInit : C.prog.inits.idxOf? f = none) (hfn : C.prog.funcs[f]? = some fn)
    (witness : ∃ (w : World) (tape : Tape) (i : Input), w.os = os ∧ (w.forCall tape i).Shaped C.prog ∧ i.vars = [] ∧ Input.okWide C.prog (w.forCall tape i) .any w.heap.size f i ∧
      ((s.pre enc C.prog fn conds apart (w.forCall tape i).memory i.args ∧ X (w.forCall tape i).memory i.args) ∧ sizedMet enc C.prog fn (OpenSpec.ofChange s) apart (w.forCall tape i).memory i.args) ∧ a.holds C.prog (lone (Frame.enter C.prog f i.args .normal) [] (w.forCall tape i)))
    (contract : ∀ (W : World) (base : Nat) (args : Array Value) (ds gs : List (DataW H)) (before : List MemPlace),
      (∀ (j : Nat) t v, fn.params[j]? = some t → args[j]? = some v → Value.okWide C.prog W .any base t v) →
      DataW.Whole enc C.prog fn.params.toList s.vars apart W args.toList ds gs before →
      conds.all (PathCond.test C.prog ⟨fn.params.toList, ds, s.plain.varTypes C.prog, gs⟩) = true →
      (DataW.weightsEach C.prog (fn.params.toList ++ s.plain.varTypes C.prog) (ds ++ gs)).all (· ≤ reachBytes) = true → X W args ∧ W.ShapedOpen C.prog →
      a.holds C.prog (lone (Frame.enter C.prog f args .normal) [] W) →
      Calls C.prog f args W fun e W' => ∃ v, e = .returned v ∧ s.post enc C.prog fn apart fresh handsOn again W args v W') :
    ReturnsInHanded a C os f .any (fun w args => (s.pre enc C.prog fn conds apart w args ∧ X w args) ∧ sizedMet enc C.prog fn (OpenSpec.ofChange s) apart w args) (s.post enc C.prog fn apart fresh handsOn again) := by
  refine returnsInHanded_of_calls own started noInit witness ?_
  intro w tape i _ hsh _ hok hpre hholds
  obtain ⟨_, _, _, fn', hfn', _, _, _, _, hval⟩ := hok
  have e : fn' = fn := Option.some.inj (hfn'.symm.trans hfn)
  subst e
  obtain ⟨⟨⟨ds, gs, before, hw, hc⟩, hx⟩, hz⟩ := hpre
  have hw' := DataW.Whole.of_heap (w' := w.forCall tape i) (by rfl) hw
  refine (contract (w.forCall tape i) w.heap.size i.args ds gs before hval hw' hc (hz.weights hw) ⟨hX _ _ _ (by rfl) hx, hsh⟩ hholds).mono fun e W' ⟨v, he, hp⟩ => ?_
  subst he
  exact ChangeSpec.post_blind hp

set_option maxRecDepth 100000 in
theorem pow_data : (Rows.laid_internal_strconv_uint64pow10 : DataW Unit) = Lib.tabData .u64 Lib.pow10Tab := by rfl

set_option maxRecDepth 100000 in
theorem tab9_head {W : World} {r : List (String × DataW Unit)} (h : laidMet Tryd.prog (("loop.example/g01155/impl.deedForms", Rows.laid_loop_example_g01155_impl_deedForms) :: r) W) : Tab9 W := by
  obtain ⟨ps, ⟨g0, t0, cs0, f0, p0, q0, hg0, ht0, hv0, hd0, _⟩, _⟩ := h
  obtain rfl := Option.some.inj ((show Tryd.prog.globalNamed "loop.example/g01155/impl.deedForms" = some 0 by kernel_rfl).symm.trans hg0)
  obtain rfl := Option.some.inj ((show (Tryd.prog.globals[0]?).map (·.type) = some 38 by kernel_rfl).symm.trans ht0)
  exact tab9_of hv0 hd0 rfl

theorem star_err : "*" ++ "errors.errorString" = "*errors.errorString" := by decide
theorem row_err (u : TypeId) (h : Tryd.prog.typeName? 3 u = some "*errors.errorString") : u = 106 :=
  typeName_ptr_named (nm := "errors.errorString") (by rw [star_err]; kernel_rfl) (by kernel_rfl) (by decide) u (by rw [star_err]; exact h)

set_option maxRecDepth 100000 in
theorem of_laid8 {W : World} (h : laidMetH Tryd.prog Rows.fnExactReadDeedRow.laid W ∧ W.ShapedOpen Tryd.prog) : Glo W := by
  obtain ⟨h, hsh⟩ := h
  rw [MakeChecks.laidMetH_plain _ _ _ (by kernel_rfl)] at h
  replace h : laidMet Tryd.prog [("math/bits.deBruijn32tab", Rows.laid_math_bits_deBruijn32tab), ("math/bits.deBruijn64tab", Rows.laid_math_bits_deBruijn64tab), ("internal/strconv.uint64pow10", Rows.laid_internal_strconv_uint64pow10), ("unicode/utf8.acceptRanges", Rows.laid_unicode_utf8_acceptRanges), ("strconv.ErrRange", Rows.laid_strconv_ErrRange), ("strconv.ErrSyntax", Rows.laid_strconv_ErrSyntax), ("loop.example/g01155/impl.deedForms", Rows.laid_loop_example_g01155_impl_deedForms), ("unicode/utf8.first", Rows.laid_unicode_utf8_first)] W := h
  have h2 := h.tail.tail
  have h4 := h2.tail.tail
  have h5 := h4.tail
  have h6 := h5.tail
  rw [pow_data] at h2
  have hp : Pow10 W := Lib.tabIs_of_head (g := 1) (t := 75) (e := 65) (n := 20) (by kernel_rfl) (by kernel_rfl) Tryd.underlying75 Tryd.underlying65 (by kernel_rfl) (by kernel_rfl) h2
  obtain ⟨a4, s4, hv4, -⟩ := laid_sentinel (g := 4) (ti := 60) (tp := 106) (te := 108) (ts := 9) h4 (by kernel_rfl) (by kernel_rfl) Tryd.underlying60 row_err Tryd.underlying106 Tryd.underlying108 rfl rfl Tryd.underlying9 (by kernel_rfl) (by kernel_rfl)
  obtain ⟨a5, s5, hv5, -⟩ := laid_sentinel (g := 3) (ti := 60) (tp := 106) (te := 108) (ts := 9) h5 (by kernel_rfl) (by kernel_rfl) Tryd.underlying60 row_err Tryd.underlying106 Tryd.underlying108 rfl rfl Tryd.underlying9 (by kernel_rfl) (by kernel_rfl)
  refine ⟨⟨cell_of_shapedOpen_int (zero := #[.int .i64 0]) (t := 3) hsh (of_decide_eq_true (by kernel_rfl)) (by kernel_rfl) rfl (by kernel_rfl) (by kernel_rfl) Tryd.underlying3, ?_, ?_⟩, hp, tab9_head h6⟩
  · exact ⟨_, _, by have h0 := World.var?_cell (g := 3) (by kernel_rfl) hv5 0; simpa using h0⟩
  · exact ⟨_, _, by have h0 := World.var?_cell (g := 4) (by kernel_rfl) hv4 0; simpa using h0⟩

set_option maxRecDepth 100000 in
set_option maxHeartbeats 4000000 in
theorem exactReadDeed_law (s : ByteArray) (w : World) (hs : s.size ≤ maxLen) (hG : Glo w) :
    Calls Tryd.prog 5 #[.string s] w fun e w' => e = .returned (.bool true) ∧ Below w.heap.size w w' := by
  by_cases hl : 1048576 < s.size
  · have g1 : decide ((1048576 : Int) < (s.size : Int)) = true := decide_eq_true (by omega)
    have g1' : decide (1048576 < s.size) = true := decide_eq_true hl
    clear hl hs
    go_enter Tryd.func5, Tryd.ntmps5
    go_wp2
    go_ret
    exact ⟨rfl, Below.refl _ _⟩
  have g1 : decide ((1048576 : Int) < (s.size : Int)) = false := decide_eq_false (by omega)
  have g1' : decide (1048576 < s.size) = false := decide_eq_false hl
  have SP := Lib.hid (readDeed_spec s.data.toList (show s.size ≤ 1048576 by omega) w)
  have IM := Lib.hid (fun (W : World) (hb : Below w.heap.size w W) => readDeed_impl s.data.toList (show s.size ≤ 1048576 by omega) W (hG.below hb))
  simp only [strOf_self] at SP IM
  clear hG hs hl
  go_enter Tryd.func5, Tryd.ntmps5
  go_wp2_with fail
  refine SP.out.mono ?_
  rintro e w1 ⟨r, hr, rfl, hb1⟩
  obtain ⟨z0, z1, z2, z3, hv⟩ := rV_form r
  have HV : Hid (rV r = .agg #[.int .i64 z0, .int .i64 z1, .int .i64 z2, .int .i64 z3]) := hv
  rw [hv]
  have hX : ∀ x : Obj, Below w.heap.size w (w1.alloc x) := fun x => hb1.alloc hb1.size x
  have HX := Lib.hid hX
  have IM2 := Lib.hid (fun x => IM.out (w1.alloc x) (hX x))
  have HR := Lib.hid hr
  clear hX hr hb1 hv IM
  go_wp2_with (go_at_call 12; refine (IM2.out _).mono ?_)
  rintro e w2 ⟨r', hr', rfl, hb2⟩
  obtain rfl : r = r' := HR.out.unique hr'
  rw [HV.out]
  have cl : ∀ j v, (w1.alloc (.cells #[.int .i64 z0, .int .i64 z1, .int .i64 z2, .int .i64 z3] 25)).cell? ⟨w1.heap.size, j, none⟩ = v → w2.cell? ⟨w1.heap.size, j, none⟩ = v := fun j v h => (hb2.cell (show (⟨w1.heap.size, j, none⟩ : Addr).block < _ by simp)).trans h
  have c0 := cl 0 (some (.int .i64 z0)) (by go_simp)
  have c1 := cl 1 (some (.int .i64 z1)) (by go_simp)
  have c2 := cl 2 (some (.int .i64 z2)) (by go_simp)
  have c3 := cl 3 (some (.int .i64 z3)) (by go_simp)
  have l1 : w1.heap.size < w2.heap.size := World.block_lt_of_cell? _ _ c0
  have al : ∀ (j : Nat) (z : Value), w2.cell? ⟨w1.heap.size, j, none⟩ = some z → ∀ x : Obj, (w2.alloc x).cell? ⟨w1.heap.size, j, none⟩ = some z := fun j z hz x => (World.cell?_alloc_old _ _ _ (Nat.ne_of_lt l1)).trans hz
  have k0 := al 0 _ c0
  have k1 := al 1 _ c1
  have k2 := al 2 _ c2
  have k3 := al 3 _ c3
  have HB2 : Hid (Below w.heap.size w w2) := (HX.out _).trans (hb2.mono (HX.out _).size)
  have EQ := Lib.hid (eqDeed_any z0 z1 z2 z3)
  clear cl al c0 c1 c2 c3 l1 hb2 hr' IM2 SP
  go_wp2_with ((go_at_call 13; with_reducible refine (EQ.out _).mono ?_; rintro e w3 ⟨rfl, hb3⟩; have HB3 := Lib.hid ((HB2.out.alloc HB2.out.size _).trans (hb3.mono (HB2.out.alloc HB2.out.size _).size)); clear hb3))
  go_ret
  exact ⟨rfl, HB3.out⟩

end Go.Proofs.YtpphmolfhogepaaDoor
