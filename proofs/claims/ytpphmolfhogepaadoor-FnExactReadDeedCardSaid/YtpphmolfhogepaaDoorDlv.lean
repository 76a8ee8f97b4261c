import Derived.Test.YtpphmolfhogepaaDoorDi
import Derived.Test.YtpphmolfhogepaaDoorRows
import Derived.LaidMore
import Derived.OpenShut
import Derived.ProofKit
/-
  What the listed table of deeds reads as.
-/
set_option linter.unusedVariables false
namespace Go.Proofs.YtpphmolfhogepaaDoor
open Go.ChangeShapes Go.WideShapes Go.ChangeAt Go.RowKit

/-- A row of the table as it is listed. -/
def laid9Q (q : Nat) : DataW Unit := .agg [.lit (.string (ddWord q).data.toList), .lit (.int .i64 (ddCnt q))]

theorem two_cells9 {xs : List Value} (h : xs.length = 2) : ∃ a b, xs = [a, b] := by
  match xs, h with
  | [a, b], _ => exact ⟨a, b, rfl⟩
theorem row9_of {t : TypeId} {f0 f1 : Field} {P : Program} {w : World} {base : Nat} {spare : Nat → Bool} {held : Bool} {enc : TypeId × Value → Unit} {fuel : Nat} {cs : List Value} {x : DataW Unit × List MemPlace} {l : List UInt8} {c : Int}
    (ht : P.underlying t = some (.struct #[f0, f1])) (hone : Go.Deep.oneCellFields P #[f0, f1] = true)
    (e0 : P.underlying f0.type = some .string) (e1 : P.underlying f1.type = some (.int .i64)) (hC : P.cellsOf t = 2)
    (h : DataW.trod enc P w base spare held fuel t cs = some x) (hx : x.1 = .agg [.lit (.string l), .lit (.int .i64 c)]) :
    ∃ s : ByteArray, s.data.toList = l ∧ cs = [.string s, .int .i64 c] := by
  obtain ⟨xs, n, _, ex, hl, hxl, hf⟩ := DataW.trod_struct ht h
  obtain ⟨a, b, rfl⟩ := two_cells9 (hl.trans hC)
  have hx4 : xs.length = 2 := hxl
  obtain ⟨o0, k0⟩ := Go.Deep.hone_of hone 0 f0 rfl
  obtain ⟨o1, k1⟩ := Go.Deep.hone_of hone 1 f1 rfl
  have g0 := hf 0 f0 rfl
  have g1 := hf 1 f1 rfl
  rw [o0, k0, List.getElem?_eq_getElem (by omega)] at g0
  rw [o1, k1, List.getElem?_eq_getElem (by omega)] at g1
  simp only [List.drop, List.take] at g0 g1
  obtain ⟨s, q0, y0, _⟩ := DataW.trod_string e0 g0
  obtain ⟨z1, q1, y1, _⟩ := DataW.trod_int e1 g1
  have he : xs.map (·.1) = [.lit (.string l), .lit (.int .i64 c)] := by
    rw [ex] at hx
    exact DataW.agg.inj hx
  have hi : ∀ j (hj : j < xs.length), ([.lit (.string l), .lit (.int .i64 c)] : List (DataW Unit))[j]? = some (xs[j]).1 := fun j hj => by
    rw [← he, List.getElem?_map, List.getElem?_eq_getElem hj]
    rfl
  have r0 := hi 0 (by omega)
  have r1 := hi 1 (by omega)
  rw [y0] at r0
  rw [y1] at r1
  simp at r0 r1
  simp only [List.cons.injEq, and_true] at q0 q1
  subst q0; subst q1; subst r1
  exact ⟨s, r0.symm, rfl⟩

set_option maxRecDepth 100000 in
theorem tab9_of {W : World} {cs : Array Value} {fuel : Nat} {x : DataW Unit × List MemPlace} {enc : TypeId × Value → Unit} {base : Nat} {spare : Nat → Bool} {held : Bool} (hv : W.var? Tryd.prog "loop.example/g01155/impl.deedForms" = some cs)
    (hd : DataW.trod enc Tryd.prog W base spare held fuel 38 cs.toList = some x) (hx : x.1 = .agg ((List.range 9).map laid9Q)) : Tab9 W := by
  have hg : Tryd.prog.globalNamed "loop.example/g01155/impl.deedForms" = some 0 := by kernel_rfl
  obtain ⟨xs, m, _, ex, _, hl, hel⟩ := DataW.trod_array Tryd.underlying38 hd
  have c4 : Tryd.prog.cellsOf 37 = 2 := by kernel_rfl
  have e3 : xs.map (·.1) = (List.range 9).map laid9Q := by
    rw [ex] at hx
    exact DataW.agg.inj hx
  have key : ∀ q, q < 9 → cs[q * 2]? = some (.string (ddWord q)) ∧ cs[q * 2 + 1]? = some (.int .i64 (ddCnt q)) := fun q hq => by
    have hE := hel q hq
    rw [c4, List.getElem?_eq_getElem (by omega)] at hE
    have hx1 : (xs[q]'(by omega)).1 = laid9Q q := by
      have : (xs.map (·.1))[q]? = some (laid9Q q) := by rw [e3]; simp [hq]
      rw [List.getElem?_map, List.getElem?_eq_getElem (by omega)] at this
      simpa using this
    obtain ⟨s, hs, hcs⟩ := row9_of Tryd.underlying37 (by kernel_rfl) Tryd.underlying9 Tryd.underlying3 c4 hE hx1
    have hs' : s = ddWord q := by
      apply ByteArray.ext
      apply Array.ext'
      exact hs
    subst hs'
    have hat : ∀ j, j < 2 → cs[q * 2 + j]? = ([.string (ddWord q), .int .i64 (ddCnt q)] : List Value)[j]? := fun j hj => by
      rw [← hcs, List.getElem?_take, if_pos hj, List.getElem?_drop]
      simp
    exact ⟨hat 0 (by decide), hat 1 (by decide)⟩
  refine ⟨fun q hq => ?_, fun q hq => ?_⟩
  · rw [World.var?_cell hg hv]; exact (key q hq).1
  · rw [World.var?_cell hg hv]; exact (key q hq).2

set_option maxRecDepth 100000 in
theorem of_laid {W : World} (h : laidMetH Tryd.prog [("loop.example/g01155/impl.deedForms", Rows.laid_loop_example_g01155_impl_deedForms)] W) : Tab9 W := by
  rw [MakeChecks.laidMetH_plain _ _ _ (by kernel_rfl)] at h
  obtain ⟨ps, ⟨g0, t0, cs0, f0, p0, q0, hg0, ht0, hv0, hd0, _⟩, _⟩ := h
  obtain rfl := Option.some.inj ((show Tryd.prog.globalNamed "loop.example/g01155/impl.deedForms" = some 0 by kernel_rfl).symm.trans hg0)
  obtain rfl := Option.some.inj ((show (Tryd.prog.globals[0]?).map (·.type) = some 38 by kernel_rfl).symm.trans ht0)
  exact tab9_of hv0 hd0 rfl

end Go.Proofs.YtpphmolfhogepaaDoor
