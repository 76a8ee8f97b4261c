import Derived.Test.YtdefhmpmgcahpaaDoorRswZ
import Derived.Test.YtdefhmpmgcahpaaDoorLaidVZ
import Derived.Test.YtdefhmpmgcahpaaDoorHshZ
/-
  What ReadStep's row lays.
-/
set_option linter.unusedVariables false
set_option linter.unusedSimpArgs false
namespace Go.Proofs.YtdefhmpmgcahpaaDoor
open Go.ChangeShapes Go.WideShapes Go.ChangeAt Go.RowKit

set_option maxRecDepth 100000 in
theorem tab_head {W : World} {r : List (String × DataW Unit)} (h : laidMet Tryd.prog (("loop.example/g01155/impl.forms", Rows.laid_loop_example_g01155_impl_forms) :: r) W) : Tab W := by
  obtain ⟨ps, ⟨g0, t0, cs0, f0, p0, q0, hg0, ht0, hv0, hd0, _⟩, _⟩ := h
  obtain rfl := Option.some.inj ((show Tryd.prog.globalNamed "loop.example/g01155/impl.forms" = some 0 by kernel_rfl).symm.trans hg0)
  obtain rfl := Option.some.inj ((show (Tryd.prog.globals[0]?).map (·.type) = some 64 by kernel_rfl).symm.trans ht0)
  exact tab_of hv0 hd0 rfl

set_option maxRecDepth 100000 in
theorem of_laid8 {W : World} (h : laidMetH Tryd.prog Rows.fnExactReadStepRow.laid W ∧ W.ShapedOpen Tryd.prog) : GloS W := by
  obtain ⟨h, hsh⟩ := h
  rw [MakeChecks.laidMetH_plain _ _ _ (by kernel_rfl)] at h
  replace h : laidMet Tryd.prog [("math/bits.deBruijn32tab", Rows.laid_math_bits_deBruijn32tab), ("math/bits.deBruijn64tab", Rows.laid_math_bits_deBruijn64tab), ("internal/strconv.uint64pow10", Rows.laid_internal_strconv_uint64pow10), ("unicode/utf8.acceptRanges", Rows.laid_unicode_utf8_acceptRanges), ("strconv.ErrRange", Rows.laid_strconv_ErrRange), ("strconv.ErrSyntax", Rows.laid_strconv_ErrSyntax), ("loop.example/g01155/impl.forms", Rows.laid_loop_example_g01155_impl_forms), ("unicode/utf8.first", Rows.laid_unicode_utf8_first)] W := h
  have h2 := h.tail.tail
  have h4 := h2.tail.tail
  have h5 := h4.tail
  have h6 := h5.tail
  rw [pow_data] at h2
  have hp : Pow10 W := Lib.tabIs_of_head (g := 1) (t := 176) (e := 106) (n := 20) (by kernel_rfl) (by kernel_rfl) Tryd.underlying176 Tryd.underlying106 (by kernel_rfl) (by kernel_rfl) h2
  obtain ⟨a4, s4, hv4, -⟩ := laid_sentinel (g := 3) (ti := 70) (tp := 195) (te := 197) (ts := 9) h4 (by kernel_rfl) (by kernel_rfl) Tryd.underlying70 row_err Tryd.underlying195 Tryd.underlying197 rfl rfl Tryd.underlying9 (by kernel_rfl) (by kernel_rfl)
  obtain ⟨a5, s5, hv5, -⟩ := laid_sentinel (g := 2) (ti := 70) (tp := 195) (te := 197) (ts := 9) h5 (by kernel_rfl) (by kernel_rfl) Tryd.underlying70 row_err Tryd.underlying195 Tryd.underlying197 rfl rfl Tryd.underlying9 (by kernel_rfl) (by kernel_rfl)
  refine ⟨⟨cell_of_shapedOpen_int (zero := #[.int .i64 0]) (t := 3) hsh (of_decide_eq_true (by kernel_rfl)) (by kernel_rfl) rfl (by kernel_rfl) (by kernel_rfl) Tryd.underlying3, ?_, ?_⟩, hp, tab_head h6⟩
  · exact ⟨_, _, by have h0 := World.var?_cell (g := 2) (by kernel_rfl) hv5 0; simpa using h0⟩
  · exact ⟨_, _, by have h0 := World.var?_cell (g := 3) (by kernel_rfl) hv4 0; simpa using h0⟩

end Go.Proofs.YtdefhmpmgcahpaaDoor
