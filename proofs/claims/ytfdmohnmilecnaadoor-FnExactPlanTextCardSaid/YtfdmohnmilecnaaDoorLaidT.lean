import Derived.Test.YtfdmohnmilecnaaDoorLaidV
import Derived.Test.YtfdmohnmilecnaaDoorTxI
import Derived.Lib.LaidTab
import Derived.Stop.LaidErr
/-
  What the four listed tables read as: the forms, and the powers of ten.
-/
set_option linter.unusedVariables false
namespace Go.Proofs.YtfdmohnmilecnaaDoor
open Go.ChangeShapes Go.WideShapes Go.ChangeAt Go.RowKit

set_option maxRecDepth 100000 in
theorem pow_data : (Rows.laid_internal_strconv_uint64pow10 : DataW Unit) = Lib.tabData .u64 Lib.pow10Tab := by rfl

set_option maxRecDepth 100000 in
theorem of_laid4 {W : World} (h : laidMetH Tryd.prog [("math/bits.deBruijn32tab", Rows.laid_math_bits_deBruijn32tab), ("math/bits.deBruijn64tab", Rows.laid_math_bits_deBruijn64tab), ("internal/strconv.uint64pow10", Rows.laid_internal_strconv_uint64pow10), ("loop.example/g01155/impl.forms", Rows.laid_loop_example_g01155_impl_forms)] W) : Tab W ∧ Pow10 W := by
  rw [MakeChecks.laidMetH_plain _ _ _ (by kernel_rfl)] at h
  have h3 := h.tail.tail
  refine ⟨of_laid (by rw [MakeChecks.laidMetH_plain _ _ _ (by kernel_rfl)]; exact h3.tail), ?_⟩
  rw [pow_data] at h3
  exact Lib.tabIs_of_head (g := 1) (t := 188) (e := 155) (n := 20) (by kernel_rfl) (by kernel_rfl) Tryd.underlying188 Tryd.underlying155 (by kernel_rfl) (by kernel_rfl) h3

end Go.Proofs.YtfdmohnmilecnaaDoor
