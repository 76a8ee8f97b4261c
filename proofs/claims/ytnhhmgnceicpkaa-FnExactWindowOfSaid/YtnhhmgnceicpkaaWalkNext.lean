import Derived.Test.YtnhhmgnceicpkaaSameF
import Derived.Test.YtnhhmgnceicpkaaFlt
import Derived.Test.YtnhhmgnceicpkaaRows
import Derived.Test.YtnhhmgnceicpkaaExt
/-
  The walks of NextUp and NextUpNarrow.
-/
set_option linter.unusedVariables false
set_option linter.unusedSimpArgs false
namespace Go.Proofs.Ytnhhmgnceicpkaa
open Go.RowKit Flt

theorem upBits_lt {a : Nat} (h : a < 18446744073709551616) : upBits a < 18446744073709551616 := by
  unfold upBits; split
  · omega
  · split
    · split <;> omega
    · omega

end Go.Proofs.Ytnhhmgnceicpkaa
