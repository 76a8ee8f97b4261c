import Derived.Test.YtpphmolfhogepaaDoorSameF
import Derived.Test.YtpphmolfhogepaaDoorFlt
import Derived.Test.YtpphmolfhogepaaDoorRows
import Derived.Test.YtpphmolfhogepaaDoorExt
/-
  The walks of NextUp and NextUpNarrow.
-/
set_option linter.unusedVariables false
set_option linter.unusedSimpArgs false
namespace Go.Proofs.YtpphmolfhogepaaDoor
open Go.RowKit Flt

theorem upBits_lt {a : Nat} (h : a < 18446744073709551616) : upBits a < 18446744073709551616 := by
  unfold upBits; split
  · omega
  · split
    · split <;> omega
    · omega

end Go.Proofs.YtpphmolfhogepaaDoor
