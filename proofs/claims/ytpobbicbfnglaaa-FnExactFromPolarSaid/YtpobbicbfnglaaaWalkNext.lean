import Derived.Test.YtpobbicbfnglaaaSameF
import Derived.Test.YtpobbicbfnglaaaFlt
import Derived.Test.YtpobbicbfnglaaaRows
import Derived.Test.YtpobbicbfnglaaaExt
/-
  The walks of NextUp and NextUpNarrow.
-/
set_option linter.unusedVariables false
set_option linter.unusedSimpArgs false
namespace Go.Proofs.Ytpobbicbfnglaaa
open Go.RowKit Flt

set_option maxRecDepth 100000 in
theorem copysign_one (w : World) :
    Calls Try.prog 115 #[.float .f64 1, .float .f64 9218868437227405312] w fun e w' => e = .returned (.float .f64 1) ∧ w' = w := by
  go_enter Try.func115, Try.ntmps115
  go_wp2
  go_ret
  exact ⟨by kernel_rfl, rfl⟩

theorem upBits_lt {a : Nat} (h : a < 18446744073709551616) : upBits a < 18446744073709551616 := by
  unfold upBits; split
  · omega
  · split
    · split <;> omega
    · omega

end Go.Proofs.Ytpobbicbfnglaaa
