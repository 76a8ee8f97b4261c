import Derived.Test.YtocjhanehphibaaSameF
import Derived.Test.YtocjhanehphibaaFlt
import Derived.Test.YtocjhanehphibaaRows
import Derived.Test.YtocjhanehphibaaExt
/-
  The walks of NextUp and NextUpNarrow.
-/
set_option linter.unusedVariables false
set_option linter.unusedSimpArgs false
namespace Go.Proofs.Ytocjhanehphibaa
open Go.RowKit Flt

theorem inf_any (w : World) :
    Calls Try.prog 105 #[.int .i64 1] w fun e w' => e = .returned (.float .f64 9218868437227405312) ∧ w' = w := by
  go_enter Try.func105, Try.ntmps105
  go_wp2
  go_ret
  exact ⟨rfl, rfl⟩

set_option maxRecDepth 100000 in
theorem copysign_one (w : World) :
    Calls Try.prog 106 #[.float .f64 1, .float .f64 9218868437227405312] w fun e w' => e = .returned (.float .f64 1) ∧ w' = w := by
  go_enter Try.func106, Try.ntmps106
  go_wp2
  go_ret
  exact ⟨by kernel_rfl, rfl⟩

theorem upBits_lt {a : Nat} (h : a < 18446744073709551616) : upBits a < 18446744073709551616 := by
  unfold upBits; split
  · omega
  · split
    · split <;> omega
    · omega

end Go.Proofs.Ytocjhanehphibaa
