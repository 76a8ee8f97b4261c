import Derived.Test.YtfdmohnmilecnaaDoorVpl
/-
  Steps that can be run: their types.
-/
set_option linter.unusedVariables false
set_option linter.unusedSimpArgs false
namespace Go.Proofs.YtfdmohnmilecnaaDoor
open Go.RowKit

/-- The type of the step that can be run. -/
def tyOf (q : Nat) : TypeId := [0, 146, 171, 172, 173, 174, 175, 177, 178, 179, 180, 147, 148, 149].getD q 0
/-- A step that can be run, as a value. -/
def ifV (s : St) (tv : Value) : Value := .iface (tyOf s.kind.toNat) (.agg #[.int .i64 s.kind, .int .i64 s.n, .int .i64 s.k, tv])

end Go.Proofs.YtfdmohnmilecnaaDoor
