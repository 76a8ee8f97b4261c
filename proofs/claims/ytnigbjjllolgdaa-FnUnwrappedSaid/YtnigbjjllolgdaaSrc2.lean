import Derived.Test.YtnigbjjllolgdaaSrc
/-
  The draws of complex numbers: l01Any, A2Any; and a2At.
-/
set_option linter.unusedVariables false
set_option linter.unusedSimpArgs false
namespace Go.Proofs.Ytnigbjjllolgdaa
open Go.RowKit Flt

/-- A bool is returned, and the source has gone on. -/
def PicksB (w0 : World) (B : Nat) (a : Option Addr) (len cap : Nat) (i : Int) (most : Int) (w : World) (e : Ending) (w' : World) : Prop :=
  ∃ b j, e = .returned (.bool b) ∧ i ≤ j ∧ j ≤ i + most ∧ Src w0 B a len cap j w' ∧ w.grownBy w' (some B)
/-- A complex number is returned, and the source has gone on. -/
def PicksC (w0 : World) (B : Nat) (a : Option Addr) (len cap : Nat) (i : Int) (most : Int) (w : World) (e : Ending) (w' : World) : Prop :=
  ∃ x y j, x < 18446744073709551616 ∧ y < 18446744073709551616 ∧ e = .returned (.complex .f64 x y) ∧ i ≤ j ∧ j ≤ i + most ∧ Src w0 B a len cap j w' ∧ w.grownBy w' (some B)

/-- A complex number of whatever bits; nothing that was there has turned. -/
def AnyC (w : World) (e : Ending) (w' : World) : Prop := ∃ x y, x < 18446744073709551616 ∧ y < 18446744073709551616 ∧ e = .returned (.complex .f64 x y) ∧ Below w.heap.size w w'

end Go.Proofs.Ytnigbjjllolgdaa
