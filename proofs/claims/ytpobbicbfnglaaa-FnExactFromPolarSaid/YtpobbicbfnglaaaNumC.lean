import Derived.Test.YtpobbicbfnglaaaNum
import Derived.Test.YtpobbicbfnglaaaSigB
import Derived.Test.YtpobbicbfnglaaaFres
import Derived.BigRegion
/-
  Products, squares and kin of complex numbers, of the program and of the model.
-/
set_option linter.unusedVariables false
set_option linter.unusedSimpArgs false
namespace Go.Proofs.Ytpobbicbfnglaaa
open Go.RowKit Flt Fast
attribute [local go_sem] run_fadd run_fsub run_fmul run_fquo run_cadd run_csub

/-- A complex number is returned, up to the choice of NaNs; what was there has not turned. -/
def RetsC (z : Z) (w : World) (e : Ending) (w' : World) : Prop := ∃ a b, e = .returned (.complex .f64 a b) ∧ IsC (a, b) z ∧ Below w.heap.size w w'
/-- A float is returned, up to the choice of NaNs; what was there has not turned. -/
def RetsR (z : Option Nat) (w : World) (e : Ending) (w' : World) : Prop := ∃ a, e = .returned (.float .f64 a) ∧ IsF a z ∧ Below w.heap.size w w'

/-- The square of a size. -/
def sqZ (x : Z) : Option Nat := fop .add .f64 (fop .mul .f64 x.1 x.1) (fop .mul .f64 x.2 x.2)

end Go.Proofs.Ytpobbicbfnglaaa
