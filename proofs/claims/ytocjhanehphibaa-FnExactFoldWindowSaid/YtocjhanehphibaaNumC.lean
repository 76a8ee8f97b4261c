import Derived.Test.YtocjhanehphibaaNum
import Derived.Test.YtocjhanehphibaaSigB
import Derived.Test.YtocjhanehphibaaFres
import Derived.BigRegion
/-
  Products, squares and kin of complex numbers, of the program and of the model.
-/
set_option linter.unusedVariables false
set_option linter.unusedSimpArgs false
namespace Go.Proofs.Ytocjhanehphibaa
open Go.RowKit Flt Fast
attribute [local go_sem] run_fadd run_fsub run_fmul run_fquo run_cadd run_csub

/-- A complex number is returned, up to the choice of NaNs; what was there has not turned. -/
def RetsC (z : Z) (w : World) (e : Ending) (w' : World) : Prop := ∃ a b, e = .returned (.complex .f64 a b) ∧ IsC (a, b) z ∧ Below w.heap.size w w'
/-- A float is returned, up to the choice of NaNs; what was there has not turned. -/
def RetsR (z : Option Nat) (w : World) (e : Ending) (w' : World) : Prop := ∃ a, e = .returned (.float .f64 a) ∧ IsF a z ∧ Below w.heap.size w w'

set_option maxRecDepth 100000 in
set_option maxHeartbeats 4000000 in
theorem mul_spec (a b c d : Nat) (x y : Z) (h1 : IsC (a, b) x) (h2 : IsC (c, d) y) (w : World) :
    Calls Try.prog 71 #[.complex .f64 a b, .complex .f64 c d] w (RetC (mulZ x y) w) := by
  have H1 := Lib.hid h1
  have H2 := Lib.hid h2
  clear h1 h2
  go_enter Try.func71, Try.ntmps71
  go_wp2
  go_ret
  exact ⟨_, _, rfl, isF_fres (isF_fres H1.out.re H2.out.re _) (isF_fres H1.out.im H2.out.im _) _, isF_fres (isF_fres H1.out.re H2.out.im _) (isF_fres H1.out.im H2.out.re _) _, _, rfl⟩

set_option maxRecDepth 100000 in
set_option maxHeartbeats 4000000 in
theorem times_any (a b c d : Nat) (x y : Z) (h1 : IsC (a, b) x) (h2 : IsC (c, d) y) (w : World) :
    Calls Try.prog 89 #[.agg #[.complex .f64 a b], .agg #[.complex .f64 c d]] w (RetsC (mulZ x y) w) := by
  have H1 := Lib.hid h1
  have H2 := Lib.hid h2
  clear h1 h2
  go_enter Try.func89, Try.ntmps89
  go_wp2_with fail
  refine (parts_any a b _).mono ?_
  rintro e w1 ⟨rfl, hb1⟩
  have hy : w.heap.size + 1 < w1.heap.size := by have := hb1.size; simp at this; omega
  have c3 : w1.cell? ⟨w.heap.size + 1, 0, none⟩ = some (.complex .f64 c d) := by
    rw [hb1.cell (by simp)]; simp
  have HB1 : Hid (Below w.heap.size w w1) := (((Below.refl _ _).alloc (Nat.le_refl _) _).alloc (by simp) _).trans (hb1.mono (by simp; omega))
  clear hb1
  go_wp2_with fail
  refine (parts_any c d _).mono ?_
  rintro e w2 ⟨rfl, hb2⟩
  have HB2 : Hid (Below w.heap.size w w2) := HB1.out.trans (hb2.mono HB1.out.size)
  clear hb2 HB1 c3 hy
  go_wp2
  go_ret
  exact ⟨_, _, rfl, ⟨isF_fres (isF_fres H1.out.re H2.out.re _) (isF_fres H1.out.im H2.out.im _) _, isF_fres (isF_fres H1.out.re H2.out.im _) (isF_fres H1.out.im H2.out.re _) _⟩, below_draws HB2.out _⟩

/-- The square of a size. -/
def sqZ (x : Z) : Option Nat := fop .add .f64 (fop .mul .f64 x.1 x.1) (fop .mul .f64 x.2 x.2)

end Go.Proofs.Ytocjhanehphibaa
