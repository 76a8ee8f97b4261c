import Derived.Test.YtpobbicbfnglaaaOpt
import Derived.Test.YtpobbicbfnglaaaRows
import Derived.Test.YtpobbicbfnglaaaExt
import Derived.Lib.Hide
/-
  The program's numbers: their parts, conjugates and products.
-/
set_option linter.unusedVariables false
set_option linter.unusedSimpArgs false
namespace Go.Proofs.Ytpobbicbfnglaaa
open Go.RowKit Flt

/-- The function returns this; nothing that was there has turned, and it draws nothing that matters. -/
def Rets (v : Value) (w : World) (e : Ending) (w' : World) : Prop := e = .returned v ∧ Below w.heap.size w w'


theorem parts_any (a b : Nat) (w : World) :
    Calls Try.prog 96 #[.agg #[.complex .f64 a b]] w (Rets (.tuple #[.float .f64 a, .float .f64 b]) w) := by
  go_enter Try.func96, Try.ntmps96
  go_wp2
  go_ret2
  exact ⟨rfl, by repeat (first | exact Below.refl _ _ | refine Below.alloc ?_ (by simp; try omega) _)⟩

theorem numberOf_any (a b : Nat) (w : World) :
    Calls Try.prog 95 #[.complex .f64 a b] w (Rets (.agg #[.complex .f64 a b]) w) := by
  go_enter Try.func95, Try.ntmps95
  go_wp2
  exact bodyPost_ret (v := .agg #[.complex .f64 a b]) (by simp [results, Try.results95, go_sem]) rfl ⟨rfl, by repeat (first | exact Below.refl _ _ | refine Below.alloc ?_ (by simp; try omega) _)⟩

set_option maxRecDepth 100000 in
theorem conj_impl (a b : Nat) (w : World) :
    Calls Try.prog 117 #[.complex .f64 a b] w (Rets (.complex .f64 a (Op.negFloat .f64 b)) w) := by
  go_enter Try.func117, Try.ntmps117
  go_wp2_with fail
  refine (numberOf_any a b _).mono ?_
  rintro e w1 ⟨rfl, hb1⟩
  go_wp2_with (first
    | (go_at_call 96; refine (parts_any a b _).mono ?_; rintro e w2 ⟨rfl, hb2⟩)
    | (go_at_call 122; go_in))
  go_ret
  exact ⟨rfl, (hb1.alloc hb1.size _).trans (hb2.mono (by have := hb1.size; simp; omega))⟩

end Go.Proofs.Ytpobbicbfnglaaa
