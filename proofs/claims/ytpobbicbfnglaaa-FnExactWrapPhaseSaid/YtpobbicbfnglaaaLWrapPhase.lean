import Derived.Test.YtpobbicbfnglaaaSpA
/-
  The walk of the law on WrapPhase.
-/
set_option linter.unusedVariables false
set_option linter.unusedSimpArgs false
namespace Go.Proofs.Ytpobbicbfnglaaa
open Go.RowKit Flt

theorem wrapS_any (a : Nat) (z : Option Nat) (ha : IsF a z) (w : World) : Calls Try.prog 33 #[.float .f64 a] w (ToF (wrapO z) w) := by
  have C := Lib.hid (fun w => wrap_spec a z ha w)
  clear ha
  go_enter Try.func33, Try.ntmps33
  go_wp2_with fail
  refine (C.out _).mono ?_
  rintro e w' ⟨q, rfl, hq, n, rfl⟩
  have HQ := Lib.hid hq
  clear hq
  go_wp2
  go_ret
  exact ⟨q, rfl, HQ.out, n, rfl⟩

theorem exactWrapPhase_walk (a : Nat) (w : World) (h : (Lit.float .f64 a).wf = true) :
    Calls Try.prog 9 #[.float .f64 a] w fun e w' => e = .returned (.bool true) ∧ Below w.heap.size w w' := by
  have hl : a < 18446744073709551616 := by simpa [Lit.wf] using h
  have S := Lib.hid (fun w => wrapS_any a _ (IsF.self hl) w)
  have I := Lib.hid (fun w => wrap_impl a _ (IsF.self hl) w)
  clear h hl
  go_enter Try.func9, Try.ntmps9
  go_wp2_with fail
  refine (S.out _).mono ?_
  rintro e w' ⟨p, rfl, hp, n, rfl⟩
  have HP := Lib.hid hp
  clear hp
  go_wp2_with fail
  refine (I.out _).mono ?_
  rintro e w' ⟨q, rfl, hq, m, rfl⟩
  have HQ := Lib.hid hq
  have HE : Hid (cn .f64 q = cn .f64 p) := hq.cn.trans HP.out.cn.symm
  clear hq
  go_wp2_with fail
  refine (sameFloat_any q p HE.out HQ.out.lt _).mono ?_
  rintro e w' ⟨rfl, rfl⟩
  go_wp2
  go_ret
  exact ⟨rfl, below_draws (Below.refl _ _) _⟩

end Go.Proofs.Ytpobbicbfnglaaa
