import Derived.Test.YtpobbicbfnglaaaSpO
import Derived.Test.YtpobbicbfnglaaaLawTurn
/-
  The walk of the law on FromPolar.
-/
set_option linter.unusedVariables false
set_option linter.unusedSimpArgs false
namespace Go.Proofs.Ytpobbicbfnglaaa
open Go.RowKit Flt Turn

set_option maxRecDepth 100000 in
theorem polar_law (a0 a1 : Nat) (z1 z2 : Option Nat) (w : World)
    (S : ∀ w, Calls Try.prog 39 #[.float .f64 a0, .float .f64 a1] w (PolTo z1 z2 w))
    (I : ∀ w, Calls Try.prog 40 #[.float .f64 a0, .float .f64 a1] w (PolTo z1 z2 w)) :
    Calls Try.prog 12 #[.float .f64 a0, .float .f64 a1] w fun e w' => e = .returned (.bool true) ∧ Below w.heap.size w w' := by
  have HS := Lib.hid S
  have HI := Lib.hid I
  clear S I
  go_enter Try.func12, Try.ntmps12
  go_wp2_with fail
  refine (HS.out _).mono ?_
  rintro e w2 ⟨x, y, rfl, hx, hy, hb⟩
  have HX := Lib.hid hx
  have HY := Lib.hid hy
  have HB := Lib.hid hb
  clear hx hy hb
  go_wp2_with fail
  refine (HI.out _).mono ?_
  rintro e w3 ⟨x', y', rfl, hx, hy, hb⟩
  have SC := Lib.hid (fun w => sameComplex_any x' y' x y (hx.cn.trans HX.out.cn.symm) (hy.cn.trans HY.out.cn.symm) hx.lt hy.lt w)
  have HB3 := Lib.hid (below_step HB.out hb HB.out.size)
  clear hx hy hb
  go_wp2_with fail
  refine (SC.out _).mono ?_
  rintro e w' ⟨rfl, rfl⟩
  go_wp2
  go_ret
  exact ⟨rfl, HB3.out⟩

theorem exactFromPolar_law (a0 a1 : Nat) (w : World) (h0 : (Lit.float .f64 a0).wf = true) (h1 : (Lit.float .f64 a1).wf = true) :
    Calls Try.prog 12 #[.float .f64 a0, .float .f64 a1] w fun e w' => e = .returned (.bool true) ∧ Below w.heap.size w w' := by
  have l0 : a0 < 18446744073709551616 := by simpa [Lit.wf] using h0
  have l1 : a1 < 18446744073709551616 := by simpa [Lit.wf] using h1
  have f0 := IsF.self l0
  have f1 := IsF.self l1
  cases hf : finO (cn .f64 a1)
  · exact polar_law a0 a1 none none w (fun w => polarN_spec a0 a1 _ f1 hf w) (fun w => polarN_impl a0 a1 _ f1 hf w)
  · obtain ⟨x, hx, hx2⟩ := finO_some hf
    obtain ⟨-, rfl⟩ := num_of_cn hx
    obtain ⟨n, p, m, s, hb, hp, hm, hs, hfin, hn⟩ := polar_num (a := a1) ⟨l1, hx2⟩
    rw [← hx] at hp
    obtain ⟨r, hr⟩ : ∃ r : Nat, n % 1024 = (r : Int) := ⟨(n % 1024).toNat, by omega⟩
    exact polar_law a0 a1 _ _ w (fun w => polar_spec a0 a1 p m s r _ _ n f0 f1 hf hp hm hs hfin hn hb hr (by omega) w) (fun w => polar_impl a0 a1 p m s r _ _ n f0 f1 hf hp hm hs hfin hn hb hr (by omega) w)

end Go.Proofs.Ytpobbicbfnglaaa
