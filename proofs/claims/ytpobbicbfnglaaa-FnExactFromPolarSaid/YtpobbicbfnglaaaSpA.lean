import Derived.Test.YtpobbicbfnglaaaWinF
import Derived.Test.YtpobbicbfnglaaaSameS
/-
  WrapPhase of both; the greatest integer that is at most a number.
-/
set_option linter.unusedVariables false
set_option linter.unusedSimpArgs false
namespace Go.Proofs.Ytpobbicbfnglaaa
open Go.RowKit Flt Fast
attribute [local go_sem] run_fadd run_fsub run_fmul run_fquo run_cadd run_csub

/-- The word of the greatest integer that is at most a number. -/
def floW (x : Nat) : Nat := FloatKind.f64.encode ((FloatKind.f64.decode x).integral .down)
def floO : Option Nat → Option Nat
  | some x => some (floW x)
  | none => none

theorem integral_num {d : Ieee.Datum} (way : Ieee.Toward) (h : d.isNaN = false) : (d.integral way).isNaN = false := by
  cases d with
  | nan s t => cases h
  | infinity s => rfl
  | number s m p => rfl
theorem decode_num {x : Nat} (h : nan FloatKind.f64.format x = false) : (FloatKind.f64.decode x).isNaN = false := by
  have hx : nan Ieee.double x = false := h
  show (Ieee.double.read x).isNaN = false
  rw [nan64] at hx
  have hle : x % 9223372036854775808 ≤ 9218868437227405312 := by simpa using hx
  rcases Nat.lt_or_ge (x % 9223372036854775808) 9218868437227405312 with hl | hl
  · obtain ⟨m, p, e, -⟩ := read_fin (f := Ieee.double) (x := x) (by rw [sw64, ir64]; exact hl)
    rw [e]; rfl
  · rw [read_inf (f := Ieee.double) (x := x) (by rw [sw64, ir64]; omega) hbi64]; rfl
theorem isF_floW {x : Nat} (h : nan FloatKind.f64.format x = false) : IsF (floW x) (some (floW x)) :=
  IsF.lit (nan_write Ieee.double (integral_num .down (decode_num h))) (Ieee.double.write_lt _)

theorem run_floor (x : Nat) (h : nan FloatKind.f64.format x = false) (w : World) : (callFunc 88 #[.float .f64 x]).run Try.prog w = .ok (.value (.float .f64 (floW x))) w := by
  have e1 : (callFunc 88 #[.float .f64 x]).run Try.prog w = (do let v ← Extern.MathFloor.toIntegral "math.archFloor" .down #[.float .f64 x]; pure (.value v) : Sem Next).run Try.prog w := by kernel_rfl
  rw [e1]
  have hd := decode_num h
  unfold floW
  conv in (Extern.MathFloor.toIntegral _ _ _) => whnf
  cases hr : FloatKind.f64.decode x with
  | nan s t => rw [hr] at hd; cases hd
  | infinity s => rfl
  | number s m p => rfl

theorem finO_some {z : Option Nat} (h : finO z = true) : ∃ x, z = some x ∧ x % 9223372036854775808 < 9218868437227405312 := by
  cases z with
  | none => cases h
  | some x => exact ⟨x, rfl, by simpa [finO] using h⟩

theorem sum_fin_num {x y : Nat} (hx : x % 9223372036854775808 < 9218868437227405312) (hy : y % 9223372036854775808 < 9218868437227405312) : ∃ r, floatBits .add .f64 x y = some r := by
  obtain ⟨m, p, e, -⟩ := read_fin (f := Ieee.double) (x := x) (by rw [sw64, ir64]; exact hx)
  obtain ⟨n, q, e', -⟩ := read_fin (f := Ieee.double) (x := y) (by rw [sw64, ir64]; exact hy)
  have h : floatBits .add .f64 x y = ((Ieee.double.read x).sum (Ieee.double.read y)).map Ieee.double.write := rfl
  rw [h, e, e']
  exact ⟨_, rfl⟩

def half : Nat := 4602678819172646912
/-- A phase without whole turns. -/
def wrapO (z : Option Nat) : Option Nat := if finO z = true then fop .sub .f64 z (floO (fop .add .f64 z (some half))) else z

theorem floor_any (a : Nat) (h : nan FloatKind.f64.format a = false) (w : World) :
    Calls Try.prog 73 #[.float .f64 a] w fun e w' => e = .returned (.float .f64 (floW a)) ∧ w' = w := by
  have R := fun w => run_floor a h w
  clear h
  go_enter Try.func73, Try.ntmps73
  go_wp2
  go_ret
  exact ⟨rfl, rfl⟩

theorem fres_some {op : BinOp} {k : FloatKind} {x y r : Nat} (h : floatBits op k x y = some r) (w : World) : fres op k x y w = r := by unfold fres; rw [h]
theorem fcnt_some {op : BinOp} {k : FloatKind} {x y r : Nat} (h : floatBits op k x y = some r) : fcnt op k x y = 0 := by unfold fcnt; rw [h]

set_option maxRecDepth 100000 in
theorem finite_spec (a : Nat) (la : a < 18446744073709551616) (w : World) :
    Calls Try.prog 71 #[.float .f64 a] w fun e w' => e = .returned (.bool (finO (cn .f64 a))) ∧ ∃ n, w' = w.drewN n := by
  have C := Lib.hid (fun w => l01NaN_any a w)
  by_cases ha : nan FloatKind.f64.format a = true
  · rw [ha] at C
    rw [finO_nan ha]
    clear ha la
    go_enter Try.func71, Try.ntmps71
    go_wp2_with fail
    refine (C.out _).mono ?_
    rintro e w' ⟨rfl, rfl⟩
    go_wp2
    go_ret
    exact ⟨rfl, 0, rfl⟩
  · have ha : nan FloatKind.f64.format a = false := by simpa using ha
    rw [ha] at C
    rw [finO_num ha]
    by_cases hf : a % 9223372036854775808 < 9218868437227405312
    · have hs : floatBits .sub .f64 a a = some 0 := sub_self_fin (f := Ieee.double) (by rw [sw64, ir64]; exact hf)
      have e1 := fun w => fres_some hs w
      have e2 := fcnt_some hs
      have e3 : FloatKind.f64.format.order 0 0 = some .eq := by decide
      have e4 : decide (a % 9223372036854775808 < 9218868437227405312) = true := by simp [hf]
      rw [e4]
      clear ha la hf hs e4
      go_enter Try.func71, Try.ntmps71
      go_wp2_with fail
      refine (C.out _).mono ?_
      rintro e w' ⟨rfl, rfl⟩
      go_wp2
      go_ret
      exact ⟨rfl, 0, rfl⟩
    · have hs : floatBits .sub .f64 a a = none := sub_self_none (f := Ieee.double) hbi64 (by rw [sw64, ir64]; exact hf)
      have e1 : ∀ w, FloatKind.f64.format.order (fres .sub .f64 a a w) 0 = none := fun w => ord_nan_l _ (nan_of_cn (by rw [cn_fres, hs]))
      have e4 : decide (a % 9223372036854775808 < 9218868437227405312) = false := by simp [hf]
      rw [e4]
      clear ha la hf hs e4
      go_enter Try.func71, Try.ntmps71
      go_wp2_with fail
      refine (C.out _).mono ?_
      rintro e w' ⟨rfl, rfl⟩
      go_wp2
      go_ret
      exact ⟨rfl, _, rfl⟩

theorem half_num : nan FloatKind.f64.format half = false := by decide

theorem wrapO_fin {z : Option Nat} {a : Nat} (ha : IsF a z) (h : finO z = true) : ∃ r, floatBits .add .f64 a half = some r ∧ nan FloatKind.f64.format r = false ∧ (∀ u, IsF u (fop .sub .f64 z (some (floW r))) → IsF u (wrapO z)) := by
  obtain ⟨x, rfl, hx⟩ := finO_some h
  obtain ⟨-, rfl⟩ := num_of_cn ha.cn
  obtain ⟨r, hr⟩ := sum_fin_num hx (y := half) (by decide)
  refine ⟨r, hr, floatBits_num hr, fun u hu => ?_⟩
  have e : fop .add .f64 (some a) (some half) = some r := hr
  unfold wrapO
  rw [if_pos h, e]
  exact hu

/-- A float that was drawn from a float, by what draws alone. -/
def ToF (z : Option Nat) (w : World) (e : Ending) (w' : World) : Prop := ∃ q, e = .returned (.float .f64 q) ∧ IsF q z ∧ ∃ n, w' = w.drewN n

set_option maxRecDepth 100000 in
theorem wrap_spec (a : Nat) (z : Option Nat) (ha : IsF a z) (w : World) : Calls Try.prog 64 #[.float .f64 a] w (ToF (wrapO z) w) := by
  have C := Lib.hid (fun w => finite_spec a ha.lt w)
  rw [ha.cn] at C
  by_cases h : finO z = true
  · obtain ⟨r, hr, hn, hu⟩ := wrapO_fin ha h
    have e1 := fun w => fres_some hr w
    have e2 := fcnt_some hr
    unfold half at e1 e2
    have D := Lib.hid (fun w => floor_any r hn w)
    have HU := Lib.hid hu
    have HA := Lib.hid ha
    have HR := Lib.hid (isF_floW hn)
    rw [h] at C
    clear hr hn hu h ha
    go_enter Try.func64, Try.ntmps64
    go_wp2_with fail
    refine (C.out _).mono ?_
    rintro e w' ⟨rfl, n, rfl⟩
    go_wp2_with fail
    refine (D.out _).mono ?_
    rintro e w' ⟨rfl, rfl⟩
    go_wp2
    go_ret
    exact ⟨_, rfl, HU.out _ (isF_fres HA.out HR.out _), _, rfl⟩
  · have hf : finO z = false := by simpa using h
    have e : wrapO z = z := by unfold wrapO; rw [if_neg h]
    rw [e]
    rw [hf] at C
    have HA := Lib.hid ha
    clear h hf e ha
    go_enter Try.func64, Try.ntmps64
    go_wp2_with fail
    refine (C.out _).mono ?_
    rintro e w' ⟨rfl, n, rfl⟩
    go_wp2
    go_ret
    exact ⟨_, rfl, HA.out, _, rfl⟩

set_option maxRecDepth 100000 in
theorem wrap_impl (a : Nat) (z : Option Nat) (ha : IsF a z) (w : World) : Calls Try.prog 34 #[.float .f64 a] w (ToF (wrapO z) w) := by
  have C := Lib.hid (fun w => isFiniteReal_any a ha.lt w)
  rw [ha.cn] at C
  by_cases h : finO z = true
  · obtain ⟨r, hr, hn, hu⟩ := wrapO_fin ha h
    have e1 := fun w => fres_some hr w
    have e2 := fcnt_some hr
    unfold half at e1 e2
    have D := Lib.hid (fun w => floor_any r hn w)
    have E : Hid (∀ w, Calls Try.prog 66 #[.float .f64 a] w fun e w' => e = .returned (.float .f64 (floW r)) ∧ w' = w) := by
      refine Lib.hid fun w => ?_
      clear hr hn hu h ha C
      go_enter Try.func66, Try.ntmps66
      go_wp2_with fail
      refine (D.out _).mono ?_
      rintro e w' ⟨rfl, rfl⟩
      go_wp2
      go_ret
      exact ⟨rfl, rfl⟩
    have HU := Lib.hid hu
    have HA := Lib.hid ha
    have HR := Lib.hid (isF_floW hn)
    rw [h] at C
    clear hr hn hu h ha e1 e2 D
    go_enter Try.func34, Try.ntmps34
    go_wp2_with fail
    refine (C.out _).mono ?_
    rintro e w' ⟨rfl, rfl⟩
    go_wp2_with fail
    refine (E.out _).mono ?_
    rintro e w' ⟨rfl, rfl⟩
    go_wp2
    go_ret
    exact ⟨_, rfl, HU.out _ (isF_fres HA.out HR.out _), _, rfl⟩
  · have hf : finO z = false := by simpa using h
    have e : wrapO z = z := by unfold wrapO; rw [if_neg h]
    rw [e]
    rw [hf] at C
    have HA := Lib.hid ha
    clear h hf e ha
    go_enter Try.func34, Try.ntmps34
    go_wp2_with fail
    refine (C.out _).mono ?_
    rintro e w' ⟨rfl, rfl⟩
    go_wp2
    go_ret
    exact ⟨_, rfl, HA.out, 0, rfl⟩

end Go.Proofs.Ytpobbicbfnglaaa
