import Derived.Test.YtpobbicbfnglaaaOpt
/-
  What an operation on floats gives in a world, as an equation (a NaN's bits are the tape's): for regions that draw their order. No program is named here.
-/
set_option linter.unusedVariables false
set_option linter.unusedSimpArgs false
namespace Go.Proofs.Ytpobbicbfnglaaa.Flt
open Go

/-- The bits of a result in the world w. -/
def fres (op : BinOp) (k : FloatKind) (x y : Nat) (w : World) : Nat := match floatBits op k x y with
  | some r => r
  | none => Question.cut (.nanBits k x y) (w.tape w.drawn (.nanBits k x y))
/-- How often it draws. -/
def fcnt (op : BinOp) (k : FloatKind) (x y : Nat) : Nat := match floatBits op k x y with
  | some _ => 0
  | none => 1

theorem cn_fres (op : BinOp) (k : FloatKind) (x y : Nat) (w : World) : cn k (fres op k x y w) = floatBits op k x y := by
  unfold fres
  split
  · rename_i r h; rw [h]; exact cn_some (floatBits_num h)
  · rename_i h; rw [h]; exact cn_none (cut_nan k x y _).1
theorem fres_lt64 (op : BinOp) (x y : Nat) (w : World) : fres op .f64 x y w < 18446744073709551616 := by
  unfold fres
  split
  · rename_i r h; have := floatBits_wf h; simpa [Lit.wf] using this
  · exact (cut_nan .f64 x y _).2

theorem isF_fres {op : BinOp} {x y : Nat} {a b : Option Nat} (hx : IsF x a) (hy : IsF y b) (w : World) : IsF (fres op .f64 x y w) (fop op .f64 a b) :=
  ⟨cn_op (cn_fres op .f64 x y w) hx.cn hy.cn, fres_lt64 op x y w⟩

section
variable {P : Program} (w : World)

theorem run_fres (op : BinOp) (hop : op = .add ∨ op = .sub ∨ op = .mul ∨ op = .quo) (k : FloatKind) (x y : Nat) :
    (Op.floatArith op k x y).run P w = .ok (.float k (fres op k x y w)) (w.drewN (fcnt op k x y)) := by
  cases h : floatBits op k x y with
  | some r =>
    have e1 : fres op k x y w = r := by unfold fres; rw [h]
    have e2 : fcnt op k x y = 0 := by unfold fcnt; rw [h]
    rw [e1, e2]
    exact run_floatArith w h
  | none =>
    have e1 : fres op k x y w = Question.cut (.nanBits k x y) (w.tape w.drawn (.nanBits k x y)) := by unfold fres; rw [h]
    have e2 : fcnt op k x y = 1 := by unfold fcnt; rw [h]
    rw [e1, e2]
    rcases hop with rfl | rfl | rfl | rfl <;> simp only [floatBits] at h <;> simp [Op.floatArith, h, Question.forced] <;> rfl

theorem run_fadd (t : TypeId) (k : FloatKind) (x y : Nat) : (binOp .add t (.float k x) (.float k y)).run P w = .ok (.float k (fres .add k x y w)) (w.drewN (fcnt .add k x y)) := by
  simpa [binOp] using run_fres (P := P) w .add (by simp) k x y
theorem run_fsub (t : TypeId) (k : FloatKind) (x y : Nat) : (binOp .sub t (.float k x) (.float k y)).run P w = .ok (.float k (fres .sub k x y w)) (w.drewN (fcnt .sub k x y)) := by
  simpa [binOp] using run_fres (P := P) w .sub (by simp) k x y
theorem run_fmul (t : TypeId) (k : FloatKind) (x y : Nat) : (binOp .mul t (.float k x) (.float k y)).run P w = .ok (.float k (fres .mul k x y w)) (w.drewN (fcnt .mul k x y)) := by
  simpa [binOp] using run_fres (P := P) w .mul (by simp) k x y
theorem run_fquo (t : TypeId) (k : FloatKind) (x y : Nat) : (binOp .quo t (.float k x) (.float k y)).run P w = .ok (.float k (fres .quo k x y w)) (w.drewN (fcnt .quo k x y)) := by
  simpa [binOp] using run_fres (P := P) w .quo (by simp) k x y
theorem run_cadd (t : TypeId) (k : FloatKind) (x y u v : Nat) : (binOp .add t (.complex k x y) (.complex k u v)).run P w =
    .ok (.complex k (fres .add k x u w) (fres .add k y v (w.drewN (fcnt .add k x u)))) (w.drewN (fcnt .add k x u + fcnt .add k y v)) := by
  simp [binOp, Op.complexOp, Op.Complex.arith, run_fres, World.drewN_drewN]
theorem run_csub (t : TypeId) (k : FloatKind) (x y u v : Nat) : (binOp .sub t (.complex k x y) (.complex k u v)).run P w =
    .ok (.complex k (fres .sub k x u w) (fres .sub k y v (w.drewN (fcnt .sub k x u)))) (w.drewN (fcnt .sub k x u + fcnt .sub k y v)) := by
  simp [binOp, Op.complexOp, Op.Complex.arith, run_fres, World.drewN_drewN]
end

end Go.Proofs.Ytpobbicbfnglaaa.Flt
