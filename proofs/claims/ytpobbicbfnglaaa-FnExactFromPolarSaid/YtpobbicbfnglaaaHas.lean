import Derived.Test.YtpobbicbfnglaaaPSum
import Derived.Test.YtpobbicbfnglaaaFres
/-
  Words with a value, and the operations on them. No program.
-/
set_option linter.unusedVariables false
set_option linter.unusedSimpArgs false
namespace Go.Proofs.Ytpobbicbfnglaaa
open Go.RowKit Flt

/-- A word with a value. -/
def Has (u : Nat) (q : Rat) : Prop := Fin u ∧ fq u = q
theorem Has.lt {u : Nat} {q : Rat} (h : Has u q) : u < 18446744073709551616 := h.1.1
theorem Has.isF {u : Nat} {q : Rat} (h : Has u q) : IsF u (some u) := by
  refine IsF.lit ?_ h.1.1
  show nan Ieee.double u = false
  rw [nan64]
  have := h.1.2
  simp; omega
theorem Has.fv {u : Nat} {q : Rat} (h : Has u q) : Fv (some u) q := ⟨u, rfl, h.1, h.2⟩
theorem Has.of {u : Nat} {z : Option Nat} {q : Rat} (h : IsF u z) (hz : Fv z q) : Has u q := Fv.of_isF h hz
theorem has_int {u : Nat} {n : Int} (h : n.natAbs < 2 ^ 53) (e : floatOfInt .f64 n = u) : Has u (n : Rat) := by
  obtain ⟨x, e1, h1, h2⟩ := fv_int_exact h
  cases e1
  rw [e] at h1 h2
  exact ⟨h1, h2⟩
theorem has_one : Has 4607182418800017408 1 := has_int (n := 1) (by decide) (by decide)
theorem has_three : Has 4613937818241073152 3 := has_int (n := 3) (by decide) (by decide)
theorem has_eight : Has 4620693217682128896 8 := has_int (n := 8) (by decide) (by decide)
theorem has_zero : Has 0 0 := has_int (n := 0) (by decide) (by decide)

theorem has_neg {u : Nat} {q : Rat} (h : Has u q) : Has (Op.negFloat .f64 u) (-q) := by
  have e : Op.negFloat .f64 u = u ^^^ 2 ^ 63 := rfl
  obtain ⟨h1, rfl⟩ := h
  obtain ⟨neg, r, hr, rfl⟩ := fin_parts h1
  have hs : Ieee.double.signWeight = 9223372036854775808 := by decide
  have hr' := hr
  rw [ir64] at hr'
  have e2 : Op.negFloat .f64 (Ieee.double.word neg r) = Ieee.double.word (!neg) r := by
    show Ieee.double.word neg r ^^^ 2 ^ 63 = _
    unfold Ieee.Format.word
    rw [hs]
    cases neg
    · simp only [Bool.false_eq_true, if_false, Bool.not_false, if_true]
      rw [neg64_lo (x := r) (by omega)]; omega
    · simp only [Bool.not_true, Bool.false_eq_true, if_false, if_true]
      rw [neg64_hi (x := 9223372036854775808 + r) (by omega) (by omega)]; omega
  rw [e2]
  refine ⟨fin_word _ hr, ?_⟩
  rw [fq_word _ hr, fq_word _ hr]
  cases neg
  · rfl
  · simp only [Bool.not_true, Bool.false_eq_true, if_false, if_true]; rw [Rat.neg_neg]

theorem run_has {op : BinOp} (hop : op = .add ∨ op = .sub ∨ op = .mul ∨ op = .quo) {x y : Nat} {r : Rat} (hr : Fv (fop op .f64 (some x) (some y)) r) :
    ∃ d, Has d r ∧ ∀ (P : Program) (t : TypeId) (w : World), (binOp op t (.float .f64 x) (.float .f64 y)).run P w = .ok (.float .f64 d) w := by
  obtain ⟨d, e, h1, h2⟩ := hr
  have e' : floatBits op .f64 x y = some d := e
  refine ⟨d, ⟨h1, h2⟩, fun P t w => ?_⟩
  have f1 : fres op .f64 x y w = d := by unfold fres; rw [e']
  have f2 : fcnt op .f64 x y = 0 := by unfold fcnt; rw [e']
  rcases hop with rfl | rfl | rfl | rfl
  · rw [run_fadd, f1, f2]; rfl
  · rw [run_fsub, f1, f2]; rfl
  · rw [run_fmul, f1, f2]; rfl
  · rw [run_fquo, f1, f2]; rfl

theorem eq_has {x y : Nat} {q : Rat} (hx : Has x q) (hy : Has y q) : (FloatKind.f64.format.order x y == some .eq) = true := by
  have := order_eq_q hx.1 hy.1 (by rw [hx.2, hy.2])
  show (Ieee.double.order x y == some .eq) = true
  rw [this]; rfl

end Go.Proofs.Ytpobbicbfnglaaa
