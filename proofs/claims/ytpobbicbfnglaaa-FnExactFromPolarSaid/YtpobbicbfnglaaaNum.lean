import Derived.Test.YtpobbicbfnglaaaNumB
import Derived.Test.YtpobbicbfnglaaaNarrow
import Derived.Test.YtpobbicbfnglaaaFlt
import Derived.Test.YtpobbicbfnglaaaRows
import Derived.Test.YtpobbicbfnglaaaExt
import Derived.Test.YtpobbicbfnglaaaWalkNext
import Derived.Lib.Hide
/-
  Contracts of the program's functions on complex numbers: same, equal, finite, narrow, wide.
-/
set_option linter.unusedVariables false
set_option linter.unusedSimpArgs false
namespace Go.Proofs.Ytpobbicbfnglaaa
open Go.RowKit Flt

/-- Two reals are the same. -/
def sameB (a b : Nat) : Bool := decide (cn .f64 a = cn .f64 b)
/-- A real is finite. -/
def finO (o : Option Nat) : Bool := match o with | some x => decide (x % 9223372036854775808 < 9218868437227405312) | none => false

theorem sameB_nan {a b : Nat} (ha : nan FloatKind.f64.format a = true) (hb : nan FloatKind.f64.format b = true) : sameB a b = true := by
  unfold sameB; rw [cn_none ha, cn_none hb]; rfl
theorem sameB_l {a b : Nat} (ha : nan FloatKind.f64.format a = true) (hb : nan FloatKind.f64.format b = false) : sameB a b = false := by
  unfold sameB; rw [cn_none ha, cn_some hb]; rfl
theorem sameB_r {a b : Nat} (ha : nan FloatKind.f64.format a = false) (hb : nan FloatKind.f64.format b = true) : sameB a b = false := by
  unfold sameB; rw [cn_some ha, cn_none hb]; rfl
theorem sameB_num {a b : Nat} (ha : nan FloatKind.f64.format a = false) (hb : nan FloatKind.f64.format b = false) : sameB a b = decide (a = b) := by
  unfold sameB; rw [cn_some ha, cn_some hb]; simp

/-- Below, told once more: what a callee leaves. -/
theorem below_step {B : Nat} {w w1 w2 : World} (h : Below B w w1) (k : Below w1.heap.size w1 w2) (hB : B ≤ w1.heap.size) : Below B w w2 := h.trans (k.mono hB)

/-- Equal by Go's own ==. -/
def eqC (k : FloatKind) (a b c d : Nat) : Bool := (k.format.order a c == some .eq) && (k.format.order b d == some .eq)

theorem finO_nan {a : Nat} (ha : nan FloatKind.f64.format a = true) : finO (cn .f64 a) = false := by rw [cn_none ha]; rfl
theorem finO_num {a : Nat} (ha : nan FloatKind.f64.format a = false) : finO (cn .f64 a) = decide (a % 9223372036854775808 < 9218868437227405312) := by rw [cn_some ha]; rfl

theorem andNot_mod {a : Nat} (la : a < 18446744073709551616) : bits .andNot .u64 (a : Int) 9223372036854775808 = ((a % 9223372036854775808 : Nat) : Int) := by
  have := u64_andNot_nat a 9223372036854775808 la (by omega)
  rw [show ((9223372036854775808 : Nat) : Int) = 9223372036854775808 from rfl] at this
  rw [this, show (18446744073709551615 - 9223372036854775808 : Nat) = 2 ^ 63 - 1 by omega, Nat.and_two_pow_sub_one_eq_mod]

theorem abs_any (a : Nat) (la : a < 18446744073709551616) (w : World) :
    Calls Try.prog 61 #[.float .f64 a] w fun e w' => e = .returned (.float .f64 (a % 9223372036854775808)) ∧ w' = w := by
  have hb := andNot_mod la
  generalize a % 9223372036854775808 = r at *
  clear la
  go_enter Try.func61, Try.ntmps61
  go_wp2
  go_ret
  exact ⟨rfl, rfl⟩

theorem isFiniteReal_any (a : Nat) (la : a < 18446744073709551616) (w : World) :
    Calls Try.prog 65 #[.float .f64 a] w fun e w' => e = .returned (.bool (finO (cn .f64 a))) ∧ w' = w := by
  have habs := abs_any a la
  by_cases ha : nan FloatKind.f64.format a = true
  · have oa : FloatKind.f64.format.order a a = none := ord_nan_l _ ha
    rw [finO_nan ha]
    clear ha
    go_enter Try.func65, Try.ntmps65
    go_wp2
    go_ret
    exact ⟨rfl, rfl⟩
  · have ha : nan FloatKind.f64.format a = false := by simpa using ha
    have oa : FloatKind.f64.format.order a a = some .eq := ord_eq ha ha rfl
    have hle := nan_le ha
    have nm : nan FloatKind.f64.format 9218868437227405311 = false := by decide
    have pm : place FloatKind.f64.format 9218868437227405311 = 9218868437227405311 := by decide
    rw [finO_num ha]
    generalize hr : a % 9223372036854775808 = r at *
    have nr : nan FloatKind.f64.format r = false := nan_no (by omega)
    have pr : place FloatKind.f64.format r = r := plc_lo (by omega)
    by_cases hf : r < 9218868437227405312
    · have h2 : decide (r < 9218868437227405312) = true := by simp [hf]
      rw [h2]
      rcases Nat.lt_or_ge r 9218868437227405311 with hm | hm
      · have o1 : FloatKind.f64.format.order r 9218868437227405311 = some .lt := ord_lt nr nm (by rw [pr, pm]; omega)
        clear hr nr pr pm nm ha hle hf h2 hm la
        go_enter Try.func65, Try.ntmps65
        go_wp2_with (first | (go_at_call 61; refine (habs _).mono ?_; rintro e w' ⟨rfl, rfl⟩) | go_in)
        go_ret
        exact ⟨rfl, rfl⟩
      · have o1 : FloatKind.f64.format.order r 9218868437227405311 = some .eq := ord_eq nr nm (by rw [pr, pm]; omega)
        clear hr nr pr pm nm ha hle hf h2 hm la
        go_enter Try.func65, Try.ntmps65
        go_wp2_with (first | (go_at_call 61; refine (habs _).mono ?_; rintro e w' ⟨rfl, rfl⟩) | go_in)
        go_ret
        exact ⟨rfl, rfl⟩
    · have h2 : decide (r < 9218868437227405312) = false := by simp [hf]
      rw [h2]
      have o1 : FloatKind.f64.format.order r 9218868437227405311 = some .gt := ord_gt nr nm (by rw [pr, pm]; omega)
      clear hr nr pr pm nm ha hle hf h2 la
      go_enter Try.func65, Try.ntmps65
      go_wp2_with (first | (go_at_call 61; refine (habs _).mono ?_; rintro e w' ⟨rfl, rfl⟩) | go_in)
      go_ret
      exact ⟨rfl, rfl⟩

/-- A narrow complex number, of these parts. -/
def RetsN (p q : Nat → Prop) (w : World) (e : Ending) (w' : World) : Prop := ∃ u v, p u ∧ q v ∧ e = .returned (.complex .f32 u v) ∧ Below w.heap.size w w'
/-- A wide complex number, of these parts. -/
def RetsW (p q : Nat → Prop) (w : World) (e : Ending) (w' : World) : Prop := ∃ u v, p u ∧ q v ∧ e = .returned (.complex .f64 u v) ∧ Below w.heap.size w w'

/-- A real is one that a narrow one is widened to. -/
def Wide (u r : Nat) : Prop := cn .f64 r = floatToFloatBits .f32 u .f64 ∧ r < 18446744073709551616

/-- Two parts, widened. -/
def RetsP (p q : Nat → Prop) (w : World) (e : Ending) (w' : World) : Prop := ∃ u v, p u ∧ q v ∧ e = .returned (.tuple #[.float .f64 u, .float .f64 v]) ∧ Below w.heap.size w w'

/-- Two narrow reals are the same: their wide ones are. -/
def sameN (u v : Nat) : Bool := decide (floatToFloatBits .f32 u .f64 = floatToFloatBits .f32 v .f64)
theorem sameB_wide {u v r s : Nat} (h : Wide u r) (k : Wide v s) : sameB r s = sameN u v := by unfold sameB sameN; rw [h.1, k.1]

/-- A narrow real is finite: its wide one is. -/
def finN (u : Nat) : Bool := finO (floatToFloatBits .f32 u .f64)

end Go.Proofs.Ytpobbicbfnglaaa
