import Derived.Test.YtpobbicbfnglaaaRnd
import Derived.Test.YtpobbicbfnglaaaOpt
/-
  Sums and products in any order, and with the other sign, up to the choice of a NaN. No program is named here.
-/
set_option linter.unusedVariables false
set_option linter.unusedSimpArgs false
namespace Go.Proofs.Ytpobbicbfnglaaa
open Go Flt
namespace Flt
open Ieee

theorem sum_comm (a b : Datum) : a.sum b = b.sum a := by
  cases a <;> cases b <;> simp only [Datum.sum]
  · rename_i s m i t n j
    simp only [Option.some.injEq, Datum.number.injEq]
    rw [Int.min_comm j i, Int.add_comm (signed t n _) (signed s m _), Bool.and_comm t s]
    exact ⟨rfl, rfl, rfl⟩
  · rename_i s t
    by_cases h : s = t
    · subst h; rfl
    · rw [if_neg h, if_neg (fun e => h e.symm)]

theorem product_comm (a b : Datum) : a.product b = b.product a := by
  cases a <;> cases b <;> simp only [Datum.product]
  · simp only [Option.some.injEq, Datum.number.injEq]
    exact ⟨Bool.xor_comm _ _, Nat.mul_comm _ _, Int.add_comm _ _⟩
  · rw [Bool.xor_comm]

theorem add_comm' (k : FloatKind) (x y : Nat) : floatBits .add k x y = floatBits .add k y x := by
  show Option.map _ _ = Option.map _ _
  rw [sum_comm]
theorem mul_comm' (k : FloatKind) (x y : Nat) : floatBits .mul k x y = floatBits .mul k y x := by
  show Option.map _ _ = Option.map _ _
  rw [product_comm]
theorem fop_add_comm (k : FloatKind) (a b : Option Nat) : fop .add k a b = fop .add k b a := by
  cases a <;> cases b <;> simp only [fop]
  exact add_comm' _ _ _
theorem fop_mul_comm (k : FloatKind) (a b : Option Nat) : fop .mul k a b = fop .mul k b a := by
  cases a <;> cases b <;> simp only [fop]
  exact mul_comm' _ _ _

/-- The word of the other sign stands for the opposite. -/
theorem read_neg {x : Nat} (h : x < 18446744073709551616) : double.read (Op.negFloat .f64 x) = (double.read x).opposite := by
  have e : ∃ s r, x / double.signWeight % 2 = s ∧ x % double.signWeight = r ∧ (s = 0 ∧ Op.negFloat .f64 x / double.signWeight % 2 = 1 ∨ s = 1 ∧ Op.negFloat .f64 x / double.signWeight % 2 = 0) ∧ Op.negFloat .f64 x % double.signWeight = r := by
    have hw : double.signWeight = 9223372036854775808 := by decide
    rw [hw]
    have e1 : Op.negFloat .f64 x = x ^^^ 2 ^ 63 := rfl
    rw [e1]
    by_cases h1 : x < 9223372036854775808
    · rw [neg64_lo h1]; exact ⟨_, _, rfl, rfl, by omega, by omega⟩
    · rw [neg64_hi (by omega) h]; exact ⟨_, _, rfl, rfl, by omega, by omega⟩
  obtain ⟨s, r, e1, e2, e3, e4⟩ := e
  unfold Format.read
  rw [e1, e2, e4]
  rcases e3 with ⟨rfl, e3⟩ | ⟨rfl, e3⟩ <;> rw [e3] <;> simp only <;> split <;> first | rfl | (split <;> first | rfl | (split <;> rfl))

theorem word_neg (b : Bool) {r : Nat} (h : r ≤ double.infRung) : double.word (!b) r = Op.negFloat .f64 (double.word b r) := by
  have h1 : r < 9223372036854775808 := Nat.lt_of_le_of_lt h (by decide)
  have e1 : ∀ x, Op.negFloat .f64 x = x ^^^ 2 ^ 63 := fun _ => rfl
  have hw : double.signWeight = 9223372036854775808 := by decide
  unfold Format.word
  rw [e1, hw]
  cases b
  · simp only [Bool.not_false, if_true, Bool.false_eq_true, if_false]
    rw [neg64_lo h1]; omega
  · simp only [Bool.not_true, if_true, Bool.false_eq_true, if_false]
    rw [neg64_hi (by omega) (by omega)]; omega

theorem nearest_neg (b : Bool) (m : Nat) (p : Int) : double.nearest (!b) m p = Op.negFloat .f64 (double.nearest b m p) := by
  unfold Format.nearest
  by_cases hm : m = 0
  · rw [if_pos hm, if_pos hm]; exact word_neg b (Nat.zero_le _)
  · rw [if_neg hm, if_neg hm]
    exact word_neg b (Nat.min_le_right _ _)

theorem write_opp {d : Datum} (h : d.isNaN = false) : double.write d.opposite = Op.negFloat .f64 (double.write d) := by
  cases d with
  | number s m p => exact nearest_neg s m p
  | infinity s => exact word_neg s (Nat.le_refl _)
  | nan => cases h

theorem product_num2 {a b d : Datum} (h : a.product b = some d) : d.isNaN = false := by
  cases a <;> cases b <;> simp only [Datum.product] at h <;> first | (cases h; done) | (cases h; rfl) | (split at h <;> first | (cases h; done) | (cases h; rfl))
theorem sum_num2 {a b d : Datum} (h : a.sum b = some d) : d.isNaN = false := by
  cases a <;> cases b <;> simp only [Datum.sum] at h <;> first | (cases h; done) | (cases h; rfl) | (split at h <;> first | (cases h; done) | (cases h; rfl))

theorem product_opp (a b : Datum) : a.product b.opposite = (a.product b).map Datum.opposite := by
  cases a <;> cases b <;> simp only [Datum.product, Datum.opposite, Option.map] <;> first | rfl | (simp [Datum.opposite]; done) | (split <;> simp [Datum.opposite])

theorem mul_neg' {x y : Nat} (h : y < 18446744073709551616) : floatBits .mul .f64 x (Op.negFloat .f64 y) = (floatBits .mul .f64 x y).map (Op.negFloat .f64) := by
  show Option.map double.write ((double.read x).product (double.read (Op.negFloat .f64 y))) = Option.map _ (Option.map double.write ((double.read x).product (double.read y)))
  rw [read_neg h, product_opp]
  cases e : (double.read x).product (double.read y) with
  | none => rfl
  | some d => exact congrArg some (write_opp (product_num2 e))

theorem opp_opp (d : Datum) : d.opposite.opposite = d := by cases d <;> simp [Datum.opposite]
theorem sub_neg' {x y : Nat} (h : y < 18446744073709551616) : floatBits .sub .f64 x (Op.negFloat .f64 y) = floatBits .add .f64 x y := by
  show Option.map double.write ((double.read x).sum (double.read (Op.negFloat .f64 y)).opposite) = Option.map double.write ((double.read x).sum (double.read y))
  rw [read_neg h, opp_opp]

theorem sum_opp (d : Datum) : d.opposite.sum d = none ∨ ∃ p, d.opposite.sum d = some (.number false 0 p) := by
  cases d with
  | nan => exact .inl rfl
  | infinity s => left; cases s <;> rfl
  | number s m p =>
    right
    have e : signed (!s) m (p - min p p).toNat + signed s m (p - min p p).toNat = 0 := by
      unfold signed
      cases s <;> simp <;> omega
    refine ⟨min p p, ?_⟩
    simp only [Datum.sum, Datum.opposite]
    rw [e]
    cases s <;> rfl

theorem neg_add_self {x : Nat} (h : x < 18446744073709551616) : floatBits .add .f64 (Op.negFloat .f64 x) x = none ∨ floatBits .add .f64 (Op.negFloat .f64 x) x = some 0 := by
  have e : floatBits .add .f64 (Op.negFloat .f64 x) x = Option.map double.write ((double.read x).opposite.sum (double.read x)) := by
    show Option.map double.write ((double.read (Op.negFloat .f64 x)).sum (double.read x)) = _
    rw [read_neg h]
  rw [e]
  rcases sum_opp (double.read x) with e1 | ⟨p, e1⟩ <;> rw [e1]
  · exact .inl rfl
  · right; rfl

/-- A float up to NaN that has a word. -/
def WfO (a : Option Nat) : Prop := ∀ x, a = some x → x < 18446744073709551616
theorem wfO_fop (op : BinOp) (a b : Option Nat) : WfO (fop op .f64 a b) := by
  intro x h
  cases a <;> cases b <;> simp only [fop] at h <;> first | (cases h; done) | (have := floatBits_wf h; simpa [Lit.wf] using this)
theorem IsF.wfO {u : Nat} {a : Option Nat} (h : IsF u a) : WfO a := by
  intro x e
  have h1 := h.cn
  unfold Flt.cn at h1
  rw [e] at h1
  split at h1
  · cases h1
  · cases h1; exact h.lt
theorem wfO_neg {a : Option Nat} (h : WfO a) : WfO (fneg .f64 a) := by
  intro x e
  cases a with
  | none => cases e
  | some y => cases e; exact negFloat64_lt (h y rfl)
theorem fop_mul_neg {a b : Option Nat} (h : WfO b) : fop .mul .f64 a (fneg .f64 b) = fneg .f64 (fop .mul .f64 a b) := by
  cases a <;> cases b <;> first | rfl | exact mul_neg' (h _ rfl)
theorem fop_sub_neg {a b : Option Nat} (h : WfO b) : fop .sub .f64 a (fneg .f64 b) = fop .add .f64 a b := by
  cases a <;> cases b <;> first | rfl | exact sub_neg' (h _ rfl)
theorem fop_neg_add {a : Option Nat} (h : WfO a) : fop .add .f64 (fneg .f64 a) a = none ∨ fop .add .f64 (fneg .f64 a) a = some 0 := by
  cases a with
  | none => exact .inl rfl
  | some x => exact neg_add_self (h x rfl)
theorem fop_zero_add {a b : Option Nat} (ha : a = none ∨ a = some 0) (hb : b = none ∨ b = some 0) : fop .add .f64 a b = none ∨ fop .add .f64 a b = some 0 := by
  rcases ha with rfl | rfl <;> rcases hb with rfl | rfl
  · exact .inl rfl
  · exact .inl rfl
  · exact .inl rfl
  · right; decide +kernel
end Flt
end Go.Proofs.Ytpobbicbfnglaaa
