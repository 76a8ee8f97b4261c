import Derived.Test.YtpobbicbfnglaaaFlt
/-
  Floats up to the choice of a NaN: operations on 'Option Nat'.
-/
set_option linter.unusedVariables false
set_option linter.unusedSimpArgs false
namespace Go.Proofs.Ytpobbicbfnglaaa
open Go Flt
namespace Flt

/-- An operation on two words, each up to the choice of a NaN. -/
def fop (op : BinOp) (k : FloatKind) : Option Nat → Option Nat → Option Nat
  | some x, some y => floatBits op k x y
  | _, _ => none

theorem floatBits_nan_l {op : BinOp} {k : FloatKind} {x : Nat} (y : Nat) (h : nan k.format x = true) : floatBits op k x y = none := by
  obtain ⟨s, t, e⟩ := read_nan k.format (hbi k) h
  unfold floatBits
  cases op <;> simp only [Ieee.Format.add, Ieee.Format.sub, Ieee.Format.mul, Ieee.Format.div, e] <;> cases k.format.read y <;> rfl

theorem floatBits_nan_r {op : BinOp} {k : FloatKind} (x : Nat) {y : Nat} (h : nan k.format y = true) : floatBits op k x y = none := by
  obtain ⟨s, t, e⟩ := read_nan k.format (hbi k) h
  unfold floatBits
  cases op <;> simp only [Ieee.Format.add, Ieee.Format.sub, Ieee.Format.mul, Ieee.Format.div, e] <;> cases k.format.read x <;> rfl

theorem floatBits_cn (op : BinOp) (k : FloatKind) (x y : Nat) : floatBits op k x y = fop op k (cn k x) (cn k y) := by
  by_cases hx : nan k.format x = true
  · rw [floatBits_nan_l y hx, cn_none hx]; rfl
  · have hx : nan k.format x = false := by simpa using hx
    by_cases hy : nan k.format y = true
    · rw [floatBits_nan_r x hy, cn_none hy]; cases cn k x <;> rfl
    · have hy : nan k.format y = false := by simpa using hy
      rw [cn_some hx, cn_some hy]; rfl

/-- What an operation gives, up to the choice of a NaN, when its operands are known so. -/
theorem cn_op {op : BinOp} {k : FloatKind} {r u v : Nat} {a b : Option Nat} (h : cn k r = floatBits op k u v) (hu : cn k u = a) (hv : cn k v = b) : cn k r = fop op k a b := by
  rw [h, floatBits_cn, hu, hv]

/-- The other sign. -/
def fneg (k : FloatKind) (a : Option Nat) : Option Nat := a.map (Op.negFloat k)

theorem cn_neg64 {x : Nat} (h : x < 18446744073709551616) : cn .f64 (Op.negFloat .f64 x) = fneg .f64 (cn .f64 x) := by
  have e : nan FloatKind.f64.format (Op.negFloat .f64 x) = nan FloatKind.f64.format x := nan_neg64 h
  unfold cn
  rw [e]
  split <;> rfl

theorem cn_neg32 {x : Nat} (h : x < 4294967296) : cn .f32 (Op.negFloat .f32 x) = fneg .f32 (cn .f32 x) := by
  have e : nan FloatKind.f32.format (Op.negFloat .f32 x) = nan FloatKind.f32.format x := nan_neg32 h
  unfold cn
  rw [e]
  split <;> rfl

theorem negFloat64_lt {x : Nat} (h : x < 18446744073709551616) : Op.negFloat .f64 x < 18446744073709551616 := neg64_lt h
theorem negFloat32_lt {x : Nat} (h : x < 4294967296) : Op.negFloat .f32 x < 4294967296 := neg32_lt h

/-- The nearest float of an integer is a number. -/
theorem nan_floatOfInt (k : FloatKind) (n : Int) : nan k.format (floatOfInt k n) = false := nan_write k.format (d := .number (n < 0) n.natAbs 0) rfl
theorem cn_floatOfInt (k : FloatKind) (n : Int) : cn k (floatOfInt k n) = some (floatOfInt k n) := cn_some (nan_floatOfInt k n)
theorem floatOfInt_lt (n : Int) : floatOfInt .f64 n < 18446744073709551616 := by
  have := floatOfInt_wf .f64 n
  simpa [Lit.wf] using this

/-- A float that is there, up to the choice of a NaN. -/
structure IsF (u : Nat) (a : Option Nat) : Prop where
  cn : Flt.cn .f64 u = a
  lt : u < 18446744073709551616

theorem IsF.op {op : BinOp} {r u v : Nat} {a b : Option Nat} (hu : IsF u a) (hv : IsF v b) (h : Flt.cn .f64 r = floatBits op .f64 u v) (hr : r < 2 ^ FloatKind.f64.format.width) : IsF r (fop op .f64 a b) :=
  ⟨cn_op h hu.cn hv.cn, hr⟩
theorem IsF.neg {u : Nat} {a : Option Nat} (hu : IsF u a) : IsF (Op.negFloat .f64 u) (fneg .f64 a) :=
  ⟨by rw [cn_neg64 hu.lt, hu.cn], negFloat64_lt hu.lt⟩
theorem IsF.ofInt (n : Int) : IsF (floatOfInt .f64 n) (some (floatOfInt .f64 n)) := ⟨cn_floatOfInt _ _, floatOfInt_lt n⟩
theorem IsF.lit {u : Nat} (h : nan FloatKind.f64.format u = false) (hu : u < 18446744073709551616) : IsF u (some u) := ⟨cn_some h, hu⟩
theorem IsF.self {u : Nat} (hu : u < 18446744073709551616) : IsF u (Flt.cn .f64 u) := ⟨rfl, hu⟩

end Flt
end Go.Proofs.Ytpobbicbfnglaaa
