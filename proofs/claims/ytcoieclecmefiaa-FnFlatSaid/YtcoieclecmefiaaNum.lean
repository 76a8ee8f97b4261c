import Derived.Test.YtcoieclecmefiaaNumB
import Derived.Test.YtcoieclecmefiaaNarrow
import Derived.Test.YtcoieclecmefiaaFlt
import Derived.Test.YtcoieclecmefiaaRows
import Derived.Test.YtcoieclecmefiaaExt
import Derived.Test.YtcoieclecmefiaaWalkNext
import Derived.Lib.Hide
/-
  Contracts of the program's functions on complex numbers: same, equal, finite, narrow, wide.
-/
set_option linter.unusedVariables false
set_option linter.unusedSimpArgs false
namespace Go.Proofs.Ytcoieclecmefiaa
open Go.RowKit Flt

/-- Two reals are the same. -/
def sameB (a b : Nat) : Bool := decide (cn .f64 a = cn .f64 b)
/-- A real is finite. -/
def finO (o : Option Nat) : Bool := match o with | some x => decide (x % 9223372036854775808 < 9218868437227405312) | none => false

theorem sameB_nan {a b : Nat} (ha : nan FloatKind.f64.format a = true) (hb : nan FloatKind.f64.format b = true) : sameB a b = true := by
  unfold sameB; rw [cn_none ha, cn_none hb]; rfl
theorem sameB_l {a b : Nat} (ha : nan FloatKind.f64.format a = true) (hb : nan FloatKind.f64.format b = false) : sameB a b = false := by
  unfold sameB; rw [cn_none ha, cn_some hb]; rfl
theorem sameB_r {a b : Nat} (ha : nan FloatKind.f64.format a = false) (hb : nan FloatKind.f64.format b = true) : sameB a b = false := by
  unfold sameB; rw [cn_some ha, cn_none hb]; rfl
theorem sameB_num {a b : Nat} (ha : nan FloatKind.f64.format a = false) (hb : nan FloatKind.f64.format b = false) : sameB a b = decide (a = b) := by
  unfold sameB; rw [cn_some ha, cn_some hb]; simp

theorem isSameReal_any (a b : Nat) (w : World) :
    Calls Try.prog 118 #[.float .f64 a, .float .f64 b] w fun e w' => e = .returned (.bool (sameB a b)) ∧ w' = w := by
  by_cases ha : nan FloatKind.f64.format a = true
  · have oa : FloatKind.f64.format.order a a = none := ord_nan_l _ ha
    by_cases hb : nan FloatKind.f64.format b = true
    · have ob : FloatKind.f64.format.order b b = none := ord_nan_l _ hb
      rw [sameB_nan ha hb]
      clear ha hb
      go_enter Try.func118, Try.ntmps118
      go_wp2
      go_ret
      exact ⟨rfl, rfl⟩
    · have hb : nan FloatKind.f64.format b = false := by simpa using hb
      have ob : FloatKind.f64.format.order b b = some .eq := ord_eq hb hb rfl
      rw [sameB_l ha hb]
      clear ha hb
      go_enter Try.func118, Try.ntmps118
      go_wp2
      go_ret
      exact ⟨rfl, rfl⟩
  · have ha : nan FloatKind.f64.format a = false := by simpa using ha
    have oa : FloatKind.f64.format.order a a = some .eq := ord_eq ha ha rfl
    by_cases hb : nan FloatKind.f64.format b = true
    · have ob : FloatKind.f64.format.order b b = none := ord_nan_l _ hb
      rw [sameB_r ha hb]
      clear ha hb
      go_enter Try.func118, Try.ntmps118
      go_wp2
      go_ret
      exact ⟨rfl, rfl⟩
    · have hb : nan FloatKind.f64.format b = false := by simpa using hb
      have ob : FloatKind.f64.format.order b b = some .eq := ord_eq hb hb rfl
      rw [sameB_num ha hb]
      clear ha hb
      by_cases h : a = b
      · have h1 : ((a : Int) == (b : Int)) = true := by rw [h]; simp
        have h2 : decide (a = b) = true := by simp [h]
        rw [h2]
        clear h h2
        go_enter Try.func118, Try.ntmps118
        go_wp2
        go_ret
        exact ⟨rfl, rfl⟩
      · have h1 : ((a : Int) == (b : Int)) = false := by simp; omega
        have h2 : decide (a = b) = false := by simp [h]
        rw [h2]
        clear h h2
        go_enter Try.func118, Try.ntmps118
        go_wp2
        go_ret
        exact ⟨rfl, rfl⟩
/-- Below, told once more: what a callee leaves. -/
theorem below_step {B : Nat} {w w1 w2 : World} (h : Below B w w1) (k : Below w1.heap.size w1 w2) (hB : B ≤ w1.heap.size) : Below B w w2 := h.trans (k.mono hB)

theorem isSame_any (a b c d : Nat) (w : World) :
    Calls Try.prog 95 #[.agg #[.complex .f64 a b], .agg #[.complex .f64 c d]] w (Rets (.bool (sameB a c && sameB b d)) w) := by
  have h1 := isSameReal_any a c
  have h2 := isSameReal_any b d
  generalize sameB a c = s1 at *
  generalize sameB b d = s2 at *
  cases s1
  · go_enter Try.func95, Try.ntmps95
    go_wp2_with (first
      | (go_at_call 118; (first | ((with_reducible refine (h1 _).mono ?_); rintro e w' ⟨rfl, rfl⟩) | ((with_reducible refine (h2 _).mono ?_); rintro e w' ⟨rfl, rfl⟩)))
      | go_in)
    go_ret
    exact ⟨rfl, by repeat (first | exact Below.refl _ _ | refine Below.alloc ?_ (by simp; try omega) _)⟩
  · go_enter Try.func95, Try.ntmps95
    go_wp2_with (first
      | (go_at_call 118; (first | ((with_reducible refine (h1 _).mono ?_); rintro e w' ⟨rfl, rfl⟩) | ((with_reducible refine (h2 _).mono ?_); rintro e w' ⟨rfl, rfl⟩)))
      | go_in)
    go_ret
    exact ⟨rfl, by repeat (first | exact Below.refl _ _ | refine Below.alloc ?_ (by simp; try omega) _)⟩

theorem sameNumber_any (a b c d : Nat) (w : World) :
    Calls Try.prog 50 #[.complex .f64 a b, .complex .f64 c d] w (Rets (.bool (sameB a c && sameB b d)) w) := by
  go_enter Try.func50, Try.ntmps50
  go_wp2_with fail
  refine (numberOf_any a b _).mono ?_
  rintro e w1 ⟨rfl, b1⟩
  go_wp2_with fail
  refine (numberOf_any c d _).mono ?_
  rintro e w2 ⟨rfl, b2⟩
  go_wp2_with fail
  refine (isSame_any a b c d _).mono ?_
  rintro e w3 ⟨rfl, b3⟩
  have h := below_step (below_step b1 b2 b1.size) b3 (Nat.le_trans b1.size b2.size)
  clear b1 b2 b3
  go_wp2
  go_ret
  exact ⟨rfl, h⟩

/-- Equal by Go's own ==. -/
def eqC (k : FloatKind) (a b c d : Nat) : Bool := (k.format.order a c == some .eq) && (k.format.order b d == some .eq)

theorem finO_nan {a : Nat} (ha : nan FloatKind.f64.format a = true) : finO (cn .f64 a) = false := by rw [cn_none ha]; rfl
theorem finO_num {a : Nat} (ha : nan FloatKind.f64.format a = false) : finO (cn .f64 a) = decide (a % 9223372036854775808 < 9218868437227405312) := by rw [cn_some ha]; rfl

theorem andNot_mod {a : Nat} (la : a < 18446744073709551616) : bits .andNot .u64 (a : Int) 9223372036854775808 = ((a % 9223372036854775808 : Nat) : Int) := by
  have := u64_andNot_nat a 9223372036854775808 la (by omega)
  rw [show ((9223372036854775808 : Nat) : Int) = 9223372036854775808 from rfl] at this
  rw [this, show (18446744073709551615 - 9223372036854775808 : Nat) = 2 ^ 63 - 1 by omega, Nat.and_two_pow_sub_one_eq_mod]

/-- A narrow complex number, of these parts. -/
def RetsN (p q : Nat → Prop) (w : World) (e : Ending) (w' : World) : Prop := ∃ u v, p u ∧ q v ∧ e = .returned (.complex .f32 u v) ∧ Below w.heap.size w w'
/-- A wide complex number, of these parts. -/
def RetsW (p q : Nat → Prop) (w : World) (e : Ending) (w' : World) : Prop := ∃ u v, p u ∧ q v ∧ e = .returned (.complex .f64 u v) ∧ Below w.heap.size w w'

theorem narrowOf_any (a b : Nat) (w : World) :
    Calls Try.prog 54 #[.complex .f64 a b] w (RetsN (Narrows a) (Narrows b) w) := by
  go_enter Try.func54, Try.ntmps54
  go_wp2_with fail
  refine (numberOf_any a b _).mono ?_
  rintro e w1 ⟨rfl, h⟩
  have hz := h.size
  go_wp2_with (first
    | (refine wpList_narrowD _ rfl 26 75 _ rfl a b rfl (by kernel_rfl) Try.underlying75 ?_; intro r s n hr hs; have HR := Lib.hid hr; have HS := Lib.hid hs; clear hr hs)
    | go_in)
  go_ret
  exact ⟨_, _, HR.out, HS.out, rfl, by repeat (first | exact h | refine below_draws ?_ _ | refine Below.alloc ?_ (by first | exact hz | (simp; omega)) _)⟩

theorem numberOf32_any (a b : Nat) (w : World) :
    Calls Try.prog 97 #[.complex .f32 a b] w (Rets (.agg #[.complex .f32 a b]) w) := by
  go_enter Try.func97, Try.ntmps97
  go_wp2
  exact bodyPost_ret (v := .agg #[.complex .f32 a b]) (by simp [results, Try.results97, go_sem]) rfl ⟨rfl, by repeat (first | exact Below.refl _ _ | refine Below.alloc ?_ (by simp; try omega) _)⟩

/-- A real is one that a narrow one is widened to. -/
def Wide (u r : Nat) : Prop := cn .f64 r = floatToFloatBits .f32 u .f64 ∧ r < 18446744073709551616

theorem wide_any (a b : Nat) (w : World) :
    Calls Try.prog 98 #[.agg #[.complex .f32 a b]] w (RetsW (Wide a) (Wide b) w) := by
  go_enter Try.func98, Try.ntmps98
  go_wp2_with (first
    | (refine wpList_widenC _ rfl 75 26 _ rfl a b rfl (by kernel_rfl) Try.underlying26 ?_; intro r s n hr hs lr ls; have HR := Lib.hid hr; have HS := Lib.hid hs; have LR := Lib.hid lr; have LS := Lib.hid ls; clear hr hs lr ls)
    | go_in)
  go_ret
  exact ⟨_, _, ⟨HR.out, LR.out⟩, ⟨HS.out, LS.out⟩, rfl, by repeat (first | exact Below.refl _ _ | refine below_draws ?_ _ | refine Below.alloc ?_ (by simp; try omega) _)⟩

theorem wideOf_any (a b : Nat) (w : World) :
    Calls Try.prog 56 #[.complex .f32 a b] w (RetsW (Wide a) (Wide b) w) := by
  go_enter Try.func56, Try.ntmps56
  go_wp2_with fail
  refine (numberOf32_any a b _).mono ?_
  rintro e w1 ⟨rfl, h1⟩
  go_wp2_with fail
  refine (wide_any a b _).mono ?_
  rintro e w2 ⟨r, s, hr, hs, rfl, h2⟩
  have HR := Lib.hid hr
  have HS := Lib.hid hs
  have h := below_step h1 h2 h1.size
  clear hr hs h1 h2
  go_wp2
  go_ret
  exact ⟨_, _, HR.out, HS.out, rfl, h⟩

/-- Two parts, widened. -/
def RetsP (p q : Nat → Prop) (w : World) (e : Ending) (w' : World) : Prop := ∃ u v, p u ∧ q v ∧ e = .returned (.tuple #[.float .f64 u, .float .f64 v]) ∧ Below w.heap.size w w'

/-- Two narrow reals are the same: their wide ones are. -/
def sameN (u v : Nat) : Bool := decide (floatToFloatBits .f32 u .f64 = floatToFloatBits .f32 v .f64)
theorem sameB_wide {u v r s : Nat} (h : Wide u r) (k : Wide v s) : sameB r s = sameN u v := by unfold sameB sameN; rw [h.1, k.1]

/-- A narrow real is finite: its wide one is. -/
def finN (u : Nat) : Bool := finO (floatToFloatBits .f32 u .f64)

end Go.Proofs.Ytcoieclecmefiaa
