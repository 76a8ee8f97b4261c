import Derived.Test.YtjlgfflpkgmnlaaKit
import Derived.Test.YtjlgfflpkgmnlaaFlt
import Derived.Test.YtjlgfflpkgmnlaaRows
import Derived.Test.YtjlgfflpkgmnlaaExt
import Derived.Test.YtjlgfflpkgmnlaaWalkNext
import Derived.Lib.Hide
/-
  Contracts of the program's functions on complex numbers: same, equal, finite, narrow, wide.
-/
set_option linter.unusedVariables false
set_option linter.unusedSimpArgs false
namespace Go.Proofs.Ytjlgfflpkgmnlaa
open Go.RowKit Flt

/-- Two reals are the same. -/
def sameB (a b : Nat) : Bool := decide (cn .f64 a = cn .f64 b)
/-- A real is finite. -/
def finO (o : Option Nat) : Bool := match o with | some x => decide (x % 9223372036854775808 < 9218868437227405312) | none => false

theorem sameB_nan {a b : Nat} (ha : nan FloatKind.f64.format a = true) (hb : nan FloatKind.f64.format b = true) : sameB a b = true := by
  unfold sameB; rw [cn_none ha, cn_none hb]; rfl
theorem sameB_l {a b : Nat} (ha : nan FloatKind.f64.format a = true) (hb : nan FloatKind.f64.format b = false) : sameB a b = false := by
  unfold sameB; rw [cn_none ha, cn_some hb]; rfl
theorem sameB_r {a b : Nat} (ha : nan FloatKind.f64.format a = false) (hb : nan FloatKind.f64.format b = true) : sameB a b = false := by
  unfold sameB; rw [cn_some ha, cn_none hb]; rfl
theorem sameB_num {a b : Nat} (ha : nan FloatKind.f64.format a = false) (hb : nan FloatKind.f64.format b = false) : sameB a b = decide (a = b) := by
  unfold sameB; rw [cn_some ha, cn_some hb]; simp

/-- The function returns this; nothing that was there has turned, and it draws nothing that matters. -/
def Rets (v : Value) (w : World) (e : Ending) (w' : World) : Prop := e = .returned v ∧ Below w.heap.size w w'

theorem isSameReal_any (a b : Nat) (w : World) :
    Calls Try.prog 130 #[.float .f64 a, .float .f64 b] w fun e w' => e = .returned (.bool (sameB a b)) ∧ w' = w := by
  by_cases ha : nan FloatKind.f64.format a = true
  · have oa : FloatKind.f64.format.order a a = none := ord_nan_l _ ha
    by_cases hb : nan FloatKind.f64.format b = true
    · have ob : FloatKind.f64.format.order b b = none := ord_nan_l _ hb
      rw [sameB_nan ha hb]
      clear ha hb
      go_enter Try.func130, Try.ntmps130
      go_wp2
      go_ret
      exact ⟨rfl, rfl⟩
    · have hb : nan FloatKind.f64.format b = false := by simpa using hb
      have ob : FloatKind.f64.format.order b b = some .eq := ord_eq hb hb rfl
      rw [sameB_l ha hb]
      clear ha hb
      go_enter Try.func130, Try.ntmps130
      go_wp2
      go_ret
      exact ⟨rfl, rfl⟩
  · have ha : nan FloatKind.f64.format a = false := by simpa using ha
    have oa : FloatKind.f64.format.order a a = some .eq := ord_eq ha ha rfl
    by_cases hb : nan FloatKind.f64.format b = true
    · have ob : FloatKind.f64.format.order b b = none := ord_nan_l _ hb
      rw [sameB_r ha hb]
      clear ha hb
      go_enter Try.func130, Try.ntmps130
      go_wp2
      go_ret
      exact ⟨rfl, rfl⟩
    · have hb : nan FloatKind.f64.format b = false := by simpa using hb
      have ob : FloatKind.f64.format.order b b = some .eq := ord_eq hb hb rfl
      rw [sameB_num ha hb]
      clear ha hb
      by_cases h : a = b
      · have h1 : ((a : Int) == (b : Int)) = true := by rw [h]; simp
        have h2 : decide (a = b) = true := by simp [h]
        rw [h2]
        clear h h2
        go_enter Try.func130, Try.ntmps130
        go_wp2
        go_ret
        exact ⟨rfl, rfl⟩
      · have h1 : ((a : Int) == (b : Int)) = false := by simp; omega
        have h2 : decide (a = b) = false := by simp [h]
        rw [h2]
        clear h h2
        go_enter Try.func130, Try.ntmps130
        go_wp2
        go_ret
        exact ⟨rfl, rfl⟩

theorem parts_any (a b : Nat) (w : World) :
    Calls Try.prog 129 #[.agg #[.complex .f64 a b]] w (Rets (.tuple #[.float .f64 a, .float .f64 b]) w) := by
  go_enter Try.func129, Try.ntmps129
  go_wp2
  go_ret2
  exact ⟨rfl, by repeat (first | exact Below.refl _ _ | refine Below.alloc ?_ (by simp; try omega) _)⟩

theorem numberOf_any (a b : Nat) (w : World) :
    Calls Try.prog 88 #[.complex .f64 a b] w (Rets (.agg #[.complex .f64 a b]) w) := by
  go_enter Try.func88, Try.ntmps88
  go_wp2
  exact bodyPost_ret (v := .agg #[.complex .f64 a b]) (by simp [results, Try.results88, go_sem]) rfl ⟨rfl, by repeat (first | exact Below.refl _ _ | refine Below.alloc ?_ (by simp; try omega) _)⟩

/-- Below, told once more: what a callee leaves. -/
theorem below_step {B : Nat} {w w1 w2 : World} (h : Below B w w1) (k : Below w1.heap.size w1 w2) (hB : B ≤ w1.heap.size) : Below B w w2 := h.trans (k.mono hB)

theorem isSame_any (a b c d : Nat) (w : World) :
    Calls Try.prog 89 #[.agg #[.complex .f64 a b], .agg #[.complex .f64 c d]] w (Rets (.bool (sameB a c && sameB b d)) w) := by
  have h1 := isSameReal_any a c
  have h2 := isSameReal_any b d
  generalize sameB a c = s1 at *
  generalize sameB b d = s2 at *
  cases s1
  · go_enter Try.func89, Try.ntmps89
    go_wp2_with (first
      | (go_at_call 130; (first | ((with_reducible refine (h1 _).mono ?_); rintro e w' ⟨rfl, rfl⟩) | ((with_reducible refine (h2 _).mono ?_); rintro e w' ⟨rfl, rfl⟩)))
      | go_in)
    go_ret
    exact ⟨rfl, by repeat (first | exact Below.refl _ _ | refine Below.alloc ?_ (by simp; try omega) _)⟩
  · go_enter Try.func89, Try.ntmps89
    go_wp2_with (first
      | (go_at_call 130; (first | ((with_reducible refine (h1 _).mono ?_); rintro e w' ⟨rfl, rfl⟩) | ((with_reducible refine (h2 _).mono ?_); rintro e w' ⟨rfl, rfl⟩)))
      | go_in)
    go_ret
    exact ⟨rfl, by repeat (first | exact Below.refl _ _ | refine Below.alloc ?_ (by simp; try omega) _)⟩

theorem sameNumber_any (a b c d : Nat) (w : World) :
    Calls Try.prog 34 #[.complex .f64 a b, .complex .f64 c d] w (Rets (.bool (sameB a c && sameB b d)) w) := by
  go_enter Try.func34, Try.ntmps34
  go_wp2_with fail
  refine (numberOf_any a b _).mono ?_
  rintro e w1 ⟨rfl, b1⟩
  go_wp2_with fail
  refine (numberOf_any c d _).mono ?_
  rintro e w2 ⟨rfl, b2⟩
  go_wp2_with fail
  refine (isSame_any a b c d _).mono ?_
  rintro e w3 ⟨rfl, b3⟩
  have h := below_step (below_step b1 b2 b1.size) b3 (Nat.le_trans b1.size b2.size)
  clear b1 b2 b3
  go_wp2
  go_ret
  exact ⟨rfl, h⟩

/-- Equal by Go's own ==. -/
def eqC (k : FloatKind) (a b c d : Nat) : Bool := (k.format.order a c == some .eq) && (k.format.order b d == some .eq)

theorem isEqual_any (a b c d : Nat) (w : World) :
    Calls Try.prog 35 #[.complex .f64 a b, .complex .f64 c d] w (Rets (.bool (eqC .f64 a b c d)) w) := by
  go_enter Try.func35, Try.ntmps35
  go_wp2_with fail
  refine (numberOf_any a b _).mono ?_
  rintro e w1 ⟨rfl, b1⟩
  go_wp2_with fail
  refine (numberOf_any c d _).mono ?_
  rintro e w2 ⟨rfl, b2⟩
  have h := below_step b1 b2 b1.size
  clear b1 b2
  have hz := h.size
  go_wp2
  go_ret
  exact ⟨rfl, by first | exact h | exact h.alloc hz _ | exact (h.alloc hz _).alloc (by simp; omega) _⟩

theorem finO_nan {a : Nat} (ha : nan FloatKind.f64.format a = true) : finO (cn .f64 a) = false := by rw [cn_none ha]; rfl
theorem finO_num {a : Nat} (ha : nan FloatKind.f64.format a = false) : finO (cn .f64 a) = decide (a % 9223372036854775808 < 9218868437227405312) := by rw [cn_some ha]; rfl

theorem andNot_mod {a : Nat} (la : a < 18446744073709551616) : bits .andNot .u64 (a : Int) 9223372036854775808 = ((a % 9223372036854775808 : Nat) : Int) := by
  have := u64_andNot_nat a 9223372036854775808 la (by omega)
  rw [show ((9223372036854775808 : Nat) : Int) = 9223372036854775808 from rfl] at this
  rw [this, show (18446744073709551615 - 9223372036854775808 : Nat) = 2 ^ 63 - 1 by omega, Nat.and_two_pow_sub_one_eq_mod]

theorem abs_any (a : Nat) (la : a < 18446744073709551616) (w : World) :
    Calls Try.prog 135 #[.float .f64 a] w fun e w' => e = .returned (.float .f64 (a % 9223372036854775808)) ∧ w' = w := by
  have hb := andNot_mod la
  generalize a % 9223372036854775808 = r at *
  clear la
  go_enter Try.func135, Try.ntmps135
  go_wp2
  go_ret
  exact ⟨rfl, rfl⟩

theorem isFiniteReal_any (a : Nat) (la : a < 18446744073709551616) (w : World) :
    Calls Try.prog 131 #[.float .f64 a] w fun e w' => e = .returned (.bool (finO (cn .f64 a))) ∧ w' = w := by
  have habs := abs_any a la
  by_cases ha : nan FloatKind.f64.format a = true
  · have oa : FloatKind.f64.format.order a a = none := ord_nan_l _ ha
    rw [finO_nan ha]
    clear ha
    go_enter Try.func131, Try.ntmps131
    go_wp2
    go_ret
    exact ⟨rfl, rfl⟩
  · have ha : nan FloatKind.f64.format a = false := by simpa using ha
    have oa : FloatKind.f64.format.order a a = some .eq := ord_eq ha ha rfl
    have hle := nan_le ha
    have nm : nan FloatKind.f64.format 9218868437227405311 = false := by decide
    have pm : place FloatKind.f64.format 9218868437227405311 = 9218868437227405311 := by decide
    rw [finO_num ha]
    generalize hr : a % 9223372036854775808 = r at *
    have nr : nan FloatKind.f64.format r = false := nan_no (by omega)
    have pr : place FloatKind.f64.format r = r := plc_lo (by omega)
    by_cases hf : r < 9218868437227405312
    · have h2 : decide (r < 9218868437227405312) = true := by simp [hf]
      rw [h2]
      rcases Nat.lt_or_ge r 9218868437227405311 with hm | hm
      · have o1 : FloatKind.f64.format.order r 9218868437227405311 = some .lt := ord_lt nr nm (by rw [pr, pm]; omega)
        clear hr nr pr pm nm ha hle hf h2 hm la
        go_enter Try.func131, Try.ntmps131
        go_wp2_with (first | (go_at_call 135; refine (habs _).mono ?_; rintro e w' ⟨rfl, rfl⟩) | go_in)
        go_ret
        exact ⟨rfl, rfl⟩
      · have o1 : FloatKind.f64.format.order r 9218868437227405311 = some .eq := ord_eq nr nm (by rw [pr, pm]; omega)
        clear hr nr pr pm nm ha hle hf h2 hm la
        go_enter Try.func131, Try.ntmps131
        go_wp2_with (first | (go_at_call 135; refine (habs _).mono ?_; rintro e w' ⟨rfl, rfl⟩) | go_in)
        go_ret
        exact ⟨rfl, rfl⟩
    · have h2 : decide (r < 9218868437227405312) = false := by simp [hf]
      rw [h2]
      have o1 : FloatKind.f64.format.order r 9218868437227405311 = some .gt := ord_gt nr nm (by rw [pr, pm]; omega)
      clear hr nr pr pm nm ha hle hf h2 la
      go_enter Try.func131, Try.ntmps131
      go_wp2_with (first | (go_at_call 135; refine (habs _).mono ?_; rintro e w' ⟨rfl, rfl⟩) | go_in)
      go_ret
      exact ⟨rfl, rfl⟩

theorem isFinite_any (a b : Nat) (la : a < 18446744073709551616) (lb : b < 18446744073709551616) (w : World) :
    Calls Try.prog 37 #[.complex .f64 a b] w (Rets (.bool (finO (cn .f64 a) && finO (cn .f64 b))) w) := by
  have h1 := isFiniteReal_any a la
  have h2 := isFiniteReal_any b lb
  generalize finO (cn .f64 a) = s1 at *
  generalize finO (cn .f64 b) = s2 at *
  clear la lb
  go_enter Try.func37, Try.ntmps37
  go_wp2_with fail
  refine (numberOf_any a b _).mono ?_
  rintro e w1 ⟨rfl, h⟩
  have hz := h.size
  cases s1
  · go_wp2_with (first
      | (go_at_call 131; (first | ((with_reducible refine (h1 _).mono ?_); rintro e w' ⟨rfl, rfl⟩) | ((with_reducible refine (h2 _).mono ?_); rintro e w' ⟨rfl, rfl⟩)))
      | go_in)
    go_ret
    exact ⟨rfl, by repeat (first | exact h | refine Below.alloc ?_ (by first | exact hz | (simp; omega)) _)⟩
  · go_wp2_with (first
      | (go_at_call 131; (first | ((with_reducible refine (h1 _).mono ?_); rintro e w' ⟨rfl, rfl⟩) | ((with_reducible refine (h2 _).mono ?_); rintro e w' ⟨rfl, rfl⟩)))
      | go_in)
    go_ret
    exact ⟨rfl, by repeat (first | exact h | refine Below.alloc ?_ (by first | exact hz | (simp; omega)) _)⟩

/-- A narrow complex number, of these parts. -/
def RetsN (p q : Nat → Prop) (w : World) (e : Ending) (w' : World) : Prop := ∃ u v, p u ∧ q v ∧ e = .returned (.complex .f32 u v) ∧ Below w.heap.size w w'
/-- A wide complex number, of these parts. -/
def RetsW (p q : Nat → Prop) (w : World) (e : Ending) (w' : World) : Prop := ∃ u v, p u ∧ q v ∧ e = .returned (.complex .f64 u v) ∧ Below w.heap.size w w'

theorem narrowOf_any (a b : Nat) (w : World) :
    Calls Try.prog 38 #[.complex .f64 a b] w (RetsN (Narrows a) (Narrows b) w) := by
  go_enter Try.func38, Try.ntmps38
  go_wp2_with fail
  refine (numberOf_any a b _).mono ?_
  rintro e w1 ⟨rfl, h⟩
  have hz := h.size
  go_wp2_with (first
    | (refine wpList_narrowC _ rfl 38 43 _ rfl a b rfl (by kernel_rfl) Try.underlying43 ⟨24, 29, by kernel_rfl, Try.underlying29⟩ ?_; intro r s n hr hs; have HR := Lib.hid hr; have HS := Lib.hid hs; clear hr hs)
    | go_in)
  go_ret
  exact ⟨_, _, HR.out, HS.out, rfl, by repeat (first | exact h | refine below_draws ?_ _ | refine Below.alloc ?_ (by first | exact hz | (simp; omega)) _)⟩

theorem numberOf32_any (a b : Nat) (w : World) :
    Calls Try.prog 93 #[.complex .f32 a b] w (Rets (.agg #[.complex .f32 a b]) w) := by
  go_enter Try.func93, Try.ntmps93
  go_wp2
  exact bodyPost_ret (v := .agg #[.complex .f32 a b]) (by simp [results, Try.results93, go_sem]) rfl ⟨rfl, by repeat (first | exact Below.refl _ _ | refine Below.alloc ?_ (by simp; try omega) _)⟩

/-- A real is one that a narrow one is widened to. -/
def Wide (u r : Nat) : Prop := cn .f64 r = floatToFloatBits .f32 u .f64 ∧ r < 18446744073709551616

theorem wide_any (a b : Nat) (w : World) :
    Calls Try.prog 96 #[.agg #[.complex .f32 a b]] w (RetsW (Wide a) (Wide b) w) := by
  go_enter Try.func96, Try.ntmps96
  go_wp2_with (first
    | (refine wpList_widenC _ rfl 43 38 _ rfl a b rfl (by kernel_rfl) Try.underlying38 ?_; intro r s n hr hs lr ls; have HR := Lib.hid hr; have HS := Lib.hid hs; have LR := Lib.hid lr; have LS := Lib.hid ls; clear hr hs lr ls)
    | go_in)
  go_ret
  exact ⟨_, _, ⟨HR.out, LR.out⟩, ⟨HS.out, LS.out⟩, rfl, by repeat (first | exact Below.refl _ _ | refine below_draws ?_ _ | refine Below.alloc ?_ (by simp; try omega) _)⟩

theorem wideOf_any (a b : Nat) (w : World) :
    Calls Try.prog 41 #[.complex .f32 a b] w (RetsW (Wide a) (Wide b) w) := by
  go_enter Try.func41, Try.ntmps41
  go_wp2_with fail
  refine (numberOf32_any a b _).mono ?_
  rintro e w1 ⟨rfl, h1⟩
  go_wp2_with fail
  refine (wide_any a b _).mono ?_
  rintro e w2 ⟨r, s, hr, hs, rfl, h2⟩
  have HR := Lib.hid hr
  have HS := Lib.hid hs
  have h := below_step h1 h2 h1.size
  clear hr hs h1 h2
  go_wp2
  go_ret
  exact ⟨_, _, HR.out, HS.out, rfl, h⟩

/-- Two parts, widened. -/
def RetsP (p q : Nat → Prop) (w : World) (e : Ending) (w' : World) : Prop := ∃ u v, p u ∧ q v ∧ e = .returned (.tuple #[.float .f64 u, .float .f64 v]) ∧ Below w.heap.size w w'

theorem parts32_any (a b : Nat) (w : World) :
    Calls Try.prog 132 #[.agg #[.complex .f32 a b]] w (RetsP (Wide a) (Wide b) w) := by
  go_enter Try.func132, Try.ntmps132
  go_wp2_with fail
  refine (wide_any a b _).mono ?_
  rintro e w2 ⟨r, s, hr, hs, rfl, h2⟩
  have HR := Lib.hid hr
  have HS := Lib.hid hs
  have h : Below w.heap.size w w2 := ((Below.refl _ _).alloc (Nat.le_refl _) _).trans (h2.mono (by simp))
  clear hr hs h2
  go_wp2
  go_ret2
  exact ⟨_, _, HR.out, HS.out, rfl, h⟩

/-- Two narrow reals are the same: their wide ones are. -/
def sameN (u v : Nat) : Bool := decide (floatToFloatBits .f32 u .f64 = floatToFloatBits .f32 v .f64)
theorem sameB_wide {u v r s : Nat} (h : Wide u r) (k : Wide v s) : sameB r s = sameN u v := by unfold sameB sameN; rw [h.1, k.1]

theorem isSame32_any (a b c d : Nat) (w : World) :
    Calls Try.prog 94 #[.agg #[.complex .f32 a b], .agg #[.complex .f32 c d]] w (Rets (.bool (sameN a c && sameN b d)) w) := by
  go_enter Try.func94, Try.ntmps94
  go_wp2_with fail
  refine (parts32_any a b _).mono ?_
  rintro e w2 ⟨r, s, hr, hs, rfl, h2⟩
  have c1 : w2.cell? ⟨w.heap.size + 1, 0, none⟩ = some (.complex .f32 c d) := by rw [h2.cell (by simp)]; simp
  have h : Below w.heap.size w w2 := (((Below.refl _ _).alloc (Nat.le_refl _) _).alloc (by simp) _).trans (h2.mono (by simp; omega))
  clear h2
  have HH := Lib.hid h
  have Hr := Lib.hid hr
  have Hs := Lib.hid hs
  clear h hr hs
  go_wp2_with fail
  refine (parts32_any c d _).mono ?_
  rintro e w3 ⟨r', s', hr', hs', rfl, h3⟩
  have h1 := isSameReal_any r r'
  have h2 := isSameReal_any s s'
  rw [sameB_wide Hr.out hr'] at h1
  rw [sameB_wide Hs.out hs'] at h2
  have HB := Lib.hid (below_step HH.out h3 HH.out.size)
  clear c1 hr' hs' h3 HH Hr Hs
  generalize sameN a c = s1 at *
  generalize sameN b d = s2 at *
  cases s1
  · go_wp2_with (go_at_call 130; (first | ((with_reducible refine (h1 _).mono ?_); rintro e w' ⟨rfl, rfl⟩) | ((with_reducible refine (h2 _).mono ?_); rintro e w' ⟨rfl, rfl⟩)))
    go_ret
    exact ⟨rfl, HB.out⟩
  · go_wp2_with (go_at_call 130; (first | ((with_reducible refine (h1 _).mono ?_); rintro e w' ⟨rfl, rfl⟩) | ((with_reducible refine (h2 _).mono ?_); rintro e w' ⟨rfl, rfl⟩)))
    go_ret
    exact ⟨rfl, HB.out⟩

theorem sameNarrow_any (a b c d : Nat) (w : World) :
    Calls Try.prog 39 #[.complex .f32 a b, .complex .f32 c d] w (Rets (.bool (sameN a c && sameN b d)) w) := by
  go_enter Try.func39, Try.ntmps39
  go_wp2_with fail
  refine (numberOf32_any a b _).mono ?_
  rintro e w1 ⟨rfl, b1⟩
  go_wp2_with fail
  refine (numberOf32_any c d _).mono ?_
  rintro e w2 ⟨rfl, b2⟩
  go_wp2_with fail
  refine (isSame32_any a b c d _).mono ?_
  rintro e w3 ⟨rfl, b3⟩
  have h := below_step (below_step b1 b2 b1.size) b3 (Nat.le_trans b1.size b2.size)
  clear b1 b2 b3
  go_wp2
  go_ret
  exact ⟨rfl, h⟩

theorem isEqual32_any (a b c d : Nat) (w : World) :
    Calls Try.prog 40 #[.complex .f32 a b, .complex .f32 c d] w (Rets (.bool (eqC .f32 a b c d)) w) := by
  go_enter Try.func40, Try.ntmps40
  go_wp2_with fail
  refine (numberOf32_any a b _).mono ?_
  rintro e w1 ⟨rfl, b1⟩
  go_wp2_with fail
  refine (numberOf32_any c d _).mono ?_
  rintro e w2 ⟨rfl, b2⟩
  have h := below_step b1 b2 b1.size
  clear b1 b2
  have hz := h.size
  go_wp2
  go_ret
  exact ⟨rfl, by first | exact h | exact h.alloc hz _ | exact (h.alloc hz _).alloc (by simp; omega) _⟩

/-- A narrow real is finite: its wide one is. -/
def finN (u : Nat) : Bool := finO (floatToFloatBits .f32 u .f64)

theorem isFinite32_any (a b : Nat) (w : World) :
    Calls Try.prog 42 #[.complex .f32 a b] w (Rets (.bool (finN a && finN b)) w) := by
  go_enter Try.func42, Try.ntmps42
  go_wp2_with fail
  refine (numberOf32_any a b _).mono ?_
  rintro e w1 ⟨rfl, b1⟩
  have hz := b1.size
  go_wp2_with (first | (go_at_call 97; go_in))
  refine (parts32_any a b _).mono ?_
  rintro e w2 ⟨r, s, hr, hs, rfl, h2⟩
  have HB := Lib.hid ((b1.alloc hz (.cells #[.complex .f32 a b] 108)).trans (h2.mono (by simp; omega)))
  have h1 := isFiniteReal_any r hr.2
  have h3 := isFiniteReal_any s hs.2
  rw [hr.1] at h1
  rw [hs.1] at h3
  have e1 : finO (floatToFloatBits .f32 a .f64) = finN a := rfl
  have e2 : finO (floatToFloatBits .f32 b .f64) = finN b := rfl
  rw [e1] at h1
  rw [e2] at h3
  clear b1 h2 hr hs e1 e2 hz
  generalize finN a = s1 at *
  generalize finN b = s2 at *
  cases s1
  · go_wp2_with (go_at_call 131; (first | ((with_reducible refine (h1 _).mono ?_); rintro e w' ⟨rfl, rfl⟩) | ((with_reducible refine (h3 _).mono ?_); rintro e w' ⟨rfl, rfl⟩)))
    go_ret
    exact ⟨rfl, HB.out⟩
  · go_wp2_with (go_at_call 131; (first | ((with_reducible refine (h1 _).mono ?_); rintro e w' ⟨rfl, rfl⟩) | ((with_reducible refine (h3 _).mono ?_); rintro e w' ⟨rfl, rfl⟩)))
    go_ret
    exact ⟨rfl, HB.out⟩
end Go.Proofs.Ytjlgfflpkgmnlaa
