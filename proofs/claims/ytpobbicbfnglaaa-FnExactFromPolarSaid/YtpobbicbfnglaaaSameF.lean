import Derived.Test.YtpobbicbfnglaaaKit
import Derived.Test.YtpobbicbfnglaaaFlt
import Derived.Test.YtpobbicbfnglaaaRows
import Derived.Test.YtpobbicbfnglaaaExt
/-
  The laws' own comparison of floats; words and their places.
-/
set_option linter.unusedVariables false
set_option linter.unusedSimpArgs false
namespace Go.Proofs.Ytpobbicbfnglaaa
open Go.RowKit Flt

/-- sameFloat of two words that are one, or both NaN. -/
theorem sameFloat_nan (a b : Nat) (ha : nan FloatKind.f64.format a = true) (hb : nan FloatKind.f64.format b = true) (w : World) :
    Calls Try.prog 26 #[.float .f64 a, .float .f64 b] w fun e w' => e = .returned (.bool true) ∧ w' = w := by
  have h1 : FloatKind.f64.format.order a a = none := ord_nan_l _ ha
  have h2 : FloatKind.f64.format.order b b = none := ord_nan_l _ hb
  go_enter Try.func26, Try.ntmps26
  go_wp2
  go_ret
  exact ⟨rfl, rfl⟩

theorem sameFloat_num (a : Nat) (ha : nan FloatKind.f64.format a = false) (h0 : place FloatKind.f64.format a ≠ 0) (w : World) :
    Calls Try.prog 26 #[.float .f64 a, .float .f64 a] w fun e w' => e = .returned (.bool true) ∧ w' = w := by
  have h1 : FloatKind.f64.format.order a a = some .eq := ord_eq ha ha rfl
  have hz : place FloatKind.f64.format 0 = 0 := by decide
  have hn : nan FloatKind.f64.format 0 = false := by decide
  rcases Int.lt_or_gt_of_ne h0 with h | h
  · have h2 : FloatKind.f64.format.order a 0 = some .lt := ord_lt ha hn (by rw [hz]; exact h)
    clear hz hn h0 h ha
    go_enter Try.func26, Try.ntmps26
    go_wp2
    go_ret
    exact ⟨rfl, rfl⟩
  · have h2 : FloatKind.f64.format.order a 0 = some .gt := ord_gt ha hn (by rw [hz]; exact h)
    clear hz hn h0 h ha
    go_enter Try.func26, Try.ntmps26
    go_wp2
    go_ret
    exact ⟨rfl, rfl⟩

theorem sameFloat_zero (w : World) :
    Calls Try.prog 26 #[.float .f64 0, .float .f64 0] w fun e w' => e = .returned (.bool true) ∧ w' = w := by
  have h1 : FloatKind.f64.format.order 0 0 = some .eq := by decide
  have h3 : FloatKind.f64.format.order 9218868437227405312 0 = some .gt := by decide
  have hq : ∀ w : World, (binOp .quo 29 (.float .f64 4607182418800017408) (.float .f64 0)).run Try.prog w = .ok (.float .f64 9218868437227405312) w := fun w => run_float_arith w .quo 29 .f64 _ _ _ (by decide +kernel)
  go_enter Try.func26, Try.ntmps26
  go_wp2
  go_ret
  exact ⟨rfl, rfl⟩

theorem sameFloat_mzero (w : World) :
    Calls Try.prog 26 #[.float .f64 9223372036854775808, .float .f64 9223372036854775808] w fun e w' => e = .returned (.bool true) ∧ w' = w := by
  have h0 : FloatKind.f64.format.order 9223372036854775808 9223372036854775808 = some .eq := by decide
  have h1 : FloatKind.f64.format.order 9223372036854775808 0 = some .eq := by decide
  have h3 : FloatKind.f64.format.order 18442240474082181120 0 = some .lt := by decide
  have hq : ∀ w : World, (binOp .quo 29 (.float .f64 4607182418800017408) (.float .f64 9223372036854775808)).run Try.prog w = .ok (.float .f64 18442240474082181120) w := fun w => run_float_arith w .quo 29 .f64 _ _ _ (by decide +kernel)
  go_enter Try.func26, Try.ntmps26
  go_wp2
  go_ret
  exact ⟨rfl, rfl⟩

/-- Two words that are one, or both NaN, are the same. -/
theorem sameFloat_any (a b : Nat) (h : cn .f64 a = cn .f64 b) (la : a < 18446744073709551616) (w : World) :
    Calls Try.prog 26 #[.float .f64 a, .float .f64 b] w fun e w' => e = .returned (.bool true) ∧ w' = w := by
  by_cases ha : nan FloatKind.f64.format a = true
  · have hb : nan FloatKind.f64.format b = true := by
      rw [cn_none ha] at h
      unfold cn at h
      split at h
      · assumption
      · cases h
    exact sameFloat_nan a b ha hb w
  · have ha : nan FloatKind.f64.format a = false := by simpa using ha
    have e : a = b := by
      rw [cn_some ha] at h
      unfold cn at h
      split at h
      · cases h
      · exact Option.some.inj h
    subst e
    by_cases h0 : place FloatKind.f64.format a = 0
    · by_cases hs : a < 9223372036854775808
      · have := place64_lo hs
        have e0 : (a : Int) = 0 := by rw [← this]; exact h0
        obtain rfl : a = 0 := by omega
        exact sameFloat_zero w
      · have := place64_hi (x := a) (by omega) la
        have e0 : 9223372036854775808 - (a : Int) = 0 := by rw [← this]; exact h0
        obtain rfl : a = 9223372036854775808 := by omega
        exact sameFloat_mzero w
    · exact sameFloat_num a ha h0 w

/-- The next greater word. -/
def upBits (a : Nat) : Nat := if a = 0 ∨ a = 9223372036854775808 then 1 else if a < 9223372036854775808 then (if a = 9218868437227405312 then a else a + 1) else a - 1

theorem plc_lo {x : Nat} (h : x < 9223372036854775808) : place FloatKind.f64.format x = x := place64_lo h
theorem plc_hi {x : Nat} (h : 9223372036854775808 ≤ x) (h' : x < 18446744073709551616) : place FloatKind.f64.format x = 9223372036854775808 - (x : Int) := place64_hi h h'
theorem nan_no {x : Nat} (h : x % 9223372036854775808 ≤ 9218868437227405312) : nan FloatKind.f64.format x = false := by
  show nan Ieee.double x = false
  rw [nan64]; exact decide_eq_false (by omega)
theorem nan_le {x : Nat} (h : nan FloatKind.f64.format x = false) : x % 9223372036854775808 ≤ 9218868437227405312 := by
  have h' : nan Ieee.double x = false := h
  rw [nan64] at h'
  have := of_decide_eq_false h'
  omega

end Go.Proofs.Ytpobbicbfnglaaa
