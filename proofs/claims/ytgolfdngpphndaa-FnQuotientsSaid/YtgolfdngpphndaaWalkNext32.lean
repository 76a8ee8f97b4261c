import Derived.Test.YtgolfdngpphndaaKit
import Derived.Test.YtgolfdngpphndaaFlt
import Derived.Test.YtgolfdngpphndaaRows
import Derived.Test.YtgolfdngpphndaaExt
import Derived.Test.YtgolfdngpphndaaWalkNext
import Derived.Test.YtgolfdngpphndaaWalkUnits
/-
  The walks of NextUpNarrow and NarrowUnitsApart.
-/
set_option linter.unusedVariables false
set_option linter.unusedSimpArgs false
namespace Go.Proofs.Ytgolfdngpphndaa
open Go.RowKit Flt

def upBits32 (a : Nat) : Nat := if a = 0 ∨ a = 2147483648 then 1 else if a < 2147483648 then (if a = 2139095040 then a else a + 1) else a - 1

theorem plc32_lo {x : Nat} (h : x < 2147483648) : place FloatKind.f32.format x = x := place32_lo h
theorem plc32_hi {x : Nat} (h : 2147483648 ≤ x) (h' : x < 4294967296) : place FloatKind.f32.format x = 2147483648 - (x : Int) := place32_hi h h'
theorem nan32_no {x : Nat} (h : x % 2147483648 ≤ 2139095040) : nan FloatKind.f32.format x = false := by
  show nan Ieee.single x = false
  rw [nan32]; exact decide_eq_false (by omega)
theorem nan32_le {x : Nat} (h : nan FloatKind.f32.format x = false) : x % 2147483648 ≤ 2139095040 := by
  have h' : nan Ieee.single x = false := h
  rw [nan32] at h'
  have := of_decide_eq_false h'
  omega

set_option maxRecDepth 100000 in
theorem copysign_least (w : World) :
    Calls Try.prog 39 #[.float .f64 3936146074321813504, .float .f64 9218868437227405312] w fun e w' => e = .returned (.float .f64 3936146074321813504) ∧ w' = w := by
  go_enter Try.func39, Try.ntmps39
  go_wp2
  go_ret
  exact ⟨by kernel_rfl, rfl⟩

theorem upBits32_lt {a : Nat} (h : a < 4294967296) : upBits32 a < 4294967296 := by
  unfold upBits32; split
  · omega
  · split
    · split <;> omega
    · omega
theorem upBits32_num {a : Nat} (ha : nan FloatKind.f32.format a = false) (h : a < 4294967296) : nan FloatKind.f32.format (upBits32 a) = false := by
  have hle := nan32_le ha
  apply nan32_no
  unfold upBits32; split
  · omega
  · split
    · split <;> omega
    · omega

/-- The function gives such a narrow float, and draws at most. -/
def GivesF (k : FloatKind) (p : Nat → Prop) (w : World) (e : Ending) (w' : World) : Prop := ∃ r n, p r ∧ e = .returned (.float k r) ∧ w' = w.drewN n

theorem and_hi32 {a : Nat} (h : a < 4294967296) : bits .and .u64 (a : Int) 2147483648 = if a < 2147483648 then 0 else 2147483648 := by
  have := u64_and_nat a 2147483648 (by omega) (by omega)
  rw [show ((2147483648 : Nat) : Int) = 2147483648 from rfl] at this
  rw [this]
  have e : a &&& 2147483648 = if a < 2147483648 then 0 else 2147483648 := by
    apply Nat.eq_of_testBit_eq; intro i
    rw [Nat.testBit_and, show (2147483648 : Nat) = 2 ^ 31 from rfl, Nat.testBit_two_pow]
    by_cases hi : 31 = i
    · subst hi
      split
      · rename_i h1; rw [Nat.testBit_lt_two_pow h1]; rfl
      · rename_i h1
        obtain ⟨y, rfl⟩ : ∃ y, a = 2 ^ 31 + y := ⟨a - 2 ^ 31, by omega⟩
        rw [Nat.testBit_two_pow_add_eq, Nat.testBit_lt_two_pow (by omega)]
        decide
    · split
      · simp [hi]
      · rw [Nat.testBit_two_pow]; simp [hi]
  rw [e]; split <;> rfl

theorem andNot_hi32 {a : Nat} (h : 2147483648 ≤ a) (h' : a < 4294967296) : bits .andNot .u64 (a : Int) 2147483648 = (a : Int) - 2147483648 := by
  have := u64_andNot_nat a 2147483648 (by omega) (by omega)
  rw [show ((2147483648 : Nat) : Int) = 2147483648 from rfl] at this
  rw [this]
  have e : a &&& (18446744073709551615 - 2147483648) = a - 2147483648 := by
    obtain ⟨y, rfl⟩ : ∃ y, a = 2 ^ 31 + y := ⟨a - 2 ^ 31, by omega⟩
    have hy : y < 2 ^ 31 := by omega
    rw [show 2 ^ 31 + y - 2147483648 = y by omega]
    apply Nat.eq_of_testBit_eq; intro i
    rw [Nat.testBit_and]
    rcases Nat.lt_trichotomy i 31 with hi | rfl | hi
    · rw [Nat.testBit_two_pow_add_gt hi]
      have : (18446744073709551615 - 2147483648 : Nat).testBit i = true := by
        have : i = 0 ∨ i = 1 ∨ i = 2 ∨ i = 3 ∨ i = 4 ∨ i = 5 ∨ i = 6 ∨ i = 7 ∨ i = 8 ∨ i = 9 ∨ i = 10 ∨ i = 11 ∨ i = 12 ∨ i = 13 ∨ i = 14 ∨ i = 15 ∨ i = 16 ∨ i = 17 ∨ i = 18 ∨ i = 19 ∨ i = 20 ∨ i = 21 ∨ i = 22 ∨ i = 23 ∨ i = 24 ∨ i = 25 ∨ i = 26 ∨ i = 27 ∨ i = 28 ∨ i = 29 ∨ i = 30 := by omega
        rcases this with rfl | rfl | rfl | rfl | rfl | rfl | rfl | rfl | rfl | rfl | rfl | rfl | rfl | rfl | rfl | rfl | rfl | rfl | rfl | rfl | rfl | rfl | rfl | rfl | rfl | rfl | rfl | rfl | rfl | rfl | rfl <;> decide
      rw [this, Bool.and_true]
    · rw [Nat.testBit_lt_two_pow hy, show (18446744073709551615 - 2147483648 : Nat).testBit 31 = false by decide, Bool.and_false]
    · rw [Nat.testBit_lt_two_pow (show 2 ^ 31 + y < 2 ^ i from Nat.lt_of_lt_of_le (by omega) (Nat.pow_le_pow_right (by omega) (show 32 ≤ i by omega))), Nat.testBit_lt_two_pow (show y < 2 ^ i from Nat.lt_of_lt_of_le hy (Nat.pow_le_pow_right (by omega) (by omega))), Bool.false_and]
  rw [e]; omega

theorem plc32_bounds {x : Nat} (h : x < 4294967296) : -9223372036854775808 ≤ place FloatKind.f32.format x ∧ place FloatKind.f32.format x ≤ 9223372036854775807 := by
  by_cases h1 : x < 2147483648
  · rw [plc32_lo h1]; omega
  · rw [plc32_hi (by omega) h]; omega

/-- The function returns this, and draws at most. -/
def Drew (v : Value) (w : World) (e : Ending) (w' : World) : Prop := ∃ n, e = .returned v ∧ w' = w.drewN n

theorem negF32_hi {a : Nat} (h : 2147483648 ≤ a) (h' : a < 4294967296) : Op.negFloat .f32 a = a - 2147483648 := neg32_hi h h'

end Go.Proofs.Ytgolfdngpphndaa
