/-
  Several texts of this claim, one behind the other; each says what it holds.
-/
import Derived.Test.YtdefhmpmgcahpaaDoorMExactRL5
import Derived.Test.YtdefhmpmgcahpaaDoorFlt
import Derived.Test.YtdefhmpmgcahpaaDoorRows
import Derived.Lib.Hide
/-
  The laws' own comparison of floats; words and their places.
-/
set_option linter.unusedVariables false
set_option linter.unusedSimpArgs false
namespace Go.Proofs.YtdefhmpmgcahpaaDoor
open Go.RowKit Flt

/-- The next greater word. -/
def upBits (a : Nat) : Nat := if a = 0 ∨ a = 9223372036854775808 then 1 else if a < 9223372036854775808 then (if a = 9218868437227405312 then a else a + 1) else a - 1

theorem plc_lo {x : Nat} (h : x < 9223372036854775808) : place FloatKind.f64.format x = x := place64_lo h
theorem plc_hi {x : Nat} (h : 9223372036854775808 ≤ x) (h' : x < 18446744073709551616) : place FloatKind.f64.format x = 9223372036854775808 - (x : Int) := place64_hi h h'
theorem nan_no {x : Nat} (h : x % 9223372036854775808 ≤ 9218868437227405312) : nan FloatKind.f64.format x = false := by
  show nan Ieee.double x = false
  rw [nan64]; exact decide_eq_false (by omega)
theorem nan_le {x : Nat} (h : nan FloatKind.f64.format x = false) : x % 9223372036854775808 ≤ 9218868437227405312 := by
  have h' : nan Ieee.double x = false := h
  rw [nan64] at h'
  have := of_decide_eq_false h'
  omega

end Go.Proofs.YtdefhmpmgcahpaaDoor
/-
  The walks of NextUp and NextUpNarrow.
-/
set_option linter.unusedVariables false
set_option linter.unusedSimpArgs false
namespace Go.Proofs.YtdefhmpmgcahpaaDoor
open Go.RowKit Flt

theorem upBits_lt {a : Nat} (h : a < 18446744073709551616) : upBits a < 18446744073709551616 := by
  unfold upBits; split
  · omega
  · split
    · split <;> omega
    · omega

end Go.Proofs.YtdefhmpmgcahpaaDoor
/-
  The walks of UnitsApart and NarrowUnitsApart.
-/
set_option linter.unusedVariables false
set_option linter.unusedSimpArgs false
namespace Go.Proofs.YtdefhmpmgcahpaaDoor
open Go.RowKit Flt

theorem and_hi {a : Nat} (h : a < 18446744073709551616) : bits .and .u64 (a : Int) 9223372036854775808 = if a < 9223372036854775808 then 0 else 9223372036854775808 := by
  have := u64_and_nat a 9223372036854775808 h (by omega)
  rw [show ((9223372036854775808 : Nat) : Int) = 9223372036854775808 from rfl] at this
  rw [this]
  have e : a &&& 9223372036854775808 = if a < 9223372036854775808 then 0 else 9223372036854775808 := by
    apply Nat.eq_of_testBit_eq; intro i
    rw [Nat.testBit_and, show (9223372036854775808 : Nat) = 2 ^ 63 from rfl, Nat.testBit_two_pow]
    by_cases hi : 63 = i
    · subst hi
      split
      · rename_i h1; rw [Nat.testBit_lt_two_pow h1]; rfl
      · rename_i h1
        obtain ⟨y, rfl⟩ : ∃ y, a = 2 ^ 63 + y := ⟨a - 2 ^ 63, by omega⟩
        rw [Nat.testBit_two_pow_add_eq, Nat.testBit_lt_two_pow (by omega)]
        decide
    · split
      · simp [hi]
      · rw [Nat.testBit_two_pow]; simp [hi]
  rw [e]; split <;> rfl

theorem andNot_hi {a : Nat} (h : 9223372036854775808 ≤ a) (h' : a < 18446744073709551616) : bits .andNot .u64 (a : Int) 9223372036854775808 = (a : Int) - 9223372036854775808 := by
  have := u64_andNot_nat a 9223372036854775808 h' (by omega)
  rw [show ((9223372036854775808 : Nat) : Int) = 9223372036854775808 from rfl] at this
  rw [this, show (18446744073709551615 - 9223372036854775808 : Nat) = 2 ^ 63 - 1 by omega, Nat.and_two_pow_sub_one_eq_mod]
  omega

/-- So many units lie between two places. -/
def unitsOf (p q : Int) : Int := if p ≤ q then min (q - p) 1000000000000000000 else min (p - q) 1000000000000000000

theorem u64_sub {p q : Int} (h : p ≤ q) (hp : -9223372036854775808 ≤ p) (hq : q ≤ 9223372036854775807) : IntKind.u64.wrap (IntKind.u64.wrap q - IntKind.u64.wrap p) = q - p := by
  simp only [IntKind.wrap, IntKind.bits, IntKind.signed]
  simp
  omega

theorem plc_bounds {x : Nat} (h : x < 18446744073709551616) : -9223372036854775808 ≤ place FloatKind.f64.format x ∧ place FloatKind.f64.format x ≤ 9223372036854775807 := by
  by_cases h1 : x < 9223372036854775808
  · rw [plc_lo h1]; omega
  · rw [plc_hi (by omega) h]; omega

theorem negF_hi {a : Nat} (h : 9223372036854775808 ≤ a) (h' : a < 18446744073709551616) : Op.negFloat .f64 a = a - 9223372036854775808 := neg64_hi h h'

theorem unitsOf_comm (p q : Int) : unitsOf p q = unitsOf q p := by unfold unitsOf; split <;> split <;> omega

end Go.Proofs.YtdefhmpmgcahpaaDoor
/-
  Bytes that came in; a2At, a2Long.
-/
set_option linter.unusedVariables false
set_option linter.unusedSimpArgs false
namespace Go.Proofs.YtdefhmpmgcahpaaDoor
open Go.RowKit

theorem isRow_cell {w0 w : World} {x : Addr} {len cap : Nat} {zs : List Int} (hr : IsRow .u8 w0 (some x) len cap zs) (hb : Below w0.heap.size w0 w) {k : Nat} (hk : k < len) :
    ∃ z : Int, w.cell? (x.add k) = some (.int .u8 z) ∧ 0 ≤ z ∧ z ≤ 255 := by
  rcases hr with ⟨h, -⟩ | ⟨y, h, hl, hm, hz, hc, hw⟩
  · cases h
  · obtain rfl := Option.some.inj h
    have hk' : k < zs.length := by omega
    have c := hc k hk'
    refine ⟨zs.getD k 0, ?_, ?_⟩
    · rw [hb.cell (World.block_lt_of_cell? _ _ c), c]
    · have hmem : zs.getD k 0 ∈ zs := by
        rw [List.getD_eq_getElem?_getD, List.getElem?_eq_getElem hk']
        exact List.getElem_mem hk'
      have := hw _ hmem
      simp only [Lit.wf, decide_eq_true_eq] at this
      have h1 : IntKind.u8.min = 0 := by decide
      have h2 : IntKind.u8.max = 255 := by decide
      rw [h1, h2] at this
      simpa using this

theorem isRow_len {w0 : World} {a : Option Addr} {len cap : Nat} {zs : List Int} (hr : IsRow .u8 w0 a len cap zs) : len ≤ 9223372036854775807 := by
  rcases hr with ⟨-, rfl, -⟩ | ⟨y, h, hl, hm, hz, hc, hw⟩
  · omega
  · unfold maxLen at hm; omega

theorem isRow_below {k : IntKind} {w0 w1 : World} {a : Option Addr} {len cap : Nat} {zs : List Int} (hr : IsRow k w0 a len cap zs) (hb : Below w0.heap.size w0 w1) : IsRow k w1 a len cap zs := by
  rcases hr with h | ⟨x, h, hl, hm, hz, hc, hw⟩
  · exact .inl h
  · exact .inr ⟨x, h, hl, hm, hz, fun i hi => by rw [hb.cell (World.block_lt_of_cell? _ _ (hc i hi)), hc i hi], hw⟩

/-- A number from 0 to n - 1 is returned. -/
def Upto (n : Int) (w : World) (e : Ending) (w' : World) : Prop := ∃ r : Int, 0 ≤ r ∧ r < n ∧ e = .returned (.int .i64 r) ∧ w' = w

end Go.Proofs.YtdefhmpmgcahpaaDoor
