import Derived.Test.YtcoieclecmefiaaKit
import Derived.Test.YtcoieclecmefiaaFlt
import Derived.Test.YtcoieclecmefiaaRows
import Derived.Test.YtcoieclecmefiaaExt
import Derived.Test.YtcoieclecmefiaaWalkNext
/-
  The walks of UnitsApart and NarrowUnitsApart.
-/
set_option linter.unusedVariables false
set_option linter.unusedSimpArgs false
namespace Go.Proofs.Ytcoieclecmefiaa
open Go.RowKit Flt

theorem and_hi {a : Nat} (h : a < 18446744073709551616) : bits .and .u64 (a : Int) 9223372036854775808 = if a < 9223372036854775808 then 0 else 9223372036854775808 := by
  have := u64_and_nat a 9223372036854775808 h (by omega)
  rw [show ((9223372036854775808 : Nat) : Int) = 9223372036854775808 from rfl] at this
  rw [this]
  have e : a &&& 9223372036854775808 = if a < 9223372036854775808 then 0 else 9223372036854775808 := by
    apply Nat.eq_of_testBit_eq; intro i
    rw [Nat.testBit_and, show (9223372036854775808 : Nat) = 2 ^ 63 from rfl, Nat.testBit_two_pow]
    by_cases hi : 63 = i
    · subst hi
      split
      · rename_i h1; rw [Nat.testBit_lt_two_pow h1]; rfl
      · rename_i h1
        obtain ⟨y, rfl⟩ : ∃ y, a = 2 ^ 63 + y := ⟨a - 2 ^ 63, by omega⟩
        rw [Nat.testBit_two_pow_add_eq, Nat.testBit_lt_two_pow (by omega)]
        decide
    · split
      · simp [hi]
      · rw [Nat.testBit_two_pow]; simp [hi]
  rw [e]; split <;> rfl

theorem andNot_hi {a : Nat} (h : 9223372036854775808 ≤ a) (h' : a < 18446744073709551616) : bits .andNot .u64 (a : Int) 9223372036854775808 = (a : Int) - 9223372036854775808 := by
  have := u64_andNot_nat a 9223372036854775808 h' (by omega)
  rw [show ((9223372036854775808 : Nat) : Int) = 9223372036854775808 from rfl] at this
  rw [this, show (18446744073709551615 - 9223372036854775808 : Nat) = 2 ^ 63 - 1 by omega, Nat.and_two_pow_sub_one_eq_mod]
  omega

set_option maxRecDepth 100000 in
theorem placeOf_any (a : Nat) (la : a < 18446744073709551616) (w : World) :
    Calls Try.prog 120 #[.int .u64 a, .int .u64 9223372036854775808] w fun e w' => e = .returned (.int .i64 (place FloatKind.f64.format a)) ∧ w' = w := by
  by_cases h : a < 9223372036854775808
  · rw [plc_lo h]
    have h1 := and_hi la
    rw [if_pos h] at h1
    go_enter Try.func120, Try.ntmps120
    go_wp2
    go_ret
    exact ⟨rfl, rfl⟩
  · rw [plc_hi (by omega) la]
    have h1 := and_hi la
    rw [if_neg h] at h1
    have h2 := andNot_hi (a := a) (by omega) la
    have hge : 9223372036854775808 ≤ (a : Int) := by omega
    go_enter Try.func120, Try.ntmps120
    go_wp2
    go_ret
    exact ⟨congrArg (fun n => Ending.returned (.int .i64 n)) (show -((a : Int) - 9223372036854775808) = 9223372036854775808 - (a : Int) by omega), rfl⟩

/-- So many units lie between two places. -/
def unitsOf (p q : Int) : Int := if p ≤ q then min (q - p) 1000000000000000000 else min (p - q) 1000000000000000000

theorem u64_sub {p q : Int} (h : p ≤ q) (hp : -9223372036854775808 ≤ p) (hq : q ≤ 9223372036854775807) : IntKind.u64.wrap (IntKind.u64.wrap q - IntKind.u64.wrap p) = q - p := by
  simp only [IntKind.wrap, IntKind.bits, IntKind.signed]
  simp
  omega

set_option maxRecDepth 100000 in
theorem steps_any (p q : Int) (hp : -9223372036854775808 ≤ p ∧ p ≤ 9223372036854775807) (hq : -9223372036854775808 ≤ q ∧ q ≤ 9223372036854775807) (w : World) :
    Calls Try.prog 121 #[.int .i64 p, .int .i64 q] w fun e w' => e = .returned (.int .i64 (unitsOf p q)) ∧ w' = w := by
  rcases Int.lt_trichotomy p q with h | rfl | h
  · have e := u64_sub (p := p) (q := q) (by omega) hp.1 hq.2
    have h1 : ¬ q < p := by omega
    by_cases hm : q - p ≤ 1000000000000000000
    · have hu : unitsOf p q = q - p := by unfold unitsOf; rw [if_pos (by omega)]; omega
      rw [hu]
      clear hu
      go_enter Try.func121, Try.ntmps121
      go_wp2
      go_ret
      exact ⟨rfl, rfl⟩
    · have hu : unitsOf p q = 1000000000000000000 := by unfold unitsOf; rw [if_pos (by omega)]; omega
      rw [hu]
      have hm : 1000000000000000000 < q - p := by omega
      clear hu
      go_enter Try.func121, Try.ntmps121
      go_wp2
      go_ret
      exact ⟨rfl, rfl⟩
  · have hu : unitsOf p p = 0 := by unfold unitsOf; rw [if_pos (by omega)]; omega
    have e : IntKind.u64.wrap 0 = 0 := by decide
    rw [hu]
    clear hu
    go_enter Try.func121, Try.ntmps121
    go_wp2
    all_goals
      go_ret
      exact ⟨rfl, rfl⟩
  · have e := u64_sub (p := q) (q := p) (by omega) hq.1 hp.2
    have h1 : ¬ p < q := by omega
    by_cases hm : p - q ≤ 1000000000000000000
    · have hu : unitsOf p q = p - q := by unfold unitsOf; rw [if_neg (by omega)]; omega
      rw [hu]
      clear hu
      go_enter Try.func121, Try.ntmps121
      go_wp2
      go_ret
      exact ⟨rfl, rfl⟩
    · have hu : unitsOf p q = 1000000000000000000 := by unfold unitsOf; rw [if_neg (by omega)]; omega
      rw [hu]
      have hm : 1000000000000000000 < p - q := by omega
      clear hu
      go_enter Try.func121, Try.ntmps121
      go_wp2
      go_ret
      exact ⟨rfl, rfl⟩

theorem plc_bounds {x : Nat} (h : x < 18446744073709551616) : -9223372036854775808 ≤ place FloatKind.f64.format x ∧ place FloatKind.f64.format x ≤ 9223372036854775807 := by
  by_cases h1 : x < 9223372036854775808
  · rw [plc_lo h1]; omega
  · rw [plc_hi (by omega) h]; omega

theorem unitsApart_impl_nan (a b : Nat) (h : nan FloatKind.f64.format a = true ∨ nan FloatKind.f64.format b = true) (w : World) :
    Calls Try.prog 99 #[.float .f64 a, .float .f64 b] w fun e w' => e = .returned (.tuple #[.int .i64 0, .int .i64 2]) ∧ w' = w := by
  by_cases ha : nan FloatKind.f64.format a = true
  · have haa : FloatKind.f64.format.order a a = none := ord_nan_l _ ha
    clear h
    go_enter Try.func99, Try.ntmps99
    go_wp2
    go_ret2
    exact ⟨rfl, rfl⟩
  · have hb : nan FloatKind.f64.format b = true := h.resolve_left ha
    have ha : nan FloatKind.f64.format a = false := by simpa using ha
    have haa : FloatKind.f64.format.order a a = some .eq := ord_eq ha ha rfl
    have hbb : FloatKind.f64.format.order b b = none := ord_nan_l _ hb
    clear h
    go_enter Try.func99, Try.ntmps99
    go_wp2
    go_ret2
    exact ⟨rfl, rfl⟩

theorem unitsApart_impl (a b : Nat) (ha : nan FloatKind.f64.format a = false) (hb : nan FloatKind.f64.format b = false) (la : a < 18446744073709551616) (lb : b < 18446744073709551616) (w : World) :
    Calls Try.prog 99 #[.float .f64 a, .float .f64 b] w fun e w' => e = .returned (.tuple #[.int .i64 (unitsOf (place FloatKind.f64.format a) (place FloatKind.f64.format b)), .int .i64 0]) ∧ w' = w := by
  have haa : FloatKind.f64.format.order a a = some .eq := ord_eq ha ha rfl
  have hbb : FloatKind.f64.format.order b b = some .eq := ord_eq hb hb rfl
  have pa := plc_bounds la
  have pb := plc_bounds lb
  go_enter Try.func99, Try.ntmps99
  go_wp2_with (first
    | (go_at_call 120; (first | (with_reducible refine (placeOf_any a la _).mono ?_) | (with_reducible refine (placeOf_any b lb _).mono ?_)); rintro e w' ⟨rfl, rfl⟩)
    | (go_at_call 121; refine (steps_any _ _ pa pb _).mono ?_; rintro e w' ⟨rfl, rfl⟩)
    | (go_at_call 119; go_in))
  go_ret2
  exact ⟨rfl, rfl⟩

theorem negF_hi {a : Nat} (h : 9223372036854775808 ≤ a) (h' : a < 18446744073709551616) : Op.negFloat .f64 a = a - 9223372036854775808 := neg64_hi h h'

theorem unitsOf_comm (p q : Int) : unitsOf p q = unitsOf q p := by unfold unitsOf; split <;> split <;> omega

end Go.Proofs.Ytcoieclecmefiaa
