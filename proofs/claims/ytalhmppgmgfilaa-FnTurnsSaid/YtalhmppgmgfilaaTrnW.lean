import Derived.Test.YtalhmppgmgfilaaTurnE
import Derived.Test.YtalhmppgmgfilaaHas
import Derived.Test.YtalhmppgmgfilaaLawTurns
import Derived.Test.YtalhmppgmgfilaaLawNTurn
import Derived.Test.YtalhmppgmgfilaaArg
import Derived.Test.YtalhmppgmgfilaaSameS
/-
  FnTurns: what the law calls.
-/
set_option linter.unusedVariables false
set_option linter.unusedSimpArgs false
namespace Go.Proofs.Ytalhmppgmgfilaa
open Go.RowKit Flt Turn

/-- TurnOf at a turn that there is. -/
theorem turnN (m j : Nat) (h1 : 1 ≤ m) (h2 : m ≤ 1024) (hj : j < m) (w : World) :
    Calls Try.prog 17 #[.int .i64 m, .int .i64 j] w fun e w' => ∃ a b, e = .returned (.tuple #[.complex .f64 a b, .int .i64 0]) ∧ IsF a (turn m j).1 ∧ IsF b (turn m j).2 ∧ Below w.heap.size w w' := by
  refine (turnOf_impl m j (by omega) w).mono ?_
  rintro e w' (⟨m', j', e1, e2, -, a, b, rfl, ha, hb, hb1⟩ | ⟨hin, -, -⟩)
  · obtain rfl : m = m' := by omega
    obtain rfl : j = j' := by omega
    exact ⟨a, b, rfl, ha, hb, hb1⟩
  · exact absurd ⟨by omega, by omega, by omega, by omega⟩ hin
theorem narrowTurnN (m j : Nat) (h1 : 1 ≤ m) (h2 : m ≤ 1024) (hj : j < m) (w : World) :
    Calls Try.prog 18 #[.int .i64 m, .int .i64 j] w fun e w' => ∃ u v, e = .returned (.tuple #[.complex .f32 u v, .int .i64 0]) ∧ (∃ x, (turn m j).1 = some x ∧ floatToFloatBits .f64 x .f32 = some u) ∧ (∃ y, (turn m j).2 = some y ∧ floatToFloatBits .f64 y .f32 = some v) ∧ Below w.heap.size w w' := by
  refine (nturn_impl m j (by omega) w).mono ?_
  rintro e w' (⟨-, u, v, rfl, hu, hv, hb⟩ | ⟨hin, -, -⟩)
  · rw [Int.toNat_natCast, Int.toNat_natCast] at hu hv
    exact ⟨u, v, rfl, hu, hv, hb⟩
  · exact absurd ⟨by omega, by omega, by omega, by omega⟩ hin
theorem turnsN (m : Nat) (h1 : 1 ≤ m) (h2 : m ≤ 1024) (w : World) :
    Calls Try.prog 19 #[.int .i64 m] w fun e w' => ∃ v xs, e = .returned (.tuple #[v, .int .i64 0]) ∧ Row w' w.heap.size 24 v (cvals xs) ∧ xs.length = m ∧ (∀ i, i < m → IsC (xs.getD i (0, 0)) (turn m i)) ∧ Below w.heap.size w w' := by
  refine (turnsOf_impl m w).mono ?_
  rintro e w' ⟨v, xs, c, rfl, hr, hb, ⟨m', e1, -, -, rfl, hl, hc⟩ | ⟨hn, -, -⟩⟩
  · obtain rfl : m = m' := by omega
    exact ⟨v, xs, rfl, hr, hl, hc, hb⟩
  · exact absurd ⟨by omega, by omega⟩ hn

/-- Small powers of 2. -/
theorem lit46 : Has 4400016835940974592 (1 / 70368744177664) := by
  have h := word_fv (k := 4503599627370496) (e := 98) (r := 4400016835940974592) (by decide) (by decide) (by decide) (by decide)
  rw [show ((4503599627370496 : Nat) : Rat) / two 98 = 1 / 70368744177664 by decide +kernel] at h
  exact Has.of (IsF.lit (by decide) (by omega)) h
theorem lit44 : Has 4409024035195715584 (1 / 17592186044416) := by
  have h := word_fv (k := 4503599627370496) (e := 96) (r := 4409024035195715584) (by decide) (by decide) (by decide) (by decide)
  rw [show ((4503599627370496 : Nat) : Rat) / two 96 = 1 / 17592186044416 by decide +kernel] at h
  exact Has.of (IsF.lit (by decide) (by omega)) h

set_option maxRecDepth 100000 in
theorem a2Size_any (u : Nat) (q : Rat) (h : Has u q) (w : World) :
    Calls Try.prog 23 #[.float .f64 u] w fun e w' => ∃ v r, e = .returned (.float .f64 v) ∧ Has v r ∧ (∀ B, Size q B → r ≤ B) ∧ w' = w := by
  by_cases hq : q < 0
  · have g : (FloatKind.f64.format.order u 0 == some .lt) = true := by
      have := order_lt h.1 has_zero.1 (by rw [h.2, has_zero.2]; exact hq)
      show (Ieee.double.order u 0 == some .lt) = true
      rw [this]; rfl
    have HN := Lib.hid (has_neg h)
    clear h
    go_enter Try.func23, Try.ntmps23
    go_wp2
    go_ret
    exact ⟨_, _, rfl, HN.out, fun B hB => hB.2, rfl⟩
  · have g : (FloatKind.f64.format.order u 0 == some .lt) = false := by
      show (Ieee.double.order u 0 == some .lt) = false
      rw [order_q h.1 has_zero.1]
      have h1 : ¬ rsv Ieee.double u < rsv Ieee.double 0 := fun k => hq (by have := fq_lt.2 k; rwa [h.2, has_zero.2] at this)
      rcases Int.lt_trichotomy (rsv Ieee.double u) (rsv Ieee.double 0) with k | k | k
      · exact absurd k h1
      · rw [Int.compare_eq_eq.2 k]; rfl
      · rw [Int.compare_eq_gt.2 k]; rfl
    have HN := Lib.hid h
    clear h
    go_enter Try.func23, Try.ntmps23
    go_wp2
    go_ret
    exact ⟨_, _, rfl, HN.out, fun B hB => hB.1, rfl⟩

/-- A float operation on words with values of moderate size. -/
theorem add_near {x y : Nat} {p q B : Rat} (hx : Has x p) (hy : Has y q) (hs : Size (p + q) B) (hB : B ≤ 1152921504606846976) :
    ∃ d r, Has d r ∧ Near r (p + q) (B * ulp + tiny) ∧ ∀ (P : Program) (t : TypeId) (w : World), (binOp .add t (.float .f64 x) (.float .f64 y)).run P w = .ok (.float .f64 d) w := by
  obtain ⟨r, h1, h2⟩ := fv_add hx.fv hy.fv (size_1000 hs (le_1000 hB))
  obtain ⟨d, h3, h4⟩ := run_has (.inl rfl) h1
  refine ⟨d, r, h3, ?_, h4⟩
  have := h2.near hs
  rwa [two52, show B / 4503599627370496 = B * ulp by rw [show ulp = 1 / 4503599627370496 from rfl, Rat.div_def, Rat.div_def, Rat.one_mul]] at this
theorem sub_near {x y : Nat} {p q B : Rat} (hx : Has x p) (hy : Has y q) (hs : Size (p - q) B) (hB : B ≤ 1152921504606846976) :
    ∃ d r, Has d r ∧ Near r (p - q) (B * ulp + tiny) ∧ ∀ (P : Program) (t : TypeId) (w : World), (binOp .sub t (.float .f64 x) (.float .f64 y)).run P w = .ok (.float .f64 d) w := by
  obtain ⟨r, h1, h2⟩ := fv_sub hx.fv hy.fv (size_1000 hs (le_1000 hB))
  obtain ⟨d, h3, h4⟩ := run_has (.inr (.inl rfl)) h1
  refine ⟨d, r, h3, ?_, h4⟩
  have := h2.near hs
  rwa [two52, show B / 4503599627370496 = B * ulp by rw [show ulp = 1 / 4503599627370496 from rfl, Rat.div_def, Rat.div_def, Rat.one_mul]] at this
theorem mul_near {x y : Nat} {p q B : Rat} (hx : Has x p) (hy : Has y q) (hs : Size (p * q) B) (hB : B ≤ 1152921504606846976) :
    ∃ d r, Has d r ∧ Near r (p * q) (B * ulp + tiny) ∧ ∀ (P : Program) (t : TypeId) (w : World), (binOp .mul t (.float .f64 x) (.float .f64 y)).run P w = .ok (.float .f64 d) w := by
  obtain ⟨r, h1, h2⟩ := fv_mul hx.fv hy.fv (size_1000 hs (le_1000 hB))
  obtain ⟨d, h3, h4⟩ := run_has (.inr (.inr (.inl rfl))) h1
  refine ⟨d, r, h3, ?_, h4⟩
  have := h2.near hs
  rwa [two52, show B / 4503599627370496 = B * ulp by rw [show ulp = 1 / 4503599627370496 from rfl, Rat.div_def, Rat.div_def, Rat.one_mul]] at this

set_option maxRecDepth 100000 in
set_option maxHeartbeats 4000000 in
theorem a2Apart_any (a b c d : Nat) (p q r s B : Rat) (ha : Has a p) (hb : Has b q) (hc : Has c r) (hd : Has d s) (h1 : Near p r B) (h2 : Near q s B) (hB : B ≤ 1) (w : World) :
    Calls Try.prog 14 #[.complex .f64 a b, .complex .f64 c d] w fun e w' => ∃ v t, e = .returned (.float .f64 v) ∧ Has v t ∧ t ≤ B + (B * ulp + tiny) ∧ w' = w := by
  have hB' : B ≤ 1152921504606846976 := Rat.le_trans hB (by decide +kernel)
  obtain ⟨x, u, x1, x2, E1⟩ := sub_near ha hc (near_size.1 h1) hB'
  obtain ⟨y, v, y1, y2, E2⟩ := sub_near hb hd (near_size.1 h2) hB'
  have u1 : Size u (B + (B * ulp + tiny)) := by
    have := near_size.1 h1
    obtain ⟨b1, b2⟩ := x2
    obtain ⟨c1, c2⟩ := this
    constructor <;> grind
  have v1 : Size v (B + (B * ulp + tiny)) := by
    have := near_size.1 h2
    obtain ⟨b1, b2⟩ := y2
    obtain ⟨c1, c2⟩ := this
    constructor <;> grind
  have S1 := Lib.hid (fun w => a2Size_any x u x1 w)
  have S2 := Lib.hid (fun w => a2Size_any y v y1 w)
  clear x2 y2 x1 y1 ha hb hc hd h1 h2
  go_enter Try.func14, Try.ntmps14
  go_wp2_with fail
  with_reducible refine (S1.out _).mono ?_
  rintro e w1 ⟨xa, ra, rfl, xa1, xa2, rfl⟩
  go_wp2_with fail
  with_reducible refine (S2.out _).mono ?_
  rintro e w1 ⟨ya, rb, rfl, ya1, ya2, rfl⟩
  have r1 := xa2 _ u1
  have r2 := ya2 _ v1
  have H1 := Lib.hid (And.intro xa1 r1)
  have H2 := Lib.hid (And.intro ya1 r2)
  clear xa1 xa2 ya1 ya2 u1 v1 r1 r2 S1 S2 E1 E2
  go_wp2
  · go_ret
    exact ⟨_, _, rfl, H2.out.1, H2.out.2, rfl⟩
  · go_ret
    exact ⟨_, _, rfl, H1.out.1, H1.out.2, rfl⟩

end Go.Proofs.Ytalhmppgmgfilaa
