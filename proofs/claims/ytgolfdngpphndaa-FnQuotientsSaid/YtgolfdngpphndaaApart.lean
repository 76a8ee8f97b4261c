import Derived.Test.YtgolfdngpphndaaTurnN
import Derived.Test.YtgolfdngpphndaaHas
import Derived.Test.YtgolfdngpphndaaArg
import Derived.Test.YtgolfdngpphndaaSameS
/-
  How far numbers are apart, as the law reckons it; sums, differences and products of numbers with values.
-/
set_option linter.unusedVariables false
set_option linter.unusedSimpArgs false
namespace Go.Proofs.Ytgolfdngpphndaa
open Go.RowKit Flt

set_option maxRecDepth 100000 in
theorem a2Size_any (u : Nat) (q : Rat) (h : Has u q) (w : World) :
    Calls Try.prog 26 #[.float .f64 u] w fun e w' => ∃ v r, e = .returned (.float .f64 v) ∧ Has v r ∧ (∀ B, Size q B → r ≤ B) ∧ w' = w := by
  by_cases hq : q < 0
  · have g : (FloatKind.f64.format.order u 0 == some .lt) = true := by
      have := order_lt h.1 has_zero.1 (by rw [h.2, has_zero.2]; exact hq)
      show (Ieee.double.order u 0 == some .lt) = true
      rw [this]; rfl
    have HN := Lib.hid (has_neg h)
    clear h
    go_enter Try.func26, Try.ntmps26
    go_wp2
    go_ret
    exact ⟨_, _, rfl, HN.out, fun B hB => hB.2, rfl⟩
  · have g : (FloatKind.f64.format.order u 0 == some .lt) = false := by
      show (Ieee.double.order u 0 == some .lt) = false
      rw [order_q h.1 has_zero.1]
      have h1 : ¬ rsv Ieee.double u < rsv Ieee.double 0 := fun k => hq (by have := fq_lt.2 k; rwa [h.2, has_zero.2] at this)
      rcases Int.lt_trichotomy (rsv Ieee.double u) (rsv Ieee.double 0) with k | k | k
      · exact absurd k h1
      · rw [Int.compare_eq_eq.2 k]; rfl
      · rw [Int.compare_eq_gt.2 k]; rfl
    have HN := Lib.hid h
    clear h
    go_enter Try.func26, Try.ntmps26
    go_wp2
    go_ret
    exact ⟨_, _, rfl, HN.out, fun B hB => hB.1, rfl⟩

/-- A float operation on words with values of moderate size. -/
theorem add_near {x y : Nat} {p q B : Rat} (hx : Has x p) (hy : Has y q) (hs : Size (p + q) B) (hB : B ≤ 1152921504606846976) :
    ∃ d r, Has d r ∧ Near r (p + q) (B * ulp + tiny) ∧ ∀ (P : Program) (t : TypeId) (w : World), (binOp .add t (.float .f64 x) (.float .f64 y)).run P w = .ok (.float .f64 d) w := by
  obtain ⟨r, h1, h2⟩ := fv_add hx.fv hy.fv (size_1000 hs (le_1000 hB))
  obtain ⟨d, h3, h4⟩ := run_has (.inl rfl) h1
  refine ⟨d, r, h3, ?_, h4⟩
  have := h2.near hs
  rwa [two52, show B / 4503599627370496 = B * ulp by rw [show ulp = 1 / 4503599627370496 from rfl, Rat.div_def, Rat.div_def, Rat.one_mul]] at this
theorem sub_near {x y : Nat} {p q B : Rat} (hx : Has x p) (hy : Has y q) (hs : Size (p - q) B) (hB : B ≤ 1152921504606846976) :
    ∃ d r, Has d r ∧ Near r (p - q) (B * ulp + tiny) ∧ ∀ (P : Program) (t : TypeId) (w : World), (binOp .sub t (.float .f64 x) (.float .f64 y)).run P w = .ok (.float .f64 d) w := by
  obtain ⟨r, h1, h2⟩ := fv_sub hx.fv hy.fv (size_1000 hs (le_1000 hB))
  obtain ⟨d, h3, h4⟩ := run_has (.inr (.inl rfl)) h1
  refine ⟨d, r, h3, ?_, h4⟩
  have := h2.near hs
  rwa [two52, show B / 4503599627370496 = B * ulp by rw [show ulp = 1 / 4503599627370496 from rfl, Rat.div_def, Rat.div_def, Rat.one_mul]] at this
theorem mul_near {x y : Nat} {p q B : Rat} (hx : Has x p) (hy : Has y q) (hs : Size (p * q) B) (hB : B ≤ 1152921504606846976) :
    ∃ d r, Has d r ∧ Near r (p * q) (B * ulp + tiny) ∧ ∀ (P : Program) (t : TypeId) (w : World), (binOp .mul t (.float .f64 x) (.float .f64 y)).run P w = .ok (.float .f64 d) w := by
  obtain ⟨r, h1, h2⟩ := fv_mul hx.fv hy.fv (size_1000 hs (le_1000 hB))
  obtain ⟨d, h3, h4⟩ := run_has (.inr (.inr (.inl rfl))) h1
  refine ⟨d, r, h3, ?_, h4⟩
  have := h2.near hs
  rwa [two52, show B / 4503599627370496 = B * ulp by rw [show ulp = 1 / 4503599627370496 from rfl, Rat.div_def, Rat.div_def, Rat.one_mul]] at this

set_option maxRecDepth 100000 in
set_option maxHeartbeats 4000000 in
theorem a2Apart_any (a b c d : Nat) (p q r s B : Rat) (ha : Has a p) (hb : Has b q) (hc : Has c r) (hd : Has d s) (h1 : Near p r B) (h2 : Near q s B) (hB : B ≤ 1) (w : World) :
    Calls Try.prog 13 #[.complex .f64 a b, .complex .f64 c d] w fun e w' => ∃ v t, e = .returned (.float .f64 v) ∧ Has v t ∧ t ≤ B + (B * ulp + tiny) ∧ w' = w := by
  have hB' : B ≤ 1152921504606846976 := Rat.le_trans hB (by decide +kernel)
  obtain ⟨x, u, x1, x2, E1⟩ := sub_near ha hc (near_size.1 h1) hB'
  obtain ⟨y, v, y1, y2, E2⟩ := sub_near hb hd (near_size.1 h2) hB'
  have u1 : Size u (B + (B * ulp + tiny)) := by
    have := near_size.1 h1
    obtain ⟨b1, b2⟩ := x2
    obtain ⟨c1, c2⟩ := this
    constructor <;> grind
  have v1 : Size v (B + (B * ulp + tiny)) := by
    have := near_size.1 h2
    obtain ⟨b1, b2⟩ := y2
    obtain ⟨c1, c2⟩ := this
    constructor <;> grind
  have S1 := Lib.hid (fun w => a2Size_any x u x1 w)
  have S2 := Lib.hid (fun w => a2Size_any y v y1 w)
  clear x2 y2 x1 y1 ha hb hc hd h1 h2
  go_enter Try.func13, Try.ntmps13
  go_wp2_with fail
  with_reducible refine (S1.out _).mono ?_
  rintro e w1 ⟨xa, ra, rfl, xa1, xa2, rfl⟩
  go_wp2_with fail
  with_reducible refine (S2.out _).mono ?_
  rintro e w1 ⟨ya, rb, rfl, ya1, ya2, rfl⟩
  have r1 := xa2 _ u1
  have r2 := ya2 _ v1
  have H1 := Lib.hid (And.intro xa1 r1)
  have H2 := Lib.hid (And.intro ya1 r2)
  clear xa1 xa2 ya1 ya2 u1 v1 r1 r2 S1 S2 E1 E2
  go_wp2
  · go_ret
    exact ⟨_, _, rfl, H2.out.1, H2.out.2, rfl⟩
  · go_ret
    exact ⟨_, _, rfl, H1.out.1, H1.out.2, rfl⟩

end Go.Proofs.Ytgolfdngpphndaa
