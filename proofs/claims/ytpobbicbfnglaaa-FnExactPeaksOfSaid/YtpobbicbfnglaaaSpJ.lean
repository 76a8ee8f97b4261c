import Derived.Test.YtpobbicbfnglaaaSpI
/-
  Tops of hills: PeakBetween of both.
-/
set_option linter.unusedVariables false
set_option linter.unusedSimpArgs false
namespace Go.Proofs.Ytpobbicbfnglaaa
open Go.RowKit Flt Fast
attribute [local go_sem] run_fadd run_fsub run_fmul run_fquo run_cadd run_csub

/-- At most 1 in size. -/
def inUnit : Option Nat → Bool
  | some x => decide (x % 9223372036854775808 ≤ 4607182418800017408)
  | none => false

theorem one_num : nan FloatKind.f64.format 4607182418800017408 = false := by decide
theorem mone_num : nan FloatKind.f64.format 13830554455654793216 = false := by decide
theorem place_one : place FloatKind.f64.format 4607182418800017408 = 4607182418800017408 := by decide
theorem place_mone : place FloatKind.f64.format 13830554455654793216 = -4607182418800017408 := by decide

theorem cmp_le (a b : Int) : ((some (compare a b) : Option Ordering) == some .lt || (some (compare a b) : Option Ordering) == some .eq) = decide (a ≤ b) := by
  rcases Int.lt_trichotomy a b with h | h | h
  · rw [Int.compare_eq_lt.2 h, decide_eq_true (by omega)]; rfl
  · rw [Int.compare_eq_eq.2 h, decide_eq_true (by omega)]; rfl
  · rw [Int.compare_eq_gt.2 h, decide_eq_false (by omega)]; rfl
theorem cmp_ge (a b : Int) : ((some (compare a b) : Option Ordering) == some .gt || (some (compare a b) : Option Ordering) == some .eq) = decide (b ≤ a) := by
  rcases Int.lt_trichotomy a b with h | h | h
  · rw [Int.compare_eq_lt.2 h, decide_eq_false (by omega)]; rfl
  · rw [Int.compare_eq_eq.2 h, decide_eq_true (by omega)]; rfl
  · rw [Int.compare_eq_gt.2 h, decide_eq_true (by omega)]; rfl

theorem unit_abs {a : Nat} {z : Option Nat} (h : IsF a z) :
    (FloatKind.f64.format.order (a % 9223372036854775808) 4607182418800017408 == some .lt || FloatKind.f64.format.order (a % 9223372036854775808) 4607182418800017408 == some .eq) = inUnit z := by
  rcases isF_cases h with ⟨hn, rfl⟩ | ⟨hn, rfl⟩
  · rw [ordN_l (by rw [nan_abs]; exact hn)]; rfl
  · have hn' : nan FloatKind.f64.format (a % 9223372036854775808) = false := by rw [nan_abs]; exact hn
    rw [ord_num hn' one_num, cmp_le, place_one, plc_lo (by omega)]
    show decide _ = decide _
    congr 1
    apply propext
    omega

theorem unit_both {a : Nat} {z : Option Nat} (h : IsF a z) :
    ((FloatKind.f64.format.order a 13830554455654793216 == some .gt || FloatKind.f64.format.order a 13830554455654793216 == some .eq) && (FloatKind.f64.format.order a 4607182418800017408 == some .lt || FloatKind.f64.format.order a 4607182418800017408 == some .eq)) = inUnit z := by
  rcases isF_cases h with ⟨hn, rfl⟩ | ⟨hn, rfl⟩
  · rw [ordN_l hn, ordN_l hn]; rfl
  · have hl := h.lt
    rw [ord_num hn one_num, ord_num hn mone_num, cmp_le, cmp_ge, place_one, place_mone]
    have hp : (place FloatKind.f64.format a = (a : Int) ∧ a < 9223372036854775808) ∨ (place FloatKind.f64.format a = 9223372036854775808 - (a : Int) ∧ 9223372036854775808 ≤ a) := by
      rcases Nat.lt_or_ge a 9223372036854775808 with h1 | h1
      · exact .inl ⟨place64_lo h1, h1⟩
      · exact .inr ⟨place64_hi h1 hl, h1⟩
    show (decide _ && decide _) = decide _
    rw [← Bool.decide_and]
    congr 1
    apply propext
    rcases hp with ⟨e, h1⟩ | ⟨e, h1⟩ <;> rw [e] <;> omega

theorem zero_mod {d : Nat} (hl : d < 18446744073709551616) (h : (FloatKind.f64.format.order d 0 == some .eq) = true) : d % 9223372036854775808 = 0 := by
  have h0 : nan FloatKind.f64.format 0 = false := by decide
  have p0 : place FloatKind.f64.format 0 = 0 := by decide
  by_cases hn : nan FloatKind.f64.format d = true
  · rw [ordN_l hn] at h; cases h
  · have hn : nan FloatKind.f64.format d = false := by simpa using hn
    rw [ord_num hn h0, p0] at h
    have he : place FloatKind.f64.format d = 0 := by
      rcases Int.lt_trichotomy (place FloatKind.f64.format d) 0 with h1 | h1 | h1
      · rw [Int.compare_eq_lt.2 h1] at h; cases h
      · exact h1
      · rw [Int.compare_eq_gt.2 h1] at h; cases h
    rcases Nat.lt_or_ge d 9223372036854775808 with h1 | h1
    · have e := place64_lo h1
      have he' : place Ieee.double d = 0 := he
      omega
    · have e := place64_hi h1 hl
      have he' : place Ieee.double d = 0 := he
      omega

theorem inf_big (s : Bool) : inUnit (some (Ieee.double.write (.infinity s))) = false := by cases s <;> decide

/-- What is divided by 0 is not at most 1. -/
theorem unit_zero {d : Nat} {q : Option Nat} (hl : d < 18446744073709551616) (h : (FloatKind.f64.format.order d 0 == some .eq) = true) : inUnit (fop .quo .f64 q (some d)) = false := by
  have hm := zero_mod hl h
  cases q with
  | none => rfl
  | some x =>
    show inUnit (((Ieee.double.read x).quotient (Ieee.double.fractionBits + 2) (Ieee.double.read d)).map Ieee.double.write) = false
    have hd : Ieee.double.read d = .number (d / 9223372036854775808 % 2 == 1) 0 Ieee.double.leastPlace := by
      have e1 : d % Ieee.double.signWeight = 0 := by rw [sw64]; exact hm
      unfold Ieee.Format.read
      rw [e1, sw64]
      rfl
    rw [hd]
    generalize (d / 9223372036854775808 % 2 == 1) = t
    cases hx : Ieee.double.read x with
    | nan s u => rfl
    | infinity s => exact inf_big _
    | number s m p =>
      simp only [Ieee.Datum.quotient, ↓reduceIte]
      by_cases h0 : m = 0
      · rw [if_pos h0]; rfl
      · rw [if_neg h0]; exact inf_big _

/-- The bend, the offset and the value of a top. -/
def bendO (x y z : Option Nat) : Option Nat := fop .add .f64 (fop .sub .f64 x (fop .mul .f64 (some 4611686018427387904) y)) z
def offO (x y z : Option Nat) : Option Nat := fop .quo .f64 (fop .mul .f64 (some 4602678819172646912) (fop .sub .f64 x z)) (bendO x y z)
def topO (x y z : Option Nat) : Option Nat := fop .sub .f64 y (fop .mul .f64 (fop .mul .f64 (some 4598175219545276416) (fop .sub .f64 x z)) (offO x y z))

section
variable {a b c : Nat} {x y z : Option Nat} (ha : IsF a x) (hb : IsF b y) (hc : IsF c z)
include ha hb hc
theorem bend_isF (w3 w4 w5 : World) : IsF (fres .add .f64 (fres .sub .f64 a (fres .mul .f64 4611686018427387904 b w3) w4) c w5) (bendO x y z) :=
  isF_fres (isF_fres ha (isF_fres (IsF.lit (by decide) (by omega)) hb _) _) hc _
theorem off_isF (w1 w2 w3 w4 w5 w6 : World) : IsF (fres .quo .f64 (fres .mul .f64 4602678819172646912 (fres .sub .f64 a c w1) w2) (fres .add .f64 (fres .sub .f64 a (fres .mul .f64 4611686018427387904 b w3) w4) c w5) w6) (offO x y z) :=
  isF_fres (isF_fres (IsF.lit (by decide) (by omega)) (isF_fres ha hc _) _) (bend_isF ha hb hc _ _ _) _
theorem top_isF {o : Nat} (ho : IsF o (offO x y z)) (w1 w2 w3 w4 : World) : IsF (fres .sub .f64 b (fres .mul .f64 (fres .mul .f64 4598175219545276416 (fres .sub .f64 a c w1) w2) o w3) w4) (topO x y z) :=
  isF_fres hb (isF_fres (isF_fres (IsF.lit (by decide) (by omega)) (isF_fres ha hc _) _) ho _) _
end

set_option maxRecDepth 100000 in
set_option maxHeartbeats 4000000 in
theorem top_any (a b c : Nat) (x y z : Option Nat) (ha : IsF a x) (hb : IsF b y) (hc : IsF c z) (w : World) :
    Calls Try.prog 53 #[.agg #[.float .f64 a, .float .f64 b, .float .f64 c]] w fun e w' => ∃ o v, e = .returned (.tuple #[.float .f64 o, .float .f64 v, .bool (inUnit (offO x y z))]) ∧ IsF o (offO x y z) ∧ IsF v (topO x y z) ∧ Below w.heap.size w w' := by
  have HO := Lib.hid (fun w1 w2 w3 w4 w5 w6 => off_isF ha hb hc w1 w2 w3 w4 w5 w6)
  have HT := Lib.hid (fun o (ho : IsF o (offO x y z)) w1 w2 w3 w4 => top_isF ha hb hc ho w1 w2 w3 w4)
  have HU : ∀ w1 w2 w3 w4 w5 w6, (FloatKind.f64.format.order (fres .quo .f64 (fres .mul .f64 4602678819172646912 (fres .sub .f64 a c w1) w2) (fres .add .f64 (fres .sub .f64 a (fres .mul .f64 4611686018427387904 b w3) w4) c w5) w6 % 9223372036854775808) 4607182418800017408 == some .lt || FloatKind.f64.format.order (fres .quo .f64 (fres .mul .f64 4602678819172646912 (fres .sub .f64 a c w1) w2) (fres .add .f64 (fres .sub .f64 a (fres .mul .f64 4611686018427387904 b w3) w4) c w5) w6 % 9223372036854775808) 4607182418800017408 == some .eq) = inUnit (offO x y z) := fun w1 w2 w3 w4 w5 w6 => unit_abs (HO.out w1 w2 w3 w4 w5 w6)
  obtain ⟨u, hu⟩ : ∃ u, inUnit (offO x y z) = u := ⟨_, rfl⟩
  rw [hu] at HU ⊢
  clear ha hb hc hu
  go_enter Try.func53, Try.ntmps53
  go_wp2_with (go_at_call 61; refine (abs_any _ (fres_lt64 _ _ _ _) _).mono ?_; rintro e w' ⟨rfl, rfl⟩)
  go_ret3
  exact ⟨_, _, rfl, HO.out _ _ _ _ _ _, HT.out _ (HO.out _ _ _ _ _ _) _ _ _ _, below_draws ((Below.refl _ _).alloc (Nat.le_refl _) _) _⟩

end Go.Proofs.Ytpobbicbfnglaaa
