import Derived.Test.YtgolfdngpphndaaNum
import Derived.Test.YtgolfdngpphndaaSrc2
import Derived.Test.YtgolfdngpphndaaWalkFnUnits
/-
  The walk of the law FnSameAndEqual.
-/
set_option linter.unusedVariables false
set_option linter.unusedSimpArgs false
namespace Go.Proofs.Ytgolfdngpphndaa
open Go.RowKit Flt

theorem run_eqlC {P : Program} (w : World) (t : TypeId) (k : FloatKind) (a b c d : Nat) : (binOp .eql t (.complex k a b) (.complex k c d)).run P w = .ok (.bool (eqC k a b c d)) w := run_eql_complex w t k a b c d
theorem run_neqC {P : Program} (w : World) (t : TypeId) (k : FloatKind) (a b c d : Nat) : (binOp .neq t (.complex k a b) (.complex k c d)).run P w = .ok (.bool (!eqC k a b c d)) w := run_neq_complex w t k a b c d
attribute [local go_sem ↓] run_eqlC run_neqC

/-! ### The plain facts -/
theorem sameB_self (a : Nat) : sameB a a = true := by unfold sameB; simp
theorem sameB_comm (a b : Nat) : sameB a b = sameB b a := by unfold sameB; rw [Bool.eq_iff_iff]; simp [eq_comm]
theorem eq_num {a c : Nat} (h : FloatKind.f64.format.order a c = some .eq) : nan FloatKind.f64.format a = false ∧ nan FloatKind.f64.format c = false ∧ place FloatKind.f64.format a = place FloatKind.f64.format c := by
  have ha : nan FloatKind.f64.format a = false := by
    cases hn : nan FloatKind.f64.format a with
    | false => rfl
    | true => rw [ord_nan_l _ hn] at h; cases h
  have hc : nan FloatKind.f64.format c = false := by
    cases hn : nan FloatKind.f64.format c with
    | false => rfl
    | true => rw [ord_nan_r _ hn] at h; cases h
  refine ⟨ha, hc, ?_⟩
  rw [ord_num ha hc] at h
  exact Int.compare_eq_eq.1 (Option.some.inj h)
theorem self_eq {a : Nat} (h : nan FloatKind.f64.format a = false) : FloatKind.f64.format.order a a = some .eq := ord_eq h h rfl

theorem eqC_iff {a b c d : Nat} : eqC .f64 a b c d = true ↔ FloatKind.f64.format.order a c = some .eq ∧ FloatKind.f64.format.order b d = some .eq := by
  unfold eqC; simp
theorem eq_whole {a b c d : Nat} (h : eqC .f64 a b c d = true) : eqC .f64 a b a b = true := by
  obtain ⟨h1, h2⟩ := eqC_iff.1 h
  exact eqC_iff.2 ⟨self_eq (eq_num h1).1, self_eq (eq_num h2).1⟩
theorem eq_same1 {a c : Nat} (la : a < 18446744073709551616) (lc : c < 18446744073709551616) (h : FloatKind.f64.format.order a c = some .eq) (hz : (FloatKind.f64.format.order a 0 != some .eq) = true) : sameB a c = true := by
  obtain ⟨ha, hc, hp⟩ := eq_num h
  rw [sameB_num ha hc]
  have hz' : place FloatKind.f64.format a ≠ 0 := by
    intro e
    have : FloatKind.f64.format.order a 0 = some .eq := ord_eq ha (by decide) (by rw [e]; decide)
    rw [this] at hz
    simp at hz
  have hac : a = c := by
    by_cases h1 : a < 9223372036854775808
    · by_cases h2 : c < 9223372036854775808
      · rw [plc_lo h1, plc_lo h2] at hp; omega
      · rw [plc_lo h1, plc_hi (by omega) lc] at hp; rw [plc_lo h1] at hz'; omega
    · by_cases h2 : c < 9223372036854775808
      · rw [plc_hi (by omega) la, plc_lo h2] at hp; rw [plc_hi (by omega) la] at hz'; omega
      · rw [plc_hi (by omega) la, plc_hi (by omega) lc] at hp; omega
  simp [hac]
theorem whole_same {a b c d : Nat} (h : eqC .f64 a b a b = true) (hs : (sameB a c && sameB b d) = true) : eqC .f64 a b c d = true := by
  obtain ⟨h1, h2⟩ := eqC_iff.1 h
  rw [Bool.and_eq_true] at hs
  have one : ∀ {a c : Nat}, FloatKind.f64.format.order a a = some .eq → sameB a c = true → FloatKind.f64.format.order a c = some .eq := by
    intro a c h hs
    have ha := (eq_num h).1
    cases hn : nan FloatKind.f64.format c with
    | true => rw [sameB_r ha hn] at hs; cases hs
    | false =>
      rw [sameB_num ha hn] at hs
      rw [← of_decide_eq_true hs]; exact h
  exact eqC_iff.2 ⟨one h1 hs.1, one h2 hs.2⟩

/-- A difference of a number and itself is 0 just if the number is finite. -/
theorem diff_zero {a r : Nat} (h : cn .f64 r = floatBits .sub .f64 a a) : (FloatKind.f64.format.order r 0 == some .eq) = finO (cn .f64 a) := by
  by_cases hf : a % 9223372036854775808 < 9218868437227405312
  · rw [sub_self64 hf] at h
    obtain ⟨-, rfl⟩ := num_of_cn h
    rw [finO_num (nan_no (by omega))]
    simp [hf]
    decide
  · rw [sub_self64_none hf] at h
    rw [ord_nan_l _ (nan_of_cn h)]
    have : finO (cn .f64 a) = false := by
      cases hn : nan FloatKind.f64.format a with
      | true => exact finO_nan hn
      | false => rw [finO_num hn]; simp [hf]
    rw [this]; rfl
theorem diffC_zero {a b r q : Nat} (h : cn .f64 r = floatBits .sub .f64 a a) (k : cn .f64 q = floatBits .sub .f64 b b) : eqC .f64 r q 0 0 = (finO (cn .f64 a) && finO (cn .f64 b)) := by
  unfold eqC; rw [diff_zero h, diff_zero k]

/-- All ways in which the first tests go. -/
theorem ways {a b c d : Nat} (la : a < 18446744073709551616) (lb : b < 18446744073709551616) (lc : c < 18446744073709551616) (ld : d < 18446744073709551616) :
    ∃ E W S : Bool, eqC .f64 a b c d = E ∧ eqC .f64 a b a b = W ∧ (sameB a c && sameB b d) = S ∧
      ((E = false ∧ W = false) ∨ (E = false ∧ W = true ∧ S = false) ∨
       (E = true ∧ W = true ∧ (FloatKind.f64.format.order a 0 != some .eq) = false) ∨ (E = true ∧ W = true ∧ (FloatKind.f64.format.order a 0 != some .eq) = true ∧ (FloatKind.f64.format.order b 0 != some .eq) = false) ∨
       (E = true ∧ W = true ∧ (FloatKind.f64.format.order a 0 != some .eq) = true ∧ (FloatKind.f64.format.order b 0 != some .eq) = true ∧ S = true)) := by
  refine ⟨_, _, _, rfl, rfl, rfl, ?_⟩
  cases hE : eqC .f64 a b c d with
  | false =>
    cases hW : eqC .f64 a b a b with
    | false => exact .inl ⟨rfl, rfl⟩
    | true =>
      refine .inr (.inl ⟨rfl, rfl, ?_⟩)
      cases hS : (sameB a c && sameB b d) with
      | false => rfl
      | true => rw [whole_same hW hS] at hE; cases hE
  | true =>
    have hW := eq_whole hE
    rw [hW]
    obtain ⟨h1, h2⟩ := eqC_iff.1 hE
    cases za : (FloatKind.f64.format.order a 0 != some .eq) with
    | false => exact .inr (.inr (.inl ⟨rfl, rfl, rfl⟩))
    | true =>
      cases zb : (FloatKind.f64.format.order b 0 != some .eq) with
      | false => exact .inr (.inr (.inr (.inl ⟨rfl, rfl, rfl, rfl⟩)))
      | true =>
        refine .inr (.inr (.inr (.inr ⟨rfl, rfl, rfl, rfl, ?_⟩)))
        rw [eq_same1 la lc h1 za, eq_same1 lb ld h2 zb]; rfl
end Go.Proofs.Ytgolfdngpphndaa
