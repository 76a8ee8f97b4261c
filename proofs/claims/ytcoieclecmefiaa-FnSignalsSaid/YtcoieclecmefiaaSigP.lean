import Derived.Test.YtcoieclecmefiaaWithin
import Derived.Test.YtcoieclecmefiaaWild
/-
  FnSignals: the plain facts.
-/
set_option linter.unusedVariables false
set_option linter.unusedSimpArgs false
namespace Go.Proofs.Ytcoieclecmefiaa
open Go.RowKit Flt Fast

theorem addZ_comm (x y : Z) : addZ x y = addZ y x := by
  unfold addZ; rw [fop_add_comm _ x.1, fop_add_comm _ x.2]

theorem mul_conj {x : Z} (h : WfO x.1) (h2 : WfO x.2) : (mulZ x (conjZ x)).1 = sqZ x ∧ ((mulZ x (conjZ x)).2 = none ∨ (mulZ x (conjZ x)).2 = some 0) := by
  unfold mulZ conjZ sqZ
  constructor
  · show fop .sub .f64 (fop .mul .f64 x.1 x.1) (fop .mul .f64 x.2 (fneg .f64 x.2)) = _
    rw [fop_mul_neg h2, fop_sub_neg (wfO_fop _ _ _)]
  · show fop .add .f64 (fop .mul .f64 x.1 (fneg .f64 x.2)) (fop .mul .f64 x.2 x.1) = none ∨ fop .add .f64 (fop .mul .f64 x.1 (fneg .f64 x.2)) (fop .mul .f64 x.2 x.1) = some 0
    rw [fop_mul_neg h2, fop_mul_comm _ x.2 x.1]
    exact fop_neg_add (wfO_fop _ _ _)

theorem dot_self {z : Nat → Z} {n : Nat} (h : ∀ i, i < n → WfO (z i).1 ∧ WfO (z i).2) :
    (sumC (fun i => mulZ (z i) (conjZ (z i))) n).1 = sumO (fun i => sqZ (z i)) n ∧ ((sumC (fun i => mulZ (z i) (conjZ (z i))) n).2 = none ∨ (sumC (fun i => mulZ (z i) (conjZ (z i))) n).2 = some 0) := by
  induction n with
  | zero => exact ⟨rfl, .inr rfl⟩
  | succ k ih =>
    have hk := h k (by omega)
    have m := mul_conj hk.1 hk.2
    by_cases h0 : k = 0
    · subst h0
      exact m
    · rw [sumC_succ _ h0, sumO_succ _ h0]
      have i := ih (fun i hi => h i (by omega))
      constructor
      · show fop .add .f64 _ _ = _
        rw [i.1, m.1]
      · exact fop_zero_add i.2 m.2

/-- Whether the first k numbers are numbers in both parts. -/
def wN (xs : List C) : Nat → Bool
  | 0 => true
  | k + 1 => wN xs k && whole (xs.getD k (0, 0))
theorem wN_all (xs : List C) : wN xs xs.length = xs.all whole := by
  have e : ∀ k, k ≤ xs.length → wN xs k = (xs.take k).all whole := by
    intro k
    induction k with
    | zero => intro _; rfl
    | succ k ih =>
      intro hk
      rw [wN, ih (by omega), List.take_add_one, List.all_append]
      have : xs[k]?.toList = [xs.getD k (0, 0)] := by simp [List.getD, show k < xs.length by omega]
      rw [this]; simp
  rw [e _ (Nat.le_refl _), List.take_length]

theorem run_eqlC' {P : Program} (w : World) (t : TypeId) (k : FloatKind) (a b c d : Nat) : (binOp .eql t (.complex k a b) (.complex k c d)).run P w = .ok (.bool (eqC k a b c d)) w := run_eql_complex w t k a b c d
attribute [local go_sem ↓] run_eqlC'

theorem eqC_self (a b : Nat) : eqC .f64 a b a b = whole (a, b) := by
  have one : ∀ a, (FloatKind.f64.format.order a a == some .eq) = !nan FloatKind.f64.format a := by
    intro a
    by_cases ha : nan FloatKind.f64.format a = true
    · rw [ord_nan_l _ ha, ha]; rfl
    · have ha : nan FloatKind.f64.format a = false := by simpa using ha
      rw [ord_eq ha ha rfl, ha]; rfl
  unfold eqC whole
  rw [one a, one b]

theorem a2Whole_any (a b : Nat) (w : World) :
    Calls Try.prog 17 #[.complex .f64 a b] w fun e w' => e = .returned (.bool (whole (a, b))) ∧ w' = w := by
  have h := eqC_self a b
  generalize whole (a, b) = s at *
  go_enter Try.func17, Try.ntmps17
  go_wp2
  go_ret
  exact ⟨rfl, rfl⟩

/-- The beginning of a slice of the call's own. -/
theorem readsTake {w : World} {g cap L : Nat} {xs : List C} (h : Reads w (.slice (some ⟨g, 0, none⟩) xs.length cap) (cvals xs)) (hL : L ≤ xs.length) : Reads w (.slice (some ⟨g, 0, none⟩) L cap) (cvals (xs.take L)) := by
  generalize hcs : cvals xs = cs at h
  generalize hn : xs.length = n at h hL
  cases h with
  | none a cap =>
    obtain rfl : L = 0 := by omega
    exact Reads.none _ _
  | row g cap L' cs hL' h0 hc hm hcell =>
    by_cases hz : L = 0
    · subst hz; exact Reads.none _ _
    · refine Reads.row g cap L _ (by rw [cvals_length, List.length_take]; omega) (by omega) (by omega) hm fun j hj => ?_
      rw [hcell j (by omega), ← hcs, cvals_getD (by omega), cvals_getD (by rw [List.length_take]; omega)]
      simp [List.getD, hj]

theorem readsAt {w : World} {a : Option Addr} {cap n : Nat} {xs : List C} (h : Reads w (.slice a n cap) (cvals xs)) : ∀ k, k < n → ∃ g, a = some ⟨g, 0, none⟩ ∧ w.cell? ⟨g, k, none⟩ = some (.complex .f64 (xs.getD k (0, 0)).1 (xs.getD k (0, 0)).2) := by
  intro k hk
  generalize hcs : cvals xs = cs at h
  cases h with
  | none a cap => omega
  | row g cap L cs hL h0 hc hm hcell => exact ⟨g, rfl, by rw [hcell k hk, ← hcs, cvals_getD (by rw [← hcs, cvals_length] at hL; omega)]⟩
theorem readsMax {w : World} {a : Option Addr} {cap n : Nat} {xs : List C} (h : Reads w (.slice a n cap) (cvals xs)) : n ≤ maxLen := by
  generalize cvals xs = cs at h
  cases h with
  | none a cap => exact Nat.zero_le _
  | row g cap L cs hL h0 hc hm hcell => omega

def lenV : Value → Nat
  | .slice _ n _ => n
  | _ => 0

theorem WfC.take {xs : List C} (h : WfC xs) (L : Nat) : WfC (xs.take L) := fun p hp => h p (List.mem_of_mem_take hp)

end Go.Proofs.Ytcoieclecmefiaa
