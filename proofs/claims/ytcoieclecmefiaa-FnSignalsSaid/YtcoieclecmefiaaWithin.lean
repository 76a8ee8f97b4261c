import Derived.Test.YtcoieclecmefiaaSameL
import Derived.Test.YtcoieclecmefiaaWalkUnits
/-
  IsWithin of a signal and itself, by 0 units: whether no part is a NaN.
-/
set_option linter.unusedVariables false
set_option linter.unusedSimpArgs false
namespace Go.Proofs.Ytcoieclecmefiaa
open Go.RowKit Flt Fast

theorem realWithin_any (a : Nat) (la : a < 18446744073709551616) (w : World) :
    Calls Try.prog 58 #[.float .f64 a, .float .f64 a, .int .i64 0] w fun e w' => e = .returned (.bool (!nan FloatKind.f64.format a)) ∧ w' = w := by
  by_cases ha : nan FloatKind.f64.format a = true
  · have S := fun w => unitsApart_impl_nan a a (.inl ha) w
    rw [ha]
    clear ha
    go_enter Try.func58, Try.ntmps58
    go_wp2_with (go_at_call 99; refine (S _).mono ?_; rintro e w' ⟨rfl, rfl⟩)
    go_ret
    exact ⟨rfl, rfl⟩
  · have ha : nan FloatKind.f64.format a = false := by simpa using ha
    have S := fun w => unitsApart_impl a a ha ha la la w
    have hu : unitsOf (place FloatKind.f64.format a) (place FloatKind.f64.format a) = 0 := by unfold unitsOf; simp; omega
    rw [hu] at S
    rw [ha]
    clear ha hu la
    go_enter Try.func58, Try.ntmps58
    go_wp2_with (go_at_call 99; refine (S _).mono ?_; rintro e w' ⟨rfl, rfl⟩)
    go_ret
    exact ⟨rfl, rfl⟩

def whole (p : C) : Bool := !nan FloatKind.f64.format p.1 && !nan FloatKind.f64.format p.2
theorem all_of_getD {xs : List C} (h : ∀ j, j < xs.length → whole (xs.getD j (0, 0)) = true) : xs.all whole = true := by
  rw [List.all_eq_true]
  intro p hp
  obtain ⟨j, hj, rfl⟩ := List.getElem_of_mem hp
  have := h j hj
  simpa [List.getD, hj] using this
theorem not_all_of_getD {xs : List C} {j : Nat} (hj : j < xs.length) (h : whole (xs.getD j (0, 0)) = false) : xs.all whole = false := by
  rw [List.all_eq_false]
  exact ⟨_, getD_memC hj, by simpa using h⟩

set_option maxRecDepth 100000 in
set_option maxHeartbeats 4000000 in
theorem isWithin_any {v : Value} {xs : List C} {w : World} (h : Reads w v (cvals xs)) (hl : xs.length ≤ 256) (hwf : WfC xs) :
    Calls Try.prog 19 #[v, v, .int .i64 0] w fun e w' => e = .returned (.tuple #[.bool (xs.all whole), .int .i64 0]) ∧ ∃ n, w' = w.drewN n := by
  generalize hcs : cvals xs = cs at h
  have hcl : cs.length = xs.length := by rw [← hcs, cvals_length]
  cases h with
  | none a cap =>
    have h0 : xs.length = 0 := by rw [← hcl]; rfl
    obtain rfl : xs = [] := List.eq_nil_of_length_eq_zero h0
    rw [show ([] : List C).all whole = true from rfl]
    clear hcs hcl h0 hwf
    go_enter Try.func19, Try.ntmps19
    go_wp2_with fail
    refine (checkPair_any a a 0 cap cap (by omega) w).mono ?_
    rintro e w' ⟨rfl, rfl⟩
    go_wp2
    refine wp_loop_rounds 1 ?_
    rw [rounds_succ]
    go_wp2
    go_ret2
    exact ⟨rfl, 0, rfl⟩
  | row g cap L cs hL h0 hc hm hcell =>
    obtain rfl : L = xs.length := by rw [← hL]; exact hcl
    obtain ⟨L, hxl⟩ : ∃ L, xs.length = L := ⟨_, rfl⟩
    have HWF : Hid (∀ j, j < L → (xs.getD j (0, 0)).1 < 18446744073709551616 ∧ (xs.getD j (0, 0)).2 < 18446744073709551616) := fun j hj => hwf _ (getD_memC (by omega))
    obtain ⟨A, hA⟩ : ∃ A, xs.all whole = A := ⟨_, rfl⟩
    have HT : Hid ((∀ j, j < L → whole (xs.getD j (0, 0)) = true) → A = true) := fun h => by rw [← hA]; exact all_of_getD (fun j hj => h j (by omega))
    have HF : Hid (∀ j, j < L → whole (xs.getD j (0, 0)) = false → A = false) := fun j hj h => by rw [← hA]; exact not_all_of_getD (by omega) h
    rw [hxl] at hl h0 hc
    rw [hA]
    have hmax := maxLen_int (Nat.le_trans hc hm)
    have HC : Hid (∀ j, j < L → w.cell? ⟨g, j, none⟩ = some (.complex .f64 (xs.getD j (0, 0)).1 (xs.getD j (0, 0)).2)) := fun j hj => by rw [hcell j (by omega), ← hcs, cvals_getD (by omega)]
    rw [hxl]
    clear hcell hcs hcl hL hm hxl hwf hA
    go_enter Try.func19, Try.ntmps19
    go_wp2_with fail
    refine (checkPair_any (some ⟨g, 0, none⟩) (some ⟨g, 0, none⟩) L cap cap hl w).mono ?_
    rintro e w' ⟨rfl, rfl⟩
    go_wp2
    go_loopw [20] (fun i wr => ∃ k n : Nat, i = .int .i64 k ∧ k ≤ L ∧ (∀ j, j < k → whole (xs.getD j (0, 0)) = true) ∧ wr = w'.drewN n) (fun i _ => L - (intOf i).toNat)
    case atStart => exact ⟨0, 0, rfl, Nat.zero_le _, fun j hj => by omega, rfl⟩
    case round =>
      obtain ⟨k, n, rfl, hk, hwh, hw⟩ := hrel
      have HW := Lib.hid hw
      have HH := Lib.hid hwh
      clear hw hwh
      by_cases hlt : k < L
      · have c1 : wr.cell? ⟨g, k, none⟩ = some (.complex .f64 (xs.getD k (0, 0)).1 (xs.getD k (0, 0)).2) := by rw [HW.out]; exact HC.out k hlt
        have hwk := HWF.out k hlt
        have hfk := HF.out k hlt
        have hnx : whole (xs.getD k (0, 0)) = true → ∀ j, j < k + 1 → whole (xs.getD j (0, 0)) = true := fun h j hj => by
          rcases Nat.lt_or_eq_of_le (Nat.le_of_lt_succ hj) with h1 | rfl
          · exact HH.out j h1
          · exact h
        obtain ⟨⟨a, b⟩, hab⟩ : ∃ q, xs.getD k (0, 0) = q := ⟨_, rfl⟩
        rw [hab] at c1 hwk hfk hnx
        have S1 := fun w => realWithin_any a hwk.1 w
        have S2 := fun w => realWithin_any b hwk.2 w
        have HNX := Lib.hid hnx
        have HFK := Lib.hid hfk
        unfold whole at HFK HNX
        obtain ⟨na, hna⟩ : ∃ x, nan FloatKind.f64.format a = x := ⟨_, rfl⟩
        obtain ⟨nb, hnb⟩ : ∃ x, nan FloatKind.f64.format b = x := ⟨_, rfl⟩
        simp only [hna] at S1 HNX HFK
        simp only [hnb] at S2 HNX HFK
        clear hab hwk hfk hnx hna hnb
        cases na <;> cases nb
        all_goals
          simp only [Bool.not_true, Bool.not_false, Bool.and_false, Bool.and_true, Bool.false_and, Bool.true_and] at S1 S2 HNX HFK
        all_goals
          go_wp2
          go_quiet ((go_at_call 58; (first | with_reducible exact Calls.quiet_of_same (S1 _) | with_reducible exact Calls.quiet_of_same (S2 _))))
        · go_wp2
          go_roundw
          case rel => exact ⟨k + 1, n + nq, by go_num, by omega, HNX.out trivial, by rw [HW.out, World.drewN_drewN]⟩
          case measure => simp [intOf]; omega
        all_goals
          obtain rfl : A = false := HFK.out trivial
          go_wp2
          go_ret2
          exact ⟨rfl, n + nq, by rw [HW.out, World.drewN_drewN]⟩
      · have e : k = L := by omega
        subst e
        have hA := HT.out HH.out
        subst hA
        go_wp2
        go_ret2
        exact ⟨rfl, n, HW.out⟩

end Go.Proofs.Ytcoieclecmefiaa
