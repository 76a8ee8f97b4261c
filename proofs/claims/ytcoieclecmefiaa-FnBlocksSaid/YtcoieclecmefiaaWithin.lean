import Derived.Test.YtcoieclecmefiaaSameL
import Derived.Test.YtcoieclecmefiaaWalkUnits
/-
  IsWithin of a signal and itself, by 0 units: whether no part is a NaN.
-/
set_option linter.unusedVariables false
set_option linter.unusedSimpArgs false
namespace Go.Proofs.Ytcoieclecmefiaa
open Go.RowKit Flt Fast

theorem realWithin_any (a : Nat) (la : a < 18446744073709551616) (w : World) :
    Calls Try.prog 58 #[.float .f64 a, .float .f64 a, .int .i64 0] w fun e w' => e = .returned (.bool (!nan FloatKind.f64.format a)) ∧ w' = w := by
  by_cases ha : nan FloatKind.f64.format a = true
  · have S := fun w => unitsApart_impl_nan a a (.inl ha) w
    rw [ha]
    clear ha
    go_enter Try.func58, Try.ntmps58
    go_wp2_with (go_at_call 99; refine (S _).mono ?_; rintro e w' ⟨rfl, rfl⟩)
    go_ret
    exact ⟨rfl, rfl⟩
  · have ha : nan FloatKind.f64.format a = false := by simpa using ha
    have S := fun w => unitsApart_impl a a ha ha la la w
    have hu : unitsOf (place FloatKind.f64.format a) (place FloatKind.f64.format a) = 0 := by unfold unitsOf; simp; omega
    rw [hu] at S
    rw [ha]
    clear ha hu la
    go_enter Try.func58, Try.ntmps58
    go_wp2_with (go_at_call 99; refine (S _).mono ?_; rintro e w' ⟨rfl, rfl⟩)
    go_ret
    exact ⟨rfl, rfl⟩

def whole (p : C) : Bool := !nan FloatKind.f64.format p.1 && !nan FloatKind.f64.format p.2
theorem all_of_getD {xs : List C} (h : ∀ j, j < xs.length → whole (xs.getD j (0, 0)) = true) : xs.all whole = true := by
  rw [List.all_eq_true]
  intro p hp
  obtain ⟨j, hj, rfl⟩ := List.getElem_of_mem hp
  have := h j hj
  simpa [List.getD, hj] using this
theorem not_all_of_getD {xs : List C} {j : Nat} (hj : j < xs.length) (h : whole (xs.getD j (0, 0)) = false) : xs.all whole = false := by
  rw [List.all_eq_false]
  exact ⟨_, getD_memC hj, by simpa using h⟩

end Go.Proofs.Ytcoieclecmefiaa
