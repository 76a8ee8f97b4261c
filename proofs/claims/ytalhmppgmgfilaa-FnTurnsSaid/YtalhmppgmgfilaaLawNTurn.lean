import Derived.Test.YtalhmppgmgfilaaLawTurn
import Derived.Test.YtalhmppgmgfilaaTurnB
import Derived.Test.YtalhmppgmgfilaaNarrow
/-
  The walk of the law on NarrowTurnOf.
-/
set_option linter.unusedVariables false
set_option linter.unusedSimpArgs false
namespace Go.Proofs.Ytalhmppgmgfilaa
open Go.RowKit Flt Turn

/-- What NarrowTurnOf returns. -/
def NTurnR (n k : Int) (w : World) (e : Ending) (w' : World) : Prop :=
  (TurnIn n k ∧ ∃ u v, e = .returned (.tuple #[.complex .f32 u v, .int .i64 0]) ∧ (∃ x, (turn n.toNat k.toNat).1 = some x ∧ floatToFloatBits .f64 x .f32 = some u) ∧ (∃ y, (turn n.toNat k.toNat).2 = some y ∧ floatToFloatBits .f64 y .f32 = some v) ∧ Below w.heap.size w w') ∨
  (¬ TurnIn n k ∧ e = .returned (.tuple #[.complex .f32 0 0, .int .i64 2]) ∧ Below w.heap.size w w')

/-- A turn's part, narrowed. -/
theorem narrow_part {z : Option Nat} {a u : Nat} (hz : S z) (ha : IsF a z) (h : Narrows a u) : ∃ x, z = some x ∧ floatToFloatBits .f64 x .f32 = some u := by
  obtain ⟨v, rfl, h1, h2⟩ := hz
  obtain ⟨y, hy⟩ := S.narrow h1
  have e : a = v := (num_of_cn ha.cn).2
  subst e
  exact ⟨a, rfl, by rw [h.val y hy]; exact hy⟩

theorem narrow_zero {u : Nat} (h : Narrows 0 u) : u = 0 := h.val 0 (by decide +kernel)

set_option maxRecDepth 100000 in
theorem narrowOf_impl (a b : Nat) (w : World) :
    Calls Try.prog 13 #[.complex .f64 a b] w fun e w' => ∃ u v, e = .returned (.complex .f32 u v) ∧ Narrows a u ∧ Narrows b v ∧ Below w.heap.size w w' := by
  go_enter Try.func13, Try.ntmps13
  go_wp2_with fail
  refine (numberOf_any a b _).mono ?_
  rintro e w1 ⟨rfl, h⟩
  have hz := h.size
  go_wp2_with (first
    | (refine wpList_narrowD _ rfl 24 33 _ rfl a b rfl (by kernel_rfl) Try.underlying33 ?_; intro r s n hr hs; have HR := Lib.hid hr; have HS := Lib.hid hs; clear hr hs)
    | go_in)
  go_ret
  exact ⟨_, _, rfl, HR.out, HS.out, by repeat (first | exact h | refine below_draws ?_ _ | refine Below.alloc ?_ (by first | exact hz | (simp; omega)) _)⟩

theorem nturn_impl (n k : Int) (h1 : -9223372036854775808 ≤ n) (w : World) :
    Calls Try.prog 18 #[.int .i64 n, .int .i64 k] w (NTurnR n k w) := by
  go_enter Try.func18, Try.ntmps18
  go_wp2_with fail
  refine (turnOf_impl n k h1 w).mono ?_
  rintro e w1 (⟨m, j, rfl, rfl, hin, a, b, rfl, ha, hb, hb1⟩ | ⟨hin, rfl, hb1⟩)
  · have hS := S.turn (n := m) (k := j) (by have := hin.1; omega) (by have := hin.2.1; omega) (by have := hin.2.2.2; omega)
    have HI := Lib.hid hin
    have HA := Lib.hid ha
    have HB := Lib.hid hb
    have HS := Lib.hid hS
    have H1 := Lib.hid hb1
    clear hin ha hb hS hb1
    go_wp2_with fail
    refine (narrowOf_impl a b w1).mono ?_
    rintro e w2 ⟨u, v, rfl, hu, hv, hb2⟩
    have P1 := Lib.hid (narrow_part HS.out.1 HA.out hu)
    have P2 := Lib.hid (narrow_part HS.out.2 HB.out hv)
    have H2 := Lib.hid (H1.out.trans (hb2.mono H1.out.size))
    clear hu hv hb2
    go_wp2
    go_ret2
    exact .inl ⟨HI.out, u, v, rfl, P1.out, P2.out, H2.out⟩
  · have HI := Lib.hid hin
    have H1 := Lib.hid hb1
    clear hin hb1
    go_wp2_with fail
    refine (narrowOf_impl 0 0 w1).mono ?_
    rintro e w2 ⟨u, v, rfl, hu, hv, hb2⟩
    obtain rfl := narrow_zero hu
    obtain rfl := narrow_zero hv
    have H2 := Lib.hid (H1.out.trans (hb2.mono H1.out.size))
    clear hu hv hb2
    go_wp2
    go_ret2
    exact .inr ⟨HI.out, rfl, H2.out⟩

end Go.Proofs.Ytalhmppgmgfilaa
