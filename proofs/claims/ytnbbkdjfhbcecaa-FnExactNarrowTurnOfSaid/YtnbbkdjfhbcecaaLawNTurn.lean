import Derived.Test.YtnbbkdjfhbcecaaLawTurn
import Derived.Test.YtnbbkdjfhbcecaaTurnB
import Derived.Test.YtnbbkdjfhbcecaaNarrow
/-
  The walk of the law on NarrowTurnOf.
-/
set_option linter.unusedVariables false
set_option linter.unusedSimpArgs false
namespace Go.Proofs.Ytnbbkdjfhbcecaa
open Go.RowKit Flt Turn

/-- What NarrowTurnOf returns. -/
def NTurnR (n k : Int) (w : World) (e : Ending) (w' : World) : Prop :=
  (TurnIn n k ∧ ∃ u v, e = .returned (.tuple #[.complex .f32 u v, .int .i64 0]) ∧ (∃ x, (turn n.toNat k.toNat).1 = some x ∧ floatToFloatBits .f64 x .f32 = some u) ∧ (∃ y, (turn n.toNat k.toNat).2 = some y ∧ floatToFloatBits .f64 y .f32 = some v) ∧ Below w.heap.size w w') ∨
  (¬ TurnIn n k ∧ e = .returned (.tuple #[.complex .f32 0 0, .int .i64 2]) ∧ Below w.heap.size w w')

/-- A turn's part, narrowed. -/
theorem narrow_part {z : Option Nat} {a u : Nat} (hz : S z) (ha : IsF a z) (h : Narrows a u) : ∃ x, z = some x ∧ floatToFloatBits .f64 x .f32 = some u := by
  obtain ⟨v, rfl, h1, h2⟩ := hz
  obtain ⟨y, hy⟩ := S.narrow h1
  have e : a = v := (num_of_cn ha.cn).2
  subst e
  exact ⟨a, rfl, by rw [h.val y hy]; exact hy⟩

theorem narrow_zero {u : Nat} (h : Narrows 0 u) : u = 0 := h.val 0 (by decide +kernel)

set_option maxRecDepth 100000 in
theorem narrowOf_impl (a b : Nat) (w : World) :
    Calls Try.prog 64 #[.complex .f64 a b] w fun e w' => ∃ u v, e = .returned (.complex .f32 u v) ∧ Narrows a u ∧ Narrows b v ∧ Below w.heap.size w w' := by
  go_enter Try.func64, Try.ntmps64
  go_wp2_with fail
  refine (numberOf_any a b _).mono ?_
  rintro e w1 ⟨rfl, h⟩
  have hz := h.size
  go_wp2_with (first
    | (refine wpList_narrowD _ rfl 31 36 _ rfl a b rfl (by kernel_rfl) Try.underlying36 ?_; intro r s n hr hs; have HR := Lib.hid hr; have HS := Lib.hid hs; clear hr hs)
    | go_in)
  go_ret
  exact ⟨_, _, rfl, HR.out, HS.out, by repeat (first | exact h | refine below_draws ?_ _ | refine Below.alloc ?_ (by first | exact hz | (simp; omega)) _)⟩

theorem nturn_impl (n k : Int) (h1 : -9223372036854775808 ≤ n) (w : World) :
    Calls Try.prog 25 #[.int .i64 n, .int .i64 k] w (NTurnR n k w) := by
  go_enter Try.func25, Try.ntmps25
  go_wp2_with fail
  refine (turnOf_impl n k h1 w).mono ?_
  rintro e w1 (⟨m, j, rfl, rfl, hin, a, b, rfl, ha, hb, hb1⟩ | ⟨hin, rfl, hb1⟩)
  · have hS := S.turn (n := m) (k := j) (by have := hin.1; omega) (by have := hin.2.1; omega) (by have := hin.2.2.2; omega)
    have HI := Lib.hid hin
    have HA := Lib.hid ha
    have HB := Lib.hid hb
    have HS := Lib.hid hS
    have H1 := Lib.hid hb1
    clear hin ha hb hS hb1
    go_wp2_with fail
    refine (narrowOf_impl a b w1).mono ?_
    rintro e w2 ⟨u, v, rfl, hu, hv, hb2⟩
    have P1 := Lib.hid (narrow_part HS.out.1 HA.out hu)
    have P2 := Lib.hid (narrow_part HS.out.2 HB.out hv)
    have H2 := Lib.hid (H1.out.trans (hb2.mono H1.out.size))
    clear hu hv hb2
    go_wp2
    go_ret2
    exact .inl ⟨HI.out, u, v, rfl, P1.out, P2.out, H2.out⟩
  · have HI := Lib.hid hin
    have H1 := Lib.hid hb1
    clear hin hb1
    go_wp2_with fail
    refine (narrowOf_impl 0 0 w1).mono ?_
    rintro e w2 ⟨u, v, rfl, hu, hv, hb2⟩
    obtain rfl := narrow_zero hu
    obtain rfl := narrow_zero hv
    have H2 := Lib.hid (H1.out.trans (hb2.mono H1.out.size))
    clear hu hv hb2
    go_wp2
    go_ret2
    exact .inr ⟨HI.out, rfl, H2.out⟩

theorem nturn_spec (n k : Int) (h1 : -9223372036854775808 ≤ n) (w : World) :
    Calls Try.prog 24 #[.int .i64 n, .int .i64 k] w (NTurnR n k w) := by
  go_enter Try.func24, Try.ntmps24
  go_wp2_with fail
  refine (turnCode_any _ _ h1 w).mono ?_
  rintro e w' ⟨c, rfl, rfl, ⟨hin, rfl⟩ | ⟨hin, rfl⟩⟩
  · have hh := hin
    obtain ⟨a1, a2, a3, a4⟩ := hh
    obtain ⟨m, rfl⟩ : ∃ m : Nat, n = m := ⟨n.toNat, by omega⟩
    obtain ⟨j, rfl⟩ : ∃ j : Nat, k = j := ⟨k.toNat, by omega⟩
    have hS := S.turn (n := m) (k := j) (by omega) (by omega) (by omega)
    have T := fun w => turn_spec4 m j (by omega) (by omega) (by omega) w
    have HI := Lib.hid hin
    have HS := Lib.hid hS
    clear hin hS a1 a2 a3 a4 h1
    go_wp2_with fail
    refine (T _).mono ?_
    rintro e w2 ⟨a, b, rfl, ha, hb, n2, rfl⟩
    have HA := Lib.hid ha
    have HB := Lib.hid hb
    clear ha hb T
    go_wp2_with (first
      | (refine wpList_narrowD _ rfl 31 36 _ rfl a b rfl (by kernel_rfl) Try.underlying36 ?_; intro u v n hu hv; have P1 := Lib.hid (narrow_part HS.out.1 HA.out hu); have P2 := Lib.hid (narrow_part HS.out.2 HB.out hv); clear hu hv)
      | go_in)
    go_ret2
    exact .inl ⟨HI.out, _, _, rfl, P1.out, P2.out, below_draws (Below.refl _ _) _⟩
  · have HI := Lib.hid hin
    clear hin
    go_wp2
    go_ret2
    exact .inr ⟨HI.out, rfl, Below.refl _ _⟩

set_option maxRecDepth 100000 in
theorem exactNTurn_law (n k : Int) (w : World) (hn : (Lit.int .i64 n).wf = true) (hk : (Lit.int .i64 k).wf = true) :
    Calls Try.prog 6 #[.int .i64 n, .int .i64 k] w fun e w' => e = .returned (.bool true) ∧ Below w.heap.size w w' := by
  have h1 : -9223372036854775808 ≤ n := by
    have := hn
    simp only [Lit.wf, Bool.and_eq_true, decide_eq_true_eq] at this
    have e : IntKind.i64.min = -9223372036854775808 := by decide
    rw [e] at this
    exact this.1
  clear hn hk
  go_enter Try.func6, Try.ntmps6
  go_wp2_with fail
  refine (nturn_spec n k h1 w).mono ?_
  rintro e w1 (⟨hin, u, v, rfl, ⟨x, hx, hxu⟩, ⟨y, hy, hyv⟩, hb1⟩ | ⟨hin, rfl, hb1⟩)
  · go_wp2_with fail
    refine (nturn_impl n k h1 w1).mono ?_
    rintro e w2 (⟨hin', u', v', rfl, ⟨x', hx', hxu'⟩, ⟨y', hy', hyv'⟩, hb2⟩ | ⟨hin', -⟩)
    · obtain rfl : x = x' := Option.some.inj (hx.symm.trans hx')
      obtain rfl : y = y' := Option.some.inj (hy.symm.trans hy')
      obtain rfl : u = u' := Option.some.inj (hxu.symm.trans hxu')
      obtain rfl : v = v' := Option.some.inj (hyv.symm.trans hyv')
      have HB := Lib.hid (hb1.trans (hb2.mono hb1.size))
      clear hx hxu hy hyv hx' hxu' hy' hyv' hb1 hb2 hin hin'
      go_wp2_with (first
        | (refine wpList_widenC _ rfl 36 31 (.tmp 21) rfl u v rfl (by kernel_rfl) Try.underlying31 ?_; intro a b m1 ha hb la lb)
        | (refine wpList_widenC _ rfl 36 31 (.tmp 23) rfl u v rfl (by kernel_rfl) Try.underlying31 ?_; intro c d m2 hc hd lc ld))
      refine (sameComplex_any a b c d (ha.trans hc.symm) (hb.trans hd.symm) la lb _).mono ?_
      rintro e w' ⟨rfl, rfl⟩
      clear ha hb hc hd la lb lc ld
      go_wp2
      go_ret
      exact ⟨rfl, below_draws HB.out _⟩
    · exact absurd hin hin'
  · go_wp2_with fail
    refine (nturn_impl n k h1 w1).mono ?_
    rintro e w2 (⟨hin', -⟩ | ⟨hin', rfl, hb2⟩)
    · exact absurd hin' hin
    · have HB := Lib.hid (hb1.trans (hb2.mono hb1.size))
      clear hb1 hb2 hin hin'
      go_wp2_with (first
        | (refine wpList_widenC _ rfl 36 31 (.tmp 21) rfl 0 0 rfl (by kernel_rfl) Try.underlying31 ?_; intro a b m1 ha hb la lb)
        | (refine wpList_widenC _ rfl 36 31 (.tmp 23) rfl 0 0 rfl (by kernel_rfl) Try.underlying31 ?_; intro c d m2 hc hd lc ld))
      refine (sameComplex_any a b c d (ha.trans hc.symm) (hb.trans hd.symm) la lb _).mono ?_
      rintro e w' ⟨rfl, rfl⟩
      clear ha hb hc hd la lb lc ld
      go_wp2
      go_ret
      exact ⟨rfl, below_draws HB.out _⟩

end Go.Proofs.Ytnbbkdjfhbcecaa
