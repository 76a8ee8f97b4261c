import Derived.Test.YtnbbkdjfhbcecaaTurnG
import Derived.Test.YtnbbkdjfhbcecaaSameF
/-
  The walk of the law on TurnOf.
-/
set_option linter.unusedVariables false
set_option linter.unusedSimpArgs false
namespace Go.Proofs.Ytnbbkdjfhbcecaa
open Go.RowKit Flt Turn

theorem sameComplex_any (a b c d : Nat) (h1 : cn .f64 a = cn .f64 c) (h2 : cn .f64 b = cn .f64 d) (la : a < 18446744073709551616) (lb : b < 18446744073709551616) (w : World) :
    Calls Try.prog 23 #[.complex .f64 a b, .complex .f64 c d] w fun e w' => e = .returned (.bool true) ∧ w' = w := by
  have S1 := fun w => sameFloat_any a c h1 la w
  have S2 := fun w => sameFloat_any b d h2 lb w
  clear h1 h2
  go_enter Try.func23, Try.ntmps23
  go_wp2_with (go_at_call 77; (first | (with_reducible refine (S1 _).mono ?_) | (with_reducible refine (S2 _).mono ?_)); rintro e w' ⟨rfl, rfl⟩)
  go_ret
  exact ⟨rfl, rfl⟩

theorem exactTurn_law (n k : Int) (w : World) (hn : (Lit.int .i64 n).wf = true) (hk : (Lit.int .i64 k).wf = true) :
    Calls Try.prog 5 #[.int .i64 n, .int .i64 k] w fun e w' => e = .returned (.bool true) ∧ Below w.heap.size w w' := by
  have h1 : -9223372036854775808 ≤ n := by
    have := hn
    simp only [Lit.wf, Bool.and_eq_true, decide_eq_true_eq] at this
    have e : IntKind.i64.min = -9223372036854775808 := by decide
    rw [e] at this
    exact this.1
  clear hn hk
  go_enter Try.func5, Try.ntmps5
  go_wp2_with fail
  refine (turnOf_spec n k h1 w).mono ?_
  rintro e w1 (⟨m, j, rfl, rfl, hin, a, b, rfl, ha, hb, hb1⟩ | ⟨hin, rfl, hb1⟩)
  · go_wp2_with fail
    refine (turnOf_impl _ _ h1 w1).mono ?_
    rintro e w2 (⟨m', j', hm, hj, hin', a', b', rfl, ha', hb', hb2⟩ | ⟨hin', -⟩)
    · obtain rfl : m = m' := by omega
      obtain rfl : j = j' := by omega
      have S := fun w => sameComplex_any a' b' a b (ha'.cn.trans ha.cn.symm) (hb'.cn.trans hb.cn.symm) ha'.lt hb'.lt w
      have HB := Lib.hid (hb1.trans (hb2.mono hb1.size))
      clear ha hb ha' hb' hb1 hb2 hin hin' hm hj
      go_wp2_with (go_at_call 23; refine (S _).mono ?_; rintro e w' ⟨rfl, rfl⟩)
      go_ret
      exact ⟨rfl, HB.out⟩
    · exact absurd hin hin'
  · go_wp2_with fail
    refine (turnOf_impl _ _ h1 w1).mono ?_
    rintro e w2 (⟨m', j', hm, hj, hin', -⟩ | ⟨hin', rfl, hb2⟩)
    · exact absurd hin' hin
    · have S := fun w => sameComplex_any 0 0 0 0 rfl rfl (by omega) (by omega) w
      have HB := Lib.hid (hb1.trans (hb2.mono hb1.size))
      clear hb1 hb2 hin hin'
      go_wp2_with (go_at_call 23; refine (S _).mono ?_; rintro e w' ⟨rfl, rfl⟩)
      go_ret
      exact ⟨rfl, HB.out⟩

end Go.Proofs.Ytnbbkdjfhbcecaa
