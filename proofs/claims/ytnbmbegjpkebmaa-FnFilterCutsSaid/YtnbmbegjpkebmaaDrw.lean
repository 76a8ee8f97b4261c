import Derived.Test.YtnbmbegjpkebmaaWild
/-
  The draws of chapter 3 and on: l03Real, l03Number, P6Pick.
-/
set_option linter.unusedVariables false
set_option linter.unusedSimpArgs false
namespace Go.Proofs.Ytnbmbegjpkebmaa
open Go.RowKit Flt Fast

set_option maxRecDepth 100000 in
set_option maxHeartbeats 4000000 in
theorem real_any (w0 : World) (B : Nat) (a : Option Addr) (len cap : Nat) (hr : Bytes w0 a len cap) (i : Int) (hi : i < 4611686018427387000) (w : World) (h : Src w0 B a len cap i w) :
    Calls Try.prog 60 #[.pointer (some ⟨B, 0, none⟩)] w (PicksF w0 B a len cap i 4 w) := by
  go_enter Try.func60, Try.ntmps60
  go_wp2_with fail
  go_at_call 29
  refine (pick_any w0 B a len cap hr i (by omega) 16 (by omega) (by omega) _ h).mono ?_
  rintro e w1 ⟨r, j, r0, r1, rfl, j0, j1, hs, hg⟩
  go_wp2_with fail
  all_goals (first
    | (with_reducible refine (pick_any w0 B a len cap hr j (by omega) 41 (by omega) (by omega) _ hs).mono ?_
       rintro e w2 ⟨s, k, s0, s1, rfl, k0, k1, hs2, hg2⟩
       go_wp2_with (refine wpList_farith _ rfl .quo (by decide) _ _ _ _ rfl .f64 _ _ rfl rfl ?_; intro q n hq hb)
       go_ret
       exact ⟨_, k, hb, rfl, by omega, by omega, hs2.draws _, grown_draws (grown_trans hg hg2) _⟩)
    | (with_reducible refine (pick_any w0 B a len cap hr j (by omega) 33 (by omega) (by omega) _ hs).mono ?_
       rintro e w2 ⟨s, k, s0, s1, rfl, k0, k1, hs2, hg2⟩
       go_wp2_with (refine wpList_farith _ rfl .quo (by decide) _ _ _ _ rfl .f64 _ _ rfl rfl ?_; intro q n hq hb)
       go_ret
       exact ⟨_, k, hb, rfl, by omega, by omega, hs2.draws _, grown_draws (grown_trans hg hg2) _⟩)
    | (with_reducible refine (pick_any w0 B a len cap hr j (by omega) 8 (by omega) (by omega) _ hs).mono ?_
       rintro e w2 ⟨s, k, s0, s1, rfl, k0, k1, hs2, hg2⟩
       go_wp2_with (first
         | (go_at_call 67; (first | (with_reducible refine (inf_any _).mono ?_) | (with_reducible refine (inf_neg _).mono ?_)); rintro e w' ⟨rfl, rfl⟩)
         | (go_at_call 66; refine (nan_call _).mono ?_; rintro e w' ⟨rfl, rfl⟩)
         | (go_at_call 68; refine (copysign_zero _).mono ?_; rintro e w' ⟨rfl, rfl⟩))
       all_goals (go_ret; exact ⟨_, k, by omega, rfl, by omega, by omega, hs2, grown_trans hg hg2⟩)))

/-- A complex number is returned, of whatever bits, and the source has gone on. -/
def PicksN (w0 : World) (B : Nat) (a : Option Addr) (len cap : Nat) (i : Int) (most : Int) (w : World) (e : Ending) (w' : World) : Prop :=
  ∃ p q j, p < 18446744073709551616 ∧ q < 18446744073709551616 ∧ e = .returned (.complex .f64 p q) ∧ i ≤ j ∧ j ≤ i + most ∧ Src w0 B a len cap j w' ∧ w.grownBy w' (some B)

set_option maxRecDepth 100000 in
theorem number_any (w0 : World) (B : Nat) (a : Option Addr) (len cap : Nat) (hr : Bytes w0 a len cap) (i : Int) (hi : i < 4611686018427380000) (w : World) (h : Src w0 B a len cap i w) :
    Calls Try.prog 46 #[.pointer (some ⟨B, 0, none⟩)] w (PicksN w0 B a len cap i 12 w) := by
  go_enter Try.func46, Try.ntmps46
  go_wp2_with fail
  refine (real_any w0 B a len cap hr i (by omega) _ h).mono ?_
  rintro e w1 ⟨r, j, hr1, rfl, j0, j1, hs, hg⟩
  go_wp2_with fail
  refine (one_any w0 B a len cap hr j (by omega) 3 (by omega) (by omega) _ hs).mono ?_
  rintro e w2 ⟨b, k, rfl, k0, k1, hs2, hg2⟩
  cases b
  · go_wp2_with fail
    refine (real_any w0 B a len cap hr k (by omega) _ hs2).mono ?_
    rintro e w3 ⟨s, l, hs1, rfl, l0, l1, hs3, hg3⟩
    go_wp2
    go_ret
    exact ⟨r, s, l, hr1, hs1, rfl, by omega, by omega, hs3, grown_trans (grown_trans hg hg2) hg3⟩
  · go_wp2
    go_ret
    exact ⟨r, 0, k, hr1, by omega, rfl, by omega, by omega, hs2, grown_trans hg hg2⟩

theorem pick_one (w : World) (B : Nat) (n : Int) (hn : n ≤ 1) :
    Calls Try.prog 29 #[.pointer (some ⟨B, 0, none⟩), .int .i64 n] w fun e w' => e = .returned (.int .i64 0) ∧ w' = w := by
  go_enter Try.func29, Try.ntmps29
  go_wp2
  go_ret
  exact ⟨rfl, rfl⟩

/-- A number below n. -/
theorem p6Pick_any (w : World) (a : Option Addr) (len cap : Nat) (hr : ∃ zs, IsRow .u8 w a len cap zs) (n : Int) (h1 : 1 ≤ n) (hn : n ≤ 1000000) :
    Calls Try.prog 10 #[.slice a len cap, .int .i64 n] w fun e w' => ∃ r : Nat, e = .returned (.int .i64 r) ∧ (r : Int) < n ∧ Below w.heap.size w w' := by
  go_enter Try.func10, Try.ntmps10
  go_wp2_with (first | (go_at_call 26; go_in))
  by_cases h2 : n ≤ 1
  · refine (pick_one _ w.heap.size n h2).mono ?_
    rintro e w1 ⟨rfl, rfl⟩
    go_wp2
    go_ret
    exact ⟨0, rfl, by omega, (Below.refl _ _).alloc (Nat.le_refl _) _⟩
  · refine (pick_any w w.heap.size a len cap hr 0 (by omega) n (by omega) (by omega) _ src_new).mono ?_
    rintro e w1 ⟨r, j, r0, r1, rfl, j0, j1, hs, hg⟩
    obtain ⟨m, rfl⟩ : ∃ m : Nat, r = m := ⟨r.toNat, by omega⟩
    go_wp2
    go_ret
    exact ⟨m, rfl, by omega, hs.below⟩

end Go.Proofs.Ytnbmbegjpkebmaa
