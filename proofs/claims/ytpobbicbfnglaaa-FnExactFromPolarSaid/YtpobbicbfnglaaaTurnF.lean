import Derived.Test.YtpobbicbfnglaaaTurnI
/-
  The walks of the program's turns: turn and find, which call each other.
-/
set_option linter.unusedVariables false
set_option linter.unusedSimpArgs false
namespace Go.Proofs.Ytpobbicbfnglaaa
open Go.RowKit Flt Turn

/-- A turn is returned; the cache has grown. -/
def RetCa (z : Option Nat × Option Nat) (b c : Nat) (w : World) (e : Ending) (w' : World) : Prop :=
  ∃ x y, e = .returned (.complex .f64 x y) ∧ IsF x z.1 ∧ IsF y z.2 ∧ Cache w' b c ∧ w.grownBy w' (some b)

/-- How many calls are still to come, at most. -/
def mu (n k : Nat) : Nat := 2 * rank n k + (if n.gcd k = 1 then 0 else 1)

/-- What is asked of n: that no number on the way is too great. -/
def fits (n k : Nat) : Prop := n * 4 ^ rank n k ≤ 1152921504606846976

def TurnOK (f : Nat) : Prop := ∀ (n k b c : Nat) (w : World), mu n k < f → fits n k → 0 < n → k ≤ n → Cache w b c → c + f ≤ 4611686018427387904 →
  Calls Try.prog 97 #[.map (some b), .int .i64 n, .int .i64 k] w (RetCa (turn n k) b (c + f) w)

theorem grown_up {w w' : World} (h : w.grownBy w' none) (row : Option Nat) : w.grownBy w' row := ⟨h.os, h.tape, h.output, h.size, fun k hk _ => h.block k hk (by simp)⟩
theorem Cache.grown_some {w w' : World} {b c : Nat} (h : Cache w b c) (hg : w.grownBy w' none) : Cache w' b c := h.kept hg (by simp)

theorem mu_le {n k n' k' f : Nat} (h : mu n k < f + 1) (hg : n.gcd k = 1) (hr : rank n' k' < rank n k) : mu n' k' < f := by
  unfold mu at h ⊢
  rw [if_pos hg] at h
  split <;> omega
theorem mu_two {n k f : Nat} (hg : n.gcd k = 1) (h : n < 2 * k) (hk : k ≤ n) (hm : mu n k < f + 1) : mu n (n - k) < f := mu_le hm hg (rank_two h hk (Nat.lt_succ_self _))
theorem mu_four {n k f : Nat} (hg : n.gcd k = 1) (h2 : ¬ n < 2 * k) (h : n < 4 * k) (hm : mu n k < f + 1) : mu (2 * n) (n - 2 * k) < f := mu_le hm hg (rank_four h2 h (Nat.lt_succ_self _))
theorem mu_eight {n k f : Nat} (hg : n.gcd k = 1) (h4 : ¬ n < 4 * k) (h : n < 8 * k) (hm : mu n k < f + 1) : mu (4 * n) (n - 4 * k) < f := mu_le hm hg (rank_eight h4 h (Nat.lt_succ_self _))
theorem fits_le {n k c n' k' : Nat} (h : fits n k) (hn : n' = c * n) (hc : c ≤ 4) (hr : rank n' k' < rank n k) : fits n' k' := by
  unfold fits at h ⊢
  subst hn
  have h1 : 4 ^ (rank (c * n) k' + 1) ≤ 4 ^ rank n k := Nat.pow_le_pow_right (by omega) hr
  rw [Nat.pow_succ] at h1
  have h2 : n * (4 ^ rank (c * n) k' * 4) ≤ n * 4 ^ rank n k := Nat.mul_le_mul_left _ h1
  have h3 : c * n * 4 ^ rank (c * n) k' = c * (n * 4 ^ rank (c * n) k') := Nat.mul_assoc ..
  have h4 : c * (n * 4 ^ rank (c * n) k') ≤ 4 * (n * 4 ^ rank (c * n) k') := Nat.mul_le_mul_right _ hc
  have h5 : n * (4 ^ rank (c * n) k' * 4) = 4 * (n * 4 ^ rank (c * n) k') := by rw [← Nat.mul_assoc, Nat.mul_comm]
  omega
theorem fits_two {n k : Nat} (h : n < 2 * k) (hk : k ≤ n) (hm : fits n k) : fits n (n - k) := fits_le (c := 1) hm (by omega) (by omega) (rank_two h hk (Nat.lt_succ_self _))
theorem fits_four {n k : Nat} (h2 : ¬ n < 2 * k) (h : n < 4 * k) (hm : fits n k) : fits (2 * n) (n - 2 * k) := fits_le (c := 2) hm rfl (by omega) (rank_four h2 h (Nat.lt_succ_self _))
theorem fits_eight {n k : Nat} (h4 : ¬ n < 4 * k) (h : n < 8 * k) (hm : fits n k) : fits (4 * n) (n - 4 * k) := fits_le (c := 4) hm rfl (by omega) (rank_eight h4 h (Nat.lt_succ_self _))

set_option maxRecDepth 100000 in
set_option maxHeartbeats 8000000 in
theorem find_impl (f : Nat) (ih : TurnOK f) (n k b c : Nat) (w : World) (hmu : mu n k < f + 1) (hfit : fits n k) (hn : 0 < n) (hk : k ≤ n) (hc : Cache w b c) (hcf : c + f ≤ 4611686018427387904) :
    Calls Try.prog 112 #[.map (some b), frac n k] w (RetCa (turn n k) b (c + f) w) := by
  have hnb : n ≤ 1152921504606846976 := by
    unfold fits at hfit
    have : n * 1 ≤ n * 4 ^ rank n k := Nat.mul_le_mul_left _ (Nat.pow_pos (by omega))
    omega
  have L := fun w => lowest_impl n k hn (by omega) (by omega) w
  unfold frac
  go_enter Try.func112, Try.ntmps112
  go_wp2_with fail
  refine (L _).mono ?_
  rintro e w1 ⟨rfl, hb⟩
  have hw1 : w.heap.size < w1.heap.size := by have := hb.size; simp at this; omega
  have c0 : w1.cell? ⟨w.heap.size, 0, none⟩ = some (.int .i64 n) := by rw [hb.cell (by simp)]; simp
  have c1 : w1.cell? ⟨w.heap.size, 1, none⟩ = some (.int .i64 k) := by rw [hb.cell (by simp)]; simp
  have hC : Cache w1 b c := (hc.alloc _).grown_some (grown_of_below hb)
  have hG : w.grownBy w1 none := grown_of_below (((Below.refl _ _).alloc (Nat.le_refl _) _).trans (hb.mono (by simp)))
  have HC := Lib.hid hC
  have HG := Lib.hid hG
  clear hC hG hb hc
  have hne : ¬ w1.heap.size = w.heap.size := by omega
  obtain ⟨g, hg⟩ : ∃ g, n.gcd k = g := ⟨_, rfl⟩
  have hgp : 0 < g := by rw [← hg]; exact Nat.gcd_pos_of_pos_left _ hn
  have hlow := lowest (k := k) hn
  have hred := turn_red (k := k) hn
  have hrr := rank_red (k := k) hn
  rw [hg] at hlow hred hrr ⊢
  obtain ⟨n1, hN⟩ : ∃ n1, n / g = n1 := ⟨_, rfl⟩
  obtain ⟨k1, hK⟩ : ∃ k1, k / g = k1 := ⟨_, rfl⟩
  have hn1 : n1 ≤ n := by rw [← hN]; exact Nat.div_le_self _ _
  have hp1 : 0 < n1 := by rw [← hN, ← hg]; exact Nat.div_pos (Nat.le_of_dvd hn (Nat.gcd_dvd_left n k)) (by rw [hg]; exact hgp)
  have hk1 : k1 ≤ n1 := by rw [← hN, ← hK]; exact Nat.div_le_div_right hk
  rw [hN, hK] at hlow hred hrr ⊢
  have hne' : g ≠ 1 → n1 ≠ n := fun h e => by
    have e2 : n1 * g = n := by rw [← hN]; exact Nat.div_mul_cancel (by rw [← hg]; exact Nat.gcd_dvd_left n k)
    rw [e] at e2
    have : n * 2 ≤ n * g := Nat.mul_le_mul_left _ (by omega)
    omega
  have heq : g = 1 → n1 = n ∧ k1 = k := fun h => by rw [← hN, ← hK, h, Nat.div_one, Nat.div_one]; exact ⟨rfl, rfl⟩
  have hC2 : ∀ nq, Cache ((w1.alloc (.cells #[.int .i64 n1, .int .i64 k1] 103)).drewN nq) b c := fun nq => (HC.out.alloc _).drewN nq
  have hG2 : ∀ nq, w.grownBy ((w1.alloc (.cells #[.int .i64 n1, .int .i64 k1] 103)).drewN nq) (some b) := fun nq => grown_drewN ((grown_up HG.out _).trans (grown_up (World.grownBy_alloc _ _ none) _)) nq
  have H2 := Lib.hid hC2
  have H3 := Lib.hid hG2
  clear hC2 hG2
  unfold frac
  by_cases h1 : g = 1
  · obtain ⟨rfl, rfl⟩ := heq h1
    subst h1
    clear heq hne' hN hK L
    go_wp2_with fail
    go_quiet (fail)
    have HC2 : Hid _ := H2.out nq
    have HG2 : Hid _ := H3.out nq
    clear H2 H3
    by_cases h0 : k1 = 0
    · have HT := Lib.hid (turn_zero hlow h0)
      subst h0
      go_wp2_with fail
      go_ret
      rw [HT.out]
      exact ⟨_, _, rfl, isF_one, isF_zero, Cache.mono HC2.out (by omega), HG2.out⟩
    · have h0' : ¬ (k1 : Int) = 0 := by omega
      by_cases h2 : n1 < 2 * k1
      · have HT := Lib.hid (turn_two hlow h0 hn hk h2)
        have h2' : (n1 : Int) < 2 * (k1 : Int) := by omega
        have hmr := mu_two hg h2 hk hmu
        have hfr := fits_two h2 hk hfit
        have hpr := hn
        have hlr : n1 - k1 ≤ n1 := by omega
        obtain ⟨m, hm⟩ : ∃ m, n1 - k1 = m := ⟨_, rfl⟩
        have hm' : (n1 : Int) - (k1 : Int) = (m : Int) := by omega
        rw [hm] at hmr hfr hlr HT
        clear hm
        go_wp2_with (first
          | (go_at_call 97; refine (ih n1 m b c _ hmr hfr hpr hlr HC2.out (by omega)).mono ?_; rintro e w3 ⟨x, y, rfl, hx, hy, hc3, hg3⟩; have HX := Lib.hid hx; have HY := Lib.hid hy; have HC3 := Lib.hid hc3; have HG3 := Lib.hid ((HG2.out).trans hg3); clear hx hy hc3 hg3)
          | (go_at_call 117; refine (conj_impl _ _ _).mono ?_; rintro e w4 ⟨rfl, hb4⟩; have HB4 := Lib.hid hb4; clear hb4))
        go_ret
        rw [HT.out]
        exact ⟨_, _, rfl, HX.out, HY.out.neg, HC3.out.grown_some (grown_of_below HB4.out), HG3.out.trans (grown_up (grown_of_below HB4.out) _)⟩
      · have h2' : ¬ (n1 : Int) < 2 * (k1 : Int) := by omega
        by_cases h4 : n1 < 4 * k1
        · have HT := Lib.hid (turn_four hlow h0 hn h2 h4)
          have h4' : (n1 : Int) < 4 * (k1 : Int) := by omega
          have hmr := mu_four hg h2 h4 hmu
          have hfr := fits_four h2 h4 hfit
          have hpr : 0 < 2 * n1 := by omega
          have hlr : n1 - 2 * k1 ≤ 2 * n1 := by omega
          obtain ⟨m, hm⟩ : ∃ m, n1 - 2 * k1 = m := ⟨_, rfl⟩
          obtain ⟨nn, hnn⟩ : ∃ nn, 2 * n1 = nn := ⟨_, rfl⟩
          have hm' : (n1 : Int) - 2 * (k1 : Int) = (m : Int) := by omega
          have hnn' : 2 * (n1 : Int) = (nn : Int) := by omega
          rw [hm, hnn] at hmr hfr hlr HT
          rw [hnn] at hpr
          clear hm hnn
          go_wp2_with (first
            | (go_at_call 97; refine (ih nn m b c _ hmr hfr hpr hlr HC2.out (by omega)).mono ?_; rintro e w3 ⟨x, y, rfl, hx, hy, hc3, hg3⟩; have HX := Lib.hid hx; have HY := Lib.hid hy; have HC3 := Lib.hid hc3; have HG3 := Lib.hid ((HG2.out).trans hg3); clear hx hy hc3 hg3))
          go_ret
          rw [HT.out]
          exact ⟨_, _, rfl, HX.out.neg, HY.out, HC3.out, HG3.out⟩
        · have h4' : ¬ (n1 : Int) < 4 * (k1 : Int) := by omega
          by_cases h8 : n1 < 8 * k1
          · have HT := Lib.hid (turn_eight hlow h0 hn h2 h4 h8)
            have h8' : (n1 : Int) < 8 * (k1 : Int) := by omega
            have hmr := mu_eight hg h4 h8 hmu
            have hfr := fits_eight h4 h8 hfit
            have hpr : 0 < 4 * n1 := by omega
            have hlr : n1 - 4 * k1 ≤ 4 * n1 := by omega
            obtain ⟨m, hm⟩ : ∃ m, n1 - 4 * k1 = m := ⟨_, rfl⟩
            obtain ⟨nn, hnn⟩ : ∃ nn, 4 * n1 = nn := ⟨_, rfl⟩
            have hm' : (n1 : Int) - 4 * (k1 : Int) = (m : Int) := by omega
            have hnn' : 4 * (n1 : Int) = (nn : Int) := by omega
            rw [hm, hnn] at hmr hfr hlr HT
            rw [hnn] at hpr
            clear hm hnn
            go_wp2_with (first
              | (go_at_call 97; refine (ih nn m b c _ hmr hfr hpr hlr HC2.out (by omega)).mono ?_; rintro e w3 ⟨x, y, rfl, hx, hy, hc3, hg3⟩; have HX := Lib.hid hx; have HY := Lib.hid hy; have HC3 := Lib.hid hc3; have HG3 := Lib.hid ((HG2.out).trans hg3); clear hx hy hc3 hg3))
            go_ret
            rw [HT.out]
            exact ⟨_, _, rfl, HY.out, HX.out, HC3.out, HG3.out⟩
          · have h8' : ¬ (n1 : Int) < 8 * (k1 : Int) := by omega
            by_cases he : 8 * k1 = n1
            · have HT := Lib.hid (turn_eighth hlow h0 h2 h4 h8 he)
              have he' : 8 * (k1 : Int) = (n1 : Int) := by omega
              go_wp2_with (first
                | (go_at_call 92; go_in))
              go_ret
              rw [HT.out]
              exact ⟨_, _, rfl, isF_halfRoot, isF_halfRoot, Cache.mono HC2.out (by omega), HG2.out⟩
            · have HT := Lib.hid (turn_series hlow h0 h2 h4 h8 he)
              have he' : ¬ 8 * (k1 : Int) = (n1 : Int) := by omega
              have S := fun w => series_impl n1 k1 (by omega) (by omega) w
              unfold frac at S
              go_wp2_with (first
                | (go_at_call 118; refine (S _).mono ?_; rintro e w4 ⟨x, y, rfl, hx, hy, hb4⟩; have HX := Lib.hid hx; have HY := Lib.hid hy; have HB4 := Lib.hid hb4; clear hx hy hb4))
              go_ret
              rw [HT.out]
              exact ⟨_, _, rfl, HX.out, HY.out, (Cache.mono HC2.out (by omega)).grown_some (grown_of_below HB4.out), HG2.out.trans (grown_up (grown_of_below HB4.out) _)⟩
  · have hnn := hne' h1
    have hnnI : ¬ (n1 : Int) = (n : Int) := by omega
    have hmr : mu n1 k1 < f := by
      unfold mu at hmu ⊢
      rw [hrr, if_pos hlow]
      rw [if_neg (by rw [hg]; exact h1)] at hmu
      omega
    have hfr : fits n1 k1 := by
      unfold fits at hfit ⊢
      rw [hrr]
      have : n1 * 4 ^ rank n k ≤ n * 4 ^ rank n k := Nat.mul_le_mul_right _ hn1
      omega
    have hpr := hp1
    have hlr := hk1
    have HT := Lib.hid hred
    clear heq hred hne' hN hK L
    go_wp2_with fail
    go_quiet (fail)
    have HC2 : Hid _ := H2.out nq
    have HG2 : Hid _ := H3.out nq
    clear H2 H3
    go_wp2_with (first
      | (go_at_call 97; refine (ih n1 k1 b c _ hmr hfr hpr hlr HC2.out (by omega)).mono ?_; rintro e w3 ⟨x, y, rfl, hx, hy, hc3, hg3⟩; have HX := Lib.hid hx; have HY := Lib.hid hy; have HC3 := Lib.hid hc3; have HG3 := Lib.hid ((HG2.out).trans hg3); clear hx hy hc3 hg3))
    go_ret
    rw [HT.out]
    exact ⟨_, _, rfl, HX.out, HY.out, HC3.out, HG3.out⟩

end Go.Proofs.Ytpobbicbfnglaaa
