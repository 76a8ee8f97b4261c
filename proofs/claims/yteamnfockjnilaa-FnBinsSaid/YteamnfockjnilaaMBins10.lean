/-
  Several texts of this claim, one behind the other; each says what it holds.
-/
import Derived.Test.YteamnfockjnilaaMBins9
import Derived.Test.YteamnfockjnilaaRows
import Derived.BigRegion
import Derived.Deep.Slices
import Derived.Lib.Hide
import Derived.Laws.EntriesVeiled
import Derived.StillTailTactics
import Derived.Deep.RegionLaw
import Derived.IntWalk
import Derived.Deep.MidRow
/-
  The walks of the program's turns: turn and find, which call each other.
-/
set_option linter.unusedVariables false
set_option linter.unusedSimpArgs false
namespace Go.Proofs.Yteamnfockjnilaa
open Go.RowKit Flt Turn

/-- A turn is returned; the cache has grown. -/
def RetCa (z : Option Nat × Option Nat) (b c : Nat) (w : World) (e : Ending) (w' : World) : Prop :=
  ∃ x y, e = .returned (.complex .f64 x y) ∧ IsF x z.1 ∧ IsF y z.2 ∧ Cache w' b c ∧ w.grownBy w' (some b)

/-- How many calls are still to come, at most. -/
def mu (n k : Nat) : Nat := 2 * rank n k + (if n.gcd k = 1 then 0 else 1)

/-- What is asked of n: that no number on the way is too great. -/
def fits (n k : Nat) : Prop := n * 4 ^ rank n k ≤ 1152921504606846976

def TurnOK (f : Nat) : Prop := ∀ (n k b c : Nat) (w : World), mu n k < f → fits n k → 0 < n → k ≤ n → Cache w b c → c + f ≤ 4611686018427387904 →
  Calls Try.prog 31 #[.map (some b), .int .i64 n, .int .i64 k] w (RetCa (turn n k) b (c + f) w)

theorem grown_up {w w' : World} (h : w.grownBy w' none) (row : Option Nat) : w.grownBy w' row := ⟨h.os, h.tape, h.output, h.size, fun k hk _ => h.block k hk (by simp)⟩
theorem Cache.grown_some {w w' : World} {b c : Nat} (h : Cache w b c) (hg : w.grownBy w' none) : Cache w' b c := h.kept hg (by simp)

theorem mu_le {n k n' k' f : Nat} (h : mu n k < f + 1) (hg : n.gcd k = 1) (hr : rank n' k' < rank n k) : mu n' k' < f := by
  unfold mu at h ⊢
  rw [if_pos hg] at h
  split <;> omega
theorem mu_two {n k f : Nat} (hg : n.gcd k = 1) (h : n < 2 * k) (hk : k ≤ n) (hm : mu n k < f + 1) : mu n (n - k) < f := mu_le hm hg (rank_two h hk (Nat.lt_succ_self _))
theorem mu_four {n k f : Nat} (hg : n.gcd k = 1) (h2 : ¬ n < 2 * k) (h : n < 4 * k) (hm : mu n k < f + 1) : mu (2 * n) (n - 2 * k) < f := mu_le hm hg (rank_four h2 h (Nat.lt_succ_self _))
theorem mu_eight {n k f : Nat} (hg : n.gcd k = 1) (h4 : ¬ n < 4 * k) (h : n < 8 * k) (hm : mu n k < f + 1) : mu (4 * n) (n - 4 * k) < f := mu_le hm hg (rank_eight h4 h (Nat.lt_succ_self _))
theorem fits_le {n k c n' k' : Nat} (h : fits n k) (hn : n' = c * n) (hc : c ≤ 4) (hr : rank n' k' < rank n k) : fits n' k' := by
  unfold fits at h ⊢
  subst hn
  have h1 : 4 ^ (rank (c * n) k' + 1) ≤ 4 ^ rank n k := Nat.pow_le_pow_right (by omega) hr
  rw [Nat.pow_succ] at h1
  have h2 : n * (4 ^ rank (c * n) k' * 4) ≤ n * 4 ^ rank n k := Nat.mul_le_mul_left _ h1
  have h3 : c * n * 4 ^ rank (c * n) k' = c * (n * 4 ^ rank (c * n) k') := Nat.mul_assoc ..
  have h4 : c * (n * 4 ^ rank (c * n) k') ≤ 4 * (n * 4 ^ rank (c * n) k') := Nat.mul_le_mul_right _ hc
  have h5 : n * (4 ^ rank (c * n) k' * 4) = 4 * (n * 4 ^ rank (c * n) k') := by rw [← Nat.mul_assoc, Nat.mul_comm]
  omega
theorem fits_two {n k : Nat} (h : n < 2 * k) (hk : k ≤ n) (hm : fits n k) : fits n (n - k) := fits_le (c := 1) hm (by omega) (by omega) (rank_two h hk (Nat.lt_succ_self _))
theorem fits_four {n k : Nat} (h2 : ¬ n < 2 * k) (h : n < 4 * k) (hm : fits n k) : fits (2 * n) (n - 2 * k) := fits_le (c := 2) hm rfl (by omega) (rank_four h2 h (Nat.lt_succ_self _))
theorem fits_eight {n k : Nat} (h4 : ¬ n < 4 * k) (h : n < 8 * k) (hm : fits n k) : fits (4 * n) (n - 4 * k) := fits_le (c := 4) hm rfl (by omega) (rank_eight h4 h (Nat.lt_succ_self _))

set_option maxRecDepth 100000 in
set_option maxHeartbeats 8000000 in
theorem find_impl (f : Nat) (ih : TurnOK f) (n k b c : Nat) (w : World) (hmu : mu n k < f + 1) (hfit : fits n k) (hn : 0 < n) (hk : k ≤ n) (hc : Cache w b c) (hcf : c + f ≤ 4611686018427387904) :
    Calls Try.prog 46 #[.map (some b), frac n k] w (RetCa (turn n k) b (c + f) w) := by
  have hnb : n ≤ 1152921504606846976 := by
    unfold fits at hfit
    have : n * 1 ≤ n * 4 ^ rank n k := Nat.mul_le_mul_left _ (Nat.pow_pos (by omega))
    omega
  have L := fun w => lowest_impl n k hn (by omega) (by omega) w
  unfold frac
  go_enter Try.func46, Try.ntmps46
  go_wp2_with fail
  refine (L _).mono ?_
  rintro e w1 ⟨rfl, hb⟩
  have hw1 : w.heap.size < w1.heap.size := by have := hb.size; simp at this; omega
  have c0 : w1.cell? ⟨w.heap.size, 0, none⟩ = some (.int .i64 n) := by rw [hb.cell (by simp)]; simp
  have c1 : w1.cell? ⟨w.heap.size, 1, none⟩ = some (.int .i64 k) := by rw [hb.cell (by simp)]; simp
  have hC : Cache w1 b c := (hc.alloc _).grown_some (grown_of_below hb)
  have hG : w.grownBy w1 none := grown_of_below (((Below.refl _ _).alloc (Nat.le_refl _) _).trans (hb.mono (by simp)))
  have HC := Lib.hid hC
  have HG := Lib.hid hG
  clear hC hG hb hc
  have hne : ¬ w1.heap.size = w.heap.size := by omega
  obtain ⟨g, hg⟩ : ∃ g, n.gcd k = g := ⟨_, rfl⟩
  have hgp : 0 < g := by rw [← hg]; exact Nat.gcd_pos_of_pos_left _ hn
  have hlow := lowest (k := k) hn
  have hred := turn_red (k := k) hn
  have hrr := rank_red (k := k) hn
  rw [hg] at hlow hred hrr ⊢
  obtain ⟨n1, hN⟩ : ∃ n1, n / g = n1 := ⟨_, rfl⟩
  obtain ⟨k1, hK⟩ : ∃ k1, k / g = k1 := ⟨_, rfl⟩
  have hn1 : n1 ≤ n := by rw [← hN]; exact Nat.div_le_self _ _
  have hp1 : 0 < n1 := by rw [← hN, ← hg]; exact Nat.div_pos (Nat.le_of_dvd hn (Nat.gcd_dvd_left n k)) (by rw [hg]; exact hgp)
  have hk1 : k1 ≤ n1 := by rw [← hN, ← hK]; exact Nat.div_le_div_right hk
  rw [hN, hK] at hlow hred hrr ⊢
  have hne' : g ≠ 1 → n1 ≠ n := fun h e => by
    have e2 : n1 * g = n := by rw [← hN]; exact Nat.div_mul_cancel (by rw [← hg]; exact Nat.gcd_dvd_left n k)
    rw [e] at e2
    have : n * 2 ≤ n * g := Nat.mul_le_mul_left _ (by omega)
    omega
  have heq : g = 1 → n1 = n ∧ k1 = k := fun h => by rw [← hN, ← hK, h, Nat.div_one, Nat.div_one]; exact ⟨rfl, rfl⟩
  have hC2 : ∀ nq, Cache ((w1.alloc (.cells #[.int .i64 n1, .int .i64 k1] 74)).drewN nq) b c := fun nq => (HC.out.alloc _).drewN nq
  have hG2 : ∀ nq, w.grownBy ((w1.alloc (.cells #[.int .i64 n1, .int .i64 k1] 74)).drewN nq) (some b) := fun nq => grown_drewN ((grown_up HG.out _).trans (grown_up (World.grownBy_alloc _ _ none) _)) nq
  have H2 := Lib.hid hC2
  have H3 := Lib.hid hG2
  clear hC2 hG2
  unfold frac
  by_cases h1 : g = 1
  · obtain ⟨rfl, rfl⟩ := heq h1
    subst h1
    clear heq hne' hN hK L
    go_wp2_with fail
    go_quiet (fail)
    have HC2 : Hid _ := H2.out nq
    have HG2 : Hid _ := H3.out nq
    clear H2 H3
    by_cases h0 : k1 = 0
    · have HT := Lib.hid (turn_zero hlow h0)
      subst h0
      go_wp2_with fail
      go_ret
      rw [HT.out]
      exact ⟨_, _, rfl, isF_one, isF_zero, Cache.mono HC2.out (by omega), HG2.out⟩
    · have h0' : ¬ (k1 : Int) = 0 := by omega
      by_cases h2 : n1 < 2 * k1
      · have HT := Lib.hid (turn_two hlow h0 hn hk h2)
        have h2' : (n1 : Int) < 2 * (k1 : Int) := by omega
        have hmr := mu_two hg h2 hk hmu
        have hfr := fits_two h2 hk hfit
        have hpr := hn
        have hlr : n1 - k1 ≤ n1 := by omega
        obtain ⟨m, hm⟩ : ∃ m, n1 - k1 = m := ⟨_, rfl⟩
        have hm' : (n1 : Int) - (k1 : Int) = (m : Int) := by omega
        rw [hm] at hmr hfr hlr HT
        clear hm
        go_wp2_with (first
          | (go_at_call 31; refine (ih n1 m b c _ hmr hfr hpr hlr HC2.out (by omega)).mono ?_; rintro e w3 ⟨x, y, rfl, hx, hy, hc3, hg3⟩; have HX := Lib.hid hx; have HY := Lib.hid hy; have HC3 := Lib.hid hc3; have HG3 := Lib.hid ((HG2.out).trans hg3); clear hx hy hc3 hg3)
          | (go_at_call 56; refine (conj_impl _ _ _).mono ?_; rintro e w4 ⟨rfl, hb4⟩; have HB4 := Lib.hid hb4; clear hb4))
        go_ret
        rw [HT.out]
        exact ⟨_, _, rfl, HX.out, HY.out.neg, HC3.out.grown_some (grown_of_below HB4.out), HG3.out.trans (grown_up (grown_of_below HB4.out) _)⟩
      · have h2' : ¬ (n1 : Int) < 2 * (k1 : Int) := by omega
        by_cases h4 : n1 < 4 * k1
        · have HT := Lib.hid (turn_four hlow h0 hn h2 h4)
          have h4' : (n1 : Int) < 4 * (k1 : Int) := by omega
          have hmr := mu_four hg h2 h4 hmu
          have hfr := fits_four h2 h4 hfit
          have hpr : 0 < 2 * n1 := by omega
          have hlr : n1 - 2 * k1 ≤ 2 * n1 := by omega
          obtain ⟨m, hm⟩ : ∃ m, n1 - 2 * k1 = m := ⟨_, rfl⟩
          obtain ⟨nn, hnn⟩ : ∃ nn, 2 * n1 = nn := ⟨_, rfl⟩
          have hm' : (n1 : Int) - 2 * (k1 : Int) = (m : Int) := by omega
          have hnn' : 2 * (n1 : Int) = (nn : Int) := by omega
          rw [hm, hnn] at hmr hfr hlr HT
          rw [hnn] at hpr
          clear hm hnn
          go_wp2_with (first
            | (go_at_call 31; refine (ih nn m b c _ hmr hfr hpr hlr HC2.out (by omega)).mono ?_; rintro e w3 ⟨x, y, rfl, hx, hy, hc3, hg3⟩; have HX := Lib.hid hx; have HY := Lib.hid hy; have HC3 := Lib.hid hc3; have HG3 := Lib.hid ((HG2.out).trans hg3); clear hx hy hc3 hg3))
          go_ret
          rw [HT.out]
          exact ⟨_, _, rfl, HX.out.neg, HY.out, HC3.out, HG3.out⟩
        · have h4' : ¬ (n1 : Int) < 4 * (k1 : Int) := by omega
          by_cases h8 : n1 < 8 * k1
          · have HT := Lib.hid (turn_eight hlow h0 hn h2 h4 h8)
            have h8' : (n1 : Int) < 8 * (k1 : Int) := by omega
            have hmr := mu_eight hg h4 h8 hmu
            have hfr := fits_eight h4 h8 hfit
            have hpr : 0 < 4 * n1 := by omega
            have hlr : n1 - 4 * k1 ≤ 4 * n1 := by omega
            obtain ⟨m, hm⟩ : ∃ m, n1 - 4 * k1 = m := ⟨_, rfl⟩
            obtain ⟨nn, hnn⟩ : ∃ nn, 4 * n1 = nn := ⟨_, rfl⟩
            have hm' : (n1 : Int) - 4 * (k1 : Int) = (m : Int) := by omega
            have hnn' : 4 * (n1 : Int) = (nn : Int) := by omega
            rw [hm, hnn] at hmr hfr hlr HT
            rw [hnn] at hpr
            clear hm hnn
            go_wp2_with (first
              | (go_at_call 31; refine (ih nn m b c _ hmr hfr hpr hlr HC2.out (by omega)).mono ?_; rintro e w3 ⟨x, y, rfl, hx, hy, hc3, hg3⟩; have HX := Lib.hid hx; have HY := Lib.hid hy; have HC3 := Lib.hid hc3; have HG3 := Lib.hid ((HG2.out).trans hg3); clear hx hy hc3 hg3))
            go_ret
            rw [HT.out]
            exact ⟨_, _, rfl, HY.out, HX.out, HC3.out, HG3.out⟩
          · have h8' : ¬ (n1 : Int) < 8 * (k1 : Int) := by omega
            by_cases he : 8 * k1 = n1
            · have HT := Lib.hid (turn_eighth hlow h0 h2 h4 h8 he)
              have he' : 8 * (k1 : Int) = (n1 : Int) := by omega
              go_wp2_with (first
                | (go_at_call 38; go_in))
              go_ret
              rw [HT.out]
              exact ⟨_, _, rfl, isF_halfRoot, isF_halfRoot, Cache.mono HC2.out (by omega), HG2.out⟩
            · have HT := Lib.hid (turn_series hlow h0 h2 h4 h8 he)
              have he' : ¬ 8 * (k1 : Int) = (n1 : Int) := by omega
              have S := fun w => series_impl n1 k1 (by omega) (by omega) w
              unfold frac at S
              go_wp2_with (first
                | (go_at_call 57; refine (S _).mono ?_; rintro e w4 ⟨x, y, rfl, hx, hy, hb4⟩; have HX := Lib.hid hx; have HY := Lib.hid hy; have HB4 := Lib.hid hb4; clear hx hy hb4))
              go_ret
              rw [HT.out]
              exact ⟨_, _, rfl, HX.out, HY.out, (Cache.mono HC2.out (by omega)).grown_some (grown_of_below HB4.out), HG2.out.trans (grown_up (grown_of_below HB4.out) _)⟩
  · have hnn := hne' h1
    have hnnI : ¬ (n1 : Int) = (n : Int) := by omega
    have hmr : mu n1 k1 < f := by
      unfold mu at hmu ⊢
      rw [hrr, if_pos hlow]
      rw [if_neg (by rw [hg]; exact h1)] at hmu
      omega
    have hfr : fits n1 k1 := by
      unfold fits at hfit ⊢
      rw [hrr]
      have : n1 * 4 ^ rank n k ≤ n * 4 ^ rank n k := Nat.mul_le_mul_right _ hn1
      omega
    have hpr := hp1
    have hlr := hk1
    have HT := Lib.hid hred
    clear heq hred hne' hN hK L
    go_wp2_with fail
    go_quiet (fail)
    have HC2 : Hid _ := H2.out nq
    have HG2 : Hid _ := H3.out nq
    clear H2 H3
    go_wp2_with (first
      | (go_at_call 31; refine (ih n1 k1 b c _ hmr hfr hpr hlr HC2.out (by omega)).mono ?_; rintro e w3 ⟨x, y, rfl, hx, hy, hc3, hg3⟩; have HX := Lib.hid hx; have HY := Lib.hid hy; have HC3 := Lib.hid hc3; have HG3 := Lib.hid ((HG2.out).trans hg3); clear hx hy hc3 hg3))
    go_ret
    rw [HT.out]
    exact ⟨_, _, rfl, HX.out, HY.out, HC3.out, HG3.out⟩

end Go.Proofs.Yteamnfockjnilaa
/-
  The walk of the program's turn, and of TurnOf.
-/
set_option linter.unusedVariables false
set_option linter.unusedSimpArgs false
namespace Go.Proofs.Yteamnfockjnilaa
open Go.RowKit Flt Turn

theorem wf_nat {n : Nat} (h : n ≤ 4611686018427387904) : (Lit.int .i64 (n : Int)).wf = true := WalkArith.wf_i64 (by omega)

set_option maxRecDepth 100000 in
set_option maxHeartbeats 8000000 in
theorem turn_step (f : Nat) (ih : TurnOK f) : TurnOK (f + 1) := by
  intro n k b c w hmu hfit hn hk hc hcf
  have hnb : n ≤ 1152921504606846976 := by
    unfold fits at hfit
    have : n * 1 ≤ n * 4 ^ rank n k := Nat.mul_le_mul_left _ (Nat.pow_pos (by omega))
    omega
  have F := fun w hc => find_impl f ih n k b c w hmu hfit hn hk hc (by omega)
  have hwn := wf_nat (n := n) (by omega)
  have hwk := wf_nat (n := k) (by omega)
  have HC := Lib.hid (hc.alloc (.cells #[.int .i64 n, .int .i64 k] 74))
  have hblt := hc.lt
  have hne : ¬ w.heap.size = b := by omega
  clear hc
  go_enter Try.func31, Try.ntmps31
  go_wp2_with (at_lookup; refine wpList_look_cache _ rfl _ _ 43 rfl Try.underlying43 b c HC.out rfl n k rfl hwn hwk ?_ ?_)
  · refine (F _ HC.out).mono ?_
    rintro e w1 ⟨x, y, rfl, hx, hy, hc1, hg1⟩
    have c0 : w1.cell? ⟨w.heap.size, 0, none⟩ = some (.int .i64 n) := hg1.cell (by simp) (by simp; omega)
    have c1 : w1.cell? ⟨w.heap.size, 1, none⟩ = some (.int .i64 k) := hg1.cell (by simp) (by simp; omega)
    have HG1 := Lib.hid ((grown_up (World.grownBy_alloc w (.cells #[.int .i64 n, .int .i64 k] 74) none) (some b)).trans hg1)
    have HC1 := Lib.hid hc1
    clear hc1 hg1 F
    go_wp2_with (at_mapUpdate; refine wpList_store_cache _ rfl _ _ _ 43 rfl Try.underlying43 b (c + f) HC1.out (by simp only [maxLen]; omega) rfl n k rfl hwn hwk x y rfl hx hy ?_; intro w2 hc2 hg2; have HC2 := Lib.hid hc2; have HG2 := Lib.hid (HG1.out.trans hg2); clear hc2 hg2)
    go_ret
    exact ⟨_, _, rfl, hx, hy, HC2.out, HG2.out⟩
  · intro x y hx hy
    have HX := Lib.hid hx
    have HY := Lib.hid hy
    clear hx hy
    go_wp2
    go_ret
    exact ⟨_, _, rfl, HX.out, HY.out, Cache.mono HC.out (by omega), grown_up (World.grownBy_alloc _ _ none) _⟩

theorem turn_ok : ∀ f, TurnOK f
  | 0 => fun n k b c w h => by omega
  | f + 1 => turn_step f (turn_ok f)

theorem mu_lt (n k : Nat) : mu n k < 8 := by
  unfold mu
  have := rank_le n k
  split <;> omega
theorem fits_small {n k : Nat} (hn : n ≤ 100000) : fits n k := by
  unfold fits
  have h1 : 4 ^ rank n k ≤ 4 ^ 3 := Nat.pow_le_pow_right (by omega) (rank_le n k)
  have h2 : n * 4 ^ rank n k ≤ n * 4 ^ 3 := Nat.mul_le_mul_left _ h1
  omega

/-- A turn by the cache: at most eight entries more. -/
theorem turn_cache (n k b c : Nat) (w : World) (hn : 0 < n) (hn2 : n ≤ 100000) (hk : k ≤ n) (hc : Cache w b c) (hcf : c ≤ 4000000000000000000) :
    Calls Try.prog 31 #[.map (some b), .int .i64 n, .int .i64 k] w (RetCa (turn n k) b (c + 8) w) :=
  turn_ok 8 n k b c w (mu_lt n k) (fits_small hn2) hn hk hc (by omega)

end Go.Proofs.Yteamnfockjnilaa
/-
  The walk of the law on TurnOf.
-/
set_option linter.unusedVariables false
set_option linter.unusedSimpArgs false
namespace Go.Proofs.Yteamnfockjnilaa
open Go.RowKit Flt Turn

end Go.Proofs.Yteamnfockjnilaa
/-
  The walks of eqInt64S, markInt64S and heldInt64S over slices that the call itself has made.
-/
set_option linter.unusedVariables false
set_option linter.unusedSimpArgs false
namespace Go.Proofs.Yteamnfockjnilaa
open Go.RowKit

/-- Integers as values. -/
def ints (zs : List Int) : List Value := zs.map (Value.int .i64)
theorem ints_length (zs : List Int) : (ints zs).length = zs.length := by simp [ints]
theorem ints_getD {zs : List Int} {j : Nat} (h : j < zs.length) : (ints zs).getD j undef = .int .i64 (zs.getD j 0) := getD_map _ zs 0 h

/-- The numbers that are laid in a row: from m on. -/
def marks (m n : Nat) : List Int := (List.range n).map fun i => ((m + i : Nat) : Int)

theorem marks_length (m n : Nat) : (marks m n).length = n := by simp [marks]
theorem marks_getD {m n j : Nat} (h : j < n) : (marks m n).getD j 0 = ((m + j : Nat) : Int) := by simp [marks, List.getD, h]

/-- The first k values of a row are turned, by f. -/
def turned (f : Nat → Value) (k : Nat) (cs : List Value) : List Value := (List.range k).map f ++ cs.drop k
theorem turned_zero (f : Nat → Value) (cs : List Value) : turned f 0 cs = cs := by simp [turned]
theorem turned_all (f : Nat → Value) (cs : List Value) : turned f cs.length cs = (List.range cs.length).map f := by simp [turned]
theorem turned_step {f : Nat → Value} {k : Nat} {cs : List Value} (h : k < cs.length) : (turned f k cs).set k (f k) = turned f (k + 1) cs := by
  unfold turned
  rw [List.set_append_right _ _ (by simp), List.length_map, List.length_range, Nat.sub_self]
  rw [List.drop_eq_getElem_cons h, List.set_cons_zero]
  rw [List.range_succ, List.map_append, List.append_assoc]
  rfl
theorem turned_length {f : Nat → Value} {k : Nat} {cs : List Value} (h : k ≤ cs.length) : (turned f k cs).length = cs.length := by simp [turned]; omega

theorem ints_marks (m n : Nat) : ints (marks m n) = (List.range n).map fun i => .int .i64 ((m + i : Nat) : Int) := by simp [ints, marks]

end Go.Proofs.Yteamnfockjnilaa
/-
  Slices of wide complex numbers that the call itself has made: compared, marked, held; and listOf.
-/
set_option linter.unusedVariables false
set_option linter.unusedSimpArgs false
namespace Go.Proofs.Yteamnfockjnilaa
open Go.RowKit Flt Turn

/-- The numbers that are laid in a row: from m on, with the imaginary part 1. -/
def cmark (m i : Nat) : Value := .complex .f64 (floatOfInt .f64 ((m + i : Nat) : Int)) 4607182418800017408
def cmarks (m n : Nat) : List Value := (List.range n).map (cmark m)
theorem cmarks_length (m n : Nat) : (cmarks m n).length = n := by simp [cmarks]
theorem cmarks_getD {m n j : Nat} (h : j < n) : (cmarks m n).getD j undef = cmark m j := by simp [cmarks, List.getD, h]

theorem eqC_self (k : FloatKind) (a b : Nat) (ha : nan k.format a = false) (hb : nan k.format b = false) : k.format.order a a = some .eq ∧ k.format.order b b = some .eq := ⟨ord_eq ha ha rfl, ord_eq hb hb rfl⟩

end Go.Proofs.Yteamnfockjnilaa
/-
  The model's products and rests.
-/
set_option linter.unusedVariables false
set_option linter.unusedSimpArgs false
namespace Go.Proofs.Yteamnfockjnilaa
open Go.RowKit Flt Turn Fast
attribute [local go_sem] run_fadd run_fsub run_fmul run_fquo run_cadd run_csub

theorem rest_spec (n j : Nat) (hn : 0 < n) (hn2 : n ≤ 100000) (hj : j ≤ 10000000000) (w : World) :
    Calls Try.prog 21 #[.int .i64 (-(j : Int)), .int .i64 n] w fun e w' => e = .returned (.int .i64 ((rst n j : Nat) : Int)) ∧ w' = w := by
  obtain ⟨e, he⟩ : ∃ e, j % n = e := ⟨_, rfl⟩
  have hen : e < n := by rw [← he]; exact Nat.mod_lt _ hn
  have he1 : (j : Int) % (n : Int) = (e : Int) := by rw [← he]; rfl
  obtain ⟨f, hf⟩ : ∃ f, (n - e) % n = f := ⟨_, rfl⟩
  have hf0 : ((n - e : Nat) : Int) = -(e : Int) + (n : Int) := by omega
  have hf1 : (-(e : Int) + (n : Int)).tmod (n : Int) = (f : Int) := by rw [← hf0, ← hf]; rfl
  have hf2 : (-(e : Int) + (n : Int)) % (n : Int) = (f : Int) := by rw [← hf0, ← hf]; rfl
  have HR : Hid (rst n j = f) := by
    show (n - j % n) % n = f
    rw [he, hf]
  clear hf he hf0
  rw [HR.out]
  go_enter Try.func21, Try.ntmps21
  go_wp2
  go_ret
  exact ⟨rfl, rfl⟩

end Go.Proofs.Yteamnfockjnilaa
/-
  AddSignals, EnergyOf, DotOf, SumOf, NarrowSignal, WidenSignal, ScaleSignal of the program.
-/
set_option linter.unusedVariables false
set_option linter.unusedSimpArgs false
namespace Go.Proofs.Yteamnfockjnilaa
open Go.RowKit Flt Fast
attribute [local go_sem] run_fadd run_fsub run_fmul run_fquo run_cadd run_csub

/-- The shape of what is read. -/
theorem Reads.form {w : World} {v : Value} {cs : List Value} (h : Reads w v cs) : ∃ a cap, v = .slice a cs.length cap := by
  cases h with
  | none a cap => exact ⟨a, cap, rfl⟩
  | row g cap L cs hL => subst hL; exact ⟨_, cap, rfl⟩

theorem checkPair_any (a a' : Option Addr) (L cap cap' : Nat) (hL : L ≤ 256) (w : World) :
    Calls Try.prog 26 #[.slice a L cap, .slice a' L cap'] w fun e w' => e = .returned (.int .i64 0) ∧ w' = w := by
  go_enter Try.func26, Try.ntmps26
  go_wp2
  go_ret
  exact ⟨rfl, rfl⟩

/-- The conjugate. -/
def conjZ (x : Z) : Z := (x.1, fneg .f64 x.2)

end Go.Proofs.Yteamnfockjnilaa
/-
  Slices of floats that came in or that the call has made: opened, compared, copied, marked.
-/
set_option linter.unusedVariables false
set_option linter.unusedSimpArgs false
namespace Go.Proofs.Yteamnfockjnilaa
open Go.RowKit Flt

section
variable {H : Type} {enc : TypeId × Value → H} {P : Program} {w : World} {base : Nat} {held : Bool}

theorem trod_float {t : TypeId} {k : FloatKind} {spare : Nat → Bool} {fuel : Nat} {cs : List Value} {x : DataW H × List MemPlace} (ht : P.underlying t = some (.float k)) (h : DataW.trod enc P w base spare held fuel t cs = some x) :
    ∃ n, cs = [.float k n] ∧ (Lit.float k n).wf = true := by
  cases fuel with
  | zero => simp [DataW.trod] at h
  | succ n =>
    unfold DataW.trod at h
    rw [ht] at h
    split at h <;> simp_all

end

/-- Floats as values. -/
def flts (zs : List Nat) : List Value := zs.map (Value.float .f64)
theorem flts_length (zs : List Nat) : (flts zs).length = zs.length := by simp [flts]
theorem flts_getD {zs : List Nat} {j : Nat} (h : j < zs.length) : (flts zs).getD j undef = .float .f64 (zs.getD j 0) := getD_map _ zs 0 h
theorem flts_snoc (zs : List Nat) (a : Nat) : flts (zs ++ [a]) = flts zs ++ [.float .f64 a] := by simp [flts]

/-- A slice of floats as the walk reads it, wherever it lies. -/
inductive ReadsF (w : World) : Value → List Nat → Prop
  | none (a : Option Addr) (cap : Nat) : ReadsF w (.slice a 0 cap) []
  | row (x : Addr) (cap L : Nat) (zs : List Nat) (hL : zs.length = L) (h0 : 0 < L) (hc : L ≤ cap) (hm : cap ≤ maxLen) (hz : ∀ z ∈ zs, z < 18446744073709551616) (h : ∀ j, j < L → w.cell? (x.add j) = some (.float .f64 (zs.getD j 0))) : ReadsF w (.slice (some x) L cap) zs

/-- A slice of floats that came in. -/
def IsRowF (w : World) (a : Option Addr) (len cap : Nat) (zs : List Nat) : Prop := ReadsF w (.slice a len cap) zs ∧ (∀ x, a = some x → 0 < len → x.block < w.heap.size)

theorem isRowF_open {H : Type} {enc : TypeId × Value → H} {P : Program} {w : World} {base : Nat} {held : Bool} {t e : TypeId} {fuel : Nat} {a : Option Addr} {len cap : Nat} {x : DataW H × List MemPlace}
    (ht : P.underlying t = some (.slice e)) (he : P.underlying e = some (.float .f64)) (hc : P.cellsOf e = 1) (h : DataW.trod enc P w base (fun _ => true) held fuel t (Value.slice a len cap).cells.toList = some x) : ∃ zs, IsRowF w a len cap zs := by
  have hcs : (Value.slice a len cap).cells.toList = [.slice a len cap] := by simp [Value.cells]
  rw [hcs] at h
  rcases Go.Deep.open_slice1 ht hc h with ⟨h0, _⟩ | ⟨x, l, c, m, n, V, D, Pl, h1, hb, hl, hm, hmm, rfl, hx⟩
  · simp only [List.cons.injEq, Value.slice.injEq, and_true] at h0
    obtain ⟨rfl, rfl, rfl⟩ := h0
    exact ⟨[], .none _ _, fun x hx => by cases hx⟩
  · simp only [List.cons.injEq, Value.slice.injEq, and_true] at h1
    obtain ⟨rfl, rfl, rfl⟩ := h1
    simp only [if_true] at hmm
    subst hmm
    have hV : ∀ i, i < m → ∃ z, V i = .float .f64 z ∧ z < 18446744073709551616 := fun i hi => by
      obtain ⟨z, e1, e2⟩ := trod_float he (hx i hi).2
      exact ⟨z, by simpa using e1, by simpa [Lit.wf] using e2⟩
    by_cases h0 : len = 0
    · subst h0
      exact ⟨[], .none _ _, fun x hx h => by omega⟩
    · let B : Nat → Nat := fun i => match V i with | .float _ z => z | _ => 0
      have hB : ∀ i, i < m → V i = .float .f64 (B i) ∧ B i < 18446744073709551616 := fun i hi => by
        obtain ⟨z, e1, e2⟩ := hV i hi
        have : B i = z := by show (match V i with | .float _ z => z | _ => 0) = z; rw [e1]
        rw [this]; exact ⟨e1, e2⟩
      refine ⟨(List.range len).map B, .row x m len _ (by simp) (by omega) hl hm ?_ ?_, fun y hy _ => ?_⟩
      · intro z hz
        obtain ⟨i, hi, rfl⟩ := List.mem_map.1 hz
        exact (hB i (by have := List.mem_range.1 hi; omega)).2
      · intro j hj
        rw [(hx j (by omega)).1, (hB j (by omega)).1]
        simp [List.getD, hj]
      · cases hy
        have := World.block_lt_of_cell? _ _ (hx 0 (by omega)).1
        rwa [addr_block] at this

theorem ReadsF.of_row {w : World} {B : Nat} {e : TypeId} {v : Value} {zs : List Nat} (h : Row w B e v (flts zs)) (hz : ∀ z ∈ zs, z < 18446744073709551616) : ReadsF w v zs := by
  have h' := h
  rcases h.shape with ⟨a, cap, rfl, h0⟩ | ⟨g, cap, rfl, h0, _, _, h1, h2⟩
  · have : zs = [] := by simpa [flts] using h0
    subst this
    exact .none a cap
  · rw [flts_length] at h0 h1 h' ⊢
    refine .row _ cap _ zs rfl h0 h1 h2 hz fun j hj => ?_
    rw [addr_lit, h'.cellAt hj, flts_getD hj]

theorem ReadsF.below {w w' : World} {B : Nat} {v : Value} {zs : List Nat} (h : ReadsF w v zs) (hb : Below B w w') (hv : ∀ x L cap, v = .slice (some x) L cap → 0 < L → x.block < B) : ReadsF w' v zs := by
  cases h with
  | none a cap => exact .none a cap
  | row x cap L zs hL h0 hc hm hz hh =>
    refine .row x cap L zs hL h0 hc hm hz fun j hj => ?_
    rw [hb.cell (by rw [addr_block]; exact hv x L cap rfl h0)]
    exact hh j hj
theorem ReadsF.drewN {w : World} {v : Value} {zs : List Nat} (h : ReadsF w v zs) (n : Nat) : ReadsF (w.drewN n) v zs := by
  cases h with
  | none a cap => exact .none a cap
  | row x cap L zs hL h0 hc hm hz hh => exact .row x cap L zs hL h0 hc hm hz hh

theorem IsRowF.below {w w' : World} {a : Option Addr} {len cap : Nat} {zs : List Nat} (h : IsRowF w a len cap zs) (hb : Below w.heap.size w w') : ReadsF w' (.slice a len cap) zs :=
  h.1.below hb (fun x L c e hL => by
    simp only [Value.slice.injEq] at e
    exact h.2 x e.1 (by omega))

theorem info_f64 : (Try.prog.info? 32).map (fun i => (i.zero, i.size, i.bytes)) = some (some (.float .f64 0), 1, 8) := by kernel_rfl

theorem fillF_step {zs : List Nat} {n k : Nat} (hk : k < n) (hz : n ≤ zs.length) :
    (flts (zs.take k) ++ List.replicate (n - k) (Value.float .f64 0)).set k (.float .f64 (zs.getD k 0)) = flts (zs.take (k + 1)) ++ List.replicate (n - (k + 1)) (Value.float .f64 0) := by
  have hl : (flts (zs.take k)).length = k := by rw [flts_length, List.length_take]; omega
  rw [List.set_append_right _ _ (by omega), hl, Nat.sub_self]
  obtain ⟨m, hm⟩ : ∃ m, n - k = m + 1 := ⟨n - k - 1, by omega⟩
  rw [hm, List.replicate_succ, List.set_cons_zero, show n - (k + 1) = m by omega, List.take_add_one]
  have e : zs[k]?.toList = [zs.getD k 0] := by simp [List.getD, show k < zs.length by omega]
  rw [e, flts_snoc, List.append_assoc]
  rfl

theorem grown_newF {w w1 w2 : World} {row : Option Nat} {B : Nat} (h : w.grownBy w1 row) (k : w1.grownBy w2 (some B)) (hB : w.heap.size ≤ B) : w.grownBy w2 row :=
  ⟨k.os.trans h.os, k.tape.trans h.tape, k.output.trans h.output, Nat.le_trans h.size k.size, fun j hj hr => (k.block j (Nat.lt_of_lt_of_le hj h.size) (by simp; omega)).trans (h.block j hj hr)⟩

/-- The numbers that are laid in a row of floats: from m on. -/
def fmark (m i : Nat) : Value := .float .f64 (floatOfInt .f64 ((m + i : Nat) : Int))
def fmarks (m n : Nat) : List Value := (List.range n).map (fmark m)
theorem fmarks_length (m n : Nat) : (fmarks m n).length = n := by simp [fmarks]
theorem fmarks_getD {m n j : Nat} (h : j < n) : (fmarks m n).getD j undef = fmark m j := by simp [fmarks, List.getD, h]

end Go.Proofs.Yteamnfockjnilaa
/-
  The walk of heldFloat64S.
-/
set_option linter.unusedVariables false
set_option linter.unusedSimpArgs false
namespace Go.Proofs.Yteamnfockjnilaa
open Go.RowKit Flt

end Go.Proofs.Yteamnfockjnilaa
/-
  The laws on functions from floats to floats: what is returned, and three rows in blocks of their own under marks.
-/
set_option linter.unusedVariables false
set_option linter.unusedSimpArgs false
namespace Go.Proofs.Yteamnfockjnilaa
open Go.RowKit Flt

theorem ReadsF.facts' {w : World} {a : Option Addr} {len cap : Nat} {zs : List Nat} (h : ReadsF w (.slice a len cap) zs) : zs.length = len ∧ (∀ z ∈ zs, z < 18446744073709551616) ∧ (len : Int) ≤ 9223372036854775807 := by
  generalize hv : (Value.slice a len cap) = v at h
  cases h with
  | none a cap => simp only [Value.slice.injEq] at hv; obtain ⟨-, rfl, -⟩ := hv; exact ⟨rfl, fun z hz => by simp at hz, by omega⟩
  | row x cap L zs hL h0 hc hm hz hh => simp only [Value.slice.injEq] at hv; obtain ⟨-, rfl, -⟩ := hv; exact ⟨hL, hz, maxLen_int (Nat.le_trans hc hm)⟩

/-- A float and a code are returned. -/
def FloatTo (r : Option Nat) (c : Int) (w : World) (e : Ending) (w' : World) : Prop :=
  ∃ a, e = .returned (.tuple #[.float .f64 a, .int .i64 c]) ∧ IsF a r ∧ Below w.heap.size w w'

/-- A list of floats and a code are returned. -/
def FloatsTo (n : Nat) (z : Nat → Option Nat) (c : Int) (w : World) (e : Ending) (w' : World) : Prop :=
  ∃ v fs, e = .returned (.tuple #[v, .int .i64 c]) ∧ Row w' w.heap.size 32 v (flts fs) ∧ fs.length = n ∧ (∀ i, i < n → IsF (fs.getD i 0) (z i)) ∧ Below w.heap.size w w'

theorem all_lt {fs : List Nat} {z : Nat → Option Nat} (h : ∀ i, i < fs.length → IsF (fs.getD i 0) (z i)) : ∀ x ∈ fs, x < 18446744073709551616 := fun x hx => by
  obtain ⟨i, hi, rfl⟩ := List.getElem_of_mem hx
  have := (h i hi).lt
  simpa [List.getD, hi] using this

theorem apart_low {v u : Value} {w : World} {B1 B2 : Nat} {cs : List Value} {e : TypeId} (hv : ∀ b, v.ownBlock = some b → b < B1) (hB : B1 ≤ B2) (hu : Row w B2 e u cs) : v.ownBlock = none ∨ v.ownBlock ≠ u.ownBlock := by
  cases h : v.ownBlock with
  | none => exact .inl rfl
  | some b =>
    refine .inr fun e => ?_
    have := hv b h
    have := (hu.lt b e.symm).1
    omega
theorem apart_low' {v u : Value} {w : World} {B1 B2 : Nat} {cs : List Value} {e : TypeId} (hv : ∀ b, v.ownBlock = some b → b < B1) (hB : B1 ≤ B2) (hu : Row w B2 e u cs) : u.ownBlock = none ∨ u.ownBlock ≠ v.ownBlock := by
  cases h : u.ownBlock with
  | none => exact .inl rfl
  | some b =>
    refine .inr fun e => ?_
    have := hv b e.symm
    have := (hu.lt b h).1
    omega

/-- The model's result v, the argument y and the program's result u, one behind the other. -/
structure Three (w : World) (e ea : TypeId) (B0 B1 B2 : Nat) (v y u : Value) (f c d : List Value) : Prop where
  rv : Row w B0 e v f
  ry : Row w B1 ea y c
  ru : Row w B2 e u d
  lowv : ∀ b, v.ownBlock = some b → b < B1
  lowy : ∀ b, y.ownBlock = some b → b < B2
  le : B1 ≤ B2

section
variable {w w' : World} {e ea : TypeId} {B0 B1 B2 : Nat} {v y u : Value} {f c d : List Value}
theorem Three.below (h : Three w e ea B0 B1 B2 v y u f c d) (hb : Below w.heap.size w w') : Three w' e ea B0 B1 B2 v y u f c d :=
  ⟨h.rv.below hb (fun k e => (h.rv.lt k e).2), h.ry.below hb (fun k e => (h.ry.lt k e).2), h.ru.below hb (fun k e => (h.ru.lt k e).2), h.lowv, h.lowy, h.le⟩
theorem Three.draws (h : Three w e ea B0 B1 B2 v y u f c d) (n : Nat) : Three (w.drewN n) e ea B0 B1 B2 v y u f c d := ⟨h.rv.drewN n, h.ry.drewN n, h.ru.drewN n, h.lowv, h.lowy, h.le⟩
theorem Three.markY {c' : List Value} (h : Three w e ea B0 B1 B2 v y u f c d) (hg : w.grownBy w' y.ownBlock) (hr : Row w' B1 ea y c') : Three w' e ea B0 B1 B2 v y u f c' d :=
  ⟨h.rv.kept hg (apart_low h.lowv (Nat.le_refl _) h.ry), hr, h.ru.kept hg (apart_low' h.lowy (Nat.le_refl _) h.ru), h.lowv, h.lowy, h.le⟩
theorem Three.markU {d' : List Value} (h : Three w e ea B0 B1 B2 v y u f c d) (hg : w.grownBy w' u.ownBlock) (hr : Row w' B2 e u d') : Three w' e ea B0 B1 B2 v y u f c d' :=
  ⟨h.rv.kept hg (apart_low h.lowv h.le h.ru), h.ry.kept hg (apart_low h.lowy (Nat.le_refl _) h.ru), hr, h.lowv, h.lowy, h.le⟩
end

end Go.Proofs.Yteamnfockjnilaa
/-
  listOf and everyOf over floats; how floats that lie in a row are read.
-/
set_option linter.unusedVariables false
set_option linter.unusedSimpArgs false
namespace Go.Proofs.Yteamnfockjnilaa
open Go.RowKit Flt Fast

theorem fl_form {w : World} {v : Value} {cs : List Value} (h : Reads w v cs) : ∃ a cap, v = .slice a cs.length cap := by
  cases h with
  | none a cap => exact ⟨a, cap, rfl⟩
  | row g cap L cs hL => subst hL; exact ⟨_, cap, rfl⟩

theorem fl_reads {w : World} {v : Value} {xs : List Nat} (h : Reads w v (flts xs)) : ∀ a n cap, v = .slice a n cap → ∀ k, k < n → ∃ g, a = some ⟨g, 0, none⟩ ∧ g < w.heap.size ∧ w.cell? ⟨g, k, none⟩ = some (.float .f64 (xs.getD k 0)) := by
  intro a n cap e k hk
  generalize hcs : flts xs = cs at h
  cases h with
  | none a cap => simp only [Value.slice.injEq] at e; omega
  | row g cap L cs hL h0 hc hm hh =>
    simp only [Value.slice.injEq] at e
    obtain ⟨e1, e2, -⟩ := e
    have hl : xs.length = L := by rw [← hL, ← hcs, flts_length]
    have hc := hh k (by omega)
    refine ⟨g, e1.symm, World.block_lt_of_cell? _ _ hc, ?_⟩
    rw [hc, ← hcs, flts_getD (by omega)]

theorem fl_cap {w : World} {v : Value} {cs : List Value} (h : Reads w v cs) : ∀ a n cap, v = .slice a n cap → (n : Int) ≤ 9223372036854775807 := by
  intro a n cap e
  cases h with
  | none a cap => simp only [Value.slice.injEq] at e; omega
  | row g cap L cs hL h0 hc hm hh => simp only [Value.slice.injEq] at e; obtain ⟨-, rfl, -⟩ := e; exact maxLen_int (Nat.le_trans hc hm)

theorem flts_fvals (xs : List Nat) : flts xs = fvals xs := rfl

theorem up_row {w w' : World} (h : w.grownBy w' none) (row : Option Nat) : w.grownBy w' row := ⟨h.os, h.tape, h.output, h.size, fun k hk _ => h.block k hk (by simp)⟩

/-- What was converted to a number up to the choice of a NaN. -/
def wO (xs : List Nat) (i : Nat) : Option Nat := cn .f64 (xs.getD i 0)
theorem wO_isF {xs : List Nat} (hz : ∀ z ∈ xs, z < 18446744073709551616) {i : Nat} (h : i < xs.length) : IsF (xs.getD i 0) (wO xs i) :=
  IsF.self (hz _ (by rw [List.getD_eq_getElem?_getD, List.getElem?_eq_getElem h]; exact List.getElem_mem _))

/-- The first t floats of those that stand p places apart, from the place r on. -/
def partF (xs : List Nat) (r p t : Nat) : List Nat := (List.range t).map fun i => xs.getD (r + i * p) 0
theorem partF_length (xs : List Nat) (r p t : Nat) : (partF xs r p t).length = t := by simp [partF]
theorem partF_succ (xs : List Nat) (r p t : Nat) : partF xs r p (t + 1) = partF xs r p t ++ [xs.getD (r + t * p) 0] := by simp [partF, List.range_succ]
theorem partF_getD (xs : List Nat) (r p t : Nat) {i : Nat} (h : i < t) : (partF xs r p t).getD i 0 = xs.getD (r + i * p) 0 := by simp [partF, List.getD, h]

end Go.Proofs.Yteamnfockjnilaa
/-
  BlockCount, GainOf, PowerOf of both.
-/
set_option linter.unusedVariables false
set_option linter.unusedSimpArgs false
namespace Go.Proofs.Yteamnfockjnilaa
open Go.RowKit Flt Fast
attribute [local go_sem] run_fadd run_fsub run_fmul run_fquo run_cadd run_csub

theorem in_t (n lo hi : Int) (h : lo ≤ n ∧ n ≤ hi) (w : World) :
    Calls Try.prog 19 #[.int .i64 n, .int .i64 lo, .int .i64 hi] w fun e w' => e = .returned (.bool true) ∧ w' = w := by
  obtain ⟨h1, h2⟩ := h
  go_enter Try.func19, Try.ntmps19
  go_wp2
  go_ret
  exact ⟨rfl, rfl⟩
theorem in_f (n lo hi : Int) (h : ¬ (lo ≤ n ∧ n ≤ hi)) (w : World) :
    Calls Try.prog 19 #[.int .i64 n, .int .i64 lo, .int .i64 hi] w fun e w' => e = .returned (.bool false) ∧ w' = w := by
  by_cases h1 : lo ≤ n
  · have h2 : ¬ n ≤ hi := fun h' => h ⟨h1, h'⟩
    have g : decide (n ≤ hi) = false := decide_eq_false h2
    clear h
    go_enter Try.func19, Try.ntmps19
    go_wp2
    go_ret
    exact ⟨rfl, rfl⟩
  · have h2 : n < lo := by omega
    clear h h1
    go_enter Try.func19, Try.ntmps19
    go_wp2
    go_ret
    exact ⟨rfl, rfl⟩

/-- The number of blocks. -/
def cntR (a b c : Int) : Int := if a = 0 then 0 else if a ≤ b then 1 else 1 + (a - b + c - 1).tdiv c

/-- What BlockCount answers. -/
def bcK (a b c : Int) : Int := if (0 ≤ a ∧ a ≤ 256) ∧ (1 ≤ b ∧ b ≤ 256) ∧ (1 ≤ c ∧ c ≤ b) then 0 else 2
def bcR (a b c : Int) : Int := if (0 ≤ a ∧ a ≤ 256) ∧ (1 ≤ b ∧ b ≤ 256) ∧ (1 ≤ c ∧ c ≤ b) then cntR a b c else 0

/-- A cut as the program holds it. -/
def rightB (b c : Int) : Bool := decide ((1 ≤ c ∧ c ≤ b) ∧ b ≤ 256)

theorem cntR_max {a b c : Int} (ha : 0 ≤ a ∧ a ≤ 1000000) (hb : 1 ≤ b ∧ b ≤ 1000000) (hc : 1 ≤ c ∧ c ≤ b) (h0 : a ≠ 0) : cntR a b c = ((if a - b ≥ 0 then a - b else 0) + c - 1).tdiv c + 1 := by
  unfold cntR
  rw [if_neg h0]
  by_cases h1 : a ≤ b
  · rw [if_pos h1]
    have : (if a - b ≥ 0 then a - b else 0) + c - 1 = c - 1 := by split <;> omega
    rw [this, Int.tdiv_eq_ediv_of_nonneg (by omega), Int.ediv_eq_zero_of_lt (by omega) (by omega)]; rfl
  · rw [if_neg h1, if_pos (by omega)]; omega

end Go.Proofs.Yteamnfockjnilaa
/-
  GainOf, PowerOf of both.
-/
set_option linter.unusedVariables false
set_option linter.unusedSimpArgs false
namespace Go.Proofs.Yteamnfockjnilaa
open Go.RowKit Flt Fast
attribute [local go_sem] run_fadd run_fsub run_fmul run_fquo run_cadd run_csub

/-- The sum of a window, if it is not too long. -/
def tooK (n : Nat) : Int := if 256 < n then 3 else 0
def gainR (z : Nat → Option Nat) (n : Nat) : Option Nat := if 256 < n then some 0 else sumO z n
/-- A square. -/
def sqO (xs : List Nat) (i : Nat) : Option Nat := fop .mul .f64 (wO xs i) (wO xs i)

theorem sumO_first (z : Nat → Option Nat) {k : Nat} (h : k = 0) : sumO z (k + 1) = z k := by subst h; rfl

end Go.Proofs.Yteamnfockjnilaa
/-
  The sums over all hops: OverlapSums of both.
-/
set_option linter.unusedVariables false
set_option linter.unusedSimpArgs false
namespace Go.Proofs.Yteamnfockjnilaa
open Go.RowKit Flt Fast
attribute [local go_sem] run_fadd run_fsub run_fmul run_fquo run_cadd run_csub

/-- What is told of a window and a hop. -/
def hopK (n : Nat) (h : Int) : Int := if 256 < n then 3 else if 1 ≤ h ∧ h ≤ n then 0 else 2

/-- How many numbers stand p places apart from the place i on. -/
def ovC (n p i : Nat) : Nat := (n - i + p - 1) / p
theorem ovC_iff {n p i : Nat} (hp : 0 < p) (t : Nat) : i + t * p < n ↔ t < ovC n p i := by
  unfold ovC
  rw [Nat.lt_iff_add_one_le, Nat.lt_iff_add_one_le, Nat.le_div_iff_mul_le hp, Nat.add_mul, Nat.one_mul]
  omega
theorem ovC_pos {n p i : Nat} (hp : 0 < p) (h : i < n) : 0 < ovC n p i := (ovC_iff hp 0).1 (by omega)
/-- The numbers p places apart from i on, and their sum. -/
def ovZ (xs : List Nat) (p i t : Nat) : Option Nat := wO xs (i + t * p)
def ovS (xs : List Nat) (p i : Nat) : Option Nat := sumO (ovZ xs p i) (ovC xs.length p i)

/-- What OverlapSums and FlatWindow answer: how many numbers, which ones, and the code. -/
def ovN (n : Nat) (h : Int) : Nat := if hopK n h = 0 then h.toNat else 0
theorem hopK_zero {n : Nat} {h : Int} (hk : hopK n h = 0) : 1 ≤ h ∧ h ≤ n ∧ n ≤ 256 := by
  unfold hopK at hk
  split at hk
  · omega
  · split at hk
    · omega
    · omega
theorem ovN_le (n : Nat) (h : Int) : ovN n h ≤ 100000000 := by
  unfold ovN
  split
  · rename_i hk
    have := hopK_zero hk
    omega
  · omega

end Go.Proofs.Yteamnfockjnilaa
/-
  OverlapSums of the program; RippleOf of both.
-/
set_option linter.unusedVariables false
set_option linter.unusedSimpArgs false
namespace Go.Proofs.Yteamnfockjnilaa
open Go.RowKit Flt Fast
attribute [local go_sem] run_fadd run_fsub run_fmul run_fquo run_cadd run_csub

theorem gb_of_below {w w' : World} (h : Below w.heap.size w w') : w.grownBy w' none := ⟨h.os, h.tape, h.output, h.size, fun k hk _ => h.block k hk⟩
theorem below_of_gb {w w' : World} (h : w.grownBy w' none) : Below w.heap.size w w' := (Below.refl _ _).grown h (Nat.le_refl _) (by simp)

/-- Greater, less: up to the choice of a NaN. -/
def gtO : Option Nat → Option Nat → Bool
  | some x, some y => FloatKind.f64.format.order x y == some .gt
  | _, _ => false
def ltO : Option Nat → Option Nat → Bool
  | some x, some y => FloatKind.f64.format.order x y == some .lt
  | _, _ => false

theorem isF_cases {a : Nat} {z : Option Nat} (h : IsF a z) : (nan FloatKind.f64.format a = true ∧ z = none) ∨ (nan FloatKind.f64.format a = false ∧ z = some a) := by
  by_cases hn : nan FloatKind.f64.format a = true
  · exact .inl ⟨hn, by rw [← h.cn, cn_none hn]⟩
  · have hn : nan FloatKind.f64.format a = false := by simpa using hn
    exact .inr ⟨hn, by rw [← h.cn, cn_some hn]⟩
theorem ordN_l {a b : Nat} (h : nan FloatKind.f64.format a = true) : FloatKind.f64.format.order a b = none := ord_nan_l b h
theorem ordN_r {a b : Nat} (h : nan FloatKind.f64.format b = true) : FloatKind.f64.format.order a b = none := ord_nan_r a h
theorem gt_isF {a b : Nat} {x y : Option Nat} (ha : IsF a x) (hb : IsF b y) : (FloatKind.f64.format.order a b == some .gt) = gtO x y := by
  rcases isF_cases ha with ⟨h, rfl⟩ | ⟨h, rfl⟩
  · rw [ordN_l h]; rfl
  · rcases isF_cases hb with ⟨k, rfl⟩ | ⟨k, rfl⟩
    · rw [ordN_r k]; rfl
    · rfl
theorem lt_isF {a b : Nat} {x y : Option Nat} (ha : IsF a x) (hb : IsF b y) : (FloatKind.f64.format.order a b == some .lt) = ltO x y := by
  rcases isF_cases ha with ⟨h, rfl⟩ | ⟨h, rfl⟩
  · rw [ordN_l h]; rfl
  · rcases isF_cases hb with ⟨k, rfl⟩ | ⟨k, rfl⟩
    · rw [ordN_r k]; rfl
    · rfl
theorem gtO_self {a : Nat} {x : Option Nat} (ha : IsF a x) : gtO x x = false := by
  rw [← gt_isF ha ha]
  rcases isF_cases ha with ⟨h, rfl⟩ | ⟨h, rfl⟩
  · rw [ordN_l h]; rfl
  · rw [ord_eq h h rfl]; rfl
theorem ltO_self {a : Nat} {x : Option Nat} (ha : IsF a x) : ltO x x = false := by
  rw [← lt_isF ha ha]
  rcases isF_cases ha with ⟨h, rfl⟩ | ⟨h, rfl⟩
  · rw [ordN_l h]; rfl
  · rw [ord_eq h h rfl]; rfl

/-- The greatest and the least of the first numbers. -/
def mostO (z : Nat → Option Nat) : Nat → Option Nat
  | 0 => z 0
  | k + 1 => if gtO (z (k + 1)) (mostO z k) then z (k + 1) else mostO z k
def leastO (z : Nat → Option Nat) : Nat → Option Nat
  | 0 => z 0
  | k + 1 => if ltO (z (k + 1)) (leastO z k) then z (k + 1) else leastO z k

/-- A step of the search as both do it: x is the next number. -/
theorem most_step {z : Nat → Option Nat} {k x s : Nat} (hk : 0 < k) (hx : IsF x (z k)) (hs : IsF s (mostO z (k - 1))) :
    ((FloatKind.f64.format.order x s == some .gt) = true ∧ IsF x (mostO z k)) ∨ ((FloatKind.f64.format.order x s == some .gt) = false ∧ IsF s (mostO z k)) := by
  obtain ⟨j, rfl⟩ : ∃ j, k = j + 1 := ⟨k - 1, by omega⟩
  rw [gt_isF hx hs]
  simp only [Nat.add_sub_cancel] at hs ⊢
  rw [mostO]
  cases h : gtO (z (j + 1)) (mostO z j)
  · exact .inr ⟨rfl, by simpa using hs⟩
  · exact .inl ⟨rfl, by simpa using hx⟩
theorem least_step {z : Nat → Option Nat} {k x s : Nat} (hk : 0 < k) (hx : IsF x (z k)) (hs : IsF s (leastO z (k - 1))) :
    ((FloatKind.f64.format.order x s == some .lt) = true ∧ IsF x (leastO z k)) ∨ ((FloatKind.f64.format.order x s == some .lt) = false ∧ IsF s (leastO z k)) := by
  obtain ⟨j, rfl⟩ : ∃ j, k = j + 1 := ⟨k - 1, by omega⟩
  rw [lt_isF hx hs]
  simp only [Nat.add_sub_cancel] at hs ⊢
  rw [leastO]
  cases h : ltO (z (j + 1)) (leastO z j)
  · exact .inr ⟨rfl, by simpa using hs⟩
  · exact .inl ⟨rfl, by simpa using hx⟩

/-- What RippleOf answers. -/
def ripR (xs : List Nat) (h : Int) : Option Nat := if hopK xs.length h = 0 then fop .sub .f64 (mostO (ovS xs h.toNat) (h.toNat - 1)) (leastO (ovS xs h.toNat) (h.toNat - 1)) else some 0

end Go.Proofs.Yteamnfockjnilaa
/-
  The model's comparisons of numbers that are the same.
-/
set_option linter.unusedVariables false
set_option linter.unusedSimpArgs false
namespace Go.Proofs.Yteamnfockjnilaa
open Go.RowKit Flt

theorem l01NaN_any (a : Nat) (w : World) :
    Calls Try.prog 50 #[.float .f64 a] w fun e w' => e = .returned (.bool (nan FloatKind.f64.format a)) ∧ w' = w := by
  by_cases ha : nan FloatKind.f64.format a = true
  · have ho : FloatKind.f64.format.order a a = none := ord_nan_l _ ha
    rw [ha]
    clear ha
    go_enter Try.func50, Try.ntmps50
    go_wp2
    go_ret
    exact ⟨rfl, rfl⟩
  · have ha : nan FloatKind.f64.format a = false := by simpa using ha
    have ho : FloatKind.f64.format.order a a = some .eq := ord_eq ha ha rfl
    rw [ha]
    clear ha
    go_enter Try.func50, Try.ntmps50
    go_wp2
    go_ret
    exact ⟨rfl, rfl⟩

theorem l01SameFloat_cn (a b : Nat) (h : cn .f64 a = cn .f64 b) (w : World) :
    Calls Try.prog 43 #[.float .f64 a, .float .f64 b] w fun e w' => e = .returned (.bool true) ∧ w' = w := by
  have na := l01NaN_any a
  have nb := l01NaN_any b
  by_cases ha : nan FloatKind.f64.format a = true
  · have hb : nan FloatKind.f64.format b = true := by
      rw [cn_none ha] at h
      by_cases hb : nan FloatKind.f64.format b = true
      · exact hb
      · rw [cn_some (by simpa using hb)] at h; cases h
    rw [ha] at na
    rw [hb] at nb
    clear ha hb h
    go_enter Try.func43, Try.ntmps43
    go_wp2_with (go_at_call 50; (first | ((with_reducible refine (na _).mono ?_); rintro e w' ⟨rfl, rfl⟩) | ((with_reducible refine (nb _).mono ?_); rintro e w' ⟨rfl, rfl⟩)))
    go_ret
    exact ⟨rfl, rfl⟩
  · have ha : nan FloatKind.f64.format a = false := by simpa using ha
    have hb : nan FloatKind.f64.format b = false := by
      rw [cn_some ha] at h
      by_cases hb : nan FloatKind.f64.format b = true
      · rw [cn_none hb] at h; cases h
      · simpa using hb
    obtain rfl : a = b := by rw [cn_some ha, cn_some hb] at h; exact Option.some.inj h
    rw [ha] at na
    clear ha hb h nb
    go_enter Try.func43, Try.ntmps43
    go_wp2_with (go_at_call 50; refine (na _).mono ?_; rintro e w' ⟨rfl, rfl⟩)
    go_ret
    exact ⟨rfl, rfl⟩

theorem l01Same_cn (a b c d : Nat) (h1 : cn .f64 a = cn .f64 c) (h2 : cn .f64 b = cn .f64 d) (w : World) :
    Calls Try.prog 25 #[.complex .f64 a b, .complex .f64 c d] w fun e w' => e = .returned (.bool true) ∧ w' = w := by
  have s1 := l01SameFloat_cn a c h1
  have s2 := l01SameFloat_cn b d h2
  clear h1 h2
  go_enter Try.func25, Try.ntmps25
  go_wp2_with (go_at_call 43; (first | ((with_reducible refine (s1 _).mono ?_); rintro e w' ⟨rfl, rfl⟩) | ((with_reducible refine (s2 _).mono ?_); rintro e w' ⟨rfl, rfl⟩)))
  go_ret
  exact ⟨rfl, rfl⟩

theorem sameNumber_cn (a b c d : Nat) (h1 : cn .f64 a = cn .f64 c) (h2 : cn .f64 b = cn .f64 d) (w : World) :
    Calls Try.prog 11 #[.complex .f64 a b, .complex .f64 c d] w fun e w' => e = .returned (.bool true) ∧ w' = w := by
  have s1 := l01Same_cn a b c d h1 h2
  clear h1 h2
  go_enter Try.func11, Try.ntmps11
  go_wp2_with (go_at_call 25; refine (s1 _).mono ?_; rintro e w' ⟨rfl, rfl⟩)
  go_ret
  exact ⟨rfl, rfl⟩

theorem widen_same {a c : Nat} (h : cn .f32 a = cn .f32 c) : floatToFloatBits .f32 a .f64 = floatToFloatBits .f32 c .f64 := by
  by_cases ha : nan FloatKind.f32.format a = true
  · have hc : nan FloatKind.f32.format c = true := by
      rw [cn_none ha] at h
      by_cases hb : nan FloatKind.f32.format c = true
      · exact hb
      · rw [cn_some (by simpa using hb)] at h; cases h
    rw [widen_nan ha, widen_nan hc]
  · have ha : nan FloatKind.f32.format a = false := by simpa using ha
    by_cases hc : nan FloatKind.f32.format c = true
    · rw [cn_some ha, cn_none hc] at h; cases h
    · rw [cn_some ha, cn_some (by simpa using hc)] at h
      rw [Option.some.inj h]

end Go.Proofs.Yteamnfockjnilaa
/-
  WrapPhase of both; the greatest integer that is at most a number.
-/
set_option linter.unusedVariables false
set_option linter.unusedSimpArgs false
namespace Go.Proofs.Yteamnfockjnilaa
open Go.RowKit Flt Fast
attribute [local go_sem] run_fadd run_fsub run_fmul run_fquo run_cadd run_csub

/-- The word of the greatest integer that is at most a number. -/
def floW (x : Nat) : Nat := FloatKind.f64.encode ((FloatKind.f64.decode x).integral .down)
def floO : Option Nat → Option Nat
  | some x => some (floW x)
  | none => none

theorem integral_num {d : Ieee.Datum} (way : Ieee.Toward) (h : d.isNaN = false) : (d.integral way).isNaN = false := by
  cases d with
  | nan s t => cases h
  | infinity s => rfl
  | number s m p => rfl
theorem decode_num {x : Nat} (h : nan FloatKind.f64.format x = false) : (FloatKind.f64.decode x).isNaN = false := by
  have hx : nan Ieee.double x = false := h
  show (Ieee.double.read x).isNaN = false
  rw [nan64] at hx
  have hle : x % 9223372036854775808 ≤ 9218868437227405312 := by simpa using hx
  rcases Nat.lt_or_ge (x % 9223372036854775808) 9218868437227405312 with hl | hl
  · obtain ⟨m, p, e, -⟩ := read_fin (f := Ieee.double) (x := x) (by rw [sw64, ir64]; exact hl)
    rw [e]; rfl
  · rw [read_inf (f := Ieee.double) (x := x) (by rw [sw64, ir64]; omega) hbi64]; rfl
theorem isF_floW {x : Nat} (h : nan FloatKind.f64.format x = false) : IsF (floW x) (some (floW x)) :=
  IsF.lit (nan_write Ieee.double (integral_num .down (decode_num h))) (Ieee.double.write_lt _)

theorem finO_some {z : Option Nat} (h : finO z = true) : ∃ x, z = some x ∧ x % 9223372036854775808 < 9218868437227405312 := by
  cases z with
  | none => cases h
  | some x => exact ⟨x, rfl, by simpa [finO] using h⟩

theorem sum_fin_num {x y : Nat} (hx : x % 9223372036854775808 < 9218868437227405312) (hy : y % 9223372036854775808 < 9218868437227405312) : ∃ r, floatBits .add .f64 x y = some r := by
  obtain ⟨m, p, e, -⟩ := read_fin (f := Ieee.double) (x := x) (by rw [sw64, ir64]; exact hx)
  obtain ⟨n, q, e', -⟩ := read_fin (f := Ieee.double) (x := y) (by rw [sw64, ir64]; exact hy)
  have h : floatBits .add .f64 x y = ((Ieee.double.read x).sum (Ieee.double.read y)).map Ieee.double.write := rfl
  rw [h, e, e']
  exact ⟨_, rfl⟩

def half : Nat := 4602678819172646912
/-- A phase without whole turns. -/
def wrapO (z : Option Nat) : Option Nat := if finO z = true then fop .sub .f64 z (floO (fop .add .f64 z (some half))) else z

theorem fres_some {op : BinOp} {k : FloatKind} {x y r : Nat} (h : floatBits op k x y = some r) (w : World) : fres op k x y w = r := by unfold fres; rw [h]
theorem fcnt_some {op : BinOp} {k : FloatKind} {x y r : Nat} (h : floatBits op k x y = some r) : fcnt op k x y = 0 := by unfold fcnt; rw [h]

theorem half_num : nan FloatKind.f64.format half = false := by decide

theorem wrapO_fin {z : Option Nat} {a : Nat} (ha : IsF a z) (h : finO z = true) : ∃ r, floatBits .add .f64 a half = some r ∧ nan FloatKind.f64.format r = false ∧ (∀ u, IsF u (fop .sub .f64 z (some (floW r))) → IsF u (wrapO z)) := by
  obtain ⟨x, rfl, hx⟩ := finO_some h
  obtain ⟨-, rfl⟩ := num_of_cn ha.cn
  obtain ⟨r, hr⟩ := sum_fin_num hx (y := half) (by decide)
  refine ⟨r, hr, floatBits_num hr, fun u hu => ?_⟩
  have e : fop .add .f64 (some a) (some half) = some r := hr
  unfold wrapO
  rw [if_pos h, e]
  exact hu

/-- A float that was drawn from a float, by what draws alone. -/
def ToF (z : Option Nat) (w : World) (e : Ending) (w' : World) : Prop := ∃ q, e = .returned (.float .f64 q) ∧ IsF q z ∧ ∃ n, w' = w.drewN n

end Go.Proofs.Yteamnfockjnilaa
/-
  PowersApart of both.
-/
set_option linter.unusedVariables false
set_option linter.unusedSimpArgs false
namespace Go.Proofs.Yteamnfockjnilaa
open Go.RowKit Flt Fast
attribute [local go_sem] run_fadd run_fsub run_fmul run_fquo run_cadd run_csub

/-- The absolute value, up to NaNs. -/
def absO : Option Nat → Option Nat
  | some x => some (x % 9223372036854775808)
  | none => none
theorem nan_abs (a : Nat) : nan FloatKind.f64.format (a % 9223372036854775808) = nan FloatKind.f64.format a := by
  show nan Ieee.double _ = nan Ieee.double _
  rw [nan64, nan64]; congr 1; simp
theorem isF_abs {a : Nat} {z : Option Nat} (h : IsF a z) : IsF (a % 9223372036854775808) (absO z) := by
  refine ⟨?_, by omega⟩
  rcases isF_cases h with ⟨hn, rfl⟩ | ⟨hn, rfl⟩
  · exact cn_none (by rw [nan_abs]; exact hn)
  · exact cn_some (by rw [nan_abs]; exact hn)

def apO (xs ys : List Nat) (i : Nat) : Option Nat := absO (fop .sub .f64 (wO xs i) (wO ys i))
def apK (n m : Nat) : Int := if 256 < n ∨ 256 < m then 3 else if n ≠ m then 2 else 0
def apR (xs ys : List Nat) : Option Nat := if apK xs.length ys.length = 0 then sumO (apO xs ys) xs.length else some 0

theorem apK_zero {n m : Nat} (h : apK n m = 0) : n ≤ 256 ∧ n = m := by
  unfold apK at h
  split at h
  · omega
  · split at h <;> omega

end Go.Proofs.Yteamnfockjnilaa
/-
  CentroidOf of both.
-/
set_option linter.unusedVariables false
set_option linter.unusedSimpArgs false
namespace Go.Proofs.Yteamnfockjnilaa
open Go.RowKit Flt Fast
attribute [local go_sem] run_fadd run_fsub run_fmul run_fquo run_cadd run_csub

/-- No number, or 0. -/
def zeroO : Option Nat → Bool
  | some x => FloatKind.f64.format.order x 0 == some .eq
  | none => true
theorem zeroO_cases {s : Nat} {z : Option Nat} (h : IsF s z) :
    (zeroO z = true ∧ (FloatKind.f64.format.order s 0 == some .eq) = true) ∨ (zeroO z = true ∧ FloatKind.f64.format.order s 0 = none ∧ FloatKind.f64.format.order s s = none ∧ nan FloatKind.f64.format s = true) ∨
      (zeroO z = false ∧ (FloatKind.f64.format.order s 0 == some .eq) = false ∧ FloatKind.f64.format.order s s = some .eq ∧ nan FloatKind.f64.format s = false) := by
  rcases isF_cases h with ⟨hn, rfl⟩ | ⟨hn, rfl⟩
  · exact .inr (.inl ⟨rfl, ordN_l hn, ordN_l hn, hn⟩)
  · cases ho : (FloatKind.f64.format.order s 0 == some .eq)
    · exact .inr (.inr ⟨ho, rfl, ord_eq hn hn rfl, hn⟩)
    · exact .inl ⟨ho, rfl⟩

/-- A place times its number. -/
def cenZ (xs : List Nat) (k : Nat) : Option Nat := fop .mul .f64 (some (floatOfInt .f64 (k : Int))) (wO xs k)
def cenK (xs : List Nat) : Int := if 256 < xs.length then 3 else if zeroO (sumO (wO xs) xs.length) = true then 4 else 0
def cenR (xs : List Nat) : Option Nat := if cenK xs = 0 then fop .quo .f64 (sumO (cenZ xs) xs.length) (sumO (wO xs) xs.length) else some 0

theorem float0 : floatOfInt .f64 ((0 : Nat) : Int) = 0 := by decide

end Go.Proofs.Yteamnfockjnilaa
/-
  Hills: PeakBetween of both; neighbours on a ring.
-/
set_option linter.unusedVariables false
set_option linter.unusedSimpArgs false
namespace Go.Proofs.Yteamnfockjnilaa
open Go.RowKit Flt Fast
attribute [local go_sem] run_fadd run_fsub run_fmul run_fquo run_cadd run_csub

theorem rest_facts (k : Int) (n r : Nat) (hn : 0 < n) (hr : k % (n : Int) = (r : Int)) : ∃ t : Int, k.tmod (n : Int) = t ∧ -(n : Int) < t ∧ t < (n : Int) ∧ (t + (n : Int)).tmod (n : Int) = (r : Int) ∧ (t + (n : Int)) % (n : Int) = (r : Int) := by
  have hn' : (0 : Int) < (n : Int) := by omega
  have h1 : k.tmod (n : Int) < (n : Int) := Int.tmod_lt_of_pos k hn'
  have h2 : -(n : Int) < k.tmod (n : Int) := Int.lt_tmod_of_pos k hn'
  have h3 : (k.tmod (n : Int) + (n : Int)) % (n : Int) = (r : Int) := by
    rw [Int.add_emod_right, ← hr, Int.tmod_def, Int.sub_mul_emod_self_left]
  refine ⟨_, rfl, h2, h1, ?_, h3⟩
  rw [Int.tmod_eq_emod_of_nonneg (by omega)]
  exact h3

theorem restOf_any (k : Int) (n r : Nat) (hn : 0 < n) (hn2 : n ≤ 1000000) (hr : k % (n : Int) = (r : Int)) (w : World) :
    Calls Try.prog 32 #[.int .i64 k, .int .i64 n] w fun e w' => e = .returned (.int .i64 (r : Int)) ∧ w' = w := by
  obtain ⟨t, e1, h1, h2, e2, e3⟩ := rest_facts k n r hn hr
  have hz : ¬ (n : Int) = 0 := by omega
  have hz' : ¬ n = 0 := by omega
  have hb : (n : Int) ≤ 1000000 := by omega
  clear hr hn hn2
  go_enter Try.func32, Try.ntmps32
  go_wp2
  go_ret
  exact ⟨rfl, rfl⟩

/-- The place before, and the place behind, on a ring of n places. -/
def prv (n k : Nat) : Nat := if k = 0 then n - 1 else k - 1
def nxt (n k : Nat) : Nat := if k + 1 = n then 0 else k + 1
theorem prv_lt {n k : Nat} (h : k < n) : prv n k < n := by unfold prv; split <;> omega
theorem nxt_lt {n k : Nat} (h : k < n) : nxt n k < n := by unfold nxt; split <;> omega
theorem prv_rest {n k : Nat} (h : k < n) : ((k : Int) - 1) % (n : Int) = (prv n k : Int) := by
  unfold prv
  split
  · rename_i h0
    rw [← Int.add_emod_right, Int.emod_eq_of_lt (by omega) (by omega)]
    omega
  · rw [Int.emod_eq_of_lt (by omega) (by omega)]
    omega
theorem nxt_rest {n k : Nat} (h : k < n) : ((k : Int) + 1) % (n : Int) = (nxt n k : Int) := by
  unfold nxt
  split
  · rename_i h0
    rw [show (k : Int) + 1 = (n : Int) by omega, Int.emod_self]; rfl
  · rw [Int.emod_eq_of_lt (by omega) (by omega)]
    omega

theorem res_cell1 {fn : Func} {p : Tmp} {ty : TypeId} (h : fn.results = #[.cell p ty]) (tmps : Array Value) (P : Program) (w : World) {a : Addr} {v : Value} (ha : tmps.getD p undef = .pointer (some a)) (hv : (loadVar ty a).run P w = .ok v w) :
    (results fn tmps).run P w = .ok v w := by
  have ha' : tmps[p]?.getD undef = .pointer (some a) := by simpa using ha
  simp only [results, h]
  simp [Sem.run_bind, Result.andThen, ha', asAddr, hv]
end Go.Proofs.Yteamnfockjnilaa
