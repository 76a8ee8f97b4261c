import Derived.Test.YtpobbicbfnglaaaTurnF
/-
  The walk of the program's turn, and of TurnOf.
-/
set_option linter.unusedVariables false
set_option linter.unusedSimpArgs false
namespace Go.Proofs.Ytpobbicbfnglaaa
open Go.RowKit Flt Turn

theorem wf_nat {n : Nat} (h : n ≤ 4611686018427387904) : (Lit.int .i64 (n : Int)).wf = true := WalkArith.wf_i64 (by omega)

set_option maxRecDepth 100000 in
set_option maxHeartbeats 8000000 in
theorem turn_step (f : Nat) (ih : TurnOK f) : TurnOK (f + 1) := by
  intro n k b c w hmu hfit hn hk hc hcf
  have hnb : n ≤ 1152921504606846976 := by
    unfold fits at hfit
    have : n * 1 ≤ n * 4 ^ rank n k := Nat.mul_le_mul_left _ (Nat.pow_pos (by omega))
    omega
  have F := fun w hc => find_impl f ih n k b c w hmu hfit hn hk hc (by omega)
  have hwn := wf_nat (n := n) (by omega)
  have hwk := wf_nat (n := k) (by omega)
  have HC := Lib.hid (hc.alloc (.cells #[.int .i64 n, .int .i64 k] 103))
  have hblt := hc.lt
  have hne : ¬ w.heap.size = b := by omega
  clear hc
  go_enter Try.func97, Try.ntmps97
  go_wp2_with (at_lookup; refine wpList_look_cache _ rfl _ _ 71 rfl Try.underlying71 b c HC.out rfl n k rfl hwn hwk ?_ ?_)
  · refine (F _ HC.out).mono ?_
    rintro e w1 ⟨x, y, rfl, hx, hy, hc1, hg1⟩
    have c0 : w1.cell? ⟨w.heap.size, 0, none⟩ = some (.int .i64 n) := hg1.cell (by simp) (by simp; omega)
    have c1 : w1.cell? ⟨w.heap.size, 1, none⟩ = some (.int .i64 k) := hg1.cell (by simp) (by simp; omega)
    have HG1 := Lib.hid ((grown_up (World.grownBy_alloc w (.cells #[.int .i64 n, .int .i64 k] 103) none) (some b)).trans hg1)
    have HC1 := Lib.hid hc1
    clear hc1 hg1 F
    go_wp2_with (at_mapUpdate; refine wpList_store_cache _ rfl _ _ _ 71 rfl Try.underlying71 b (c + f) HC1.out (by simp only [maxLen]; omega) rfl n k rfl hwn hwk x y rfl hx hy ?_; intro w2 hc2 hg2; have HC2 := Lib.hid hc2; have HG2 := Lib.hid (HG1.out.trans hg2); clear hc2 hg2)
    go_ret
    exact ⟨_, _, rfl, hx, hy, HC2.out, HG2.out⟩
  · intro x y hx hy
    have HX := Lib.hid hx
    have HY := Lib.hid hy
    clear hx hy
    go_wp2
    go_ret
    exact ⟨_, _, rfl, HX.out, HY.out, Cache.mono HC.out (by omega), grown_up (World.grownBy_alloc _ _ none) _⟩

theorem turn_ok : ∀ f, TurnOK f
  | 0 => fun n k b c w h => by omega
  | f + 1 => turn_step f (turn_ok f)

theorem mu_lt (n k : Nat) : mu n k < 8 := by
  unfold mu
  have := rank_le n k
  split <;> omega
theorem fits_small {n k : Nat} (hn : n ≤ 100000) : fits n k := by
  unfold fits
  have h1 : 4 ^ rank n k ≤ 4 ^ 3 := Nat.pow_le_pow_right (by omega) (rank_le n k)
  have h2 : n * 4 ^ rank n k ≤ n * 4 ^ 3 := Nat.mul_le_mul_left _ h1
  omega

/-- A turn by the cache: at most eight entries more. -/
theorem turn_cache (n k b c : Nat) (w : World) (hn : 0 < n) (hn2 : n ≤ 100000) (hk : k ≤ n) (hc : Cache w b c) (hcf : c ≤ 4000000000000000000) :
    Calls Try.prog 97 #[.map (some b), .int .i64 n, .int .i64 k] w (RetCa (turn n k) b (c + 8) w) :=
  turn_ok 8 n k b c w (mu_lt n k) (fits_small hn2) hn hk hc (by omega)

end Go.Proofs.Ytpobbicbfnglaaa
