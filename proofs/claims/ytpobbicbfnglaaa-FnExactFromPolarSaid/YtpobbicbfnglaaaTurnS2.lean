import Derived.Test.YtpobbicbfnglaaaTurnS
import Derived.Test.YtpobbicbfnglaaaRow
/-
  The walk of the model's turn.
-/
set_option linter.unusedVariables false
set_option linter.unusedSimpArgs false
namespace Go.Proofs.Ytpobbicbfnglaaa
open Go.RowKit Flt Turn

@[go_sem] theorem run_mathsqrt_half (w : World) : (callFunc 110 #[.float .f64 4602678819172646912]).run Try.prog w = .ok (.value (.float .f64 4604544271217802189)) w := by kernel_rfl

theorem RetF.drew {z : Option Nat} {w : World} {m : Nat} {e : Ending} {w' : World} (h : RetF z (w.drewN m) e w') : RetF z w e w' := by
  obtain ⟨r, he, hr, n, rfl⟩ := h
  exact ⟨r, he, hr, m + n, World.drewN_drewN ..⟩

theorem lowest {n k : Nat} (hn : 0 < n) : (n / n.gcd k).gcd (k / n.gcd k) = 1 := by
  rw [Nat.gcd_div (Nat.gcd_dvd_left n k) (Nat.gcd_dvd_right n k)]
  exact Nat.div_self (Nat.gcd_pos_of_pos_left _ hn)

theorem isF_halfRoot : IsF 4604544271217802189 halfRoot := IsF.lit (by decide) (by omega)
theorem isF_twoPi : IsF 4618760256179416344 twoPi := IsF.lit (by decide) (by omega)

/-- How a rule lowers the rank. -/
theorem rank_two {n k f : Nat} (h : n < 2 * k) (hk : k ≤ n) (hr : rank n k < f + 1) : rank n (n - k) < f := by
  unfold rank at hr ⊢
  rw [if_neg (by omega), if_neg (by omega), if_neg (by omega)] at hr
  split <;> (try split) <;> (try split) <;> omega
theorem rank_four {n k f : Nat} (h2 : ¬ n < 2 * k) (h : n < 4 * k) (hr : rank n k < f + 1) : rank (2 * n) (n - 2 * k) < f := by
  unfold rank at hr ⊢
  rw [if_neg (by omega), if_neg (by omega), if_pos (by omega)] at hr
  split <;> (try split) <;> (try split) <;> omega
theorem rank_eight {n k f : Nat} (h4 : ¬ n < 4 * k) (h : n < 8 * k) (hr : rank n k < f + 1) : rank (4 * n) (n - 4 * k) < f := by
  unfold rank at hr ⊢
  rw [if_neg (by omega), if_pos (by omega)] at hr
  split <;> (try split) <;> (try split) <;> omega

set_option maxRecDepth 100000 in
set_option maxHeartbeats 8000000 in
theorem turn_spec : ∀ (f n k : Nat) (w : World), rank n k < f → n * 4 ^ f ≤ 1152921504606846976 → 0 < n → k ≤ n →
    Calls Try.prog 75 #[.int .i64 n, .int .i64 k] w (RetC (turn n k) w) := by
  intro f
  induction f with
  | zero => intro n k w hr; omega
  | succ f ih =>
    intro n k w hr hb hn hk
    have hg := lowest (k := k) hn
    rw [← rank_red hn] at hr
    rw [turn_red hn]
    have hgp := Nat.gcd_pos_of_pos_left k hn
    have hn1 : 0 < n / n.gcd k := Nat.div_pos (Nat.le_of_dvd hn (Nat.gcd_dvd_left n k)) hgp
    have hnn : n / n.gcd k ≤ n := Nat.div_le_self _ _
    have hkk : k / n.gcd k ≤ n / n.gcd k := Nat.div_le_div_right hk
    have hpos : 0 < 4 ^ f := Nat.pow_pos (by omega)
    rw [Nat.pow_succ] at hb
    obtain ⟨P, hP⟩ : ∃ P, 4 ^ f = P := ⟨_, rfl⟩
    rw [hP] at hb hpos
    have hb0 : n * (P * 4) = 4 * (n * P) := by rw [← Nat.mul_assoc, Nat.mul_comm]
    have hb1 : n ≤ n * P := Nat.le_mul_of_pos_right _ hpos
    obtain ⟨g, hG⟩ : ∃ g, n.gcd k = g := ⟨_, rfl⟩
    have D := fun w => divisor_any n k (by omega) (by omega) w
    rw [hG] at hg hgp hn1 hnn hkk hr D ⊢
    obtain ⟨n1, hN⟩ : ∃ n1, n / g = n1 := ⟨_, rfl⟩
    obtain ⟨k1, hK⟩ : ∃ k1, k / g = k1 := ⟨_, rfl⟩
    have q1 : (n : Int) / (g : Int) = (n1 : Int) := by rw [← hN]; rfl
    have q2 : (k : Int) / (g : Int) = (k1 : Int) := by rw [← hK]; rfl
    have q3 : (n : Int).tdiv (g : Int) = (n1 : Int) := by rw [← hN]; rfl
    have q4 : (k : Int).tdiv (g : Int) = (k1 : Int) := by rw [← hK]; rfl
    rw [hN, hK] at hg hr hkk ⊢
    rw [hN] at hn1 hnn
    have hbb : n1 * P ≤ n * P := Nat.mul_le_mul_right _ hnn
    have hB1 : n1 * 4 ^ f ≤ 1152921504606846976 := by rw [hP]; omega
    have hB2 : 2 * n1 * 4 ^ f ≤ 1152921504606846976 := by rw [hP, Nat.mul_assoc]; omega
    have hB4 : 4 * n1 * 4 ^ f ≤ 1152921504606846976 := by rw [hP, Nat.mul_assoc]; omega
    have hn60 : n1 ≤ 288230376151711744 := by omega
    have HG := Lib.hid hg
    have IH := Lib.hid ih
    have HR := Lib.hid hr
    have H1 := Lib.hid hB1
    have H2 := Lib.hid hB2
    have H4 := Lib.hid hB4
    clear hg hN hK hG hr hb hP hb0 hb1 hbb hB1 hB2 hB4 ih hnn hpos hk hn
    by_cases h0 : k1 = 0
    · subst h0
      go_enter Try.func75, Try.ntmps75
      go_wp2_with (go_at_call 90; refine (D _).mono ?_; rintro e w' ⟨rfl, rfl⟩)
      go_ret
      rw [turn_zero HG.out rfl]
      exact ⟨_, _, rfl, isF_one, isF_zero, 0, rfl⟩
    · have h0' : ¬ (k1 : Int) = 0 := by omega
      by_cases h2 : n1 < 2 * k1
      · rw [turn_two HG.out h0 hn1 hkk h2]
        have h2' : (n1 : Int) < 2 * (k1 : Int) := by omega
        obtain ⟨m, hm⟩ : ∃ m, n1 - k1 = m := ⟨_, rfl⟩
        have hm' : (n1 : Int) - (k1 : Int) = (m : Int) := by omega
        have hrk := rank_two h2 hkk HR.out
        rw [hm] at hrk ⊢
        clear hm
        go_enter Try.func75, Try.ntmps75
        go_wp2_with (first
          | (go_at_call 90; refine (D _).mono ?_; rintro e w' ⟨rfl, rfl⟩)
          | (go_at_call 75; refine (IH.out n1 m _ hrk H1.out hn1 (by omega)).mono ?_; rintro e w2 ⟨a, b, rfl, ha, hb, n2, rfl⟩; have HA := Lib.hid ha; have HB := Lib.hid hb; clear ha hb)
          | (go_at_call 91; go_in))
        go_ret
        exact ⟨_, _, rfl, HA.out, HB.out.neg, n2, rfl⟩
      · have h2' : ¬ (n1 : Int) < 2 * (k1 : Int) := by omega
        by_cases h4 : n1 < 4 * k1
        · rw [turn_four HG.out h0 hn1 h2 h4]
          have h4' : (n1 : Int) < 4 * (k1 : Int) := by omega
          obtain ⟨m, hm⟩ : ∃ m, n1 - 2 * k1 = m := ⟨_, rfl⟩
          obtain ⟨nn, hnn⟩ : ∃ nn, 2 * n1 = nn := ⟨_, rfl⟩
          have hm' : (n1 : Int) - 2 * (k1 : Int) = (m : Int) := by omega
          have hnn' : 2 * (n1 : Int) = (nn : Int) := by omega
          have hrk := rank_four h2 h4 HR.out
          have hle : m ≤ nn := by omega
          have hps : 0 < nn := by omega
          rw [hnn] at hrk H2 ⊢
          rw [hm] at hrk ⊢
          clear hm hnn
          go_enter Try.func75, Try.ntmps75
          go_wp2_with (first
            | (go_at_call 90; refine (D _).mono ?_; rintro e w' ⟨rfl, rfl⟩)
            | (go_at_call 75; refine (IH.out nn m _ hrk H2.out hps hle).mono ?_; rintro e w2 ⟨a, b, rfl, ha, hb, n2, rfl⟩; have HA := Lib.hid ha; have HB := Lib.hid hb; clear ha hb))
          go_ret
          exact ⟨_, _, rfl, HA.out.neg, HB.out, n2, rfl⟩
        · have h4' : ¬ (n1 : Int) < 4 * (k1 : Int) := by omega
          by_cases h8 : n1 < 8 * k1
          · rw [turn_eight HG.out h0 hn1 h2 h4 h8]
            have h8' : (n1 : Int) < 8 * (k1 : Int) := by omega
            obtain ⟨m, hm⟩ : ∃ m, n1 - 4 * k1 = m := ⟨_, rfl⟩
            obtain ⟨nn, hnn⟩ : ∃ nn, 4 * n1 = nn := ⟨_, rfl⟩
            have hm' : (n1 : Int) - 4 * (k1 : Int) = (m : Int) := by omega
            have hnn' : 4 * (n1 : Int) = (nn : Int) := by omega
            have hrk := rank_eight h4 h8 HR.out
            have hle : m ≤ nn := by omega
            have hps : 0 < nn := by omega
            rw [hnn] at hrk H4 ⊢
            rw [hm] at hrk ⊢
            clear hm hnn
            go_enter Try.func75, Try.ntmps75
            go_wp2_with (first
              | (go_at_call 90; refine (D _).mono ?_; rintro e w' ⟨rfl, rfl⟩)
              | (go_at_call 75; refine (IH.out nn m _ hrk H4.out hps hle).mono ?_; rintro e w2 ⟨a, b, rfl, ha, hb, n2, rfl⟩; have HA := Lib.hid ha; have HB := Lib.hid hb; clear ha hb))
            go_ret
            exact ⟨_, _, rfl, HB.out, HA.out, n2, rfl⟩
          · have h8' : ¬ (n1 : Int) < 8 * (k1 : Int) := by omega
            by_cases he : 8 * k1 = n1
            · rw [turn_eighth HG.out h0 h2 h4 h8 he]
              have he' : 8 * (k1 : Int) = (n1 : Int) := by omega
              go_enter Try.func75, Try.ntmps75
              go_wp2_with (first
                | (go_at_call 90; refine (D _).mono ?_; rintro e w' ⟨rfl, rfl⟩)
                | (go_at_call 92; go_in))
              go_ret
              exact ⟨_, _, rfl, isF_halfRoot, isF_halfRoot, 0, rfl⟩
            · rw [turn_series HG.out h0 h2 h4 h8 he]
              have he' : ¬ 8 * (k1 : Int) = (n1 : Int) := by omega
              go_enter Try.func75, Try.ntmps75
              go_wp2_with (first
                | (go_at_call 90; refine (D _).mono ?_; rintro e w' ⟨rfl, rfl⟩)
                | (refine wpList_farith _ rfl .mul (by decide) (.const (.float .f64 4618760256179416344)) (.tmp 79) _ _ rfl .f64 _ _ rfl rfl ?_; intro r1 m1 hr1 hb1; have HM := Lib.hid (IsF.op isF_twoPi (IsF.ofInt _) hr1 hb1); clear hr1 hb1)
                | (refine wpList_farith _ rfl .quo (by decide) _ _ _ _ rfl .f64 _ _ rfl rfl ?_; intro r2 m2 hr2 hb2; have HX := Lib.hid (IsF.op HM.out (IsF.ofInt _) hr2 hb2); clear hr2 hb2)
                | (refine wpList_farith _ rfl .mul (by decide) (.tmp 84) (.tmp 85) _ _ rfl .f64 _ _ rfl rfl ?_; intro r3 m3 hr3 hb3; have HY := Lib.hid (IsF.op HX.out HX.out hr3 hb3); clear hr3 hb3)
                | (go_at_call 93; refine (cosine_any _ _ HY.out _).mono ?_; rintro e w2 ⟨c, rfl, hc, n4, rfl⟩; have HC := Lib.hid hc; clear hc)
                | (go_at_call 94; refine (sine_any _ _ _ _ HX.out HY.out _).mono ?_; rintro e w2 ⟨d, rfl, hd, n5, rfl⟩; have HD := Lib.hid hd; clear hd))
              go_ret
              exact ⟨_, _, rfl, HC.out, HD.out, _, rfl⟩

/-- Is there a turn k of n? -/
def TurnIn (n k : Int) : Prop := 1 ≤ n ∧ n ≤ 1024 ∧ 0 ≤ k ∧ k < n

/-- A turn for all n and k up to MaxTurn, four times over. -/
theorem turn_spec4 (n k : Nat) (hn : 0 < n) (hn2 : n ≤ 100000) (hk : k ≤ n) (w : World) :
    Calls Try.prog 75 #[.int .i64 n, .int .i64 k] w (RetC (turn n k) w) :=
  turn_spec 4 n k w (Nat.lt_succ_of_le (rank_le n k)) (by omega) hn hk

/-- What TurnOf returns. -/
def TurnR (n k : Int) (w : World) (e : Ending) (w' : World) : Prop :=
  (∃ m j : Nat, n = m ∧ k = j ∧ TurnIn n k ∧ ∃ a b, e = .returned (.tuple #[.complex .f64 a b, .int .i64 0]) ∧ IsF a (turn m j).1 ∧ IsF b (turn m j).2 ∧ Below w.heap.size w w') ∨
  (¬ TurnIn n k ∧ e = .returned (.tuple #[.complex .f64 0 0, .int .i64 2]) ∧ Below w.heap.size w w')

end Go.Proofs.Ytpobbicbfnglaaa
