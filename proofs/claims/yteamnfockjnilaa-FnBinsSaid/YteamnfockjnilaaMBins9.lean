/-
  Several texts of this claim, one behind the other; each says what it holds.
-/
import Derived.Test.YteamnfockjnilaaMBins8
import Derived.Test.YteamnfockjnilaaRows
import Derived.Lib.Hide
import Derived.Maps.OwnSet
import Derived.DeepKeys4
import Derived.Deep.MidRow
/-
  The walks of the model's turns.
-/
set_option linter.unusedVariables false
set_option linter.unusedSimpArgs false
namespace Go.Proofs.Yteamnfockjnilaa
open Go.RowKit Flt Turn

/-- A float is returned, and nothing has turned but the count of draws. -/
def RetF (z : Option Nat) (w : World) (e : Ending) (w' : World) : Prop := ∃ r, e = .returned (.float .f64 r) ∧ IsF r z ∧ ∃ n, w' = w.drewN n

theorem isF_one : IsF 4607182418800017408 oneO := IsF.lit (by decide) (by omega)
theorem isF_zero : IsF 0 zeroO := IsF.lit (by decide) (by omega)

theorem divisor_any (n k : Nat) (hn : n ≤ 4611686018427387904) (hk : k ≤ 4611686018427387904) (w : World) :
    Calls Try.prog 36 #[.int .i64 n, .int .i64 k] w fun e w' => e = .returned (.int .i64 ((n.gcd k : Nat) : Int)) ∧ w' = w := by
  go_enter Try.func36, Try.ntmps36
  go_wp2
  go_loopw [0, 1] (fun p q wr => ∃ a b : Nat, p = .int .i64 a ∧ q = .int .i64 b ∧ a ≤ 4611686018427387904 ∧ b ≤ 4611686018427387904 ∧ a.gcd b = n.gcd k ∧ wr = w) (fun _ q _ => (intOf q).toNat)
  case atStart => exact ⟨n, k, rfl, rfl, hn, hk, rfl, rfl⟩
  case round =>
    obtain ⟨a, b, rfl, rfl, ha, hb, hg, rfl⟩ := hrel
    have HG := Lib.hid hg
    clear hg
    by_cases hb0 : b = 0
    · subst hb0
      have HA : Hid (a = n.gcd k) := by have := HG.out; rwa [Nat.gcd_zero_right] at this
      clear HG
      go_wp2
      go_ret
      exact ⟨by rw [← HA.out]; rfl, rfl⟩
    · have hb1 : ¬ (b : Int) = 0 := by omega
      obtain ⟨r, hr⟩ : ∃ r, a % b = r := ⟨_, rfl⟩
      have hr1 : (a : Int) % (b : Int) = (r : Int) := by rw [← hr]; rfl
      have hr2 : (a : Int).tmod (b : Int) = (r : Int) := by rw [← hr]; rfl
      have hrb : r < b := by rw [← hr]; exact Nat.mod_lt _ (by omega)
      have HG2 : Hid (b.gcd r = n.gcd k) := by
        show b.gcd r = n.gcd k
        rw [← hr, ← HG.out, Nat.gcd_comm a b, Nat.gcd_rec b a, Nat.gcd_comm]
      clear hr HG
      go_wp2
      go_roundw
      case rel => first | exact ⟨b, r, rfl, rfl, hb, by omega, HG2.out, by first | rfl | trivial⟩ | ((repeat apply Exists.intro); refine ⟨?_, rfl⟩; exact ⟨b, r, rfl, rfl, hb, by omega, HG2.out, by first | rfl | trivial⟩)
      case measure => simp [intOf]; omega

set_option maxRecDepth 100000 in
set_option maxHeartbeats 4000000 in
theorem cosine_any (y : Nat) (a : Option Nat) (hy : IsF y a) (w : World) :
    Calls Try.prog 39 #[.float .f64 y] w (RetF (cosR a 9) w) := by
  go_enter Try.func39, Try.ntmps39
  go_wp2
  go_loopw [3, 4] (fun t m wr => ∃ (j n tb : Nat), j ≤ 9 ∧ m = .int .i64 (9 - (j : Int)) ∧ t = .float .f64 tb ∧ IsF tb (cosR a j) ∧ wr = w.drewN n) (fun _ m _ => (intOf m).toNat)
  case atStart => exact ⟨0, 0, _, by omega, rfl, rfl, isF_one, rfl⟩
  case round =>
    obtain ⟨j, n, tb, hj, rfl, rfl, ht, rfl⟩ := hrel
    have HT := Lib.hid ht
    clear ht
    have hc : j = 0 ∨ j = 1 ∨ j = 2 ∨ j = 3 ∨ j = 4 ∨ j = 5 ∨ j = 6 ∨ j = 7 ∨ j = 8 ∨ j = 9 := by omega
    clear hj
    rcases hc with rfl | rfl | rfl | rfl | rfl | rfl | rfl | rfl | rfl | rfl
    · go_wp2_with (first
        | (refine wpList_farith _ rfl .quo (by decide) _ _ _ _ rfl .f64 _ _ rfl rfl ?_; intro r1 n1 hr1 hb1; have HQ := Lib.hid (IsF.op hy (IsF.ofInt _) hr1 hb1); clear hr1 hb1)
        | (refine wpList_farith _ rfl .mul (by decide) _ _ _ _ rfl .f64 _ _ rfl rfl ?_; intro r2 n2 hr2 hb2; have HM := Lib.hid (IsF.op HQ.out HT.out hr2 hb2); clear hr2 hb2)
        | (refine wpList_farith _ rfl .sub (by decide) _ _ _ _ rfl .f64 _ _ rfl rfl ?_; intro r3 n3 hr3 hb3; have HS := Lib.hid (IsF.op isF_one HM.out hr3 hb3); clear hr3 hb3))
      go_roundw
      case rel => exact ⟨1, _, _, by omega, by first | rfl | go_num, rfl, HS.out, rfl⟩
      case measure => simp [intOf]
    · go_wp2_with (first
        | (refine wpList_farith _ rfl .quo (by decide) _ _ _ _ rfl .f64 _ _ rfl rfl ?_; intro r1 n1 hr1 hb1; have HQ := Lib.hid (IsF.op hy (IsF.ofInt _) hr1 hb1); clear hr1 hb1)
        | (refine wpList_farith _ rfl .mul (by decide) _ _ _ _ rfl .f64 _ _ rfl rfl ?_; intro r2 n2 hr2 hb2; have HM := Lib.hid (IsF.op HQ.out HT.out hr2 hb2); clear hr2 hb2)
        | (refine wpList_farith _ rfl .sub (by decide) _ _ _ _ rfl .f64 _ _ rfl rfl ?_; intro r3 n3 hr3 hb3; have HS := Lib.hid (IsF.op isF_one HM.out hr3 hb3); clear hr3 hb3))
      go_roundw
      case rel => exact ⟨2, _, _, by omega, by first | rfl | go_num, rfl, HS.out, rfl⟩
      case measure => simp [intOf]
    · go_wp2_with (first
        | (refine wpList_farith _ rfl .quo (by decide) _ _ _ _ rfl .f64 _ _ rfl rfl ?_; intro r1 n1 hr1 hb1; have HQ := Lib.hid (IsF.op hy (IsF.ofInt _) hr1 hb1); clear hr1 hb1)
        | (refine wpList_farith _ rfl .mul (by decide) _ _ _ _ rfl .f64 _ _ rfl rfl ?_; intro r2 n2 hr2 hb2; have HM := Lib.hid (IsF.op HQ.out HT.out hr2 hb2); clear hr2 hb2)
        | (refine wpList_farith _ rfl .sub (by decide) _ _ _ _ rfl .f64 _ _ rfl rfl ?_; intro r3 n3 hr3 hb3; have HS := Lib.hid (IsF.op isF_one HM.out hr3 hb3); clear hr3 hb3))
      go_roundw
      case rel => exact ⟨3, _, _, by omega, by first | rfl | go_num, rfl, HS.out, rfl⟩
      case measure => simp [intOf]
    · go_wp2_with (first
        | (refine wpList_farith _ rfl .quo (by decide) _ _ _ _ rfl .f64 _ _ rfl rfl ?_; intro r1 n1 hr1 hb1; have HQ := Lib.hid (IsF.op hy (IsF.ofInt _) hr1 hb1); clear hr1 hb1)
        | (refine wpList_farith _ rfl .mul (by decide) _ _ _ _ rfl .f64 _ _ rfl rfl ?_; intro r2 n2 hr2 hb2; have HM := Lib.hid (IsF.op HQ.out HT.out hr2 hb2); clear hr2 hb2)
        | (refine wpList_farith _ rfl .sub (by decide) _ _ _ _ rfl .f64 _ _ rfl rfl ?_; intro r3 n3 hr3 hb3; have HS := Lib.hid (IsF.op isF_one HM.out hr3 hb3); clear hr3 hb3))
      go_roundw
      case rel => exact ⟨4, _, _, by omega, by first | rfl | go_num, rfl, HS.out, rfl⟩
      case measure => simp [intOf]
    · go_wp2_with (first
        | (refine wpList_farith _ rfl .quo (by decide) _ _ _ _ rfl .f64 _ _ rfl rfl ?_; intro r1 n1 hr1 hb1; have HQ := Lib.hid (IsF.op hy (IsF.ofInt _) hr1 hb1); clear hr1 hb1)
        | (refine wpList_farith _ rfl .mul (by decide) _ _ _ _ rfl .f64 _ _ rfl rfl ?_; intro r2 n2 hr2 hb2; have HM := Lib.hid (IsF.op HQ.out HT.out hr2 hb2); clear hr2 hb2)
        | (refine wpList_farith _ rfl .sub (by decide) _ _ _ _ rfl .f64 _ _ rfl rfl ?_; intro r3 n3 hr3 hb3; have HS := Lib.hid (IsF.op isF_one HM.out hr3 hb3); clear hr3 hb3))
      go_roundw
      case rel => exact ⟨5, _, _, by omega, by first | rfl | go_num, rfl, HS.out, rfl⟩
      case measure => simp [intOf]
    · go_wp2_with (first
        | (refine wpList_farith _ rfl .quo (by decide) _ _ _ _ rfl .f64 _ _ rfl rfl ?_; intro r1 n1 hr1 hb1; have HQ := Lib.hid (IsF.op hy (IsF.ofInt _) hr1 hb1); clear hr1 hb1)
        | (refine wpList_farith _ rfl .mul (by decide) _ _ _ _ rfl .f64 _ _ rfl rfl ?_; intro r2 n2 hr2 hb2; have HM := Lib.hid (IsF.op HQ.out HT.out hr2 hb2); clear hr2 hb2)
        | (refine wpList_farith _ rfl .sub (by decide) _ _ _ _ rfl .f64 _ _ rfl rfl ?_; intro r3 n3 hr3 hb3; have HS := Lib.hid (IsF.op isF_one HM.out hr3 hb3); clear hr3 hb3))
      go_roundw
      case rel => exact ⟨6, _, _, by omega, by first | rfl | go_num, rfl, HS.out, rfl⟩
      case measure => simp [intOf]
    · go_wp2_with (first
        | (refine wpList_farith _ rfl .quo (by decide) _ _ _ _ rfl .f64 _ _ rfl rfl ?_; intro r1 n1 hr1 hb1; have HQ := Lib.hid (IsF.op hy (IsF.ofInt _) hr1 hb1); clear hr1 hb1)
        | (refine wpList_farith _ rfl .mul (by decide) _ _ _ _ rfl .f64 _ _ rfl rfl ?_; intro r2 n2 hr2 hb2; have HM := Lib.hid (IsF.op HQ.out HT.out hr2 hb2); clear hr2 hb2)
        | (refine wpList_farith _ rfl .sub (by decide) _ _ _ _ rfl .f64 _ _ rfl rfl ?_; intro r3 n3 hr3 hb3; have HS := Lib.hid (IsF.op isF_one HM.out hr3 hb3); clear hr3 hb3))
      go_roundw
      case rel => exact ⟨7, _, _, by omega, by first | rfl | go_num, rfl, HS.out, rfl⟩
      case measure => simp [intOf]
    · go_wp2_with (first
        | (refine wpList_farith _ rfl .quo (by decide) _ _ _ _ rfl .f64 _ _ rfl rfl ?_; intro r1 n1 hr1 hb1; have HQ := Lib.hid (IsF.op hy (IsF.ofInt _) hr1 hb1); clear hr1 hb1)
        | (refine wpList_farith _ rfl .mul (by decide) _ _ _ _ rfl .f64 _ _ rfl rfl ?_; intro r2 n2 hr2 hb2; have HM := Lib.hid (IsF.op HQ.out HT.out hr2 hb2); clear hr2 hb2)
        | (refine wpList_farith _ rfl .sub (by decide) _ _ _ _ rfl .f64 _ _ rfl rfl ?_; intro r3 n3 hr3 hb3; have HS := Lib.hid (IsF.op isF_one HM.out hr3 hb3); clear hr3 hb3))
      go_roundw
      case rel => exact ⟨8, _, _, by omega, by first | rfl | go_num, rfl, HS.out, rfl⟩
      case measure => simp [intOf]
    · go_wp2_with (first
        | (refine wpList_farith _ rfl .quo (by decide) _ _ _ _ rfl .f64 _ _ rfl rfl ?_; intro r1 n1 hr1 hb1; have HQ := Lib.hid (IsF.op hy (IsF.ofInt _) hr1 hb1); clear hr1 hb1)
        | (refine wpList_farith _ rfl .mul (by decide) _ _ _ _ rfl .f64 _ _ rfl rfl ?_; intro r2 n2 hr2 hb2; have HM := Lib.hid (IsF.op HQ.out HT.out hr2 hb2); clear hr2 hb2)
        | (refine wpList_farith _ rfl .sub (by decide) _ _ _ _ rfl .f64 _ _ rfl rfl ?_; intro r3 n3 hr3 hb3; have HS := Lib.hid (IsF.op isF_one HM.out hr3 hb3); clear hr3 hb3))
      go_roundw
      case rel => exact ⟨9, _, _, by omega, by first | rfl | go_num, rfl, HS.out, rfl⟩
      case measure => simp [intOf]
    · go_wp2
      go_ret
      exact ⟨_, rfl, HT.out, n, rfl⟩

set_option maxRecDepth 100000 in
set_option maxHeartbeats 4000000 in
theorem sine_any (x y : Nat) (c a : Option Nat) (hx : IsF x c) (hy : IsF y a) (w : World) :
    Calls Try.prog 40 #[.float .f64 x, .float .f64 y] w (RetF (fop .mul .f64 (sinR a 9) c) w) := by
  go_enter Try.func40, Try.ntmps40
  go_wp2
  go_loopw [5, 6] (fun t m wr => ∃ (j n tb : Nat), j ≤ 9 ∧ m = .int .i64 (9 - (j : Int)) ∧ t = .float .f64 tb ∧ IsF tb (sinR a j) ∧ wr = w.drewN n) (fun _ m _ => (intOf m).toNat)
  case atStart => exact ⟨0, 0, _, by omega, rfl, rfl, isF_one, rfl⟩
  case round =>
    obtain ⟨j, n, tb, hj, rfl, rfl, ht, rfl⟩ := hrel
    have HT := Lib.hid ht
    clear ht
    have hc : j = 0 ∨ j = 1 ∨ j = 2 ∨ j = 3 ∨ j = 4 ∨ j = 5 ∨ j = 6 ∨ j = 7 ∨ j = 8 ∨ j = 9 := by omega
    clear hj
    rcases hc with rfl | rfl | rfl | rfl | rfl | rfl | rfl | rfl | rfl | rfl
    · go_wp2_with (first
        | (refine wpList_farith _ rfl .quo (by decide) _ _ _ _ rfl .f64 _ _ rfl rfl ?_; intro r1 n1 hr1 hb1; have HQ := Lib.hid (IsF.op hy (IsF.ofInt _) hr1 hb1); clear hr1 hb1)
        | (refine wpList_farith _ rfl .mul (by decide) _ _ _ _ rfl .f64 _ _ rfl rfl ?_; intro r2 n2 hr2 hb2; have HM := Lib.hid (IsF.op HQ.out HT.out hr2 hb2); clear hr2 hb2)
        | (refine wpList_farith _ rfl .sub (by decide) _ _ _ _ rfl .f64 _ _ rfl rfl ?_; intro r3 n3 hr3 hb3; have HS := Lib.hid (IsF.op isF_one HM.out hr3 hb3); clear hr3 hb3))
      go_roundw
      case rel => exact ⟨1, _, _, by omega, by first | rfl | go_num, rfl, HS.out, rfl⟩
      case measure => simp [intOf]
    · go_wp2_with (first
        | (refine wpList_farith _ rfl .quo (by decide) _ _ _ _ rfl .f64 _ _ rfl rfl ?_; intro r1 n1 hr1 hb1; have HQ := Lib.hid (IsF.op hy (IsF.ofInt _) hr1 hb1); clear hr1 hb1)
        | (refine wpList_farith _ rfl .mul (by decide) _ _ _ _ rfl .f64 _ _ rfl rfl ?_; intro r2 n2 hr2 hb2; have HM := Lib.hid (IsF.op HQ.out HT.out hr2 hb2); clear hr2 hb2)
        | (refine wpList_farith _ rfl .sub (by decide) _ _ _ _ rfl .f64 _ _ rfl rfl ?_; intro r3 n3 hr3 hb3; have HS := Lib.hid (IsF.op isF_one HM.out hr3 hb3); clear hr3 hb3))
      go_roundw
      case rel => exact ⟨2, _, _, by omega, by first | rfl | go_num, rfl, HS.out, rfl⟩
      case measure => simp [intOf]
    · go_wp2_with (first
        | (refine wpList_farith _ rfl .quo (by decide) _ _ _ _ rfl .f64 _ _ rfl rfl ?_; intro r1 n1 hr1 hb1; have HQ := Lib.hid (IsF.op hy (IsF.ofInt _) hr1 hb1); clear hr1 hb1)
        | (refine wpList_farith _ rfl .mul (by decide) _ _ _ _ rfl .f64 _ _ rfl rfl ?_; intro r2 n2 hr2 hb2; have HM := Lib.hid (IsF.op HQ.out HT.out hr2 hb2); clear hr2 hb2)
        | (refine wpList_farith _ rfl .sub (by decide) _ _ _ _ rfl .f64 _ _ rfl rfl ?_; intro r3 n3 hr3 hb3; have HS := Lib.hid (IsF.op isF_one HM.out hr3 hb3); clear hr3 hb3))
      go_roundw
      case rel => exact ⟨3, _, _, by omega, by first | rfl | go_num, rfl, HS.out, rfl⟩
      case measure => simp [intOf]
    · go_wp2_with (first
        | (refine wpList_farith _ rfl .quo (by decide) _ _ _ _ rfl .f64 _ _ rfl rfl ?_; intro r1 n1 hr1 hb1; have HQ := Lib.hid (IsF.op hy (IsF.ofInt _) hr1 hb1); clear hr1 hb1)
        | (refine wpList_farith _ rfl .mul (by decide) _ _ _ _ rfl .f64 _ _ rfl rfl ?_; intro r2 n2 hr2 hb2; have HM := Lib.hid (IsF.op HQ.out HT.out hr2 hb2); clear hr2 hb2)
        | (refine wpList_farith _ rfl .sub (by decide) _ _ _ _ rfl .f64 _ _ rfl rfl ?_; intro r3 n3 hr3 hb3; have HS := Lib.hid (IsF.op isF_one HM.out hr3 hb3); clear hr3 hb3))
      go_roundw
      case rel => exact ⟨4, _, _, by omega, by first | rfl | go_num, rfl, HS.out, rfl⟩
      case measure => simp [intOf]
    · go_wp2_with (first
        | (refine wpList_farith _ rfl .quo (by decide) _ _ _ _ rfl .f64 _ _ rfl rfl ?_; intro r1 n1 hr1 hb1; have HQ := Lib.hid (IsF.op hy (IsF.ofInt _) hr1 hb1); clear hr1 hb1)
        | (refine wpList_farith _ rfl .mul (by decide) _ _ _ _ rfl .f64 _ _ rfl rfl ?_; intro r2 n2 hr2 hb2; have HM := Lib.hid (IsF.op HQ.out HT.out hr2 hb2); clear hr2 hb2)
        | (refine wpList_farith _ rfl .sub (by decide) _ _ _ _ rfl .f64 _ _ rfl rfl ?_; intro r3 n3 hr3 hb3; have HS := Lib.hid (IsF.op isF_one HM.out hr3 hb3); clear hr3 hb3))
      go_roundw
      case rel => exact ⟨5, _, _, by omega, by first | rfl | go_num, rfl, HS.out, rfl⟩
      case measure => simp [intOf]
    · go_wp2_with (first
        | (refine wpList_farith _ rfl .quo (by decide) _ _ _ _ rfl .f64 _ _ rfl rfl ?_; intro r1 n1 hr1 hb1; have HQ := Lib.hid (IsF.op hy (IsF.ofInt _) hr1 hb1); clear hr1 hb1)
        | (refine wpList_farith _ rfl .mul (by decide) _ _ _ _ rfl .f64 _ _ rfl rfl ?_; intro r2 n2 hr2 hb2; have HM := Lib.hid (IsF.op HQ.out HT.out hr2 hb2); clear hr2 hb2)
        | (refine wpList_farith _ rfl .sub (by decide) _ _ _ _ rfl .f64 _ _ rfl rfl ?_; intro r3 n3 hr3 hb3; have HS := Lib.hid (IsF.op isF_one HM.out hr3 hb3); clear hr3 hb3))
      go_roundw
      case rel => exact ⟨6, _, _, by omega, by first | rfl | go_num, rfl, HS.out, rfl⟩
      case measure => simp [intOf]
    · go_wp2_with (first
        | (refine wpList_farith _ rfl .quo (by decide) _ _ _ _ rfl .f64 _ _ rfl rfl ?_; intro r1 n1 hr1 hb1; have HQ := Lib.hid (IsF.op hy (IsF.ofInt _) hr1 hb1); clear hr1 hb1)
        | (refine wpList_farith _ rfl .mul (by decide) _ _ _ _ rfl .f64 _ _ rfl rfl ?_; intro r2 n2 hr2 hb2; have HM := Lib.hid (IsF.op HQ.out HT.out hr2 hb2); clear hr2 hb2)
        | (refine wpList_farith _ rfl .sub (by decide) _ _ _ _ rfl .f64 _ _ rfl rfl ?_; intro r3 n3 hr3 hb3; have HS := Lib.hid (IsF.op isF_one HM.out hr3 hb3); clear hr3 hb3))
      go_roundw
      case rel => exact ⟨7, _, _, by omega, by first | rfl | go_num, rfl, HS.out, rfl⟩
      case measure => simp [intOf]
    · go_wp2_with (first
        | (refine wpList_farith _ rfl .quo (by decide) _ _ _ _ rfl .f64 _ _ rfl rfl ?_; intro r1 n1 hr1 hb1; have HQ := Lib.hid (IsF.op hy (IsF.ofInt _) hr1 hb1); clear hr1 hb1)
        | (refine wpList_farith _ rfl .mul (by decide) _ _ _ _ rfl .f64 _ _ rfl rfl ?_; intro r2 n2 hr2 hb2; have HM := Lib.hid (IsF.op HQ.out HT.out hr2 hb2); clear hr2 hb2)
        | (refine wpList_farith _ rfl .sub (by decide) _ _ _ _ rfl .f64 _ _ rfl rfl ?_; intro r3 n3 hr3 hb3; have HS := Lib.hid (IsF.op isF_one HM.out hr3 hb3); clear hr3 hb3))
      go_roundw
      case rel => exact ⟨8, _, _, by omega, by first | rfl | go_num, rfl, HS.out, rfl⟩
      case measure => simp [intOf]
    · go_wp2_with (first
        | (refine wpList_farith _ rfl .quo (by decide) _ _ _ _ rfl .f64 _ _ rfl rfl ?_; intro r1 n1 hr1 hb1; have HQ := Lib.hid (IsF.op hy (IsF.ofInt _) hr1 hb1); clear hr1 hb1)
        | (refine wpList_farith _ rfl .mul (by decide) _ _ _ _ rfl .f64 _ _ rfl rfl ?_; intro r2 n2 hr2 hb2; have HM := Lib.hid (IsF.op HQ.out HT.out hr2 hb2); clear hr2 hb2)
        | (refine wpList_farith _ rfl .sub (by decide) _ _ _ _ rfl .f64 _ _ rfl rfl ?_; intro r3 n3 hr3 hb3; have HS := Lib.hid (IsF.op isF_one HM.out hr3 hb3); clear hr3 hb3))
      go_roundw
      case rel => exact ⟨9, _, _, by omega, by first | rfl | go_num, rfl, HS.out, rfl⟩
      case measure => simp [intOf]
    · go_wp2_with (refine wpList_farith _ rfl .mul (by decide) _ _ _ _ rfl .f64 _ _ rfl rfl ?_; intro r2 n2 hr2 hb2; have HM := Lib.hid (IsF.op HT.out hx hr2 hb2); clear hr2 hb2)
      go_ret
      exact ⟨_, rfl, HM.out, _, rfl⟩

end Go.Proofs.Yteamnfockjnilaa
/-
  The walk of the model's turn.
-/
set_option linter.unusedVariables false
set_option linter.unusedSimpArgs false
namespace Go.Proofs.Yteamnfockjnilaa
open Go.RowKit Flt Turn

@[go_sem] theorem run_mathsqrt_half (w : World) : (callFunc 48 #[.float .f64 4602678819172646912]).run Try.prog w = .ok (.value (.float .f64 4604544271217802189)) w := by kernel_rfl

theorem RetF.drew {z : Option Nat} {w : World} {m : Nat} {e : Ending} {w' : World} (h : RetF z (w.drewN m) e w') : RetF z w e w' := by
  obtain ⟨r, he, hr, n, rfl⟩ := h
  exact ⟨r, he, hr, m + n, World.drewN_drewN ..⟩

theorem lowest {n k : Nat} (hn : 0 < n) : (n / n.gcd k).gcd (k / n.gcd k) = 1 := by
  rw [Nat.gcd_div (Nat.gcd_dvd_left n k) (Nat.gcd_dvd_right n k)]
  exact Nat.div_self (Nat.gcd_pos_of_pos_left _ hn)

theorem isF_halfRoot : IsF 4604544271217802189 halfRoot := IsF.lit (by decide) (by omega)
theorem isF_twoPi : IsF 4618760256179416344 twoPi := IsF.lit (by decide) (by omega)

/-- How a rule lowers the rank. -/
theorem rank_two {n k f : Nat} (h : n < 2 * k) (hk : k ≤ n) (hr : rank n k < f + 1) : rank n (n - k) < f := by
  unfold rank at hr ⊢
  rw [if_neg (by omega), if_neg (by omega), if_neg (by omega)] at hr
  split <;> (try split) <;> (try split) <;> omega
theorem rank_four {n k f : Nat} (h2 : ¬ n < 2 * k) (h : n < 4 * k) (hr : rank n k < f + 1) : rank (2 * n) (n - 2 * k) < f := by
  unfold rank at hr ⊢
  rw [if_neg (by omega), if_neg (by omega), if_pos (by omega)] at hr
  split <;> (try split) <;> (try split) <;> omega
theorem rank_eight {n k f : Nat} (h4 : ¬ n < 4 * k) (h : n < 8 * k) (hr : rank n k < f + 1) : rank (4 * n) (n - 4 * k) < f := by
  unfold rank at hr ⊢
  rw [if_neg (by omega), if_pos (by omega)] at hr
  split <;> (try split) <;> (try split) <;> omega

set_option maxRecDepth 100000 in
set_option maxHeartbeats 8000000 in
theorem turn_spec : ∀ (f n k : Nat) (w : World), rank n k < f → n * 4 ^ f ≤ 1152921504606846976 → 0 < n → k ≤ n →
    Calls Try.prog 20 #[.int .i64 n, .int .i64 k] w (RetC (turn n k) w) := by
  intro f
  induction f with
  | zero => intro n k w hr; omega
  | succ f ih =>
    intro n k w hr hb hn hk
    have hg := lowest (k := k) hn
    rw [← rank_red hn] at hr
    rw [turn_red hn]
    have hgp := Nat.gcd_pos_of_pos_left k hn
    have hn1 : 0 < n / n.gcd k := Nat.div_pos (Nat.le_of_dvd hn (Nat.gcd_dvd_left n k)) hgp
    have hnn : n / n.gcd k ≤ n := Nat.div_le_self _ _
    have hkk : k / n.gcd k ≤ n / n.gcd k := Nat.div_le_div_right hk
    have hpos : 0 < 4 ^ f := Nat.pow_pos (by omega)
    rw [Nat.pow_succ] at hb
    obtain ⟨P, hP⟩ : ∃ P, 4 ^ f = P := ⟨_, rfl⟩
    rw [hP] at hb hpos
    have hb0 : n * (P * 4) = 4 * (n * P) := by rw [← Nat.mul_assoc, Nat.mul_comm]
    have hb1 : n ≤ n * P := Nat.le_mul_of_pos_right _ hpos
    obtain ⟨g, hG⟩ : ∃ g, n.gcd k = g := ⟨_, rfl⟩
    have D := fun w => divisor_any n k (by omega) (by omega) w
    rw [hG] at hg hgp hn1 hnn hkk hr D ⊢
    obtain ⟨n1, hN⟩ : ∃ n1, n / g = n1 := ⟨_, rfl⟩
    obtain ⟨k1, hK⟩ : ∃ k1, k / g = k1 := ⟨_, rfl⟩
    have q1 : (n : Int) / (g : Int) = (n1 : Int) := by rw [← hN]; rfl
    have q2 : (k : Int) / (g : Int) = (k1 : Int) := by rw [← hK]; rfl
    have q3 : (n : Int).tdiv (g : Int) = (n1 : Int) := by rw [← hN]; rfl
    have q4 : (k : Int).tdiv (g : Int) = (k1 : Int) := by rw [← hK]; rfl
    rw [hN, hK] at hg hr hkk ⊢
    rw [hN] at hn1 hnn
    have hbb : n1 * P ≤ n * P := Nat.mul_le_mul_right _ hnn
    have hB1 : n1 * 4 ^ f ≤ 1152921504606846976 := by rw [hP]; omega
    have hB2 : 2 * n1 * 4 ^ f ≤ 1152921504606846976 := by rw [hP, Nat.mul_assoc]; omega
    have hB4 : 4 * n1 * 4 ^ f ≤ 1152921504606846976 := by rw [hP, Nat.mul_assoc]; omega
    have hn60 : n1 ≤ 288230376151711744 := by omega
    have HG := Lib.hid hg
    have IH := Lib.hid ih
    have HR := Lib.hid hr
    have H1 := Lib.hid hB1
    have H2 := Lib.hid hB2
    have H4 := Lib.hid hB4
    clear hg hN hK hG hr hb hP hb0 hb1 hbb hB1 hB2 hB4 ih hnn hpos hk hn
    by_cases h0 : k1 = 0
    · subst h0
      go_enter Try.func20, Try.ntmps20
      go_wp2_with (go_at_call 36; refine (D _).mono ?_; rintro e w' ⟨rfl, rfl⟩)
      go_ret
      rw [turn_zero HG.out rfl]
      exact ⟨_, _, rfl, isF_one, isF_zero, 0, rfl⟩
    · have h0' : ¬ (k1 : Int) = 0 := by omega
      by_cases h2 : n1 < 2 * k1
      · rw [turn_two HG.out h0 hn1 hkk h2]
        have h2' : (n1 : Int) < 2 * (k1 : Int) := by omega
        obtain ⟨m, hm⟩ : ∃ m, n1 - k1 = m := ⟨_, rfl⟩
        have hm' : (n1 : Int) - (k1 : Int) = (m : Int) := by omega
        have hrk := rank_two h2 hkk HR.out
        rw [hm] at hrk ⊢
        clear hm
        go_enter Try.func20, Try.ntmps20
        go_wp2_with (first
          | (go_at_call 36; refine (D _).mono ?_; rintro e w' ⟨rfl, rfl⟩)
          | (go_at_call 20; refine (IH.out n1 m _ hrk H1.out hn1 (by omega)).mono ?_; rintro e w2 ⟨a, b, rfl, ha, hb, n2, rfl⟩; have HA := Lib.hid ha; have HB := Lib.hid hb; clear ha hb)
          | (go_at_call 37; go_in))
        go_ret
        exact ⟨_, _, rfl, HA.out, HB.out.neg, n2, rfl⟩
      · have h2' : ¬ (n1 : Int) < 2 * (k1 : Int) := by omega
        by_cases h4 : n1 < 4 * k1
        · rw [turn_four HG.out h0 hn1 h2 h4]
          have h4' : (n1 : Int) < 4 * (k1 : Int) := by omega
          obtain ⟨m, hm⟩ : ∃ m, n1 - 2 * k1 = m := ⟨_, rfl⟩
          obtain ⟨nn, hnn⟩ : ∃ nn, 2 * n1 = nn := ⟨_, rfl⟩
          have hm' : (n1 : Int) - 2 * (k1 : Int) = (m : Int) := by omega
          have hnn' : 2 * (n1 : Int) = (nn : Int) := by omega
          have hrk := rank_four h2 h4 HR.out
          have hle : m ≤ nn := by omega
          have hps : 0 < nn := by omega
          rw [hnn] at hrk H2 ⊢
          rw [hm] at hrk ⊢
          clear hm hnn
          go_enter Try.func20, Try.ntmps20
          go_wp2_with (first
            | (go_at_call 36; refine (D _).mono ?_; rintro e w' ⟨rfl, rfl⟩)
            | (go_at_call 20; refine (IH.out nn m _ hrk H2.out hps hle).mono ?_; rintro e w2 ⟨a, b, rfl, ha, hb, n2, rfl⟩; have HA := Lib.hid ha; have HB := Lib.hid hb; clear ha hb))
          go_ret
          exact ⟨_, _, rfl, HA.out.neg, HB.out, n2, rfl⟩
        · have h4' : ¬ (n1 : Int) < 4 * (k1 : Int) := by omega
          by_cases h8 : n1 < 8 * k1
          · rw [turn_eight HG.out h0 hn1 h2 h4 h8]
            have h8' : (n1 : Int) < 8 * (k1 : Int) := by omega
            obtain ⟨m, hm⟩ : ∃ m, n1 - 4 * k1 = m := ⟨_, rfl⟩
            obtain ⟨nn, hnn⟩ : ∃ nn, 4 * n1 = nn := ⟨_, rfl⟩
            have hm' : (n1 : Int) - 4 * (k1 : Int) = (m : Int) := by omega
            have hnn' : 4 * (n1 : Int) = (nn : Int) := by omega
            have hrk := rank_eight h4 h8 HR.out
            have hle : m ≤ nn := by omega
            have hps : 0 < nn := by omega
            rw [hnn] at hrk H4 ⊢
            rw [hm] at hrk ⊢
            clear hm hnn
            go_enter Try.func20, Try.ntmps20
            go_wp2_with (first
              | (go_at_call 36; refine (D _).mono ?_; rintro e w' ⟨rfl, rfl⟩)
              | (go_at_call 20; refine (IH.out nn m _ hrk H4.out hps hle).mono ?_; rintro e w2 ⟨a, b, rfl, ha, hb, n2, rfl⟩; have HA := Lib.hid ha; have HB := Lib.hid hb; clear ha hb))
            go_ret
            exact ⟨_, _, rfl, HB.out, HA.out, n2, rfl⟩
          · have h8' : ¬ (n1 : Int) < 8 * (k1 : Int) := by omega
            by_cases he : 8 * k1 = n1
            · rw [turn_eighth HG.out h0 h2 h4 h8 he]
              have he' : 8 * (k1 : Int) = (n1 : Int) := by omega
              go_enter Try.func20, Try.ntmps20
              go_wp2_with (first
                | (go_at_call 36; refine (D _).mono ?_; rintro e w' ⟨rfl, rfl⟩)
                | (go_at_call 38; go_in))
              go_ret
              exact ⟨_, _, rfl, isF_halfRoot, isF_halfRoot, 0, rfl⟩
            · rw [turn_series HG.out h0 h2 h4 h8 he]
              have he' : ¬ 8 * (k1 : Int) = (n1 : Int) := by omega
              go_enter Try.func20, Try.ntmps20
              go_wp2_with (first
                | (go_at_call 36; refine (D _).mono ?_; rintro e w' ⟨rfl, rfl⟩)
                | (refine wpList_farith _ rfl .mul (by decide) (.const (.float .f64 4618760256179416344)) (.tmp 79) _ _ rfl .f64 _ _ rfl rfl ?_; intro r1 m1 hr1 hb1; have HM := Lib.hid (IsF.op isF_twoPi (IsF.ofInt _) hr1 hb1); clear hr1 hb1)
                | (refine wpList_farith _ rfl .quo (by decide) _ _ _ _ rfl .f64 _ _ rfl rfl ?_; intro r2 m2 hr2 hb2; have HX := Lib.hid (IsF.op HM.out (IsF.ofInt _) hr2 hb2); clear hr2 hb2)
                | (refine wpList_farith _ rfl .mul (by decide) (.tmp 84) (.tmp 85) _ _ rfl .f64 _ _ rfl rfl ?_; intro r3 m3 hr3 hb3; have HY := Lib.hid (IsF.op HX.out HX.out hr3 hb3); clear hr3 hb3)
                | (go_at_call 39; refine (cosine_any _ _ HY.out _).mono ?_; rintro e w2 ⟨c, rfl, hc, n4, rfl⟩; have HC := Lib.hid hc; clear hc)
                | (go_at_call 40; refine (sine_any _ _ _ _ HX.out HY.out _).mono ?_; rintro e w2 ⟨d, rfl, hd, n5, rfl⟩; have HD := Lib.hid hd; clear hd))
              go_ret
              exact ⟨_, _, rfl, HC.out, HD.out, _, rfl⟩

/-- Is there a turn k of n? -/
def TurnIn (n k : Int) : Prop := 1 ≤ n ∧ n ≤ 1024 ∧ 0 ≤ k ∧ k < n

/-- A turn for all n and k up to MaxTurn, four times over. -/
theorem turn_spec4 (n k : Nat) (hn : 0 < n) (hn2 : n ≤ 100000) (hk : k ≤ n) (w : World) :
    Calls Try.prog 20 #[.int .i64 n, .int .i64 k] w (RetC (turn n k) w) :=
  turn_spec 4 n k w (Nat.lt_succ_of_le (rank_le n k)) (by omega) hn hk

/-- What TurnOf returns. -/
def TurnR (n k : Int) (w : World) (e : Ending) (w' : World) : Prop :=
  (∃ m j : Nat, n = m ∧ k = j ∧ TurnIn n k ∧ ∃ a b, e = .returned (.tuple #[.complex .f64 a b, .int .i64 0]) ∧ IsF a (turn m j).1 ∧ IsF b (turn m j).2 ∧ Below w.heap.size w w') ∨
  (¬ TurnIn n k ∧ e = .returned (.tuple #[.complex .f64 0 0, .int .i64 2]) ∧ Below w.heap.size w w')

end Go.Proofs.Yteamnfockjnilaa
/-
  The program's cache of turns: a map that the call has made, keyed by fractions.
-/
set_option linter.unusedVariables false
set_option linter.unusedSimpArgs false
namespace Go.Proofs.Yteamnfockjnilaa
open Go.RowKit Flt Turn
open Go.Maps (Keyed)
open Go.WideElems (Fit rd rg pl rd_val)
open Go.ChangeMaps (setBlock heap_setBlock_same heap_setBlock_other putKey notKey)

theorem laidOut0 : laidOutB Try.prog = true := by kernel_rfl
theorem rowFrac : (74 : TypeId) < Try.prog.types.size := of_decide_eq_true (by kernel_rfl)
theorem keyAtFrac : Try.prog.keyTypeAt 2 74 = true := by kernel_rfl
theorem lawFrac : Keyed Try.prog 74 := Keyed.of_law (deep_law_laid laidOut0 (m := 2) (Nat.le_of_ble_eq_true rfl) rowFrac keyAtFrac (by rw [Try.underlying74]))
theorem cellsFrac : Try.prog.cellsOf 74 = 2 := by kernel_rfl
theorem cellsI64 : Try.prog.cellsOf 2 = 1 := by kernel_rfl
theorem keyTypeFrac : Try.prog.keyType 74 = true := by kernel_rfl
theorem typesPos : 0 < Try.prog.types.size := of_decide_eq_true (by kernel_rfl)

/-- A fraction as a value. -/
def frac (n k : Int) : Value := .agg #[.int .i64 n, .int .i64 k]

theorem key_frac {n k : Int} (hn : (Lit.int .i64 n).wf = true) (hk : (Lit.int .i64 k).wf = true) : ∃ l, keyOf Try.prog 74 (frac n k) = some l := by
  unfold keyOf
  rw [Try.underlying74]
  have hf : (frac n k).formed Try.prog 74 = true := by
    simp [Value.formed, Try.underlying74, cellsFrac, frac]
  obtain ⟨m, hm⟩ : ∃ m, Try.prog.types.size + 1 = m + 2 := ⟨Try.prog.types.size - 1, by have := typesPos; omega⟩
  simp only [keyTypeFrac, hf, Bool.and_self, if_true]
  rw [hm]
  have hL : Try.prog.keyLits (m + 2) 74 (frac n k).cells.toList = some [.int .i64 n, .int .i64 k] := by
    simp [Program.keyLits, Try.underlying74, Try.underlying2, cellsFrac, cellsI64, frac, Value.cells, hn, hk]
  rw [hL]
  exact ⟨_, rfl⟩

/-- An entry of the cache holds the turn of its fraction. -/
def Holds (e : MapEntry) : Prop := ∀ n k : Nat, e.key = frac n k → ∃ a b, e.val = .complex .f64 a b ∧ IsF a (turn n k).1 ∧ IsF b (turn n k).2
def RU : Value → Option (DataW Unit × List MemPlace) := fun _ => some (.lit .nil, [])

/-- Block b is a cache of turns with at most c entries. -/
def Cache (w : World) (b c : Nat) : Prop :=
  ∃ es clock, w.heap[b]? = some (.map es clock) ∧ Fit Try.prog 74 RU es clock ∧ es.size ≤ c ∧ ∀ e ∈ es.toList, Holds e

theorem zeroC (w : World) : (zeroValue 27).run Try.prog w = .ok (.complex .f64 0 0) w := by kernel_rfl

section
variable {w w' : World} {b c : Nat}

theorem Cache.made (w : World) : Cache (w.alloc (.map #[] 0)) w.heap.size 0 :=
  ⟨#[], 0, (MapKept.heap_alloc w _).1, ⟨by simp, Go.MapKept.stamped_empty 0, by simp⟩, Nat.le_refl _, by simp⟩

theorem Cache.mono (h : Cache w b c) {c' : Nat} (hc : c ≤ c') : Cache w b c' := by
  obtain ⟨es, clock, h1, h2, h3, h4⟩ := h
  exact ⟨es, clock, h1, h2, Nat.le_trans h3 hc, h4⟩

theorem Cache.lt (h : Cache w b c) : b < w.heap.size := by
  obtain ⟨es, clock, hb, _⟩ := h
  exact (Array.getElem?_eq_some_iff.1 hb).1

theorem Cache.kept {row : Option Nat} (h : Cache w b c) (hg : w.grownBy w' row) (hne : some b ≠ row) : Cache w' b c := by
  have hlt := h.lt
  obtain ⟨es, clock, hb, r⟩ := h
  exact ⟨es, clock, (hg.block b hlt hne).trans hb, r⟩

theorem Cache.alloc (h : Cache w b c) (o : Obj) : Cache (w.alloc o) b c := h.kept (World.grownBy_alloc w o none) (by simp)
theorem Cache.drewN (h : Cache w b c) (n : Nat) : Cache (w.drewN n) b c := h
theorem Cache.setCell (h : Cache w b c) {a : Addr} (ha : b ≠ a.block) (u : Value) : Cache (w.setCell a u) b c := by
  obtain ⟨es, clock, hb, r⟩ := h
  exact ⟨es, clock, by rw [RowKit.Below.heap_setCell _ _ _ _ ha]; exact hb, r⟩

theorem Cache.look {t : TypeId} (h : Cache w b c) (ht : Try.prog.underlying t = some (.map 74 27)) {n k : Nat} (hn : (Lit.int .i64 (n : Int)).wf = true) (hk : (Lit.int .i64 (k : Int)).wf = true) :
    (Instr.lookup t (.map (some b)) (frac n k) true).run Try.prog w = .ok (.tuple #[.complex .f64 0 0, .bool false]) w ∨
    ∃ x y, IsF x (turn n k).1 ∧ IsF y (turn n k).2 ∧ (Instr.lookup t (.map (some b)) (frac n k) true).run Try.prog w = .ok (.tuple #[.complex .f64 x y, .bool true]) w := by
  obtain ⟨es, clock, hb, F, _, hI⟩ := h
  obtain ⟨kl, hkey⟩ := key_frac hn hk
  rcases Maps.fit_look true lawFrac ht (zeroC w) hb F hkey with ⟨hrun, _, _⟩ | ⟨e0, y, hm, he, hrun, _, _⟩
  · exact .inl hrun
  · obtain ⟨x, y, hv, hx, hy⟩ := hI e0 hm n k he
    rw [hv] at hrun
    exact .inr ⟨x, y, hx, hy, hrun⟩

theorem frac_inj {n k n' k' : Nat} (h : frac n k = frac n' k') : n = n' ∧ k = k' := by
  simp only [frac, Value.agg.injEq] at h
  simp at h
  omega

theorem Cache.store {t : TypeId} (h : Cache w b c) (ht : Try.prog.underlying t = some (.map 74 27)) {n k : Nat} (hn : (Lit.int .i64 (n : Int)).wf = true) (hk : (Lit.int .i64 (k : Int)).wf = true) (hc : c < maxLen)
    {x y : Nat} (hx : IsF x (turn n k).1) (hy : IsF y (turn n k).2) :
    ∃ w', (Instr.mapUpdate t (.map (some b)) (frac n k) (.complex .f64 x y)).run Try.prog w = .ok () w' ∧ Cache w' b (c + 1) ∧ w.grownBy w' (some b) := by
  obtain ⟨es, clock, hb, F, hs, hI⟩ := h
  obtain ⟨kl, hkey⟩ := key_frac hn hk
  obtain ⟨es', clock', hrun, F', hput, _, _, hall⟩ := Maps.fit_store (R' := RU) (val := .complex .f64 x y) lawFrac ht hb F (Nat.lt_of_le_of_lt hs hc) (fun _ _ _ _ hz => hz) hkey (yv := (.lit .nil, [])) rfl
  refine ⟨_, hrun, ⟨es', clock', heap_setBlock_same hb _, F', ?_, ?_⟩, ⟨rfl, rfl, rfl, by simp [setBlock], fun i _ hi => heap_setBlock_other hb _ (fun e => hi (by rw [e]))⟩⟩
  · have e1 : es'.size = ((es'.toList.map (rg Try.prog 74 RU)).foldr DataW.insert []).length := by rw [length_sorted]; simp
    rw [e1, hput]
    unfold putKey
    rw [length_insert]
    have e2 := List.length_filter_le (notKey kl) ((es.toList.map (rg Try.prog 74 RU)).foldr DataW.insert [])
    rw [length_sorted] at e2
    simp at e2
    omega
  · intro e he n' k' hk'
    rcases hall e he with ⟨hm, _⟩ | ⟨h1, h2⟩
    · exact hI e hm n' k' hk'
    · obtain ⟨rfl, rfl⟩ := frac_inj (h1.symm.trans hk')
      exact ⟨x, y, h2, hx, hy⟩
end

/-- The look-up, for the walk. -/
theorem wpList_look_cache (w : World) {ops : Array Oper} {rest : List Oper} {o : Oper} {a : Act} {Q : Exit → Act → World → Prop}
    (hg : o.guard = none) (m x : Operand) (t : TypeId) (hop : o.op = Op.lookup t m x true) (ht : Try.prog.underlying t = some (.map 74 27)) (b c : Nat) (h : Cache w b c) (hm : a.eval m = .map (some b))
    (n k : Nat) (hx : a.eval x = frac n k) (hn : (Lit.int .i64 (n : Int)).wf = true) (hk : (Lit.int .i64 (k : Int)).wf = true)
    (hMiss : wpList Try.prog ops Q rest (a.put o.dst (.tuple #[.complex .f64 0 0, .bool false])) w)
    (hHit : ∀ x y, IsF x (turn n k).1 → IsF y (turn n k).2 → wpList Try.prog ops Q rest (a.put o.dst (.tuple #[.complex .f64 x y, .bool true])) w) : wpList Try.prog ops Q (o :: rest) a w := by
  refine wpList_plain hg fun K' hK' => ?_
  rcases h.look ht hn hk with hrun | ⟨u, v, hu, hv, hrun⟩
  · unfold Oper.wp
    simp [execOp, hop, hm, hx, hrun, Result.andThen]
    exact hK' _ _ hMiss
  · unfold Oper.wp
    simp [execOp, hop, hm, hx, hrun, Result.andThen]
    exact hK' _ _ (hHit u v hu hv)

/-- The store, for the walk. -/
theorem wpList_store_cache (w : World) {ops : Array Oper} {rest : List Oper} {o : Oper} {a : Act} {Q : Exit → Act → World → Prop}
    (hg : o.guard = none) (m x v : Operand) (t : TypeId) (hop : o.op = Op.mapUpdate t m x v) (ht : Try.prog.underlying t = some (.map 74 27)) (b c : Nat) (h : Cache w b c) (hc : c < maxLen) (hm : a.eval m = .map (some b))
    (n k : Nat) (hx : a.eval x = frac n k) (hn : (Lit.int .i64 (n : Int)).wf = true) (hk : (Lit.int .i64 (k : Int)).wf = true) (p q : Nat) (hv : a.eval v = .complex .f64 p q) (hp : IsF p (turn n k).1) (hq : IsF q (turn n k).2)
    (hK : ∀ w', Cache w' b (c + 1) → w.grownBy w' (some b) → wpList Try.prog ops Q rest (a.put o.dst undef) w') : wpList Try.prog ops Q (o :: rest) a w := by
  refine wpList_plain hg fun K' hK' => ?_
  obtain ⟨w', hrun, r1, r2⟩ := h.store ht hn hk hc hp hq
  unfold Oper.wp
  simp [execOp, hop, hm, hx, hv, hrun, Result.andThen]
  exact hK' _ _ (hK w' r1 r2)

end Go.Proofs.Yteamnfockjnilaa
/-
  The walks of the program's turns.
-/
set_option linter.unusedVariables false
set_option linter.unusedSimpArgs false
namespace Go.Proofs.Yteamnfockjnilaa
open Go.RowKit Flt Turn

theorem grown_drewN {w w' : World} {row : Option Nat} (h : w.grownBy w' row) (n : Nat) : w.grownBy (w'.drewN n) row := ⟨h.os, h.tape, h.output, h.size, h.block⟩
theorem results_cell1 {fn : Func} {p : Tmp} {ty : TypeId} (h : fn.results = #[.cell p ty]) (tmps : Array Value) (P : Program) (w : World) {a : Addr} {v : Value} (ha : tmps.getD p undef = .pointer (some a)) (hv : (loadVar ty a).run P w = .ok v w) :
    (results fn tmps).run P w = .ok v w := by
  have ha' : tmps[p]?.getD undef = .pointer (some a) := by simpa using ha
  simp only [results, h]
  simp [Sem.run_bind, Result.andThen, ha', asAddr, hv]

theorem infoFrac : (Try.prog.info? 74).map (·.size) = some 2 := by kernel_rfl

set_option maxRecDepth 100000 in
set_option maxHeartbeats 4000000 in
theorem lowest_impl (n k : Nat) (hn0 : 0 < n) (hn : n ≤ 4611686018427387904) (hk : k ≤ 4611686018427387904) (w : World) :
    Calls Try.prog 55 #[frac n k] w fun e w' => e = .returned (frac ((n / n.gcd k : Nat) : Int) ((k / n.gcd k : Nat) : Int)) ∧ Below w.heap.size w w' := by
  unfold frac
  go_enter Try.func55, Try.ntmps55
  go_wp2
  go_quiet (fail)
  go_wp2
  go_loopw [3, 4] (fun p q wr => ∃ a b m : Nat, p = .int .i64 a ∧ q = .int .i64 b ∧ a ≤ 4611686018427387904 ∧ b ≤ 4611686018427387904 ∧ a.gcd b = n.gcd k ∧ wr = ((w.alloc (.cells #[.int .i64 n, .int .i64 k] 74)).alloc (.cells #[.int .i64 0, .int .i64 0] 74)).drewN m) (fun _ q _ => (intOf q).toNat)
  case atStart => exact ⟨n, k, nq, rfl, rfl, hn, hk, rfl, rfl⟩
  case round =>
    obtain ⟨a, b, m, rfl, rfl, ha, hb, hg, rfl⟩ := hrel
    have HG := Lib.hid hg
    clear hg
    by_cases hb0 : b = 0
    · subst hb0
      have HA : Hid (a = n.gcd k) := by have := HG.out; rwa [Nat.gcd_zero_right] at this
      have hap : 0 < a := by rw [HA.out]; exact Nat.gcd_pos_of_pos_left _ hn0
      clear HG
      obtain ⟨n1, hN⟩ : ∃ n1, n / a = n1 := ⟨_, rfl⟩
      obtain ⟨k1, hK⟩ : ∃ k1, k / a = k1 := ⟨_, rfl⟩
      have q1 : (n : Int) / (a : Int) = (n1 : Int) := by rw [← hN]; rfl
      have q2 : (k : Int) / (a : Int) = (k1 : Int) := by rw [← hK]; rfl
      have q3 : (n : Int).tdiv (a : Int) = (n1 : Int) := by rw [← hN]; rfl
      have q4 : (k : Int).tdiv (a : Int) = (k1 : Int) := by rw [← hK]; rfl
      have hn1 : n1 ≤ n := by rw [← hN]; exact Nat.div_le_self _ _
      have hk1 : k1 ≤ k := by rw [← hK]; exact Nat.div_le_self _ _
      have HN := Lib.hid hN
      have HK := Lib.hid hK
      clear hN hK
      go_wp2
      go_region
      go_wp2
      (try simp only [Exit.inBlock, Exit.then])
      refine bodyPost_ret (results_cell1 rfl _ _ _ rfl (run_loadVar_mid _ _ _ _ [.int .i64 n1, .int .i64 k1] _ ?_ Try.underlying74 rfl infoFrac)) rfl ?_
      · intro j v hv
        rcases j with _ | _ | j <;> simp at hv <;> subst hv <;> go_simp
      · refine ⟨?_, ?_⟩
        · rw [← HA.out, HN.out, HK.out]
        · refine Below.setCell (Below.setCell (below_draws (((Below.refl _ _).alloc (Nat.le_refl _) _).alloc (by simp) _) _) ?_ _) ?_ _ <;> simp
    · have hb1 : ¬ (b : Int) = 0 := by omega
      obtain ⟨r, hr⟩ : ∃ r, a % b = r := ⟨_, rfl⟩
      have hr1 : (a : Int) % (b : Int) = (r : Int) := by rw [← hr]; rfl
      have hr2 : (a : Int).tmod (b : Int) = (r : Int) := by rw [← hr]; rfl
      have hrb : r < b := by rw [← hr]; exact Nat.mod_lt _ (by omega)
      have HG2 : Hid (b.gcd r = n.gcd k) := by
        show b.gcd r = n.gcd k
        rw [← hr, ← HG.out, Nat.gcd_comm a b, Nat.gcd_rec b a, Nat.gcd_comm]
      clear hr HG
      go_wp2
      go_quiet (fail)
      go_wp2
      go_roundw
      case rel => exact ⟨b, r, m + nq, rfl, rfl, hb, by omega, HG2.out, World.drewN_drewN ..⟩
      case measure => simp [intOf]; omega

/-- A complex number is returned; what was there is as it was. -/
def RetB (z : Option Nat × Option Nat) (w : World) (e : Ending) (w' : World) : Prop := ∃ a b, e = .returned (.complex .f64 a b) ∧ IsF a z.1 ∧ IsF b z.2 ∧ Below w.heap.size w w'

set_option maxRecDepth 100000 in
set_option maxHeartbeats 8000000 in
theorem series_impl (n k : Nat) (hn : n ≤ 4611686018427387904) (hk : k ≤ 4611686018427387904) (w : World) :
    Calls Try.prog 57 #[frac n k] w (RetB (serO n k) w) := by
  unfold frac
  go_enter Try.func57, Try.ntmps57
  go_wp2_with (first
    | (refine wpList_farith _ rfl .mul (by decide) (.const (.float .f64 4618760256179416344)) (.tmp 10) _ _ rfl .f64 _ _ rfl rfl ?_; intro rA nA hrA hbA; have A := Lib.hid (IsF.op isF_twoPi (IsF.ofInt _) hrA hbA); clear hrA hbA)
    | (refine wpList_farith _ rfl .quo (by decide) (.tmp 11) (.tmp 14) _ _ rfl .f64 _ _ rfl rfl ?_; intro rB nB hrB hbB; have B := Lib.hid (IsF.op A.out (IsF.ofInt _) hrB hbB); clear hrB hbB)
    | (refine wpList_farith _ rfl .mul (by decide) (.tmp 16) (.tmp 17) _ _ rfl .f64 _ _ rfl rfl ?_; intro rC nC hrC hbC; have C := Lib.hid (IsF.op B.out B.out hrC hbC); clear hrC hbC))
  obtain ⟨N0, hN0⟩ : ∃ N0, nA + nB + nC = N0 := ⟨_, rfl⟩
  go_loopw [5, 6, 7] (fun s t m wr => ∃ (j n0 sb tb : Nat), j ≤ 9 ∧ m = .int .i64 (9 - (j : Int)) ∧ s = .float .f64 sb ∧ t = .float .f64 tb ∧ IsF sb (cosR (fop .mul .f64 (argO n k) (argO n k)) j) ∧ IsF tb (sinR (fop .mul .f64 (argO n k) (argO n k)) j) ∧ wr = (w.alloc (.cells #[.int .i64 n, .int .i64 k] 74)).drewN n0) (fun _ _ m _ => (intOf m).toNat)
  case atStart => exact ⟨0, _, _, _, by omega, rfl, rfl, rfl, isF_one, isF_one, rfl⟩
  case round =>
    obtain ⟨j, n0, sb, tb, hj, rfl, rfl, rfl, hs, ht, rfl⟩ := hrel
    have HS := Lib.hid hs
    have HT := Lib.hid ht
    have HY : Hid (IsF rC (fop .mul .f64 (argO n k) (argO n k))) := C.out
    clear hs ht
    have hc : j = 0 ∨ j = 1 ∨ j = 2 ∨ j = 3 ∨ j = 4 ∨ j = 5 ∨ j = 6 ∨ j = 7 ∨ j = 8 ∨ j = 9 := by omega
    clear hj
    rcases hc with rfl | rfl | rfl | rfl | rfl | rfl | rfl | rfl | rfl | rfl
    · go_wp2_with (first
        | (refine wpList_farith _ rfl .quo (by decide) (.tmp 23) (.tmp 30) _ _ rfl .f64 _ _ rfl rfl ?_; intro rD nD hrD hbD; have D := Lib.hid (IsF.op HY.out (IsF.ofInt _) hrD hbD); clear hrD hbD)
        | (refine wpList_farith _ rfl .mul (by decide) (.tmp 31) (.tmp 32) _ _ rfl .f64 _ _ rfl rfl ?_; intro rE nE hrE hbE; have E := Lib.hid (IsF.op D.out HS.out hrE hbE); clear hrE hbE)
        | (refine wpList_farith _ rfl .sub (by decide) (.const (.float .f64 4607182418800017408)) (.tmp 33) _ _ rfl .f64 _ _ rfl rfl ?_; intro rF nF hrF hbF; have F := Lib.hid (IsF.op isF_one E.out hrF hbF); clear hrF hbF)
        | (refine wpList_farith _ rfl .quo (by decide) (.tmp 35) (.tmp 42) _ _ rfl .f64 _ _ rfl rfl ?_; intro rG nG hrG hbG; have G := Lib.hid (IsF.op HY.out (IsF.ofInt _) hrG hbG); clear hrG hbG)
        | (refine wpList_farith _ rfl .mul (by decide) (.tmp 43) (.tmp 44) _ _ rfl .f64 _ _ rfl rfl ?_; intro rH nH hrH hbH; have H := Lib.hid (IsF.op G.out HT.out hrH hbH); clear hrH hbH)
        | (refine wpList_farith _ rfl .sub (by decide) (.const (.float .f64 4607182418800017408)) (.tmp 45) _ _ rfl .f64 _ _ rfl rfl ?_; intro rI nI hrI hbI; have I := Lib.hid (IsF.op isF_one H.out hrI hbI); clear hrI hbI))
      go_roundw
      case rel => exact ⟨1, _, _, _, by omega, by first | rfl | go_num, rfl, rfl, F.out, I.out, rfl⟩
      case measure => simp [intOf]
    · go_wp2_with (first
        | (refine wpList_farith _ rfl .quo (by decide) (.tmp 23) (.tmp 30) _ _ rfl .f64 _ _ rfl rfl ?_; intro rD nD hrD hbD; have D := Lib.hid (IsF.op HY.out (IsF.ofInt _) hrD hbD); clear hrD hbD)
        | (refine wpList_farith _ rfl .mul (by decide) (.tmp 31) (.tmp 32) _ _ rfl .f64 _ _ rfl rfl ?_; intro rE nE hrE hbE; have E := Lib.hid (IsF.op D.out HS.out hrE hbE); clear hrE hbE)
        | (refine wpList_farith _ rfl .sub (by decide) (.const (.float .f64 4607182418800017408)) (.tmp 33) _ _ rfl .f64 _ _ rfl rfl ?_; intro rF nF hrF hbF; have F := Lib.hid (IsF.op isF_one E.out hrF hbF); clear hrF hbF)
        | (refine wpList_farith _ rfl .quo (by decide) (.tmp 35) (.tmp 42) _ _ rfl .f64 _ _ rfl rfl ?_; intro rG nG hrG hbG; have G := Lib.hid (IsF.op HY.out (IsF.ofInt _) hrG hbG); clear hrG hbG)
        | (refine wpList_farith _ rfl .mul (by decide) (.tmp 43) (.tmp 44) _ _ rfl .f64 _ _ rfl rfl ?_; intro rH nH hrH hbH; have H := Lib.hid (IsF.op G.out HT.out hrH hbH); clear hrH hbH)
        | (refine wpList_farith _ rfl .sub (by decide) (.const (.float .f64 4607182418800017408)) (.tmp 45) _ _ rfl .f64 _ _ rfl rfl ?_; intro rI nI hrI hbI; have I := Lib.hid (IsF.op isF_one H.out hrI hbI); clear hrI hbI))
      go_roundw
      case rel => exact ⟨2, _, _, _, by omega, by first | rfl | go_num, rfl, rfl, F.out, I.out, rfl⟩
      case measure => simp [intOf]
    · go_wp2_with (first
        | (refine wpList_farith _ rfl .quo (by decide) (.tmp 23) (.tmp 30) _ _ rfl .f64 _ _ rfl rfl ?_; intro rD nD hrD hbD; have D := Lib.hid (IsF.op HY.out (IsF.ofInt _) hrD hbD); clear hrD hbD)
        | (refine wpList_farith _ rfl .mul (by decide) (.tmp 31) (.tmp 32) _ _ rfl .f64 _ _ rfl rfl ?_; intro rE nE hrE hbE; have E := Lib.hid (IsF.op D.out HS.out hrE hbE); clear hrE hbE)
        | (refine wpList_farith _ rfl .sub (by decide) (.const (.float .f64 4607182418800017408)) (.tmp 33) _ _ rfl .f64 _ _ rfl rfl ?_; intro rF nF hrF hbF; have F := Lib.hid (IsF.op isF_one E.out hrF hbF); clear hrF hbF)
        | (refine wpList_farith _ rfl .quo (by decide) (.tmp 35) (.tmp 42) _ _ rfl .f64 _ _ rfl rfl ?_; intro rG nG hrG hbG; have G := Lib.hid (IsF.op HY.out (IsF.ofInt _) hrG hbG); clear hrG hbG)
        | (refine wpList_farith _ rfl .mul (by decide) (.tmp 43) (.tmp 44) _ _ rfl .f64 _ _ rfl rfl ?_; intro rH nH hrH hbH; have H := Lib.hid (IsF.op G.out HT.out hrH hbH); clear hrH hbH)
        | (refine wpList_farith _ rfl .sub (by decide) (.const (.float .f64 4607182418800017408)) (.tmp 45) _ _ rfl .f64 _ _ rfl rfl ?_; intro rI nI hrI hbI; have I := Lib.hid (IsF.op isF_one H.out hrI hbI); clear hrI hbI))
      go_roundw
      case rel => exact ⟨3, _, _, _, by omega, by first | rfl | go_num, rfl, rfl, F.out, I.out, rfl⟩
      case measure => simp [intOf]
    · go_wp2_with (first
        | (refine wpList_farith _ rfl .quo (by decide) (.tmp 23) (.tmp 30) _ _ rfl .f64 _ _ rfl rfl ?_; intro rD nD hrD hbD; have D := Lib.hid (IsF.op HY.out (IsF.ofInt _) hrD hbD); clear hrD hbD)
        | (refine wpList_farith _ rfl .mul (by decide) (.tmp 31) (.tmp 32) _ _ rfl .f64 _ _ rfl rfl ?_; intro rE nE hrE hbE; have E := Lib.hid (IsF.op D.out HS.out hrE hbE); clear hrE hbE)
        | (refine wpList_farith _ rfl .sub (by decide) (.const (.float .f64 4607182418800017408)) (.tmp 33) _ _ rfl .f64 _ _ rfl rfl ?_; intro rF nF hrF hbF; have F := Lib.hid (IsF.op isF_one E.out hrF hbF); clear hrF hbF)
        | (refine wpList_farith _ rfl .quo (by decide) (.tmp 35) (.tmp 42) _ _ rfl .f64 _ _ rfl rfl ?_; intro rG nG hrG hbG; have G := Lib.hid (IsF.op HY.out (IsF.ofInt _) hrG hbG); clear hrG hbG)
        | (refine wpList_farith _ rfl .mul (by decide) (.tmp 43) (.tmp 44) _ _ rfl .f64 _ _ rfl rfl ?_; intro rH nH hrH hbH; have H := Lib.hid (IsF.op G.out HT.out hrH hbH); clear hrH hbH)
        | (refine wpList_farith _ rfl .sub (by decide) (.const (.float .f64 4607182418800017408)) (.tmp 45) _ _ rfl .f64 _ _ rfl rfl ?_; intro rI nI hrI hbI; have I := Lib.hid (IsF.op isF_one H.out hrI hbI); clear hrI hbI))
      go_roundw
      case rel => exact ⟨4, _, _, _, by omega, by first | rfl | go_num, rfl, rfl, F.out, I.out, rfl⟩
      case measure => simp [intOf]
    · go_wp2_with (first
        | (refine wpList_farith _ rfl .quo (by decide) (.tmp 23) (.tmp 30) _ _ rfl .f64 _ _ rfl rfl ?_; intro rD nD hrD hbD; have D := Lib.hid (IsF.op HY.out (IsF.ofInt _) hrD hbD); clear hrD hbD)
        | (refine wpList_farith _ rfl .mul (by decide) (.tmp 31) (.tmp 32) _ _ rfl .f64 _ _ rfl rfl ?_; intro rE nE hrE hbE; have E := Lib.hid (IsF.op D.out HS.out hrE hbE); clear hrE hbE)
        | (refine wpList_farith _ rfl .sub (by decide) (.const (.float .f64 4607182418800017408)) (.tmp 33) _ _ rfl .f64 _ _ rfl rfl ?_; intro rF nF hrF hbF; have F := Lib.hid (IsF.op isF_one E.out hrF hbF); clear hrF hbF)
        | (refine wpList_farith _ rfl .quo (by decide) (.tmp 35) (.tmp 42) _ _ rfl .f64 _ _ rfl rfl ?_; intro rG nG hrG hbG; have G := Lib.hid (IsF.op HY.out (IsF.ofInt _) hrG hbG); clear hrG hbG)
        | (refine wpList_farith _ rfl .mul (by decide) (.tmp 43) (.tmp 44) _ _ rfl .f64 _ _ rfl rfl ?_; intro rH nH hrH hbH; have H := Lib.hid (IsF.op G.out HT.out hrH hbH); clear hrH hbH)
        | (refine wpList_farith _ rfl .sub (by decide) (.const (.float .f64 4607182418800017408)) (.tmp 45) _ _ rfl .f64 _ _ rfl rfl ?_; intro rI nI hrI hbI; have I := Lib.hid (IsF.op isF_one H.out hrI hbI); clear hrI hbI))
      go_roundw
      case rel => exact ⟨5, _, _, _, by omega, by first | rfl | go_num, rfl, rfl, F.out, I.out, rfl⟩
      case measure => simp [intOf]
    · go_wp2_with (first
        | (refine wpList_farith _ rfl .quo (by decide) (.tmp 23) (.tmp 30) _ _ rfl .f64 _ _ rfl rfl ?_; intro rD nD hrD hbD; have D := Lib.hid (IsF.op HY.out (IsF.ofInt _) hrD hbD); clear hrD hbD)
        | (refine wpList_farith _ rfl .mul (by decide) (.tmp 31) (.tmp 32) _ _ rfl .f64 _ _ rfl rfl ?_; intro rE nE hrE hbE; have E := Lib.hid (IsF.op D.out HS.out hrE hbE); clear hrE hbE)
        | (refine wpList_farith _ rfl .sub (by decide) (.const (.float .f64 4607182418800017408)) (.tmp 33) _ _ rfl .f64 _ _ rfl rfl ?_; intro rF nF hrF hbF; have F := Lib.hid (IsF.op isF_one E.out hrF hbF); clear hrF hbF)
        | (refine wpList_farith _ rfl .quo (by decide) (.tmp 35) (.tmp 42) _ _ rfl .f64 _ _ rfl rfl ?_; intro rG nG hrG hbG; have G := Lib.hid (IsF.op HY.out (IsF.ofInt _) hrG hbG); clear hrG hbG)
        | (refine wpList_farith _ rfl .mul (by decide) (.tmp 43) (.tmp 44) _ _ rfl .f64 _ _ rfl rfl ?_; intro rH nH hrH hbH; have H := Lib.hid (IsF.op G.out HT.out hrH hbH); clear hrH hbH)
        | (refine wpList_farith _ rfl .sub (by decide) (.const (.float .f64 4607182418800017408)) (.tmp 45) _ _ rfl .f64 _ _ rfl rfl ?_; intro rI nI hrI hbI; have I := Lib.hid (IsF.op isF_one H.out hrI hbI); clear hrI hbI))
      go_roundw
      case rel => exact ⟨6, _, _, _, by omega, by first | rfl | go_num, rfl, rfl, F.out, I.out, rfl⟩
      case measure => simp [intOf]
    · go_wp2_with (first
        | (refine wpList_farith _ rfl .quo (by decide) (.tmp 23) (.tmp 30) _ _ rfl .f64 _ _ rfl rfl ?_; intro rD nD hrD hbD; have D := Lib.hid (IsF.op HY.out (IsF.ofInt _) hrD hbD); clear hrD hbD)
        | (refine wpList_farith _ rfl .mul (by decide) (.tmp 31) (.tmp 32) _ _ rfl .f64 _ _ rfl rfl ?_; intro rE nE hrE hbE; have E := Lib.hid (IsF.op D.out HS.out hrE hbE); clear hrE hbE)
        | (refine wpList_farith _ rfl .sub (by decide) (.const (.float .f64 4607182418800017408)) (.tmp 33) _ _ rfl .f64 _ _ rfl rfl ?_; intro rF nF hrF hbF; have F := Lib.hid (IsF.op isF_one E.out hrF hbF); clear hrF hbF)
        | (refine wpList_farith _ rfl .quo (by decide) (.tmp 35) (.tmp 42) _ _ rfl .f64 _ _ rfl rfl ?_; intro rG nG hrG hbG; have G := Lib.hid (IsF.op HY.out (IsF.ofInt _) hrG hbG); clear hrG hbG)
        | (refine wpList_farith _ rfl .mul (by decide) (.tmp 43) (.tmp 44) _ _ rfl .f64 _ _ rfl rfl ?_; intro rH nH hrH hbH; have H := Lib.hid (IsF.op G.out HT.out hrH hbH); clear hrH hbH)
        | (refine wpList_farith _ rfl .sub (by decide) (.const (.float .f64 4607182418800017408)) (.tmp 45) _ _ rfl .f64 _ _ rfl rfl ?_; intro rI nI hrI hbI; have I := Lib.hid (IsF.op isF_one H.out hrI hbI); clear hrI hbI))
      go_roundw
      case rel => exact ⟨7, _, _, _, by omega, by first | rfl | go_num, rfl, rfl, F.out, I.out, rfl⟩
      case measure => simp [intOf]
    · go_wp2_with (first
        | (refine wpList_farith _ rfl .quo (by decide) (.tmp 23) (.tmp 30) _ _ rfl .f64 _ _ rfl rfl ?_; intro rD nD hrD hbD; have D := Lib.hid (IsF.op HY.out (IsF.ofInt _) hrD hbD); clear hrD hbD)
        | (refine wpList_farith _ rfl .mul (by decide) (.tmp 31) (.tmp 32) _ _ rfl .f64 _ _ rfl rfl ?_; intro rE nE hrE hbE; have E := Lib.hid (IsF.op D.out HS.out hrE hbE); clear hrE hbE)
        | (refine wpList_farith _ rfl .sub (by decide) (.const (.float .f64 4607182418800017408)) (.tmp 33) _ _ rfl .f64 _ _ rfl rfl ?_; intro rF nF hrF hbF; have F := Lib.hid (IsF.op isF_one E.out hrF hbF); clear hrF hbF)
        | (refine wpList_farith _ rfl .quo (by decide) (.tmp 35) (.tmp 42) _ _ rfl .f64 _ _ rfl rfl ?_; intro rG nG hrG hbG; have G := Lib.hid (IsF.op HY.out (IsF.ofInt _) hrG hbG); clear hrG hbG)
        | (refine wpList_farith _ rfl .mul (by decide) (.tmp 43) (.tmp 44) _ _ rfl .f64 _ _ rfl rfl ?_; intro rH nH hrH hbH; have H := Lib.hid (IsF.op G.out HT.out hrH hbH); clear hrH hbH)
        | (refine wpList_farith _ rfl .sub (by decide) (.const (.float .f64 4607182418800017408)) (.tmp 45) _ _ rfl .f64 _ _ rfl rfl ?_; intro rI nI hrI hbI; have I := Lib.hid (IsF.op isF_one H.out hrI hbI); clear hrI hbI))
      go_roundw
      case rel => exact ⟨8, _, _, _, by omega, by first | rfl | go_num, rfl, rfl, F.out, I.out, rfl⟩
      case measure => simp [intOf]
    · go_wp2_with (first
        | (refine wpList_farith _ rfl .quo (by decide) (.tmp 23) (.tmp 30) _ _ rfl .f64 _ _ rfl rfl ?_; intro rD nD hrD hbD; have D := Lib.hid (IsF.op HY.out (IsF.ofInt _) hrD hbD); clear hrD hbD)
        | (refine wpList_farith _ rfl .mul (by decide) (.tmp 31) (.tmp 32) _ _ rfl .f64 _ _ rfl rfl ?_; intro rE nE hrE hbE; have E := Lib.hid (IsF.op D.out HS.out hrE hbE); clear hrE hbE)
        | (refine wpList_farith _ rfl .sub (by decide) (.const (.float .f64 4607182418800017408)) (.tmp 33) _ _ rfl .f64 _ _ rfl rfl ?_; intro rF nF hrF hbF; have F := Lib.hid (IsF.op isF_one E.out hrF hbF); clear hrF hbF)
        | (refine wpList_farith _ rfl .quo (by decide) (.tmp 35) (.tmp 42) _ _ rfl .f64 _ _ rfl rfl ?_; intro rG nG hrG hbG; have G := Lib.hid (IsF.op HY.out (IsF.ofInt _) hrG hbG); clear hrG hbG)
        | (refine wpList_farith _ rfl .mul (by decide) (.tmp 43) (.tmp 44) _ _ rfl .f64 _ _ rfl rfl ?_; intro rH nH hrH hbH; have H := Lib.hid (IsF.op G.out HT.out hrH hbH); clear hrH hbH)
        | (refine wpList_farith _ rfl .sub (by decide) (.const (.float .f64 4607182418800017408)) (.tmp 45) _ _ rfl .f64 _ _ rfl rfl ?_; intro rI nI hrI hbI; have I := Lib.hid (IsF.op isF_one H.out hrI hbI); clear hrI hbI))
      go_roundw
      case rel => exact ⟨9, _, _, _, by omega, by first | rfl | go_num, rfl, rfl, F.out, I.out, rfl⟩
      case measure => simp [intOf]
    · go_wp2_with (first
        | (refine wpList_farith _ rfl .mul (by decide) (.tmp 48) (.tmp 49) _ _ rfl .f64 _ _ rfl rfl ?_; intro rK nK hrK hbK; have K := Lib.hid (IsF.op HT.out B.out hrK hbK); clear hrK hbK))
      go_ret
      refine ⟨_, _, rfl, HS.out, K.out, ?_⟩
      exact below_draws ((Below.refl _ _).alloc (Nat.le_refl _) _) _

end Go.Proofs.Yteamnfockjnilaa
