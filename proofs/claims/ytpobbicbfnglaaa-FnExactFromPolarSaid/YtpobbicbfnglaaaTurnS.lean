import Derived.Test.YtpobbicbfnglaaaTurnP
import Derived.Test.YtpobbicbfnglaaaRows
import Derived.Test.YtpobbicbfnglaaaExt
import Derived.Test.YtpobbicbfnglaaaSigB
import Derived.Lib.Hide
/-
  The walks of the model's turns.
-/
set_option linter.unusedVariables false
set_option linter.unusedSimpArgs false
namespace Go.Proofs.Ytpobbicbfnglaaa
open Go.RowKit Flt Turn

/-- A float is returned, and nothing has turned but the count of draws. -/
def RetF (z : Option Nat) (w : World) (e : Ending) (w' : World) : Prop := ∃ r, e = .returned (.float .f64 r) ∧ IsF r z ∧ ∃ n, w' = w.drewN n

theorem isF_one : IsF 4607182418800017408 oneO := IsF.lit (by decide) (by omega)
theorem isF_zero : IsF 0 zeroO := IsF.lit (by decide) (by omega)

theorem divisor_any (n k : Nat) (hn : n ≤ 4611686018427387904) (hk : k ≤ 4611686018427387904) (w : World) :
    Calls Try.prog 90 #[.int .i64 n, .int .i64 k] w fun e w' => e = .returned (.int .i64 ((n.gcd k : Nat) : Int)) ∧ w' = w := by
  go_enter Try.func90, Try.ntmps90
  go_wp2
  go_loopw [0, 1] (fun p q wr => ∃ a b : Nat, p = .int .i64 a ∧ q = .int .i64 b ∧ a ≤ 4611686018427387904 ∧ b ≤ 4611686018427387904 ∧ a.gcd b = n.gcd k ∧ wr = w) (fun _ q _ => (intOf q).toNat)
  case atStart => exact ⟨n, k, rfl, rfl, hn, hk, rfl, rfl⟩
  case round =>
    obtain ⟨a, b, rfl, rfl, ha, hb, hg, rfl⟩ := hrel
    have HG := Lib.hid hg
    clear hg
    by_cases hb0 : b = 0
    · subst hb0
      have HA : Hid (a = n.gcd k) := by have := HG.out; rwa [Nat.gcd_zero_right] at this
      clear HG
      go_wp2
      go_ret
      exact ⟨by rw [← HA.out]; rfl, rfl⟩
    · have hb1 : ¬ (b : Int) = 0 := by omega
      obtain ⟨r, hr⟩ : ∃ r, a % b = r := ⟨_, rfl⟩
      have hr1 : (a : Int) % (b : Int) = (r : Int) := by rw [← hr]; rfl
      have hr2 : (a : Int).tmod (b : Int) = (r : Int) := by rw [← hr]; rfl
      have hrb : r < b := by rw [← hr]; exact Nat.mod_lt _ (by omega)
      have HG2 : Hid (b.gcd r = n.gcd k) := by
        show b.gcd r = n.gcd k
        rw [← hr, ← HG.out, Nat.gcd_comm a b, Nat.gcd_rec b a, Nat.gcd_comm]
      clear hr HG
      go_wp2
      go_roundw
      case rel => first | exact ⟨b, r, rfl, rfl, hb, by omega, HG2.out, by first | rfl | trivial⟩ | ((repeat apply Exists.intro); refine ⟨?_, rfl⟩; exact ⟨b, r, rfl, rfl, hb, by omega, HG2.out, by first | rfl | trivial⟩)
      case measure => simp [intOf]; omega

set_option maxRecDepth 100000 in
set_option maxHeartbeats 4000000 in
theorem cosine_any (y : Nat) (a : Option Nat) (hy : IsF y a) (w : World) :
    Calls Try.prog 93 #[.float .f64 y] w (RetF (cosR a 9) w) := by
  go_enter Try.func93, Try.ntmps93
  go_wp2
  go_loopw [3, 4] (fun t m wr => ∃ (j n tb : Nat), j ≤ 9 ∧ m = .int .i64 (9 - (j : Int)) ∧ t = .float .f64 tb ∧ IsF tb (cosR a j) ∧ wr = w.drewN n) (fun _ m _ => (intOf m).toNat)
  case atStart => exact ⟨0, 0, _, by omega, rfl, rfl, isF_one, rfl⟩
  case round =>
    obtain ⟨j, n, tb, hj, rfl, rfl, ht, rfl⟩ := hrel
    have HT := Lib.hid ht
    clear ht
    have hc : j = 0 ∨ j = 1 ∨ j = 2 ∨ j = 3 ∨ j = 4 ∨ j = 5 ∨ j = 6 ∨ j = 7 ∨ j = 8 ∨ j = 9 := by omega
    clear hj
    rcases hc with rfl | rfl | rfl | rfl | rfl | rfl | rfl | rfl | rfl | rfl
    · go_wp2_with (first
        | (refine wpList_farith _ rfl .quo (by decide) _ _ _ _ rfl .f64 _ _ rfl rfl ?_; intro r1 n1 hr1 hb1; have HQ := Lib.hid (IsF.op hy (IsF.ofInt _) hr1 hb1); clear hr1 hb1)
        | (refine wpList_farith _ rfl .mul (by decide) _ _ _ _ rfl .f64 _ _ rfl rfl ?_; intro r2 n2 hr2 hb2; have HM := Lib.hid (IsF.op HQ.out HT.out hr2 hb2); clear hr2 hb2)
        | (refine wpList_farith _ rfl .sub (by decide) _ _ _ _ rfl .f64 _ _ rfl rfl ?_; intro r3 n3 hr3 hb3; have HS := Lib.hid (IsF.op isF_one HM.out hr3 hb3); clear hr3 hb3))
      go_roundw
      case rel => exact ⟨1, _, _, by omega, by first | rfl | go_num, rfl, HS.out, rfl⟩
      case measure => simp [intOf]
    · go_wp2_with (first
        | (refine wpList_farith _ rfl .quo (by decide) _ _ _ _ rfl .f64 _ _ rfl rfl ?_; intro r1 n1 hr1 hb1; have HQ := Lib.hid (IsF.op hy (IsF.ofInt _) hr1 hb1); clear hr1 hb1)
        | (refine wpList_farith _ rfl .mul (by decide) _ _ _ _ rfl .f64 _ _ rfl rfl ?_; intro r2 n2 hr2 hb2; have HM := Lib.hid (IsF.op HQ.out HT.out hr2 hb2); clear hr2 hb2)
        | (refine wpList_farith _ rfl .sub (by decide) _ _ _ _ rfl .f64 _ _ rfl rfl ?_; intro r3 n3 hr3 hb3; have HS := Lib.hid (IsF.op isF_one HM.out hr3 hb3); clear hr3 hb3))
      go_roundw
      case rel => exact ⟨2, _, _, by omega, by first | rfl | go_num, rfl, HS.out, rfl⟩
      case measure => simp [intOf]
    · go_wp2_with (first
        | (refine wpList_farith _ rfl .quo (by decide) _ _ _ _ rfl .f64 _ _ rfl rfl ?_; intro r1 n1 hr1 hb1; have HQ := Lib.hid (IsF.op hy (IsF.ofInt _) hr1 hb1); clear hr1 hb1)
        | (refine wpList_farith _ rfl .mul (by decide) _ _ _ _ rfl .f64 _ _ rfl rfl ?_; intro r2 n2 hr2 hb2; have HM := Lib.hid (IsF.op HQ.out HT.out hr2 hb2); clear hr2 hb2)
        | (refine wpList_farith _ rfl .sub (by decide) _ _ _ _ rfl .f64 _ _ rfl rfl ?_; intro r3 n3 hr3 hb3; have HS := Lib.hid (IsF.op isF_one HM.out hr3 hb3); clear hr3 hb3))
      go_roundw
      case rel => exact ⟨3, _, _, by omega, by first | rfl | go_num, rfl, HS.out, rfl⟩
      case measure => simp [intOf]
    · go_wp2_with (first
        | (refine wpList_farith _ rfl .quo (by decide) _ _ _ _ rfl .f64 _ _ rfl rfl ?_; intro r1 n1 hr1 hb1; have HQ := Lib.hid (IsF.op hy (IsF.ofInt _) hr1 hb1); clear hr1 hb1)
        | (refine wpList_farith _ rfl .mul (by decide) _ _ _ _ rfl .f64 _ _ rfl rfl ?_; intro r2 n2 hr2 hb2; have HM := Lib.hid (IsF.op HQ.out HT.out hr2 hb2); clear hr2 hb2)
        | (refine wpList_farith _ rfl .sub (by decide) _ _ _ _ rfl .f64 _ _ rfl rfl ?_; intro r3 n3 hr3 hb3; have HS := Lib.hid (IsF.op isF_one HM.out hr3 hb3); clear hr3 hb3))
      go_roundw
      case rel => exact ⟨4, _, _, by omega, by first | rfl | go_num, rfl, HS.out, rfl⟩
      case measure => simp [intOf]
    · go_wp2_with (first
        | (refine wpList_farith _ rfl .quo (by decide) _ _ _ _ rfl .f64 _ _ rfl rfl ?_; intro r1 n1 hr1 hb1; have HQ := Lib.hid (IsF.op hy (IsF.ofInt _) hr1 hb1); clear hr1 hb1)
        | (refine wpList_farith _ rfl .mul (by decide) _ _ _ _ rfl .f64 _ _ rfl rfl ?_; intro r2 n2 hr2 hb2; have HM := Lib.hid (IsF.op HQ.out HT.out hr2 hb2); clear hr2 hb2)
        | (refine wpList_farith _ rfl .sub (by decide) _ _ _ _ rfl .f64 _ _ rfl rfl ?_; intro r3 n3 hr3 hb3; have HS := Lib.hid (IsF.op isF_one HM.out hr3 hb3); clear hr3 hb3))
      go_roundw
      case rel => exact ⟨5, _, _, by omega, by first | rfl | go_num, rfl, HS.out, rfl⟩
      case measure => simp [intOf]
    · go_wp2_with (first
        | (refine wpList_farith _ rfl .quo (by decide) _ _ _ _ rfl .f64 _ _ rfl rfl ?_; intro r1 n1 hr1 hb1; have HQ := Lib.hid (IsF.op hy (IsF.ofInt _) hr1 hb1); clear hr1 hb1)
        | (refine wpList_farith _ rfl .mul (by decide) _ _ _ _ rfl .f64 _ _ rfl rfl ?_; intro r2 n2 hr2 hb2; have HM := Lib.hid (IsF.op HQ.out HT.out hr2 hb2); clear hr2 hb2)
        | (refine wpList_farith _ rfl .sub (by decide) _ _ _ _ rfl .f64 _ _ rfl rfl ?_; intro r3 n3 hr3 hb3; have HS := Lib.hid (IsF.op isF_one HM.out hr3 hb3); clear hr3 hb3))
      go_roundw
      case rel => exact ⟨6, _, _, by omega, by first | rfl | go_num, rfl, HS.out, rfl⟩
      case measure => simp [intOf]
    · go_wp2_with (first
        | (refine wpList_farith _ rfl .quo (by decide) _ _ _ _ rfl .f64 _ _ rfl rfl ?_; intro r1 n1 hr1 hb1; have HQ := Lib.hid (IsF.op hy (IsF.ofInt _) hr1 hb1); clear hr1 hb1)
        | (refine wpList_farith _ rfl .mul (by decide) _ _ _ _ rfl .f64 _ _ rfl rfl ?_; intro r2 n2 hr2 hb2; have HM := Lib.hid (IsF.op HQ.out HT.out hr2 hb2); clear hr2 hb2)
        | (refine wpList_farith _ rfl .sub (by decide) _ _ _ _ rfl .f64 _ _ rfl rfl ?_; intro r3 n3 hr3 hb3; have HS := Lib.hid (IsF.op isF_one HM.out hr3 hb3); clear hr3 hb3))
      go_roundw
      case rel => exact ⟨7, _, _, by omega, by first | rfl | go_num, rfl, HS.out, rfl⟩
      case measure => simp [intOf]
    · go_wp2_with (first
        | (refine wpList_farith _ rfl .quo (by decide) _ _ _ _ rfl .f64 _ _ rfl rfl ?_; intro r1 n1 hr1 hb1; have HQ := Lib.hid (IsF.op hy (IsF.ofInt _) hr1 hb1); clear hr1 hb1)
        | (refine wpList_farith _ rfl .mul (by decide) _ _ _ _ rfl .f64 _ _ rfl rfl ?_; intro r2 n2 hr2 hb2; have HM := Lib.hid (IsF.op HQ.out HT.out hr2 hb2); clear hr2 hb2)
        | (refine wpList_farith _ rfl .sub (by decide) _ _ _ _ rfl .f64 _ _ rfl rfl ?_; intro r3 n3 hr3 hb3; have HS := Lib.hid (IsF.op isF_one HM.out hr3 hb3); clear hr3 hb3))
      go_roundw
      case rel => exact ⟨8, _, _, by omega, by first | rfl | go_num, rfl, HS.out, rfl⟩
      case measure => simp [intOf]
    · go_wp2_with (first
        | (refine wpList_farith _ rfl .quo (by decide) _ _ _ _ rfl .f64 _ _ rfl rfl ?_; intro r1 n1 hr1 hb1; have HQ := Lib.hid (IsF.op hy (IsF.ofInt _) hr1 hb1); clear hr1 hb1)
        | (refine wpList_farith _ rfl .mul (by decide) _ _ _ _ rfl .f64 _ _ rfl rfl ?_; intro r2 n2 hr2 hb2; have HM := Lib.hid (IsF.op HQ.out HT.out hr2 hb2); clear hr2 hb2)
        | (refine wpList_farith _ rfl .sub (by decide) _ _ _ _ rfl .f64 _ _ rfl rfl ?_; intro r3 n3 hr3 hb3; have HS := Lib.hid (IsF.op isF_one HM.out hr3 hb3); clear hr3 hb3))
      go_roundw
      case rel => exact ⟨9, _, _, by omega, by first | rfl | go_num, rfl, HS.out, rfl⟩
      case measure => simp [intOf]
    · go_wp2
      go_ret
      exact ⟨_, rfl, HT.out, n, rfl⟩

set_option maxRecDepth 100000 in
set_option maxHeartbeats 4000000 in
theorem sine_any (x y : Nat) (c a : Option Nat) (hx : IsF x c) (hy : IsF y a) (w : World) :
    Calls Try.prog 94 #[.float .f64 x, .float .f64 y] w (RetF (fop .mul .f64 (sinR a 9) c) w) := by
  go_enter Try.func94, Try.ntmps94
  go_wp2
  go_loopw [5, 6] (fun t m wr => ∃ (j n tb : Nat), j ≤ 9 ∧ m = .int .i64 (9 - (j : Int)) ∧ t = .float .f64 tb ∧ IsF tb (sinR a j) ∧ wr = w.drewN n) (fun _ m _ => (intOf m).toNat)
  case atStart => exact ⟨0, 0, _, by omega, rfl, rfl, isF_one, rfl⟩
  case round =>
    obtain ⟨j, n, tb, hj, rfl, rfl, ht, rfl⟩ := hrel
    have HT := Lib.hid ht
    clear ht
    have hc : j = 0 ∨ j = 1 ∨ j = 2 ∨ j = 3 ∨ j = 4 ∨ j = 5 ∨ j = 6 ∨ j = 7 ∨ j = 8 ∨ j = 9 := by omega
    clear hj
    rcases hc with rfl | rfl | rfl | rfl | rfl | rfl | rfl | rfl | rfl | rfl
    · go_wp2_with (first
        | (refine wpList_farith _ rfl .quo (by decide) _ _ _ _ rfl .f64 _ _ rfl rfl ?_; intro r1 n1 hr1 hb1; have HQ := Lib.hid (IsF.op hy (IsF.ofInt _) hr1 hb1); clear hr1 hb1)
        | (refine wpList_farith _ rfl .mul (by decide) _ _ _ _ rfl .f64 _ _ rfl rfl ?_; intro r2 n2 hr2 hb2; have HM := Lib.hid (IsF.op HQ.out HT.out hr2 hb2); clear hr2 hb2)
        | (refine wpList_farith _ rfl .sub (by decide) _ _ _ _ rfl .f64 _ _ rfl rfl ?_; intro r3 n3 hr3 hb3; have HS := Lib.hid (IsF.op isF_one HM.out hr3 hb3); clear hr3 hb3))
      go_roundw
      case rel => exact ⟨1, _, _, by omega, by first | rfl | go_num, rfl, HS.out, rfl⟩
      case measure => simp [intOf]
    · go_wp2_with (first
        | (refine wpList_farith _ rfl .quo (by decide) _ _ _ _ rfl .f64 _ _ rfl rfl ?_; intro r1 n1 hr1 hb1; have HQ := Lib.hid (IsF.op hy (IsF.ofInt _) hr1 hb1); clear hr1 hb1)
        | (refine wpList_farith _ rfl .mul (by decide) _ _ _ _ rfl .f64 _ _ rfl rfl ?_; intro r2 n2 hr2 hb2; have HM := Lib.hid (IsF.op HQ.out HT.out hr2 hb2); clear hr2 hb2)
        | (refine wpList_farith _ rfl .sub (by decide) _ _ _ _ rfl .f64 _ _ rfl rfl ?_; intro r3 n3 hr3 hb3; have HS := Lib.hid (IsF.op isF_one HM.out hr3 hb3); clear hr3 hb3))
      go_roundw
      case rel => exact ⟨2, _, _, by omega, by first | rfl | go_num, rfl, HS.out, rfl⟩
      case measure => simp [intOf]
    · go_wp2_with (first
        | (refine wpList_farith _ rfl .quo (by decide) _ _ _ _ rfl .f64 _ _ rfl rfl ?_; intro r1 n1 hr1 hb1; have HQ := Lib.hid (IsF.op hy (IsF.ofInt _) hr1 hb1); clear hr1 hb1)
        | (refine wpList_farith _ rfl .mul (by decide) _ _ _ _ rfl .f64 _ _ rfl rfl ?_; intro r2 n2 hr2 hb2; have HM := Lib.hid (IsF.op HQ.out HT.out hr2 hb2); clear hr2 hb2)
        | (refine wpList_farith _ rfl .sub (by decide) _ _ _ _ rfl .f64 _ _ rfl rfl ?_; intro r3 n3 hr3 hb3; have HS := Lib.hid (IsF.op isF_one HM.out hr3 hb3); clear hr3 hb3))
      go_roundw
      case rel => exact ⟨3, _, _, by omega, by first | rfl | go_num, rfl, HS.out, rfl⟩
      case measure => simp [intOf]
    · go_wp2_with (first
        | (refine wpList_farith _ rfl .quo (by decide) _ _ _ _ rfl .f64 _ _ rfl rfl ?_; intro r1 n1 hr1 hb1; have HQ := Lib.hid (IsF.op hy (IsF.ofInt _) hr1 hb1); clear hr1 hb1)
        | (refine wpList_farith _ rfl .mul (by decide) _ _ _ _ rfl .f64 _ _ rfl rfl ?_; intro r2 n2 hr2 hb2; have HM := Lib.hid (IsF.op HQ.out HT.out hr2 hb2); clear hr2 hb2)
        | (refine wpList_farith _ rfl .sub (by decide) _ _ _ _ rfl .f64 _ _ rfl rfl ?_; intro r3 n3 hr3 hb3; have HS := Lib.hid (IsF.op isF_one HM.out hr3 hb3); clear hr3 hb3))
      go_roundw
      case rel => exact ⟨4, _, _, by omega, by first | rfl | go_num, rfl, HS.out, rfl⟩
      case measure => simp [intOf]
    · go_wp2_with (first
        | (refine wpList_farith _ rfl .quo (by decide) _ _ _ _ rfl .f64 _ _ rfl rfl ?_; intro r1 n1 hr1 hb1; have HQ := Lib.hid (IsF.op hy (IsF.ofInt _) hr1 hb1); clear hr1 hb1)
        | (refine wpList_farith _ rfl .mul (by decide) _ _ _ _ rfl .f64 _ _ rfl rfl ?_; intro r2 n2 hr2 hb2; have HM := Lib.hid (IsF.op HQ.out HT.out hr2 hb2); clear hr2 hb2)
        | (refine wpList_farith _ rfl .sub (by decide) _ _ _ _ rfl .f64 _ _ rfl rfl ?_; intro r3 n3 hr3 hb3; have HS := Lib.hid (IsF.op isF_one HM.out hr3 hb3); clear hr3 hb3))
      go_roundw
      case rel => exact ⟨5, _, _, by omega, by first | rfl | go_num, rfl, HS.out, rfl⟩
      case measure => simp [intOf]
    · go_wp2_with (first
        | (refine wpList_farith _ rfl .quo (by decide) _ _ _ _ rfl .f64 _ _ rfl rfl ?_; intro r1 n1 hr1 hb1; have HQ := Lib.hid (IsF.op hy (IsF.ofInt _) hr1 hb1); clear hr1 hb1)
        | (refine wpList_farith _ rfl .mul (by decide) _ _ _ _ rfl .f64 _ _ rfl rfl ?_; intro r2 n2 hr2 hb2; have HM := Lib.hid (IsF.op HQ.out HT.out hr2 hb2); clear hr2 hb2)
        | (refine wpList_farith _ rfl .sub (by decide) _ _ _ _ rfl .f64 _ _ rfl rfl ?_; intro r3 n3 hr3 hb3; have HS := Lib.hid (IsF.op isF_one HM.out hr3 hb3); clear hr3 hb3))
      go_roundw
      case rel => exact ⟨6, _, _, by omega, by first | rfl | go_num, rfl, HS.out, rfl⟩
      case measure => simp [intOf]
    · go_wp2_with (first
        | (refine wpList_farith _ rfl .quo (by decide) _ _ _ _ rfl .f64 _ _ rfl rfl ?_; intro r1 n1 hr1 hb1; have HQ := Lib.hid (IsF.op hy (IsF.ofInt _) hr1 hb1); clear hr1 hb1)
        | (refine wpList_farith _ rfl .mul (by decide) _ _ _ _ rfl .f64 _ _ rfl rfl ?_; intro r2 n2 hr2 hb2; have HM := Lib.hid (IsF.op HQ.out HT.out hr2 hb2); clear hr2 hb2)
        | (refine wpList_farith _ rfl .sub (by decide) _ _ _ _ rfl .f64 _ _ rfl rfl ?_; intro r3 n3 hr3 hb3; have HS := Lib.hid (IsF.op isF_one HM.out hr3 hb3); clear hr3 hb3))
      go_roundw
      case rel => exact ⟨7, _, _, by omega, by first | rfl | go_num, rfl, HS.out, rfl⟩
      case measure => simp [intOf]
    · go_wp2_with (first
        | (refine wpList_farith _ rfl .quo (by decide) _ _ _ _ rfl .f64 _ _ rfl rfl ?_; intro r1 n1 hr1 hb1; have HQ := Lib.hid (IsF.op hy (IsF.ofInt _) hr1 hb1); clear hr1 hb1)
        | (refine wpList_farith _ rfl .mul (by decide) _ _ _ _ rfl .f64 _ _ rfl rfl ?_; intro r2 n2 hr2 hb2; have HM := Lib.hid (IsF.op HQ.out HT.out hr2 hb2); clear hr2 hb2)
        | (refine wpList_farith _ rfl .sub (by decide) _ _ _ _ rfl .f64 _ _ rfl rfl ?_; intro r3 n3 hr3 hb3; have HS := Lib.hid (IsF.op isF_one HM.out hr3 hb3); clear hr3 hb3))
      go_roundw
      case rel => exact ⟨8, _, _, by omega, by first | rfl | go_num, rfl, HS.out, rfl⟩
      case measure => simp [intOf]
    · go_wp2_with (first
        | (refine wpList_farith _ rfl .quo (by decide) _ _ _ _ rfl .f64 _ _ rfl rfl ?_; intro r1 n1 hr1 hb1; have HQ := Lib.hid (IsF.op hy (IsF.ofInt _) hr1 hb1); clear hr1 hb1)
        | (refine wpList_farith _ rfl .mul (by decide) _ _ _ _ rfl .f64 _ _ rfl rfl ?_; intro r2 n2 hr2 hb2; have HM := Lib.hid (IsF.op HQ.out HT.out hr2 hb2); clear hr2 hb2)
        | (refine wpList_farith _ rfl .sub (by decide) _ _ _ _ rfl .f64 _ _ rfl rfl ?_; intro r3 n3 hr3 hb3; have HS := Lib.hid (IsF.op isF_one HM.out hr3 hb3); clear hr3 hb3))
      go_roundw
      case rel => exact ⟨9, _, _, by omega, by first | rfl | go_num, rfl, HS.out, rfl⟩
      case measure => simp [intOf]
    · go_wp2_with (refine wpList_farith _ rfl .mul (by decide) _ _ _ _ rfl .f64 _ _ rfl rfl ?_; intro r2 n2 hr2 hb2; have HM := Lib.hid (IsF.op HT.out hx hr2 hb2); clear hr2 hb2)
      go_ret
      exact ⟨_, rfl, HM.out, _, rfl⟩

end Go.Proofs.Ytpobbicbfnglaaa
