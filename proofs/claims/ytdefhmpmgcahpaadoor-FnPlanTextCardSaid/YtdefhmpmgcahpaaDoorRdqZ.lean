import Derived.Test.YtdefhmpmgcahpaaDoorMPlanTeL17
import Derived.Test.YtdefhmpmgcahpaaDoorMPlanTeL22
/-
  l07Read of the model.
-/
set_option linter.unusedVariables false
set_option linter.unusedSimpArgs false
namespace Go.Proofs.YtdefhmpmgcahpaaDoor
open Go.RowKit

/-- A number with a sign or none, as the model hands it back. -/
def zV (r : Option Int) : Value := .tuple #[.int .i64 (r.getD 0), .bool r.isSome]
theorem str_tail (t : List UInt8) (h : 1 ≤ t.length) : (strOf t).extract 1 t.length = strOf (t.drop 1) := by
  rw [ext_take, List.take_of_length_le (by rw [List.length_drop]; omega)]
theorem nV_at (t : List UInt8) : nV (numZ t) = .tuple #[.int .i64 (((numZ t).getD 0 : Nat) : Int), .bool (numZ t).isSome] := rfl
theorem numZ_lt (t : List UInt8) : (numZ t).getD 0 < 1000000000 := by
  unfold numZ
  split
  · rename_i h
    obtain ⟨-, h2, -, h4⟩ := h
    have := dVal_lt h4 t.length (Nat.le_refl _)
    rw [List.take_length] at this
    have : 10 ^ t.length ≤ 10 ^ 9 := Nat.pow_le_pow_right (by decide) h2
    simp only [Option.getD_some]
    omega
  · simp
theorem zV_pos (o : Option Nat) : Value.tuple #[.int .i64 ((o.getD 0 : Nat) : Int), .bool o.isSome] = zV (Option.map (fun n : Nat => (n : Int)) o) := by cases o <;> rfl
theorem zV_neg (o : Option Nat) : Value.tuple #[.int .i64 (-((o.getD 0 : Nat) : Int)), .bool o.isSome] = zV (Option.map (fun n : Nat => -(n : Int)) o) := by cases o <;> rfl

set_option maxRecDepth 100000 in
set_option maxHeartbeats 800000 in
theorem l07Read_any (t : List UInt8) (ht : t.length ≤ 1048576) (w : World) :
    Calls Tryd.prog 47 #[.string (strOf t)] w fun e w' => e = .returned (zV (rdZ t)) ∧ w' = w := by
  have hlen : (strOf t).size = t.length := rfl
  have hl4 : (t.length : Int) ≤ 9223372036854775807 := by omega
  have N1 := l01Number_any t ht w
  have N2 := l01Number_any (t.drop 1) (by rw [List.length_drop]; omega) w
  have hlt2 := numZ_lt (t.drop 1)
  rw [nV_at] at N1 N2
  have HP : Hid (¬ (1 < t.length ∧ t.headD 0 = 45 ∧ t.getD 1 0 ≠ 48) → Value.tuple #[.int .i64 (((numZ t).getD 0 : Nat) : Int), .bool (numZ t).isSome] = zV (rdZ t)) := fun h => by
    rw [zV_pos]
    unfold rdZ
    rw [if_neg h]
  have HN : Hid ((1 < t.length ∧ t.headD 0 = 45 ∧ t.getD 1 0 ≠ 48) → Value.tuple #[.int .i64 (-(((numZ (t.drop 1)).getD 0 : Nat) : Int)), .bool (numZ (t.drop 1)).isSome] = zV (rdZ t)) := fun h => by
    rw [zV_neg]
    unfold rdZ
    rw [if_pos h]
  generalize (numZ t).getD 0 = n1 at N1 HP
  generalize (numZ t).isSome = b1 at N1 HP
  generalize (numZ (t.drop 1)).getD 0 = n2 at N2 HN hlt2
  generalize (numZ (t.drop 1)).isSome = b2 at N2 HN
  have N1 := Lib.hid N1
  have N2 := Lib.hid N2
  have ST := Lib.hid (fun (h : 1 ≤ t.length) => str_tail t h)
  have hw : IntKind.i64.wrap (-(n2 : Int)) = -(n2 : Int) := IntWalk.i64_in _ (by omega)
  by_cases h1 : 1 < t.length
  · have g1 : decide ((1 : Int) < (t.length : Int)) = true := decide_eq_true (by omega)
    have g1' : decide (1 < t.length) = true := decide_eq_true h1
    have h0 : 0 < t.length := by omega
    have h0' : 0 < (strOf t).size := h0
    have h1' : 1 < (strOf t).size := h1
    have h0i : (0 : Int) < (t.length : Int) := by omega
    have h1i : (1 : Int) < (t.length : Int) := by omega
    obtain ⟨c0, hc0⟩ : ∃ c, t[0]'h0 = c := ⟨_, rfl⟩
    obtain ⟨c1, hc1⟩ : ∃ c, t[1]'h1 = c := ⟨_, rfl⟩
    have hb0 : (strOf t)[0]'h0' = c0 := (byte_at t 0 h0 h0').trans hc0
    have hb1 : (strOf t)[1]'h1' = c1 := (byte_at t 1 h1 h1').trans hc1
    have hhd : t.headD 0 = c0 := (headD_at h0).trans hc0
    have hh1 : t.getD 1 0 = c1 := by rw [List.getD_eq_getElem?_getD, List.getElem?_eq_getElem h1]; exact hc1
    have hcn : ∀ (c : UInt8) (k : Nat), k < 256 → (c = UInt8.ofNat k ↔ c.toNat = k) := fun c k hk => ⟨fun e => by rw [e]; simp; omega, fun e => by rw [← UInt8.ofNat_toNat (x := c), e]⟩
    have e0 := hcn c0 45 (by omega)
    have e1 := hcn c1 48 (by omega)
    by_cases z0 : c0.toNat = 45
    · have q0 : (c0.toNat : Int) = 45 := by omega
      by_cases z1 : c1.toNat = 48
      · have q1 : (c1.toNat : Int) = 48 := by omega
        have HR := Lib.hid (HP.out (fun h => h.2.2 (hh1.trans (e1.2 z1))))
        clear HP HN N2 hcn e0 e1 hhd hh1 hc0 hc1 ht hw hlt2 h1
        go_enter Tryd.func47, Tryd.ntmps47
        go_wp2_with fail
        refine N1.out.mono ?_
        rintro e w1 ⟨rfl, rfl⟩
        go_wp2
        go_ret2
        exact ⟨congrArg Ending.returned HR.out, rfl⟩
      · have q1 : ¬ (c1.toNat : Int) = 48 := by omega
        have HR := Lib.hid (HN.out ⟨h1, hhd.trans (e0.2 z0), fun h => z1 (e1.1 (hh1.symm.trans h))⟩)
        have N2 := N2.out
        rw [← ST.out (by omega)] at N2
        have N2 := Lib.hid N2
        clear HP HN N1 hcn e0 e1 hhd hh1 hc0 hc1 ht hlt2 h1 ST
        go_enter Tryd.func47, Tryd.ntmps47
        go_wp2_with fail
        refine N2.out.mono ?_
        rintro e w1 ⟨rfl, rfl⟩
        go_wp2
        go_ret2
        exact ⟨congrArg Ending.returned HR.out, rfl⟩
    · have q0 : ¬ (c0.toNat : Int) = 45 := by omega
      have HR := Lib.hid (HP.out (fun h => z0 (e0.1 (hhd.symm.trans h.2.1))))
      clear HP HN N2 hcn e0 e1 hhd hh1 hc0 hc1 ht hw hlt2 h1
      go_enter Tryd.func47, Tryd.ntmps47
      go_wp2_with fail
      refine N1.out.mono ?_
      rintro e w1 ⟨rfl, rfl⟩
      go_wp2
      go_ret2
      exact ⟨congrArg Ending.returned HR.out, rfl⟩
  · have g1 : decide ((1 : Int) < (t.length : Int)) = false := decide_eq_false (by omega)
    have g1' : decide (1 < t.length) = false := decide_eq_false h1
    have HR := Lib.hid (HP.out (fun h => h1 h.1))
    clear HP HN N2 ht hw hlt2 h1
    go_enter Tryd.func47, Tryd.ntmps47
    go_wp2_with fail
    refine N1.out.mono ?_
    rintro e w1 ⟨rfl, rfl⟩
    go_wp2
    go_ret2
    exact ⟨congrArg Ending.returned HR.out, rfl⟩

end Go.Proofs.YtdefhmpmgcahpaaDoor
