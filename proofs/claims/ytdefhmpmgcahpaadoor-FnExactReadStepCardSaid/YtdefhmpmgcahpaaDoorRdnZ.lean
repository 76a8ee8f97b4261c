import Derived.Test.YtdefhmpmgcahpaaDoorMExactRL7
import Derived.Test.YtdefhmpmgcahpaaDoorMExactRL1
/-
  l01Number and l07Read of the model.
-/
set_option linter.unusedVariables false
set_option linter.unusedSimpArgs false
namespace Go.Proofs.YtdefhmpmgcahpaaDoor
open Go.RowKit

theorem headD_at {t : List UInt8} (h : 0 < t.length) : t.headD 0 = t[0]'h := by
  cases t with
  | nil => cases h
  | cons a r => rfl
/-- A number or none, as the model hands it back. -/
def nV (r : Option Nat) : Value := .tuple #[.int .i64 ((r.getD 0 : Nat) : Int), .bool r.isSome]

set_option maxRecDepth 100000 in
set_option maxHeartbeats 4000000 in
theorem l01Number_any (t : List UInt8) (ht : t.length ≤ 1048576) (w : World) :
    Calls Tryd.prog 79 #[.string (strOf t)] w fun e w' => e = .returned (nV (numZ t)) ∧ w' = w := by
  have hlen : (strOf t).size = t.length := rfl
  by_cases h1 : t.length < 1
  · have e : numZ t = none := by unfold numZ; rw [if_neg (by omega)]
    have g1 : decide ((t.length : Int) < 1) = true := decide_eq_true (by omega)
    have g1' : decide (t.length < 1) = true := decide_eq_true h1
    have g1'' : t.length = 0 := by omega
    rw [e]
    clear e h1
    go_enter Tryd.func79, Tryd.ntmps79
    go_wp2
    go_ret2
    exact ⟨rfl, rfl⟩
  by_cases h3 : 9 < t.length
  · have e : numZ t = none := by unfold numZ; rw [if_neg (by omega)]
    have g1 : decide ((t.length : Int) < 1) = false := decide_eq_false (by omega)
    have g1' : decide (t.length < 1) = false := decide_eq_false h1
    have g1'' : decide (t.length = 0) = false := decide_eq_false (by omega)
    have g2 : decide ((9 : Int) < (t.length : Int)) = true := decide_eq_true (by omega)
    have g2' : decide (9 < t.length) = true := decide_eq_true h3
    rw [e]
    clear e h1 h3 ht
    go_enter Tryd.func79, Tryd.ntmps79
    go_wp2
    go_ret2
    exact ⟨rfl, rfl⟩
  have g1 : decide ((t.length : Int) < 1) = false := decide_eq_false (by omega)
  have g1' : decide (t.length < 1) = false := decide_eq_false h1
  have g1'' : decide (t.length = 0) = false := decide_eq_false (by omega)
  have g2 : decide ((9 : Int) < (t.length : Int)) = false := decide_eq_false (by omega)
  have g2' : decide (9 < t.length) = false := decide_eq_false h3
  have HL : Hid (1 ≤ t.length ∧ t.length ≤ 9) := ⟨by omega, by omega⟩
  have hl4 : (t.length : Int) ≤ 9223372036854775807 := by omega
  have h0 : 0 < t.length := by omega
  have h0' : 0 < (strOf t).size := h0
  have h0i : (0 : Int) < (t.length : Int) := by omega
  obtain ⟨c0, hc0⟩ : ∃ c, t[0]'h0 = c := ⟨_, rfl⟩
  have hb0 : (strOf t)[0]'h0' = c0 := (byte_at t 0 h0 h0').trans hc0
  have hhd : t.headD 0 = c0 := (headD_at h0).trans hc0
  have hcn : c0 = 48 ↔ c0.toNat = 48 := ⟨fun e => by rw [e]; rfl, fun e => by rw [← UInt8.ofNat_toNat (x := c0), e]; rfl⟩
  have HHD := Lib.hid hhd
  have HCN := Lib.hid hcn
  by_cases hz : c0.toNat = 48
  · by_cases hm : 1 < t.length
    · have e : numZ t = none := by
        unfold numZ
        rw [if_neg]
        rintro ⟨-, -, hh, -⟩
        exact hh ⟨hhd.trans (hcn.2 hz), hm⟩
      have z1 : (c0.toNat : Int) = 48 := by omega
      have z1' : decide (c0.toNat = 48) = true := decide_eq_true hz
      have z2 : decide ((1 : Int) < (t.length : Int)) = true := decide_eq_true (by omega)
      have z2' : decide (1 < t.length) = true := decide_eq_true hm
      rw [e]
      clear e h1 h3 ht hcn hhd hc0 hz hm
      go_enter Tryd.func79, Tryd.ntmps79
      go_wp2
      go_ret2
      exact ⟨rfl, rfl⟩
    · have HZ0 : Hid (¬ (t.headD 0 = 48 ∧ 1 < t.length)) := fun h => hm h.2
      have z1 : (c0.toNat : Int) = 48 := by omega
      have z1' : decide (c0.toNat = 48) = true := decide_eq_true hz
      have z2 : decide ((1 : Int) < (t.length : Int)) = false := decide_eq_false (by omega)
      have z2' : decide (1 < t.length) = false := decide_eq_false hm
      clear h1 h3 ht hcn hhd hc0 hz hm
      go_enter Tryd.func79, Tryd.ntmps79
      go_wp2
      clear g1 g1' g1'' g2 g2' z1 z1' z2 z2' hb0 h0i h0' h0
      go_loopw [4, 5] (fun n i wr => ∃ k : Nat, i = .int .i64 k ∧ n = .int .i64 (dVal (t.take k) : Nat) ∧ k ≤ t.length ∧ (t.take k).all isDig = true ∧ wr = w) (fun _ i _ => t.length - (intOf i).toNat)
      case atStart => exact ⟨0, rfl, rfl, Nat.zero_le _, rfl, rfl⟩
      case round =>
        obtain ⟨k, rfl, rfl, hk, hall, rfl⟩ := hrel
        have HA := Lib.hid hall
        by_cases hlt : k < t.length
        · have HK : Hid (k < t.length) := hlt
          obtain ⟨c, hc⟩ : ∃ c, t[k]'hlt = c := ⟨_, rfl⟩
          have hlt2 : k < (strOf t).size := hlt
          have hb : (strOf t)[k]'hlt2 = c := (byte_at t k hlt hlt2).trans hc
          have HC : Hid (t[k]'hlt = c) := hc
          have hlt' : (k : Int) < (t.length : Int) := by omega
          by_cases hd : isDig c = true
          · have hcd : 48 ≤ c.toNat ∧ c.toNat ≤ 57 := by simpa [isDig] using hd
            have e1 := dVal_take hlt
            rw [hc] at e1
            have hv : dVal (t.take k) < 1000000000 := by
              have h := dVal_lt (t := t.take k) hall k (by rw [List.length_take]; omega)
              rw [List.take_take, Nat.min_self] at h
              have : 10 ^ k ≤ 10 ^ 9 := Nat.pow_le_pow_right (by decide) (by have := HL.out; omega)
              omega
            have HN : Hid ((t.take (k + 1)).all isDig = true) := all_take hlt hall (by rw [hc]; exact hd)
            have q1 : decide ((c.toNat : Int) < 48) = false := decide_eq_false (by omega)
            have q1' : decide (c.toNat < 48) = false := decide_eq_false (by omega)
            have q2 : decide ((57 : Int) < (c.toNat : Int)) = false := decide_eq_false (by omega)
            have q2' : decide (57 < c.toNat) = false := decide_eq_false (by omega)
            obtain ⟨v, hvv⟩ : ∃ v, dVal (t.take k) = v := ⟨_, rfl⟩
            rw [hvv] at e1 hv ⊢
            have s1 : IntKind.i64.wrap ((v : Int) * 10) = (v : Int) * 10 := IntWalk.i64_in _ (by omega)
            have s2 : IntKind.u8.wrap ((c.toNat : Int) - 48) = (c.toNat : Int) - 48 := by
              have : ∀ x : Fin 10, IntKind.u8.wrap (((48 + x.val : Nat) : Int) - 48) = ((48 + x.val : Nat) : Int) - 48 := by decide
              have h := this ⟨c.toNat - 48, by omega⟩
              simp only [show 48 + (c.toNat - 48) = c.toNat by omega] at h
              exact h
            have s3 : IntKind.i64.wrap ((c.toNat : Int) - 48) = (c.toNat : Int) - 48 := IntWalk.i64_in _ (by omega)
            have s4 : IntKind.i64.wrap ((v : Int) * 10 + ((c.toNat : Int) - 48)) = ((v * 10 + (c.toNat - 48) : Nat) : Int) := by
              rw [IntWalk.i64_in _ (by omega)]
              omega
            have HE := Lib.hid e1
            have HN2 : Hid (((v * 10 + (c.toNat - 48) : Nat) : Int) = (dVal (t.take (k + 1)) : Nat)) := by
              show _ = _
              rw [e1]
            obtain ⟨v2, hv2⟩ : ∃ v2 : Int, ((v * 10 + (c.toNat - 48) : Nat) : Int) = v2 := ⟨_, rfl⟩
            rw [hv2] at s4 HN2
            obtain ⟨d, hdd⟩ : ∃ d : Int, (c.toNat : Int) - 48 = d := ⟨_, rfl⟩
            rw [hdd] at s2 s3 s4
            obtain ⟨m, hmm⟩ : ∃ m : Int, (v : Int) * 10 = m := ⟨_, rfl⟩
            rw [hmm] at s1 s4
            clear hall hc hd hcd hv e1 hvv hv2 hk
            go_wp2
            refine ⟨⟨k + 1, by go_num, by rw [HN2.out], HK.out, HN.out, trivial⟩, ?_⟩
            have := HK.out
            simp [intOf]
            omega
          · have hd' : isDig c = false := by simpa using hd
            have e : numZ t = none := by
              unfold numZ
              rw [if_neg]
              rintro ⟨-, -, -, ha⟩
              have := List.all_eq_true.1 ha _ (List.getElem_mem hlt)
              rw [hc, hd'] at this
              cases this
            have HE := Lib.hid e
            have hcd : c.toNat < 48 ∨ (48 ≤ c.toNat ∧ 57 < c.toNat) := by
              have : ¬ (48 ≤ c.toNat ∧ c.toNat ≤ 57) := fun h => hd (by simpa [isDig] using h)
              omega
            clear hall hc hd hd' e hk
            rcases hcd with hlow | ⟨hl8, hhi⟩
            · have q1 : decide ((c.toNat : Int) < 48) = true := decide_eq_true (by omega)
              have q1' : decide (c.toNat < 48) = true := decide_eq_true hlow
              go_wp2
              go_ret2
              exact ⟨by rw [HE.out]; rfl, rfl⟩
            · have q1 : decide ((c.toNat : Int) < 48) = false := decide_eq_false (by omega)
              have q1' : decide (c.toNat < 48) = false := decide_eq_false (by omega)
              have q2 : decide ((57 : Int) < (c.toNat : Int)) = true := decide_eq_true (by omega)
              have q2' : decide (57 < c.toNat) = true := decide_eq_true hhi
              go_wp2
              go_ret2
              exact ⟨by rw [HE.out]; rfl, rfl⟩
        · obtain rfl : k = t.length := by omega
          have e : numZ t = some (dVal t) := by
            unfold numZ
            rw [List.take_length] at hall
            rw [if_pos ⟨HL.out.1, HL.out.2, HZ0.out, hall⟩]
          rw [List.take_length]
          have HE := Lib.hid e
          clear e hall
          go_wp2
          go_ret2
          exact ⟨by rw [HE.out]; rfl, rfl⟩

  · have HZ0 : Hid (¬ (t.headD 0 = 48 ∧ 1 < t.length)) := fun h => hz (hcn.1 (hhd.symm.trans h.1))
    have z1 : ¬ (c0.toNat : Int) = 48 := by omega
    have z1' : decide (c0.toNat = 48) = false := decide_eq_false hz
    clear h1 h3 ht hcn hhd hc0 hz
    go_enter Tryd.func79, Tryd.ntmps79
    go_wp2
    clear g1 g1' g1'' g2 g2' z1 z1' hb0 h0i h0' h0
    go_loopw [4, 5] (fun n i wr => ∃ k : Nat, i = .int .i64 k ∧ n = .int .i64 (dVal (t.take k) : Nat) ∧ k ≤ t.length ∧ (t.take k).all isDig = true ∧ wr = w) (fun _ i _ => t.length - (intOf i).toNat)
    case atStart => exact ⟨0, rfl, rfl, Nat.zero_le _, rfl, rfl⟩
    case round =>
      obtain ⟨k, rfl, rfl, hk, hall, rfl⟩ := hrel
      have HA := Lib.hid hall
      by_cases hlt : k < t.length
      · have HK : Hid (k < t.length) := hlt
        obtain ⟨c, hc⟩ : ∃ c, t[k]'hlt = c := ⟨_, rfl⟩
        have hlt2 : k < (strOf t).size := hlt
        have hb : (strOf t)[k]'hlt2 = c := (byte_at t k hlt hlt2).trans hc
        have HC : Hid (t[k]'hlt = c) := hc
        have hlt' : (k : Int) < (t.length : Int) := by omega
        by_cases hd : isDig c = true
        · have hcd : 48 ≤ c.toNat ∧ c.toNat ≤ 57 := by simpa [isDig] using hd
          have e1 := dVal_take hlt
          rw [hc] at e1
          have hv : dVal (t.take k) < 1000000000 := by
            have h := dVal_lt (t := t.take k) hall k (by rw [List.length_take]; omega)
            rw [List.take_take, Nat.min_self] at h
            have : 10 ^ k ≤ 10 ^ 9 := Nat.pow_le_pow_right (by decide) (by have := HL.out; omega)
            omega
          have HN : Hid ((t.take (k + 1)).all isDig = true) := all_take hlt hall (by rw [hc]; exact hd)
          have q1 : decide ((c.toNat : Int) < 48) = false := decide_eq_false (by omega)
          have q1' : decide (c.toNat < 48) = false := decide_eq_false (by omega)
          have q2 : decide ((57 : Int) < (c.toNat : Int)) = false := decide_eq_false (by omega)
          have q2' : decide (57 < c.toNat) = false := decide_eq_false (by omega)
          obtain ⟨v, hvv⟩ : ∃ v, dVal (t.take k) = v := ⟨_, rfl⟩
          rw [hvv] at e1 hv ⊢
          have s1 : IntKind.i64.wrap ((v : Int) * 10) = (v : Int) * 10 := IntWalk.i64_in _ (by omega)
          have s2 : IntKind.u8.wrap ((c.toNat : Int) - 48) = (c.toNat : Int) - 48 := by
            have : ∀ x : Fin 10, IntKind.u8.wrap (((48 + x.val : Nat) : Int) - 48) = ((48 + x.val : Nat) : Int) - 48 := by decide
            have h := this ⟨c.toNat - 48, by omega⟩
            simp only [show 48 + (c.toNat - 48) = c.toNat by omega] at h
            exact h
          have s3 : IntKind.i64.wrap ((c.toNat : Int) - 48) = (c.toNat : Int) - 48 := IntWalk.i64_in _ (by omega)
          have s4 : IntKind.i64.wrap ((v : Int) * 10 + ((c.toNat : Int) - 48)) = ((v * 10 + (c.toNat - 48) : Nat) : Int) := by
            rw [IntWalk.i64_in _ (by omega)]
            omega
          have HE := Lib.hid e1
          have HN2 : Hid (((v * 10 + (c.toNat - 48) : Nat) : Int) = (dVal (t.take (k + 1)) : Nat)) := by
            show _ = _
            rw [e1]
          obtain ⟨v2, hv2⟩ : ∃ v2 : Int, ((v * 10 + (c.toNat - 48) : Nat) : Int) = v2 := ⟨_, rfl⟩
          rw [hv2] at s4 HN2
          obtain ⟨d, hdd⟩ : ∃ d : Int, (c.toNat : Int) - 48 = d := ⟨_, rfl⟩
          rw [hdd] at s2 s3 s4
          obtain ⟨m, hmm⟩ : ∃ m : Int, (v : Int) * 10 = m := ⟨_, rfl⟩
          rw [hmm] at s1 s4
          clear hall hc hd hcd hv e1 hvv hv2 hk
          go_wp2
          refine ⟨⟨k + 1, by go_num, by rw [HN2.out], HK.out, HN.out, trivial⟩, ?_⟩
          have := HK.out
          simp [intOf]
          omega
        · have hd' : isDig c = false := by simpa using hd
          have e : numZ t = none := by
            unfold numZ
            rw [if_neg]
            rintro ⟨-, -, -, ha⟩
            have := List.all_eq_true.1 ha _ (List.getElem_mem hlt)
            rw [hc, hd'] at this
            cases this
          have HE := Lib.hid e
          have hcd : c.toNat < 48 ∨ (48 ≤ c.toNat ∧ 57 < c.toNat) := by
            have : ¬ (48 ≤ c.toNat ∧ c.toNat ≤ 57) := fun h => hd (by simpa [isDig] using h)
            omega
          clear hall hc hd hd' e hk
          rcases hcd with hlow | ⟨hl8, hhi⟩
          · have q1 : decide ((c.toNat : Int) < 48) = true := decide_eq_true (by omega)
            have q1' : decide (c.toNat < 48) = true := decide_eq_true hlow
            go_wp2
            go_ret2
            exact ⟨by rw [HE.out]; rfl, rfl⟩
          · have q1 : decide ((c.toNat : Int) < 48) = false := decide_eq_false (by omega)
            have q1' : decide (c.toNat < 48) = false := decide_eq_false (by omega)
            have q2 : decide ((57 : Int) < (c.toNat : Int)) = true := decide_eq_true (by omega)
            have q2' : decide (57 < c.toNat) = true := decide_eq_true hhi
            go_wp2
            go_ret2
            exact ⟨by rw [HE.out]; rfl, rfl⟩
      · obtain rfl : k = t.length := by omega
        have e : numZ t = some (dVal t) := by
          unfold numZ
          rw [List.take_length] at hall
          rw [if_pos ⟨HL.out.1, HL.out.2, HZ0.out, hall⟩]
        rw [List.take_length]
        have HE := Lib.hid e
        clear e hall
        go_wp2
        go_ret2
        exact ⟨by rw [HE.out]; rfl, rfl⟩


end Go.Proofs.YtdefhmpmgcahpaaDoor
