import Derived.Test.YtpphmolfhogepaaDoorRdm
/-
  l09Small of the model.
-/
set_option linter.unusedVariables false
set_option linter.unusedSimpArgs false
namespace Go.Proofs.YtpphmolfhogepaaDoor
open Go.RowKit

theorem byte_at (t : List UInt8) (k : Nat) (h : k < t.length) (h' : k < (strOf t).size) : (strOf t)[k]'h' = t[k]'h := by
  show (strOf t).data[k]'h' = t[k]'h
  simp [strOf]
theorem dVal_take {t : List UInt8} {k : Nat} (h : k < t.length) : dVal (t.take (k + 1)) = dVal (t.take k) * 10 + (t[k].toNat - 48) := by
  rw [List.take_add_one, List.getElem?_eq_getElem h, Option.toList_some, dVal_snoc]
theorem all_take {t : List UInt8} {k : Nat} (h : k < t.length) (ha : (t.take k).all isDig = true) (hd : isDig t[k] = true) : (t.take (k + 1)).all isDig = true := by
  rw [List.take_add_one, List.getElem?_eq_getElem h, Option.toList_some, List.all_append, ha]
  simp [hd]
theorem dVal_lt {t : List UInt8} (ha : t.all isDig = true) : ∀ k, k ≤ t.length → dVal (t.take k) < 10 ^ k
  | 0, _ => by simp [dVal]
  | k + 1, h => by
    have ih := dVal_lt ha k (by omega)
    rw [dVal_take (by omega), Nat.pow_succ]
    have hd : isDig t[k] = true := List.all_eq_true.1 ha _ (List.getElem_mem _)
    have : 48 ≤ t[k].toNat ∧ t[k].toNat ≤ 57 := by simpa [isDig] using hd
    omega
theorem dVal_small {t : List UInt8} (ha : t.all isDig = true) (hl : t.length ≤ 3) : dVal t < 1000 := by
  have h := dVal_lt ha t.length (Nat.le_refl _)
  rw [List.take_length] at h
  have : 10 ^ t.length ≤ 10 ^ 3 := Nat.pow_le_pow_right (by decide) hl
  omega

set_option maxRecDepth 100000 in
set_option maxHeartbeats 4000000 in
theorem l09Small_any (t : List UInt8) (ht : t.length ≤ 1048576) (w : World) :
    Calls Tryd.prog 21 #[.string (strOf t)] w fun e w' => e = .returned (.int .i64 (smZ t)) ∧ w' = w := by
  have hlen : (strOf t).size = t.length := rfl
  by_cases h1 : t.length < 1
  · have e : smZ t = -1 := by unfold smZ; rw [if_neg (by omega)]
    have g1 : decide ((t.length : Int) < 1) = true := decide_eq_true (by omega)
    have g1' : decide (t.length < 1) = true := decide_eq_true h1
    have g1'' : t.length = 0 := by omega
    rw [e]
    clear e h1
    go_enter Tryd.func21, Tryd.ntmps21
    go_wp2
    go_ret
    exact ⟨rfl, rfl⟩
  by_cases h3 : 3 < t.length
  · have e : smZ t = -1 := by unfold smZ; rw [if_neg (by omega)]
    have g1 : decide ((t.length : Int) < 1) = false := decide_eq_false (by omega)
    have g1' : decide (t.length < 1) = false := decide_eq_false h1
    have g1'' : decide (t.length = 0) = false := decide_eq_false (by omega)
    have g2 : decide ((3 : Int) < (t.length : Int)) = true := decide_eq_true (by omega)
    have g2' : decide (3 < t.length) = true := decide_eq_true h3
    rw [e]
    clear e h1 h3 ht
    go_enter Tryd.func21, Tryd.ntmps21
    go_wp2
    go_ret
    exact ⟨rfl, rfl⟩
  have g1 : decide ((t.length : Int) < 1) = false := decide_eq_false (by omega)
  have g1' : decide (t.length < 1) = false := decide_eq_false h1
  have g1'' : decide (t.length = 0) = false := decide_eq_false (by omega)
  have g2 : decide ((3 : Int) < (t.length : Int)) = false := decide_eq_false (by omega)
  have g2' : decide (3 < t.length) = false := decide_eq_false h3
  have HL : Hid (1 ≤ t.length ∧ t.length ≤ 3) := ⟨by omega, by omega⟩
  have hl4 : (t.length : Int) ≤ 9223372036854775807 := by omega
  clear h1 h3 ht
  go_enter Tryd.func21, Tryd.ntmps21
  go_wp2
  clear g1 g1' g1'' g2 g2'
  go_loopw [3, 4] (fun n i wr => ∃ k : Nat, i = .int .i64 k ∧ n = .int .i64 (dVal (t.take k) : Nat) ∧ k ≤ t.length ∧ (t.take k).all isDig = true ∧ wr = w) (fun _ i _ => t.length - (intOf i).toNat)
  case atStart => exact ⟨0, rfl, rfl, Nat.zero_le _, rfl, rfl⟩
  case round =>
    obtain ⟨k, rfl, rfl, hk, hall, rfl⟩ := hrel
    have HA := Lib.hid hall
    by_cases hlt : k < t.length
    · have HK : Hid (k < t.length) := hlt
      obtain ⟨c, hc⟩ : ∃ c, t[k]'hlt = c := ⟨_, rfl⟩
      have hlt2 : k < (strOf t).size := hlt
      have hb : (strOf t)[k]'hlt2 = c := (byte_at t k hlt hlt2).trans hc
      have HC : Hid (t[k]'hlt = c) := hc
      have hlt' : (k : Int) < (t.length : Int) := by omega
      by_cases hd : isDig c = true
      · have hcd : 48 ≤ c.toNat ∧ c.toNat ≤ 57 := by simpa [isDig] using hd
        have e1 := dVal_take hlt
        rw [hc] at e1
        have hv : dVal (t.take k) < 1000 := by
          have h := dVal_lt (t := t.take k) hall k (by rw [List.length_take]; omega)
          rw [List.take_take, Nat.min_self] at h
          have : 10 ^ k ≤ 10 ^ 3 := Nat.pow_le_pow_right (by decide) (by have := HL.out; omega)
          omega
        have HN : Hid ((t.take (k + 1)).all isDig = true) := all_take hlt hall (by rw [hc]; exact hd)
        have q1 : decide ((c.toNat : Int) < 48) = false := decide_eq_false (by omega)
        have q1' : decide (c.toNat < 48) = false := decide_eq_false (by omega)
        have q2 : decide ((57 : Int) < (c.toNat : Int)) = false := decide_eq_false (by omega)
        have q2' : decide (57 < c.toNat) = false := decide_eq_false (by omega)
        obtain ⟨v, hvv⟩ : ∃ v, dVal (t.take k) = v := ⟨_, rfl⟩
        rw [hvv] at e1 hv ⊢
        have s1 : IntKind.i64.wrap ((v : Int) * 10) = (v : Int) * 10 := IntWalk.i64_in _ (by omega)
        have s2 : IntKind.u8.wrap ((c.toNat : Int) - 48) = (c.toNat : Int) - 48 := by
          have : ∀ x : Fin 10, IntKind.u8.wrap (((48 + x.val : Nat) : Int) - 48) = ((48 + x.val : Nat) : Int) - 48 := by decide
          have h := this ⟨c.toNat - 48, by omega⟩
          simp only [show 48 + (c.toNat - 48) = c.toNat by omega] at h
          exact h
        have s3 : IntKind.i64.wrap ((c.toNat : Int) - 48) = (c.toNat : Int) - 48 := IntWalk.i64_in _ (by omega)
        have s4 : IntKind.i64.wrap ((v : Int) * 10 + ((c.toNat : Int) - 48)) = ((v * 10 + (c.toNat - 48) : Nat) : Int) := by
          rw [IntWalk.i64_in _ (by omega)]
          omega
        have HE := Lib.hid e1
        have HN2 : Hid (((v * 10 + (c.toNat - 48) : Nat) : Int) = (dVal (t.take (k + 1)) : Nat)) := by
          show _ = _
          rw [e1]
        obtain ⟨v2, hv2⟩ : ∃ v2 : Int, ((v * 10 + (c.toNat - 48) : Nat) : Int) = v2 := ⟨_, rfl⟩
        rw [hv2] at s4 HN2
        obtain ⟨d, hdd⟩ : ∃ d : Int, (c.toNat : Int) - 48 = d := ⟨_, rfl⟩
        rw [hdd] at s2 s3 s4
        obtain ⟨m, hmm⟩ : ∃ m : Int, (v : Int) * 10 = m := ⟨_, rfl⟩
        rw [hmm] at s1 s4
        clear hall hc hd hcd hv e1 hvv hv2 hk
        go_wp2
        refine ⟨⟨k + 1, by go_num, by rw [HN2.out], HK.out, HN.out, trivial⟩, ?_⟩
        have := HK.out
        simp [intOf]
        omega
      · have hd' : isDig c = false := by simpa using hd
        have e : smZ t = -1 := by
          unfold smZ
          rw [if_neg]
          rintro ⟨-, -, ha⟩
          have := List.all_eq_true.1 ha _ (List.getElem_mem hlt)
          rw [hc, hd'] at this
          cases this
        have HE := Lib.hid e
        have hcd : c.toNat < 48 ∨ (48 ≤ c.toNat ∧ 57 < c.toNat) := by
          have : ¬ (48 ≤ c.toNat ∧ c.toNat ≤ 57) := fun h => hd (by simpa [isDig] using h)
          omega
        clear hall hc hd hd' e hk
        rcases hcd with hlow | ⟨hl8, hhi⟩
        · have q1 : decide ((c.toNat : Int) < 48) = true := decide_eq_true (by omega)
          have q1' : decide (c.toNat < 48) = true := decide_eq_true hlow
          go_wp2
          go_ret
          exact ⟨by rw [HE.out]; rfl, rfl⟩
        · have q1 : decide ((c.toNat : Int) < 48) = false := decide_eq_false (by omega)
          have q1' : decide (c.toNat < 48) = false := decide_eq_false (by omega)
          have q2 : decide ((57 : Int) < (c.toNat : Int)) = true := decide_eq_true (by omega)
          have q2' : decide (57 < c.toNat) = true := decide_eq_true hhi
          go_wp2
          go_ret
          exact ⟨by rw [HE.out]; rfl, rfl⟩
    · obtain rfl : k = t.length := by omega
      have e : smZ t = (dVal t : Nat) := by
        unfold smZ
        rw [List.take_length] at hall
        rw [if_pos ⟨HL.out.1, HL.out.2, hall⟩]
      rw [List.take_length]
      have HE := Lib.hid e
      clear e hall
      go_wp2
      go_ret
      exact ⟨by rw [HE.out]; rfl, rfl⟩

end Go.Proofs.YtpphmolfhogepaaDoor
