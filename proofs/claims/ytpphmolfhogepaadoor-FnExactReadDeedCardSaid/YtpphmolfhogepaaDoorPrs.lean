import Derived.Lib.ItoaMem
import Derived.Lib.ParseIntB
/-
  Numbers that are read from their texts. No program.
-/
set_option linter.unusedVariables false
set_option linter.unusedSimpArgs false
namespace Go.Proofs.YtpphmolfhogepaaDoor
open Go.Lib

theorem digit_nat {d : Nat} (h : d < 10) : (UInt8.ofNat (48 + d)).toNat = 48 + d := by
  have : ∀ d : Fin 10, (UInt8.ofNat (48 + d.val)).toNat = 48 + d.val := by decide
  exact this ⟨d, h⟩
/-- Induction over a number's decimal digits. -/
theorem dec_ind {p : Nat → Prop} (h0 : ∀ u, u < 10 → p u) (h1 : ∀ u, 10 ≤ u → p (u / 10) → p u) : ∀ u, p u := by
  intro u
  induction u using Nat.strongRecOn with
  | _ u ih =>
    by_cases h : u < 10
    · exact h0 u h
    · exact h1 u (by omega) (ih (u / 10) (by omega))
theorem dec_small {u : Nat} (h : u < 10) : decDigits u = [UInt8.ofNat (48 + u)] := by rw [decDigits, dif_pos h]
theorem dec_big {u : Nat} (h : 10 ≤ u) : decDigits u = decDigits (u / 10) ++ [UInt8.ofNat (48 + u % 10)] := by rw [decDigits, dif_neg (by omega)]

/-- Digits. -/
def isDig (c : UInt8) : Bool := decide (48 ≤ c.toNat) && decide (c.toNat ≤ 57)
/-- What digits are worth. -/
def dVal (t : List UInt8) : Nat := t.foldl (fun n c => n * 10 + (c.toNat - 48)) 0
theorem dVal_snoc (t : List UInt8) (c : UInt8) : dVal (t ++ [c]) = dVal t * 10 + (c.toNat - 48) := by simp [dVal, List.foldl_append]
theorem dec_dig (u : Nat) : ∀ c ∈ decDigits u, isDig c = true := by
  refine dec_ind (p := fun u => ∀ c ∈ decDigits u, isDig c = true) ?_ ?_ u
  · intro u h c hc
    rw [dec_small h] at hc
    simp only [List.mem_cons, List.not_mem_nil, or_false] at hc
    subst hc
    unfold isDig
    rw [digit_nat h]
    simp
    omega
  · intro u h ih c hc
    rw [dec_big h] at hc
    rcases List.mem_append.1 hc with hc | hc
    · exact ih c hc
    · simp only [List.mem_cons, List.not_mem_nil, or_false] at hc
      subst hc
      unfold isDig
      rw [digit_nat (by omega)]
      simp
      omega
theorem dVal_dec (u : Nat) : dVal (decDigits u) = u := by
  refine dec_ind (p := fun u => dVal (decDigits u) = u) ?_ ?_ u
  · intro u h
    rw [dec_small h]
    simp [dVal, digit_nat h]
    omega
  · intro u h ih
    rw [dec_big h, dVal_snoc, ih, digit_nat (by omega)]
    omega
theorem dec_ne (u : Nat) : decDigits u ≠ [] := by
  by_cases h : u < 10
  · rw [dec_small h]; simp
  · rw [dec_big (by omega)]; simp
theorem dec_no {u : Nat} {c : UInt8} (h : isDig c = false) : c ∉ decDigits u := fun hc => by
  have := dec_dig u c hc
  rw [h] at this
  cases this

theorem parseM_dec (M : Nat) : ∀ (u : Nat) (r : List UInt8), u ≤ M → u < 9223372036854775809 → parseUintM M 0 (decDigits u ++ r) = parseUintM M u r := by
  refine dec_ind ?_ ?_
  · intro u h r hM _
    rw [dec_small h, List.singleton_append, parseUintM, digit_nat h, if_pos (by omega), if_neg (by omega), if_neg (by omega)]
    congr 1
    omega
  · intro u h ih r hM hu
    rw [dec_big h, List.append_assoc, List.singleton_append, ih _ (by omega) (by omega), parseUintM, digit_nat (by omega), if_pos (by omega), if_neg (by omega), if_neg (by omega)]
    congr 1
    omega
theorem parseB_dec {u : Nat} (h : u < 9223372036854775809) : parseUintB 64 (decDigits u) = .ok u := by
  unfold parseUintB
  rw [if_neg (dec_ne u)]
  have := parseM_dec (2 ^ 64 - 1) u [] (by omega) h
  rw [List.append_nil] at this
  rw [this]
  rfl

/-- The number that strconv.ParseInt hands back, whatever its error. -/
def pz (t : List UInt8) : Int := match parseIntB 64 t with | .ok v => v | .«syntax» => 0 | .range => intSat 64 t

theorem pz_itoa {n : Int} (h0 : -9223372036854775808 ≤ n) (h1 : n ≤ 9223372036854775807) : pz (itoa n) = n := by
  unfold pz itoa
  by_cases hn : n < 0
  · rw [if_pos hn]
    obtain ⟨u, hu⟩ : ∃ u : Nat, n.natAbs = u := ⟨_, rfl⟩
    rw [hu]
    have e : parseIntB 64 (45 :: decDigits u) = .ok n := by
      unfold parseIntB
      simp only
      rw [if_pos (by decide), parseB_dec (by omega)]
      simp only
      rw [if_neg (fun hh => hh.1 (by decide)), if_neg (by omega), if_pos (by decide)]
      congr 1
      omega
    rw [e]
  · rw [if_neg hn]
    obtain ⟨u, hu⟩ : ∃ u : Nat, n.toNat = u := ⟨_, rfl⟩
    rw [hu]
    obtain ⟨c, r, hcr⟩ : ∃ c r, decDigits u = c :: r := by
      cases h : decDigits u with
      | nil => exact absurd h (dec_ne u)
      | cons c r => exact ⟨c, r, rfl⟩
    have hc : isDig c = true := dec_dig u c (by rw [hcr]; exact List.mem_cons_self)
    have hc' : 48 ≤ c.toNat ∧ c.toNat ≤ 57 := by simpa [isDig] using hc
    have e : parseIntB 64 (decDigits u) = .ok n := by
      have hb := parseB_dec (show u < 9223372036854775809 by omega)
      rw [hcr] at hb ⊢
      unfold parseIntB
      simp only
      rw [if_neg (by omega), hb]
      simp only
      rw [if_neg (by omega), if_neg (by omega), if_neg (by omega)]
      congr 1
      omega
    rw [e]

theorem itoa_no {n : Int} {c : UInt8} (h : isDig c = false) (h45 : c ≠ 45) : c ∉ itoa n := by
  unfold itoa
  split
  · intro hc
    rcases List.mem_cons.1 hc with e | hc
    · exact h45 e
    · exact dec_no h hc
  · exact dec_no h
theorem itoa_inj {n m : Int} (h0 : -9223372036854775808 ≤ n) (h1 : n ≤ 9223372036854775807) (k0 : -9223372036854775808 ≤ m) (k1 : m ≤ 9223372036854775807) (h : itoa n = itoa m) : n = m := by
  rw [← pz_itoa h0 h1, ← pz_itoa k0 k1, h]

/-- A number of at most three digits, or -1. -/
def smZ (t : List UInt8) : Int := if 1 ≤ t.length ∧ t.length ≤ 3 ∧ t.all isDig then (dVal t : Int) else -1
theorem dec_len3 {u : Nat} (h : u ≤ 999) : 1 ≤ (decDigits u).length ∧ (decDigits u).length ≤ 3 := by
  by_cases h1 : u < 10
  · rw [dec_small h1]; simp
  · rw [dec_big (by omega)]
    by_cases h2 : u / 10 < 10
    · rw [dec_small h2]; simp
    · rw [dec_big (by omega), dec_small (by omega)]; simp
theorem smZ_itoa {n : Int} (h : 0 ≤ n ∧ n ≤ 999) : smZ (itoa n) = n := by
  obtain ⟨u, rfl⟩ : ∃ u : Nat, n = u := ⟨n.toNat, by omega⟩
  rw [itoa_nonneg]
  unfold smZ
  obtain ⟨l1, l3⟩ := dec_len3 (show u ≤ 999 by omega)
  rw [if_pos ⟨l1, l3, List.all_eq_true.2 (dec_dig u)⟩, dVal_dec]

end Go.Proofs.YtpphmolfhogepaaDoor
