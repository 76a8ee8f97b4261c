/-
  Several texts of this claim, one behind the other; each says what it holds.
-/
import Derived.Lib.ItoaMem
import Derived.Lib.ParseIntB
/-
  Numbers that are read from their texts. No program.
-/
set_option linter.unusedVariables false
set_option linter.unusedSimpArgs false
namespace Go.Proofs.YtdefhmpmgcahpaaDoor
open Go.Lib

theorem digit_nat {d : Nat} (h : d < 10) : (UInt8.ofNat (48 + d)).toNat = 48 + d := by
  have : ∀ d : Fin 10, (UInt8.ofNat (48 + d.val)).toNat = 48 + d.val := by decide
  exact this ⟨d, h⟩
/-- Induction over a number's decimal digits. -/
theorem dec_ind {p : Nat → Prop} (h0 : ∀ u, u < 10 → p u) (h1 : ∀ u, 10 ≤ u → p (u / 10) → p u) : ∀ u, p u := by
  intro u
  induction u using Nat.strongRecOn with
  | _ u ih =>
    by_cases h : u < 10
    · exact h0 u h
    · exact h1 u (by omega) (ih (u / 10) (by omega))
theorem dec_small {u : Nat} (h : u < 10) : decDigits u = [UInt8.ofNat (48 + u)] := by rw [decDigits, dif_pos h]
theorem dec_big {u : Nat} (h : 10 ≤ u) : decDigits u = decDigits (u / 10) ++ [UInt8.ofNat (48 + u % 10)] := by rw [decDigits, dif_neg (by omega)]

/-- Digits. -/
def isDig (c : UInt8) : Bool := decide (48 ≤ c.toNat) && decide (c.toNat ≤ 57)
/-- What digits are worth. -/
def dVal (t : List UInt8) : Nat := t.foldl (fun n c => n * 10 + (c.toNat - 48)) 0
theorem dVal_snoc (t : List UInt8) (c : UInt8) : dVal (t ++ [c]) = dVal t * 10 + (c.toNat - 48) := by simp [dVal, List.foldl_append]
theorem dec_dig (u : Nat) : ∀ c ∈ decDigits u, isDig c = true := by
  refine dec_ind (p := fun u => ∀ c ∈ decDigits u, isDig c = true) ?_ ?_ u
  · intro u h c hc
    rw [dec_small h] at hc
    simp only [List.mem_cons, List.not_mem_nil, or_false] at hc
    subst hc
    unfold isDig
    rw [digit_nat h]
    simp
    omega
  · intro u h ih c hc
    rw [dec_big h] at hc
    rcases List.mem_append.1 hc with hc | hc
    · exact ih c hc
    · simp only [List.mem_cons, List.not_mem_nil, or_false] at hc
      subst hc
      unfold isDig
      rw [digit_nat (by omega)]
      simp
      omega
theorem dVal_dec (u : Nat) : dVal (decDigits u) = u := by
  refine dec_ind (p := fun u => dVal (decDigits u) = u) ?_ ?_ u
  · intro u h
    rw [dec_small h]
    simp [dVal, digit_nat h]
    omega
  · intro u h ih
    rw [dec_big h, dVal_snoc, ih, digit_nat (by omega)]
    omega
theorem dec_ne (u : Nat) : decDigits u ≠ [] := by
  by_cases h : u < 10
  · rw [dec_small h]; simp
  · rw [dec_big (by omega)]; simp
theorem dec_no {u : Nat} {c : UInt8} (h : isDig c = false) : c ∉ decDigits u := fun hc => by
  have := dec_dig u c hc
  rw [h] at this
  cases this

theorem parseM_dec (M : Nat) : ∀ (u : Nat) (r : List UInt8), u ≤ M → u < 9223372036854775809 → parseUintM M 0 (decDigits u ++ r) = parseUintM M u r := by
  refine dec_ind ?_ ?_
  · intro u h r hM _
    rw [dec_small h, List.singleton_append, parseUintM, digit_nat h, if_pos (by omega), if_neg (by omega), if_neg (by omega)]
    congr 1
    omega
  · intro u h ih r hM hu
    rw [dec_big h, List.append_assoc, List.singleton_append, ih _ (by omega) (by omega), parseUintM, digit_nat (by omega), if_pos (by omega), if_neg (by omega), if_neg (by omega)]
    congr 1
    omega
theorem parseB_dec {u : Nat} (h : u < 9223372036854775809) : parseUintB 64 (decDigits u) = .ok u := by
  unfold parseUintB
  rw [if_neg (dec_ne u)]
  have := parseM_dec (2 ^ 64 - 1) u [] (by omega) h
  rw [List.append_nil] at this
  rw [this]
  rfl

/-- The number that strconv.ParseInt hands back, whatever its error. -/
def pz (t : List UInt8) : Int := match parseIntB 64 t with | .ok v => v | .«syntax» => 0 | .range => intSat 64 t

theorem pz_itoa {n : Int} (h0 : -9223372036854775808 ≤ n) (h1 : n ≤ 9223372036854775807) : pz (itoa n) = n := by
  unfold pz itoa
  by_cases hn : n < 0
  · rw [if_pos hn]
    obtain ⟨u, hu⟩ : ∃ u : Nat, n.natAbs = u := ⟨_, rfl⟩
    rw [hu]
    have e : parseIntB 64 (45 :: decDigits u) = .ok n := by
      unfold parseIntB
      simp only
      rw [if_pos (by decide), parseB_dec (by omega)]
      simp only
      rw [if_neg (fun hh => hh.1 (by decide)), if_neg (by omega), if_pos (by decide)]
      congr 1
      omega
    rw [e]
  · rw [if_neg hn]
    obtain ⟨u, hu⟩ : ∃ u : Nat, n.toNat = u := ⟨_, rfl⟩
    rw [hu]
    obtain ⟨c, r, hcr⟩ : ∃ c r, decDigits u = c :: r := by
      cases h : decDigits u with
      | nil => exact absurd h (dec_ne u)
      | cons c r => exact ⟨c, r, rfl⟩
    have hc : isDig c = true := dec_dig u c (by rw [hcr]; exact List.mem_cons_self)
    have hc' : 48 ≤ c.toNat ∧ c.toNat ≤ 57 := by simpa [isDig] using hc
    have e : parseIntB 64 (decDigits u) = .ok n := by
      have hb := parseB_dec (show u < 9223372036854775809 by omega)
      rw [hcr] at hb ⊢
      unfold parseIntB
      simp only
      rw [if_neg (by omega), hb]
      simp only
      rw [if_neg (by omega), if_neg (by omega), if_neg (by omega)]
      congr 1
      omega
    rw [e]

theorem itoa_no {n : Int} {c : UInt8} (h : isDig c = false) (h45 : c ≠ 45) : c ∉ itoa n := by
  unfold itoa
  split
  · intro hc
    rcases List.mem_cons.1 hc with e | hc
    · exact h45 e
    · exact dec_no h hc
  · exact dec_no h
theorem itoa_inj {n m : Int} (h0 : -9223372036854775808 ≤ n) (h1 : n ≤ 9223372036854775807) (k0 : -9223372036854775808 ≤ m) (k1 : m ≤ 9223372036854775807) (h : itoa n = itoa m) : n = m := by
  rw [← pz_itoa h0 h1, ← pz_itoa k0 k1, h]

/-- A number of at most three digits, or -1. -/
def smZ (t : List UInt8) : Int := if 1 ≤ t.length ∧ t.length ≤ 3 ∧ t.all isDig then (dVal t : Int) else -1
theorem dec_len3 {u : Nat} (h : u ≤ 999) : 1 ≤ (decDigits u).length ∧ (decDigits u).length ≤ 3 := by
  by_cases h1 : u < 10
  · rw [dec_small h1]; simp
  · rw [dec_big (by omega)]
    by_cases h2 : u / 10 < 10
    · rw [dec_small h2]; simp
    · rw [dec_big (by omega), dec_small (by omega)]; simp
theorem smZ_itoa {n : Int} (h : 0 ≤ n ∧ n ≤ 999) : smZ (itoa n) = n := by
  obtain ⟨u, rfl⟩ : ∃ u : Nat, n = u := ⟨n.toNat, by omega⟩
  rw [itoa_nonneg]
  unfold smZ
  obtain ⟨l1, l3⟩ := dec_len3 (show u ≤ 999 by omega)
  rw [if_pos ⟨l1, l3, List.all_eq_true.2 (dec_dig u)⟩, dVal_dec]

end Go.Proofs.YtdefhmpmgcahpaaDoor
/-
  Numbers that are read in one way only: no zeros ahead. No program.
-/
set_option linter.unusedVariables false
set_option linter.unusedSimpArgs false
namespace Go.Proofs.YtdefhmpmgcahpaaDoor
open Go.Lib

theorem dig_nat {c : UInt8} (h : isDig c = true) : 48 ≤ c.toNat ∧ c.toNat ≤ 57 := by simpa [isDig] using h
theorem dig_back {c : UInt8} (h : isDig c = true) : UInt8.ofNat (48 + (c.toNat - 48)) = c := by
  have := dig_nat h
  rw [show 48 + (c.toNat - 48) = c.toNat by omega, UInt8.ofNat_toNat]
theorem dec_zero : decDigits 0 = [48] := by rw [dec_small (by omega)]; rfl
theorem dec_head {u : Nat} (h : 1 ≤ u) : (decDigits u).headD 0 ≠ 48 := by
  refine dec_ind (p := fun u => 1 ≤ u → (decDigits u).headD 0 ≠ 48) ?_ ?_ u h
  · intro u h h1
    rw [dec_small h]
    have : ∀ d : Fin 10, 1 ≤ d.val → UInt8.ofNat (48 + d.val) ≠ 48 := by decide
    exact this ⟨u, h⟩ h1
  · intro u h ih _
    rw [dec_big h]
    have h2 := ih (by omega)
    cases hc : decDigits (u / 10) with
    | nil => exact absurd hc (dec_ne _)
    | cons c r => rw [hc] at h2; simpa using h2
theorem dec_len (u : Nat) : ∀ k, 1 ≤ k → u < 10 ^ k → (decDigits u).length ≤ k := by
  refine dec_ind (p := fun u => ∀ k, 1 ≤ k → u < 10 ^ k → (decDigits u).length ≤ k) ?_ ?_ u
  · intro u h k hk _
    rw [dec_small h]
    simpa using hk
  · intro u h ih k hk hu
    rw [dec_big h]
    obtain ⟨m, rfl⟩ : ∃ m, k = m + 1 := ⟨k - 1, by omega⟩
    have hm : 1 ≤ m := by
      by_cases h0 : m = 0
      · subst h0; simp at hu; omega
      · omega
    have := ih m hm (by rw [Nat.pow_succ] at hu; omega)
    simp
    omega

theorem dec_of (t : List UInt8) : t.all isDig = true → t ≠ [] → ¬ (t.headD 0 = 48 ∧ 1 < t.length) → decDigits (dVal t) = t := by
  have key : ∀ (n : Nat) (t : List UInt8), t.length = n → t.all isDig = true → t ≠ [] → ¬ (t.headD 0 = 48 ∧ 1 < t.length) → decDigits (dVal t) = t := by
    intro n
    induction n with
    | zero => intro t h _ h0 _; exact absurd (List.eq_nil_of_length_eq_zero h) h0
    | succ n ih =>
      intro t hl ha h0 hh
      obtain ⟨s, c, rfl⟩ : ∃ s c, t = s ++ [c] := ⟨t.dropLast, t.getLast h0, (List.dropLast_concat_getLast h0).symm⟩
      have hc : isDig c = true := List.all_eq_true.1 ha c (by simp)
      have hs : s.all isDig = true := List.all_eq_true.2 fun x hx => List.all_eq_true.1 ha x (by simp [hx])
      have hcn := dig_nat hc
      rw [dVal_snoc]
      by_cases hs0 : s = []
      · subst hs0
        have e : dVal ([] : List UInt8) = 0 := rfl
        rw [e, Nat.zero_mul, Nat.zero_add, dec_small (by omega), dig_back hc]
        rfl
      · have hhd : (s ++ [c]).headD 0 = s.headD 0 := by
          cases s with
          | nil => exact absurd rfl hs0
          | cons a b => rfl
        have hslen : 1 ≤ s.length := List.length_pos_iff.2 hs0
        have hh' : s.headD 0 ≠ 48 := fun e => hh ⟨hhd.trans e, by simp; omega⟩
        have e := ih s (by simp at hl; exact hl) hs hs0 (fun h => hh' h.1)
        have h1 : 1 ≤ dVal s := by
          apply Nat.pos_of_ne_zero
          intro h
          rw [h, dec_zero] at e
          exact hh' (by rw [← e]; rfl)
        rw [dec_big (by omega), show (dVal s * 10 + (c.toNat - 48)) / 10 = dVal s by omega, show (dVal s * 10 + (c.toNat - 48)) % 10 = c.toNat - 48 by omega, e, dig_back hc]
  exact key t.length t rfl

/-- The number of one to nine digits with a text, without zeros ahead. -/
def numZ (t : List UInt8) : Option Nat := if 1 ≤ t.length ∧ t.length ≤ 9 ∧ ¬ (t.headD 0 = 48 ∧ 1 < t.length) ∧ t.all isDig = true then some (dVal t) else none
theorem numZ_some {t : List UInt8} {u : Nat} (h : numZ t = some u) : decDigits u = t := by
  unfold numZ at h
  split at h
  · rename_i hc
    obtain ⟨h1, -, h3, h4⟩ := hc
    simp only [Option.some.injEq] at h
    subst h
    exact dec_of t h4 (fun e => by subst e; simp at h1) h3
  · cases h
theorem numZ_dec {u : Nat} (h : u < 1000000000) : numZ (decDigits u) = some u := by
  unfold numZ
  rw [if_pos, dVal_dec]
  refine ⟨List.length_pos_iff.2 (dec_ne u), dec_len u 9 (by omega) (by omega), fun hh => ?_, List.all_eq_true.2 (dec_dig u)⟩
  by_cases h0 : u = 0
  · subst h0
    rw [dec_zero] at hh
    simp at hh
  · exact dec_head (by omega) hh.1
/-- The same, with a sign ahead. -/
def rdZ (t : List UInt8) : Option Int := if 1 < t.length ∧ t.headD 0 = 45 ∧ t.getD 1 0 ≠ 48 then Option.map (fun n : Nat => -(n : Int)) (numZ (t.drop 1)) else Option.map (fun n : Nat => (n : Int)) (numZ t)
theorem rdZ_some {t : List UInt8} {z : Int} (h : rdZ t = some z) : itoa z = t := by
  unfold rdZ at h
  split at h
  · rename_i hc
    obtain ⟨h1, h2, h3⟩ := hc
    obtain ⟨n, hn, rfl⟩ := Option.map_eq_some_iff.1 h
    have e := numZ_some hn
    match t, h1, h2, h3, e with
    | c :: d :: r, _, h2, h3, e =>
      simp at h2 h3 e
      subst h2
      have h0 : n ≠ 0 := fun h0 => by
        rw [h0, dec_zero] at e
        simp at e
        exact h3 e.1.symm
      rw [itoa_neg n (by omega), e]
  · obtain ⟨n, hn, rfl⟩ := Option.map_eq_some_iff.1 h
    rw [itoa_nonneg, numZ_some hn]
theorem rdZ_itoa {z : Int} (h : -1000000000 < z ∧ z < 1000000000) : rdZ (itoa z) = some z := by
  by_cases hz : z < 0
  · obtain ⟨u, rfl⟩ : ∃ u : Nat, z = -(u : Int) := ⟨z.natAbs, by omega⟩
    rw [itoa_neg u (by omega)]
    unfold rdZ
    have hh := dec_head (show 1 ≤ u by omega)
    have hn := dec_ne u
    rw [if_pos]
    · simp only [List.drop_succ_cons, List.drop_zero]
      rw [numZ_dec (by omega)]
      rfl
    · refine ⟨?_, rfl, ?_⟩
      · have := List.length_pos_iff.2 hn
        simp
        omega
      · cases hc : decDigits u with
        | nil => exact absurd hc hn
        | cons c r => rw [hc] at hh; simpa using hh
  · obtain ⟨u, rfl⟩ : ∃ u : Nat, z = u := ⟨z.toNat, by omega⟩
    rw [itoa_nonneg]
    unfold rdZ
    rw [if_neg, numZ_dec (by omega)]
    · rfl
    · rintro ⟨-, h2, -⟩
      cases hc : decDigits u with
      | nil => exact dec_ne u hc
      | cons c r =>
        rw [hc] at h2
        simp at h2
        have := dig_nat (dec_dig u c (by rw [hc]; exact List.mem_cons_self))
        rw [h2] at this
        revert this
        decide

end Go.Proofs.YtdefhmpmgcahpaaDoor
