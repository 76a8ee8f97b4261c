/-
  Texts of bits: what their digits say, and which text is the text of a number. No program is named here.
-/
import Derived.Lib.Bytealg
import Derived.Lib.IndexLaws
set_option linter.unusedVariables false
set_option linter.unusedSimpArgs false
namespace Go.Proofs.YtdefhmpmgcahpaaDoor.Hex

open Go

def hexv (c : Nat) : Option Nat := if 48 ≤ c ∧ c ≤ 57 then some (c - 48) else if 97 ≤ c ∧ c ≤ 102 then some (c - 87) else none

def hexStep (acc : Option Nat) (c : UInt8) : Option Nat := acc.bind fun a => (hexv c.toNat).map fun d => a * 16 + d

def hexOf (l : List UInt8) : Option Nat := l.foldl hexStep (some 0)

theorem hexv_lt {c d : Nat} (h : hexv c = some d) : d < 16 := by
  unfold hexv at h; split at h
  · cases h; omega
  · split at h
    · cases h; omega
    · cases h

theorem hexOf_snoc (l : List UInt8) (c : UInt8) : hexOf (l ++ [c]) = hexStep (hexOf l) c := by simp [hexOf]

theorem fold_none (l : List UInt8) : l.foldl hexStep none = none := by
  induction l with
  | nil => rfl
  | cons c l ih => exact ih

theorem hexOf_take {l : List UInt8} {k : Nat} (h : hexOf (l.take k) = none) : hexOf l = none := by
  have e : hexOf l = (l.drop k).foldl hexStep (hexOf (l.take k)) := by
    unfold hexOf; rw [← List.foldl_append, List.take_append_drop]
  rw [e, h, fold_none]

theorem take_snoc {l : List UInt8} {k : Nat} (h : k < l.length) : l.take (k + 1) = l.take k ++ [l[k]] := List.take_succ_eq_append_getElem h

theorem fold_lt (l : List UInt8) : ∀ (x a : Nat), l.foldl hexStep (some x) = some a → a < (x + 1) * 16 ^ l.length := by
  induction l with
  | nil => intro x a h; cases h; simp
  | cons c l ih =>
    intro x a h
    rw [List.foldl_cons] at h
    cases hv : hexv c.toNat with
    | none =>
      have e : hexStep (some x) c = none := by simp [hexStep, hv]
      rw [e, fold_none] at h; cases h
    | some d =>
      have e : hexStep (some x) c = some (x * 16 + d) := by simp [hexStep, hv]
      rw [e] at h
      have h1 := ih _ _ h
      have h2 := hexv_lt hv
      rw [List.length_cons, Nat.pow_succ, ← Nat.mul_assoc, Nat.mul_right_comm]
      exact Nat.lt_of_lt_of_le h1 (Nat.mul_le_mul_right _ (by omega))

theorem hexOf_lt {l : List UInt8} {a : Nat} (h : hexOf l = some a) : a < 16 ^ l.length := by
  have := fold_lt l 0 a h
  simpa using this

theorem hex_cons {l : List UInt8} {c : UInt8} (h : c ∈ l) (hc : hexv c.toNat = none) : hexOf l = none := by
  obtain ⟨p, q, rfl⟩ := List.append_of_mem h
  refine hexOf_take (k := p.length + 1) ?_
  rw [List.take_append, List.take_of_length_le (by omega), show p.length + 1 - p.length = 1 by omega]
  show hexOf (p ++ [c]) = none
  rw [hexOf_snoc]
  cases hexOf p with
  | none => rfl
  | some a => simp [hexStep, hc]

/-- What is read of d digits. -/
def bitsRes (d : Nat) (l : List UInt8) : Option Nat := if l.length = d then hexOf l else none

/-- The bits of the number with a text; none if there is none. -/
def realOf (d : Nat) (isNaN : Nat → Bool) (nan : Nat) (l : List UInt8) : Option Nat :=
  if l = [110, 97, 110] then some nan else (bitsRes d l).bind fun v => if isNaN v then none else some v

theorem realOf_space {d : Nat} {isNaN : Nat → Bool} {nan : Nat} {l : List UInt8} (h : (32 : UInt8) ∈ l) : realOf d isNaN nan l = none := by
  unfold realOf
  rw [if_neg]
  · unfold bitsRes
    split
    · rw [hex_cons h (by decide)]; rfl
    · rfl
  · rintro rfl
    revert h; decide
theorem realOf_nil {d : Nat} {isNaN : Nat → Bool} {nan : Nat} (h : d ≠ 0) : realOf d isNaN nan [] = none := by
  unfold realOf bitsRes
  rw [if_neg (by decide), if_neg (by simpa using fun e => h e.symm)]
  rfl

/-- The place of a digit among the digits. -/
theorem index_hex (c : UInt8) : Lib.indexByte [48, 49, 50, 51, 52, 53, 54, 55, 56, 57, 97, 98, 99, 100, 101, 102] c = match hexv c.toNat with | some d => (d : Int) | none => -1 := by
  have h : ∀ n : Fin 256, Lib.indexByte [48, 49, 50, 51, 52, 53, 54, 55, 56, 57, 97, 98, 99, 100, 101, 102] (UInt8.ofNat n) = match hexv (UInt8.ofNat n).toNat with | some d => (d : Int) | none => -1 := by decide +kernel
  have := h ⟨c.toNat, c.toNat_lt⟩
  simpa using this

/-- What stands before and behind the first blank. -/
def cutAt (l : List UInt8) : List UInt8 × List UInt8 := (l.takeWhile (· != 32), (l.dropWhile (· != 32)).tail)


end Go.Proofs.YtdefhmpmgcahpaaDoor.Hex
