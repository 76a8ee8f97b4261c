/-
  Texts of bits that are written: digits, blanks, what is read of them. No program is named here.
-/
import Derived.Test.YtnbbkdjfhbcecaaDoorHex
set_option linter.unusedVariables false
set_option linter.unusedSimpArgs false
namespace Go.Proofs.YtnbbkdjfhbcecaaDoor.Hex

open Go

/-- A digit as it is written. -/
def dig (d : Nat) : UInt8 := UInt8.ofNat (if d < 10 then 48 + d else 87 + d)

theorem hexv_dig : ∀ d, d < 16 → hexv (dig d).toNat = some d := by decide

theorem fold_none' (l : List UInt8) : l.foldl hexStep none = none := fold_none l

theorem fold_at (l : List UInt8) : ∀ (x y b : Nat), l.foldl hexStep (some y) = some b → l.foldl hexStep (some (x + y)) = some (x * 16 ^ l.length + b) := by
  induction l with
  | nil => intro x y b h; cases h; simp
  | cons c l ih =>
    intro x y b h
    rw [List.foldl_cons] at h ⊢
    cases hv : hexv c.toNat with
    | none =>
      rw [show hexStep (some y) c = none by simp [hexStep, hv], fold_none] at h
      cases h
    | some d =>
      rw [show hexStep (some y) c = some (y * 16 + d) by simp [hexStep, hv]] at h
      rw [show hexStep (some (x + y)) c = some (x * 16 + (y * 16 + d)) by simp [hexStep, hv]; omega, ih (x * 16) _ b h, List.length_cons, Nat.pow_succ]
      congr 2
      rw [Nat.mul_assoc, Nat.mul_comm 16]

theorem hexOf_cons {l : List UInt8} {b d : Nat} (h : hexOf l = some b) (hd : d < 16) : hexOf (dig d :: l) = some (d * 16 ^ l.length + b) := by
  show l.foldl hexStep (hexStep (some 0) (dig d)) = _
  rw [show hexStep (some 0) (dig d) = some d by simp [hexStep, hexv_dig d hd]]
  exact fold_at l d 0 b h

theorem hexOf_zeros {l : List UInt8} {b : Nat} (h : hexOf l = some b) : ∀ n, hexOf (List.replicate n 48 ++ l) = some b := by
  intro n
  induction n with
  | zero => exact h
  | succ n ih =>
    have := hexOf_cons (d := 0) ih (by decide)
    rw [Nat.zero_mul, Nat.zero_add] at this
    exact this

theorem no_blank {l : List UInt8} {b : Nat} (h : hexOf l = some b) : (32 : UInt8) ∉ l := by
  intro hm
  rw [hex_cons hm (by decide)] at h
  cases h

theorem no_n {l : List UInt8} {b : Nat} (h : hexOf l = some b) : l ≠ [110, 97, 110] := by
  rintro rfl
  cases h

/-- What stands ahead of the first blank. -/
theorem index_at {t s : List UInt8} (h : (32 : UInt8) ∉ t) : Lib.indexByte (t ++ 32 :: s) 32 = (t.length : Int) := by
  have hge := Lib.indexByte_ge (t ++ 32 :: s) 32
  have hat : (t ++ 32 :: s)[t.length]? = some 32 := by simp
  by_cases hn : Lib.indexByte (t ++ 32 :: s) 32 = -1
  · exact absurd hat (Lib.indexByte_none hn _)
  · obtain ⟨o, ho⟩ : ∃ o : Nat, Lib.indexByte (t ++ 32 :: s) 32 = o := ⟨(Lib.indexByte (t ++ 32 :: s) 32).toNat, by omega⟩
    obtain ⟨h1, h2⟩ := Lib.indexByte_some ho
    rw [ho]
    rcases Nat.lt_trichotomy o t.length with hl | hl | hl
    · rw [List.getElem?_append_left hl] at h1
      exact absurd (List.mem_of_getElem? h1) h
    · rw [hl]
    · exact absurd hat (h2 _ hl)

end Go.Proofs.YtnbbkdjfhbcecaaDoor.Hex
