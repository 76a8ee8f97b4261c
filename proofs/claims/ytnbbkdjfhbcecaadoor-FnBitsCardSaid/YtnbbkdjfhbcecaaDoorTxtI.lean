import Derived.Test.YtnbbkdjfhbcecaaDoorTxtH
import Derived.Lib.Hide
/-
  What is read of the texts that are written.
-/
set_option linter.unusedVariables false
set_option linter.unusedSimpArgs false
namespace Go.Proofs.YtnbbkdjfhbcecaaDoor
open Go.RowKit Flt Hex

/-- The bits that are read of a text. -/
def read64 (a : Nat) : Nat := if nan FloatKind.f64.format a = true then 9221120237041090561 else a
def read32 (a : Nat) : Nat := if nan FloatKind.f32.format a = true then 2143289344 else a

theorem text_data (t s : ByteArray) : (t ++ ⟨#[32]⟩ ++ s).data.toList = t.data.toList ++ 32 :: s.data.toList := by
  simp [ByteArray.data_append]

theorem list_len (t : ByteArray) : t.data.toList.length = t.size := by simp

theorem text64_read {a : Nat} {t : ByteArray} (h : Text64 a t) : real64 t.data.toList = some (read64 a) ∧ (32 : UInt8) ∉ t.data.toList := by
  rcases h with ⟨hn, rfl⟩ | ⟨hn, hs, hl⟩
  · unfold read64; rw [if_pos hn]; exact ⟨rfl, by decide⟩
  · unfold read64; rw [if_neg (by rw [hn]; simp)]
    refine ⟨realOf_num (no_n hs) ?_ hn, no_blank hs⟩
    unfold bitsRes
    rw [if_pos (by rw [list_len, hl]), hs]

theorem text32_read {a : Nat} {t : ByteArray} (h : Text32 a t) : real32 t.data.toList = some (read32 a) ∧ (32 : UInt8) ∉ t.data.toList := by
  rcases h with ⟨hn, rfl⟩ | ⟨hn, hs, hl⟩
  · unfold read32; rw [if_pos hn]; exact ⟨rfl, by decide⟩
  · unfold read32; rw [if_neg (by rw [hn]; simp)]
    refine ⟨realOf_num (no_n hs) ?_ hn, no_blank hs⟩
    unfold bitsRes
    rw [if_pos (by rw [list_len, hl]), hs]

/-- A narrow text is no wide one, but for NaN. -/
theorem text32_wide {a : Nat} {t : ByteArray} (h : Text32 a t) (hn : nan FloatKind.f32.format a = false) : real64 t.data.toList = none := by
  rcases h with ⟨hn', rfl⟩ | ⟨_, hs, hl⟩
  · rw [hn] at hn'; cases hn'
  · refine realOf_none (no_n hs) ?_
    unfold bitsRes
    rw [if_neg (by rw [list_len, hl]; decide)]

theorem both_at {f : List UInt8 → Option Nat} {t s : ByteArray} (h : (32 : UInt8) ∉ t.data.toList) : bothOf f (t ++ ⟨#[32]⟩ ++ s).data.toList = pairOf (f t.data.toList) (f s.data.toList) := by
  rw [text_data, both_some (index_at h)]
  have h1 : ∀ (l r : List UInt8), (l ++ 32 :: r).take l.length = l := by intro l r; simp
  have h2 : ∀ (l r : List UInt8), (l ++ 32 :: r).drop (l.length + 1) = r := by intro l r; simp [List.drop_append]
  rw [h1, h2]

theorem both64 {a b : Nat} {l : ByteArray} (h : Both (Text64 a) (Text64 b) l) : bothOf real64 l.data.toList = some (read64 a, read64 b) := by
  obtain ⟨t, s, ht, hs, rfl⟩ := h
  rw [both_at (text64_read ht).2, (text64_read ht).1, (text64_read hs).1]
  rfl

theorem both32 {a b : Nat} {l : ByteArray} (h : Both (Text32 a) (Text32 b) l) : bothOf real32 l.data.toList = some (read32 a, read32 b) := by
  obtain ⟨t, s, ht, hs, rfl⟩ := h
  rw [both_at (text32_read ht).2, (text32_read ht).1, (text32_read hs).1]
  rfl

theorem both_more {a b : Nat} {l : ByteArray} (h : Both (Text64 a) (Text64 b) l) : bothOf real64 (l ++ ⟨#[32]⟩).data.toList = none := by
  obtain ⟨t, s, ht, hs, rfl⟩ := h
  have e : t ++ ⟨#[32]⟩ ++ s ++ ⟨#[32]⟩ = t ++ ⟨#[32]⟩ ++ (s ++ ⟨#[32]⟩) := ByteArray.append_assoc
  rw [e, both_at (text64_read ht).2, (text64_read ht).1]
  rw [show real64 (s ++ ⟨#[32]⟩).data.toList = none from realOf_space (by simp [ByteArray.data_append])]
  rfl

theorem both_narrow {a b : Nat} {l : ByteArray} (h : Both (Text32 a) (Text32 b) l) :
    bothOf real64 l.data.toList = none ∨ (nan FloatKind.f32.format a = true ∧ nan FloatKind.f32.format b = true) := by
  obtain ⟨t, s, ht, hs, rfl⟩ := h
  rw [both_at (text32_read ht).2]
  by_cases ha : nan FloatKind.f32.format a = true
  · by_cases hb : nan FloatKind.f32.format b = true
    · exact .inr ⟨ha, hb⟩
    · rw [text32_wide hs (by simpa using hb)]
      left
      cases real64 t.data.toList <;> rfl
  · rw [text32_wide ht (by simpa using ha)]
    exact .inl rfl

theorem both_nan {a b : Nat} {l : ByteArray} (h : Both (Text32 a) (Text32 b) l) (ha : nan FloatKind.f32.format a = true) (hb : nan FloatKind.f32.format b = true) : l = ⟨#[110, 97, 110, 32, 110, 97, 110]⟩ := by
  obtain ⟨t, s, ht, hs, rfl⟩ := h
  rcases ht with ⟨_, rfl⟩ | ⟨h, _⟩
  · rcases hs with ⟨_, rfl⟩ | ⟨h, _⟩
    · rfl
    · rw [h] at hb; cases hb
  · rw [h] at ha; cases ha

theorem both64_len {a b : Nat} {l : ByteArray} (h : Both (Text64 a) (Text64 b) l) : l.size ≤ 33 := by
  obtain ⟨t, s, ht, hs, rfl⟩ := h
  have := text64_len ht
  have := text64_len hs
  have hz : (⟨#[32]⟩ : ByteArray).size = 1 := rfl
  simp [ByteArray.size_append]
  omega
theorem both32_len {a b : Nat} {l : ByteArray} (h : Both (Text32 a) (Text32 b) l) : l.size ≤ 17 := by
  obtain ⟨t, s, ht, hs, rfl⟩ := h
  have := text32_len ht
  have := text32_len hs
  have hz : (⟨#[32]⟩ : ByteArray).size = 1 := rfl
  simp [ByteArray.size_append]
  omega
end Go.Proofs.YtnbbkdjfhbcecaaDoor
