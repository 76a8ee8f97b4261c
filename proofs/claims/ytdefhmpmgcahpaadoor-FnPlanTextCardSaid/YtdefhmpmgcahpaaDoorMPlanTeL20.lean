/-
  Several texts of this claim, one behind the other; each says what it holds.
-/
import Derived.Lib.Bytealg
import Derived.Lib.IndexLaws
import Derived.Test.YtdefhmpmgcahpaaDoorKit
import Derived.Test.YtdefhmpmgcahpaaDoorFlt
import Derived.Test.YtdefhmpmgcahpaaDoorExt
import Derived.Test.YtdefhmpmgcahpaaDoorMPlanTeL4
import Derived.Test.YtdefhmpmgcahpaaDoorRows
import Derived.Lib.Hide
import Derived.Deep.QuietTactic
import Derived.BigQuiet
/-
  Texts of bits: what their digits say, and which text is the text of a number. No program is named here.
-/
set_option linter.unusedVariables false
set_option linter.unusedSimpArgs false
namespace Go.Proofs.YtdefhmpmgcahpaaDoor.Hex

open Go

def hexv (c : Nat) : Option Nat := if 48 ≤ c ∧ c ≤ 57 then some (c - 48) else if 97 ≤ c ∧ c ≤ 102 then some (c - 87) else none

def hexStep (acc : Option Nat) (c : UInt8) : Option Nat := acc.bind fun a => (hexv c.toNat).map fun d => a * 16 + d

def hexOf (l : List UInt8) : Option Nat := l.foldl hexStep (some 0)

theorem hexv_lt {c d : Nat} (h : hexv c = some d) : d < 16 := by
  unfold hexv at h; split at h
  · cases h; omega
  · split at h
    · cases h; omega
    · cases h

theorem hexOf_snoc (l : List UInt8) (c : UInt8) : hexOf (l ++ [c]) = hexStep (hexOf l) c := by simp [hexOf]

theorem fold_none (l : List UInt8) : l.foldl hexStep none = none := by
  induction l with
  | nil => rfl
  | cons c l ih => exact ih

theorem hexOf_take {l : List UInt8} {k : Nat} (h : hexOf (l.take k) = none) : hexOf l = none := by
  have e : hexOf l = (l.drop k).foldl hexStep (hexOf (l.take k)) := by
    unfold hexOf; rw [← List.foldl_append, List.take_append_drop]
  rw [e, h, fold_none]

theorem take_snoc {l : List UInt8} {k : Nat} (h : k < l.length) : l.take (k + 1) = l.take k ++ [l[k]] := List.take_succ_eq_append_getElem h

theorem fold_lt (l : List UInt8) : ∀ (x a : Nat), l.foldl hexStep (some x) = some a → a < (x + 1) * 16 ^ l.length := by
  induction l with
  | nil => intro x a h; cases h; simp
  | cons c l ih =>
    intro x a h
    rw [List.foldl_cons] at h
    cases hv : hexv c.toNat with
    | none =>
      have e : hexStep (some x) c = none := by simp [hexStep, hv]
      rw [e, fold_none] at h; cases h
    | some d =>
      have e : hexStep (some x) c = some (x * 16 + d) := by simp [hexStep, hv]
      rw [e] at h
      have h1 := ih _ _ h
      have h2 := hexv_lt hv
      rw [List.length_cons, Nat.pow_succ, ← Nat.mul_assoc, Nat.mul_right_comm]
      exact Nat.lt_of_lt_of_le h1 (Nat.mul_le_mul_right _ (by omega))

theorem hexOf_lt {l : List UInt8} {a : Nat} (h : hexOf l = some a) : a < 16 ^ l.length := by
  have := fold_lt l 0 a h
  simpa using this

theorem hex_cons {l : List UInt8} {c : UInt8} (h : c ∈ l) (hc : hexv c.toNat = none) : hexOf l = none := by
  obtain ⟨p, q, rfl⟩ := List.append_of_mem h
  refine hexOf_take (k := p.length + 1) ?_
  rw [List.take_append, List.take_of_length_le (by omega), show p.length + 1 - p.length = 1 by omega]
  show hexOf (p ++ [c]) = none
  rw [hexOf_snoc]
  cases hexOf p with
  | none => rfl
  | some a => simp [hexStep, hc]

/-- What is read of d digits. -/
def bitsRes (d : Nat) (l : List UInt8) : Option Nat := if l.length = d then hexOf l else none

/-- The bits of the number with a text; none if there is none. -/
def realOf (d : Nat) (isNaN : Nat → Bool) (nan : Nat) (l : List UInt8) : Option Nat :=
  if l = [110, 97, 110] then some nan else (bitsRes d l).bind fun v => if isNaN v then none else some v

theorem realOf_space {d : Nat} {isNaN : Nat → Bool} {nan : Nat} {l : List UInt8} (h : (32 : UInt8) ∈ l) : realOf d isNaN nan l = none := by
  unfold realOf
  rw [if_neg]
  · unfold bitsRes
    split
    · rw [hex_cons h (by decide)]; rfl
    · rfl
  · rintro rfl
    revert h; decide
theorem realOf_nil {d : Nat} {isNaN : Nat → Bool} {nan : Nat} (h : d ≠ 0) : realOf d isNaN nan [] = none := by
  unfold realOf bitsRes
  rw [if_neg (by decide), if_neg (by simpa using fun e => h e.symm)]
  rfl

/-- The place of a digit among the digits. -/
theorem index_hex (c : UInt8) : Lib.indexByte [48, 49, 50, 51, 52, 53, 54, 55, 56, 57, 97, 98, 99, 100, 101, 102] c = match hexv c.toNat with | some d => (d : Int) | none => -1 := by
  have h : ∀ n : Fin 256, Lib.indexByte [48, 49, 50, 51, 52, 53, 54, 55, 56, 57, 97, 98, 99, 100, 101, 102] (UInt8.ofNat n) = match hexv (UInt8.ofNat n).toNat with | some d => (d : Int) | none => -1 := by decide +kernel
  have := h ⟨c.toNat, c.toNat_lt⟩
  simpa using this

/-- What stands before and behind the first blank. -/
def cutAt (l : List UInt8) : List UInt8 × List UInt8 := (l.takeWhile (· != 32), (l.dropWhile (· != 32)).tail)


end Go.Proofs.YtdefhmpmgcahpaaDoor.Hex
/-
  The walks of ReadBits and ReadNarrowBits.
-/
set_option linter.unusedVariables false
set_option linter.unusedSimpArgs false
namespace Go.Proofs.YtdefhmpmgcahpaaDoor
open Go.RowKit Flt Hex

theorem bytes_list (s : ByteArray) : s.toList = s.data.toList := ByteArray.toList_eq s

/-- The value that both readers of digits return. -/
def bitsVal (o : Option Nat) : Value := match o with
  | some v => .tuple #[.int .u64 (v : Int), .bool true]
  | none => .tuple #[.int .u64 0, .bool false]

theorem pow_bound {k a : Nat} (hk : k < 16) (h : a < 16 ^ k) : (a : Int) * 16 + 15 ≤ 18446744073709551615 := by
  have h1 : 16 ^ k ≤ 16 ^ 15 := Nat.pow_le_pow_right (by omega) (by omega)
  have h2 : (16 : Nat) ^ 15 = 1152921504606846976 := by decide
  omega

theorem hex_next {s : ByteArray} {k a C : Nat} (hlt : k < s.size) (ha : hexOf (s.data.toList.take k) = some a) (hC : s[k].toNat = C) :
    hexOf (s.data.toList.take (k + 1)) = (hexv C).map fun d => a * 16 + d := by
  have hll : k < s.data.toList.length := by simpa using hlt
  rw [take_snoc hll, hexOf_snoc, ha]
  have e : (s.data.toList[k]).toNat = C := hC
  show (hexv (s.data.toList[k]).toNat).map _ = _
  rw [e]
theorem hexv_other {C : Nat} (h : C < 48 ∨ (57 < C ∧ C < 97) ∨ 102 < C) : hexv C = none := by unfold hexv; rw [if_neg (by omega), if_neg (by omega)]
theorem hexv_digit {C : Nat} (h : 48 ≤ C) (h' : C ≤ 57) : hexv C = some (C - 48) := by unfold hexv; rw [if_pos ⟨h, h'⟩]
theorem hexv_letter {C : Nat} (h : 97 ≤ C) (h' : C ≤ 102) : hexv C = some (C - 87) := by unfold hexv; rw [if_neg (by omega), if_pos ⟨h, h'⟩]

/-- The digits, as the program writes them. -/
def hexDigits : List UInt8 := [48, 49, 50, 51, 52, 53, 54, 55, 56, 57, 97, 98, 99, 100, 101, 102]

/-- The place of a digit; -1 if it is none. -/
def hexAt (C : Nat) : Int := match hexv C with | some d => (d : Int) | none => -1

theorem run_indexByteStr (s : ByteArray) (c : Int) (w : World) : (callFunc 119 #[.string s, .int .u8 c]).run Tryd.prog w = .ok (.value (.int .i64 (Lib.indexByte s.data.toList c.toNat.toUInt8))) w := by
  have e : (callFunc 119 #[.string s, .int .u8 c]).run Tryd.prog w = (do let v ← Extern.BytealgIndexByte.indexByte #[.string s, .int .u8 c]; pure (Next.value v) : Sem Next).run Tryd.prog w := by kernel_rfl
  rw [e, Sem.run_bind, Lib.run_indexByteString]
  rfl

theorem indexHex (C : Nat) (hC : C < 256) (w : World) :
    Calls Tryd.prog 68 #[.string ⟨#[48, 49, 50, 51, 52, 53, 54, 55, 56, 57, 97, 98, 99, 100, 101, 102]⟩, .int .u8 C] w fun e w' => e = .returned (.int .i64 (hexAt C)) ∧ w' = w := by
  have hi : ∀ w : World, (callFunc 119 #[.string ⟨#[48, 49, 50, 51, 52, 53, 54, 55, 56, 57, 97, 98, 99, 100, 101, 102]⟩, .int .u8 C]).run Tryd.prog w = .ok (.value (.int .i64 (hexAt C))) w := by
    intro w
    rw [run_indexByteStr]
    have e := index_hex (UInt8.ofNat C)
    have e2 : (UInt8.ofNat C).toNat = C := by simp; omega
    rw [e2] at e
    show Result.ok (Next.value (Value.int IntKind.i64 (Lib.indexByte [48, 49, 50, 51, 52, 53, 54, 55, 56, 57, 97, 98, 99, 100, 101, 102] (UInt8.ofNat C)))) w = _
    rw [e]
    rfl
  generalize hexAt C = D at *
  go_enter Tryd.func68, Tryd.ntmps68
  go_wp2
  go_ret
  exact ⟨rfl, rfl⟩

theorem or_shift {a d : Nat} (hd : d < 16) (ha : (a : Int) * 16 + 15 ≤ 18446744073709551615) : bits .or .u64 ((a : Int) * 16) d = (a : Int) * 16 + d := by
  have h := u64_or_nat (a * 16) d (by omega) (by omega)
  rw [show ((a * 16 : Nat) : Int) = (a : Int) * 16 by omega] at h
  rw [h]
  have e : a * 16 ||| d = a * 16 + d := by
    have := Nat.two_pow_add_eq_or_of_lt (i := 4) (b := d) (by simpa using hd) a
    rw [Nat.mul_comm a 16]
    exact this.symm
  rw [e]; omega

/-- A real number is read: with these bits, or none. -/
def ReadsF (k : FloatKind) (o : Option Nat) (w : World) (e : Ending) (w' : World) : Prop := ∃ r, e = .returned (.tuple #[.float k r, .bool o.isSome]) ∧ (∀ v, o = some v → r = v) ∧ r < 2 ^ k.format.width ∧ w' = w

theorem realOf_none {d : Nat} {isNaN : Nat → Bool} {n : Nat} {l : List UInt8} (h : ¬ l = [110, 97, 110]) (hb : bitsRes d l = none) : realOf d isNaN n l = none := by
  unfold realOf; rw [if_neg h, hb]; rfl
theorem realOf_nan {d : Nat} {isNaN : Nat → Bool} {n v : Nat} {l : List UInt8} (h : ¬ l = [110, 97, 110]) (hb : bitsRes d l = some v) (hv : isNaN v = true) : realOf d isNaN n l = none := by
  unfold realOf; rw [if_neg h, hb]; simp [hv]
theorem realOf_num {d : Nat} {isNaN : Nat → Bool} {n v : Nat} {l : List UInt8} (h : ¬ l = [110, 97, 110]) (hb : bitsRes d l = some v) (hv : isNaN v = false) : realOf d isNaN n l = some v := by
  unfold realOf; rw [if_neg h, hb]; simp [hv]
theorem bits16_lt {l : List UInt8} {v : Nat} (h : bitsRes 16 l = some v) : v < 18446744073709551616 := by
  unfold bitsRes at h
  split at h
  · have := hexOf_lt h
    rename_i e
    rw [e] at this
    exact this
  · cases h
theorem bits8_lt {l : List UInt8} {v : Nat} (h : bitsRes 8 l = some v) : v < 4294967296 := by
  unfold bitsRes at h
  split at h
  · have := hexOf_lt h
    rename_i e
    rw [e] at this
    exact this
  · cases h

end Go.Proofs.YtdefhmpmgcahpaaDoor
/-
  The walks of ReadBits: how a text is cut at a blank.
-/
set_option linter.unusedVariables false
set_option linter.unusedSimpArgs false
namespace Go.Proofs.YtdefhmpmgcahpaaDoor
open Go.RowKit Flt Hex

set_option maxRecDepth 100000 in
theorem index_blank (s : ByteArray) (p : Int) (hp : Lib.indexByte s.data.toList 32 = p) (w : World) :
    Calls Tryd.prog 128 #[.string s, .string ⟨#[32]⟩] w fun e w' => e = .returned (.int .i64 p) ∧ w' = w := by
  have hi : ∀ w : World, (callFunc 119 #[.string s, .int .u8 32]).run Tryd.prog w = .ok (.value (.int .i64 p)) w := by
    intro w
    rw [run_indexByteStr]
    rw [show (32 : Int).toNat.toUInt8 = 32 from rfl, hp]
  by_cases hb : s.data.toList = [32]
  · have ht : ([32] == s.toList) = true := by rw [bytes_list, hb]; decide
    rw [hb] at hp
    obtain rfl : p = 0 := by rw [← hp]; decide
    clear hp hb
    go_enter Tryd.func128, Tryd.ntmps128
    go_wp2
    go_ret
    exact ⟨rfl, rfl⟩
  · have hx : ((({ data := #[32] } : ByteArray)[0]'(by decide)).toNat : Int) = 32 := rfl
    have ht : ([32] == s.toList) = false := by rw [bytes_list]; simpa using fun e => hb e.symm
    clear hp hb
    go_enter Tryd.func128, Tryd.ntmps128
    go_wp2
    go_ret
    exact ⟨rfl, rfl⟩

/-- The function returns this, and draws at most. -/
def Drew1 (v : Value) (w : World) (e : Ending) (w' : World) : Prop := e = .returned v ∧ ∃ n, w' = w.drewN n

/-- Two numbers, if both are there. -/
def pairOf (o p : Option Nat) : Option (Nat × Nat) := match o, p with
  | some a, some b => some (a, b)
  | _, _ => none

/-- Both parts of a text of bits. -/
def bothOf (f : List UInt8 → Option Nat) (l : List UInt8) : Option (Nat × Nat) :=
  if Lib.indexByte l 32 = -1 then none else pairOf (f (l.take (Lib.indexByte l 32).toNat)) (f (l.drop ((Lib.indexByte l 32).toNat + 1)))

/-- What both readers return. -/
def cVal (k : FloatKind) (o : Option (Nat × Nat)) : Value := match o with
  | some (x, y) => .tuple #[.complex k x y, .int .i64 0]
  | none => .tuple #[.complex k 0 0, .int .i64 5]

/-- What the generic reader of two parts returns. -/
def pVal (k : FloatKind) (o : Option (Nat × Nat)) : Value := match o with
  | some (x, y) => .tuple #[.float k x, .float k y, .int .i64 0]
  | none => .tuple #[.float k 0, .float k 0, .int .i64 5]

def real64 (l : List UInt8) : Option Nat := realOf 16 (nan FloatKind.f64.format) 9221120237041090561 l

theorem both_none {f : List UInt8 → Option Nat} {l : List UInt8} (h : Lib.indexByte l 32 = -1) : bothOf f l = none := by unfold bothOf; rw [if_pos h]
theorem both_some {f : List UInt8 → Option Nat} {l : List UInt8} {k : Nat} (h : Lib.indexByte l 32 = k) : bothOf f l = pairOf (f (l.take k)) (f (l.drop (k + 1))) := by
  unfold bothOf; rw [if_neg (by omega), h]; rfl

theorem take_data (s : ByteArray) (k : Nat) : (s.extract 0 k).data.toList = s.data.toList.take k := by
  rw [Lib.extract_data, List.drop_zero, Nat.sub_zero]

theorem drop_data (s : ByteArray) (k : Nat) : (s.extract k s.size).data.toList = s.data.toList.drop k := by
  rw [Lib.extract_data, List.take_of_length_le]
  simp

theorem real64_nil : real64 (⟨#[]⟩ : ByteArray).data.toList = none := realOf_nil (by decide)

end Go.Proofs.YtdefhmpmgcahpaaDoor
