import Derived.Test.YtdefhmpmgcahpaaDoorMExactRL5
import Derived.Test.YtdefhmpmgcahpaaDoorFlt
import Derived.Test.YtdefhmpmgcahpaaDoorHex
import Derived.Test.YtdefhmpmgcahpaaDoorMExactRL4
import Derived.Test.YtdefhmpmgcahpaaDoorSrcZ
import Derived.Test.YtdefhmpmgcahpaaDoorRows
import Derived.Lib.Bytealg
import Derived.Lib.IndexLaws
import Derived.Lib.Hide
/-
  The walks of ReadBits and ReadNarrowBits.
-/
set_option linter.unusedVariables false
set_option linter.unusedSimpArgs false
namespace Go.Proofs.YtdefhmpmgcahpaaDoor
open Go.RowKit Flt Hex

theorem bytes_list (s : ByteArray) : s.toList = s.data.toList := ByteArray.toList_eq s

/-- The value that both readers of digits return. -/
def bitsVal (o : Option Nat) : Value := match o with
  | some v => .tuple #[.int .u64 (v : Int), .bool true]
  | none => .tuple #[.int .u64 0, .bool false]

theorem pow_bound {k a : Nat} (hk : k < 16) (h : a < 16 ^ k) : (a : Int) * 16 + 15 ≤ 18446744073709551615 := by
  have h1 : 16 ^ k ≤ 16 ^ 15 := Nat.pow_le_pow_right (by omega) (by omega)
  have h2 : (16 : Nat) ^ 15 = 1152921504606846976 := by decide
  omega

theorem hex_next {s : ByteArray} {k a C : Nat} (hlt : k < s.size) (ha : hexOf (s.data.toList.take k) = some a) (hC : s[k].toNat = C) :
    hexOf (s.data.toList.take (k + 1)) = (hexv C).map fun d => a * 16 + d := by
  have hll : k < s.data.toList.length := by simpa using hlt
  rw [take_snoc hll, hexOf_snoc, ha]
  have e : (s.data.toList[k]).toNat = C := hC
  show (hexv (s.data.toList[k]).toNat).map _ = _
  rw [e]
theorem hexv_other {C : Nat} (h : C < 48 ∨ (57 < C ∧ C < 97) ∨ 102 < C) : hexv C = none := by unfold hexv; rw [if_neg (by omega), if_neg (by omega)]
theorem hexv_digit {C : Nat} (h : 48 ≤ C) (h' : C ≤ 57) : hexv C = some (C - 48) := by unfold hexv; rw [if_pos ⟨h, h'⟩]
theorem hexv_letter {C : Nat} (h : 97 ≤ C) (h' : C ≤ 102) : hexv C = some (C - 87) := by unfold hexv; rw [if_neg (by omega), if_pos ⟨h, h'⟩]

/-- The digits, as the program writes them. -/
def hexDigits : List UInt8 := [48, 49, 50, 51, 52, 53, 54, 55, 56, 57, 97, 98, 99, 100, 101, 102]

/-- The place of a digit; -1 if it is none. -/
def hexAt (C : Nat) : Int := match hexv C with | some d => (d : Int) | none => -1

theorem run_indexByteStr (s : ByteArray) (c : Int) (w : World) : (callFunc 119 #[.string s, .int .u8 c]).run Tryd.prog w = .ok (.value (.int .i64 (Lib.indexByte s.data.toList c.toNat.toUInt8))) w := by
  have e : (callFunc 119 #[.string s, .int .u8 c]).run Tryd.prog w = (do let v ← Extern.BytealgIndexByte.indexByte #[.string s, .int .u8 c]; pure (Next.value v) : Sem Next).run Tryd.prog w := by kernel_rfl
  rw [e, Sem.run_bind, Lib.run_indexByteString]
  rfl

theorem indexHex (C : Nat) (hC : C < 256) (w : World) :
    Calls Tryd.prog 68 #[.string ⟨#[48, 49, 50, 51, 52, 53, 54, 55, 56, 57, 97, 98, 99, 100, 101, 102]⟩, .int .u8 C] w fun e w' => e = .returned (.int .i64 (hexAt C)) ∧ w' = w := by
  have hi : ∀ w : World, (callFunc 119 #[.string ⟨#[48, 49, 50, 51, 52, 53, 54, 55, 56, 57, 97, 98, 99, 100, 101, 102]⟩, .int .u8 C]).run Tryd.prog w = .ok (.value (.int .i64 (hexAt C))) w := by
    intro w
    rw [run_indexByteStr]
    have e := index_hex (UInt8.ofNat C)
    have e2 : (UInt8.ofNat C).toNat = C := by simp; omega
    rw [e2] at e
    show Result.ok (Next.value (Value.int IntKind.i64 (Lib.indexByte [48, 49, 50, 51, 52, 53, 54, 55, 56, 57, 97, 98, 99, 100, 101, 102] (UInt8.ofNat C)))) w = _
    rw [e]
    rfl
  generalize hexAt C = D at *
  go_enter Tryd.func68, Tryd.ntmps68
  go_wp2
  go_ret
  exact ⟨rfl, rfl⟩

theorem or_shift {a d : Nat} (hd : d < 16) (ha : (a : Int) * 16 + 15 ≤ 18446744073709551615) : bits .or .u64 ((a : Int) * 16) d = (a : Int) * 16 + d := by
  have h := u64_or_nat (a * 16) d (by omega) (by omega)
  rw [show ((a * 16 : Nat) : Int) = (a : Int) * 16 by omega] at h
  rw [h]
  have e : a * 16 ||| d = a * 16 + d := by
    have := Nat.two_pow_add_eq_or_of_lt (i := 4) (b := d) (by simpa using hd) a
    rw [Nat.mul_comm a 16]
    exact this.symm
  rw [e]; omega

/-- A real number is read: with these bits, or none. -/
def ReadsF (k : FloatKind) (o : Option Nat) (w : World) (e : Ending) (w' : World) : Prop := ∃ r, e = .returned (.tuple #[.float k r, .bool o.isSome]) ∧ (∀ v, o = some v → r = v) ∧ r < 2 ^ k.format.width ∧ w' = w

theorem realOf_none {d : Nat} {isNaN : Nat → Bool} {n : Nat} {l : List UInt8} (h : ¬ l = [110, 97, 110]) (hb : bitsRes d l = none) : realOf d isNaN n l = none := by
  unfold realOf; rw [if_neg h, hb]; rfl
theorem realOf_nan {d : Nat} {isNaN : Nat → Bool} {n v : Nat} {l : List UInt8} (h : ¬ l = [110, 97, 110]) (hb : bitsRes d l = some v) (hv : isNaN v = true) : realOf d isNaN n l = none := by
  unfold realOf; rw [if_neg h, hb]; simp [hv]
theorem realOf_num {d : Nat} {isNaN : Nat → Bool} {n v : Nat} {l : List UInt8} (h : ¬ l = [110, 97, 110]) (hb : bitsRes d l = some v) (hv : isNaN v = false) : realOf d isNaN n l = some v := by
  unfold realOf; rw [if_neg h, hb]; simp [hv]
theorem bits16_lt {l : List UInt8} {v : Nat} (h : bitsRes 16 l = some v) : v < 18446744073709551616 := by
  unfold bitsRes at h
  split at h
  · have := hexOf_lt h
    rename_i e
    rw [e] at this
    exact this
  · cases h
theorem bits8_lt {l : List UInt8} {v : Nat} (h : bitsRes 8 l = some v) : v < 4294967296 := by
  unfold bitsRes at h
  split at h
  · have := hexOf_lt h
    rename_i e
    rw [e] at this
    exact this
  · cases h

end Go.Proofs.YtdefhmpmgcahpaaDoor
