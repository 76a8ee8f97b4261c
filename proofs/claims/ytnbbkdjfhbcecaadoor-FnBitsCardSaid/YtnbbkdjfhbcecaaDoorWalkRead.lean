import Derived.Test.YtnbbkdjfhbcecaaDoorKit
import Derived.Test.YtnbbkdjfhbcecaaDoorFlt
import Derived.Test.YtnbbkdjfhbcecaaDoorHex
import Derived.Test.YtnbbkdjfhbcecaaDoorRows
import Derived.Test.YtnbbkdjfhbcecaaDoorExt
import Derived.Test.YtnbbkdjfhbcecaaDoorWalkNext
import Derived.Test.YtnbbkdjfhbcecaaDoorWalkUnits
import Derived.Test.YtnbbkdjfhbcecaaDoorSrc
import Derived.Lib.Bytealg
import Derived.Lib.IndexLaws
import Derived.Lib.Hide
/-
  The walks of ReadBits and ReadNarrowBits.
-/
set_option linter.unusedVariables false
set_option linter.unusedSimpArgs false
namespace Go.Proofs.YtnbbkdjfhbcecaaDoor
open Go.RowKit Flt Hex

theorem bytes_list (s : ByteArray) : s.toList = s.data.toList := ByteArray.toList_eq s

/-- The value that both readers of digits return. -/
def bitsVal (o : Option Nat) : Value := match o with
  | some v => .tuple #[.int .u64 (v : Int), .bool true]
  | none => .tuple #[.int .u64 0, .bool false]

theorem pow_bound {k a : Nat} (hk : k < 16) (h : a < 16 ^ k) : (a : Int) * 16 + 15 ≤ 18446744073709551615 := by
  have h1 : 16 ^ k ≤ 16 ^ 15 := Nat.pow_le_pow_right (by omega) (by omega)
  have h2 : (16 : Nat) ^ 15 = 1152921504606846976 := by decide
  omega

theorem hex_next {s : ByteArray} {k a C : Nat} (hlt : k < s.size) (ha : hexOf (s.data.toList.take k) = some a) (hC : s[k].toNat = C) :
    hexOf (s.data.toList.take (k + 1)) = (hexv C).map fun d => a * 16 + d := by
  have hll : k < s.data.toList.length := by simpa using hlt
  rw [take_snoc hll, hexOf_snoc, ha]
  have e : (s.data.toList[k]).toNat = C := hC
  show (hexv (s.data.toList[k]).toNat).map _ = _
  rw [e]
theorem hexv_other {C : Nat} (h : C < 48 ∨ (57 < C ∧ C < 97) ∨ 102 < C) : hexv C = none := by unfold hexv; rw [if_neg (by omega), if_neg (by omega)]
theorem hexv_digit {C : Nat} (h : 48 ≤ C) (h' : C ≤ 57) : hexv C = some (C - 48) := by unfold hexv; rw [if_pos ⟨h, h'⟩]
theorem hexv_letter {C : Nat} (h : 97 ≤ C) (h' : C ≤ 102) : hexv C = some (C - 87) := by unfold hexv; rw [if_neg (by omega), if_pos ⟨h, h'⟩]

/-- The digits, as the program writes them. -/
def hexDigits : List UInt8 := [48, 49, 50, 51, 52, 53, 54, 55, 56, 57, 97, 98, 99, 100, 101, 102]

/-- The place of a digit; -1 if it is none. -/
def hexAt (C : Nat) : Int := match hexv C with | some d => (d : Int) | none => -1

theorem run_indexByteStr (s : ByteArray) (c : Int) (w : World) : (callFunc 59 #[.string s, .int .u8 c]).run Tryd.prog w = .ok (.value (.int .i64 (Lib.indexByte s.data.toList c.toNat.toUInt8))) w := by
  have e : (callFunc 59 #[.string s, .int .u8 c]).run Tryd.prog w = (do let v ← Extern.BytealgIndexByte.indexByte #[.string s, .int .u8 c]; pure (Next.value v) : Sem Next).run Tryd.prog w := by kernel_rfl
  rw [e, Sem.run_bind, Lib.run_indexByteString]
  rfl

theorem indexHex (C : Nat) (hC : C < 256) (w : World) :
    Calls Tryd.prog 42 #[.string ⟨#[48, 49, 50, 51, 52, 53, 54, 55, 56, 57, 97, 98, 99, 100, 101, 102]⟩, .int .u8 C] w fun e w' => e = .returned (.int .i64 (hexAt C)) ∧ w' = w := by
  have hi : ∀ w : World, (callFunc 59 #[.string ⟨#[48, 49, 50, 51, 52, 53, 54, 55, 56, 57, 97, 98, 99, 100, 101, 102]⟩, .int .u8 C]).run Tryd.prog w = .ok (.value (.int .i64 (hexAt C))) w := by
    intro w
    rw [run_indexByteStr]
    have e := index_hex (UInt8.ofNat C)
    have e2 : (UInt8.ofNat C).toNat = C := by simp; omega
    rw [e2] at e
    show Result.ok (Next.value (Value.int IntKind.i64 (Lib.indexByte [48, 49, 50, 51, 52, 53, 54, 55, 56, 57, 97, 98, 99, 100, 101, 102] (UInt8.ofNat C)))) w = _
    rw [e]
    rfl
  generalize hexAt C = D at *
  go_enter Tryd.func42, Tryd.ntmps42
  go_wp2
  go_ret
  exact ⟨rfl, rfl⟩

theorem or_shift {a d : Nat} (hd : d < 16) (ha : (a : Int) * 16 + 15 ≤ 18446744073709551615) : bits .or .u64 ((a : Int) * 16) d = (a : Int) * 16 + d := by
  have h := u64_or_nat (a * 16) d (by omega) (by omega)
  rw [show ((a * 16 : Nat) : Int) = (a : Int) * 16 by omega] at h
  rw [h]
  have e : a * 16 ||| d = a * 16 + d := by
    have := Nat.two_pow_add_eq_or_of_lt (i := 4) (b := d) (by simpa using hd) a
    rw [Nat.mul_comm a 16]
    exact this.symm
  rw [e]; omega

set_option maxRecDepth 100000 in
set_option maxHeartbeats 1000000 in
theorem readDigits_any (s : ByteArray) (d : Nat) (hd : d ≤ 16) (w : World) :
    Calls Tryd.prog 30 #[.string s, .int .i64 d] w fun e w' => e = .returned (bitsVal (bitsRes d s.data.toList)) ∧ w' = w := by
  by_cases hl : s.size = d
  · have hb : bitsRes d s.data.toList = hexOf s.data.toList := by unfold bitsRes; rw [if_pos (by simpa using hl)]
    rw [hb]
    have hne : ((s.size : Int) != (d : Int)) = false := by rw [hl]; simp
    have hsz : s.size ≤ 16 := by omega
    have HL := Lib.hid hl
    clear hb hl
    go_enter Tryd.func30, Tryd.ntmps30
    go_wp2
    go_loop [6, 15] (fun n i => ∃ k a : Nat, k ≤ s.size ∧ i = .int .i64 k ∧ n = .int .u64 a ∧ hexOf (s.data.toList.take k) = some a) (fun _ i => s.size - (intOf i).toNat)
    case atStart => exact ⟨0, 0, Nat.zero_le _, rfl, rfl, rfl⟩
    case round =>
      obtain ⟨k, a, hk, rfl, rfl, ha⟩ := hrel
      have HA := Lib.hid ha
      clear ha
      by_cases hlt : k < s.size
      · obtain ⟨C, hC⟩ : ∃ C, s[k].toNat = C := ⟨_, rfl⟩
        have hc8 : C < 256 := by rw [← hC]; exact s[k].toNat_lt
        have hpb : (a : Int) * 16 + 15 ≤ 18446744073709551615 := pow_bound (k := k) (by omega) (by
          have := hexOf_lt HA.out
          rw [List.length_take, Nat.min_eq_left (by rw [show s.data.toList.length = s.size from by simp]; omega)] at this
          exact this)
        have HS : Hid (hexOf (s.data.toList.take (k + 1)) = (hexv C).map fun d => a * 16 + d) := hex_next hlt HA.out hC
        cases hv : hexv C with
        | none =>
          have HN : Hid (hexOf s.data.toList = none) := hexOf_take (k := k + 1) (by rw [HS.out, hv]; rfl)
          have hD : hexAt C = -1 := by unfold hexAt; rw [hv]
          have hI := indexHex C hc8
          rw [hD] at hI
          clear HS HA hv hD hpb
          go_wp2_with (go_at_call 42; refine (hI _).mono ?_; rintro e w' ⟨rfl, rfl⟩)
          go_ret2
          exact ⟨by rw [HN.out]; rfl, rfl⟩
        | some b =>
          have HN : Hid (hexOf (s.data.toList.take (k + 1)) = some (a * 16 + b)) := by rw [HS.out, hv]; rfl
          have hD : hexAt C = b := by unfold hexAt; rw [hv]
          have hb := hexv_lt hv
          have hI := indexHex C hc8
          rw [hD] at hI
          have e1 : IntKind.u64.wrap ((a : Int) * 16) = (a : Int) * 16 := IntWalk.u64_in _ (by omega)
          have e2 := or_shift hb hpb
          have hb' : (b : Int) < 16 := by omega
          clear HS HA hv hD hpb hb
          go_wp2_with (go_at_call 42; refine (hI _).mono ?_; rintro e w' ⟨rfl, rfl⟩)
          go_round
          case rel => exact ⟨k + 1, a * 16 + b, by omega, by go_num, by go_num, HN.out⟩
          case measure => simp [intOf]; omega
      · have e : k = s.size := by omega
        have HE : Hid (hexOf s.data.toList = some a) := by
          have := HA.out
          rw [e, List.take_of_length_le (by simp)] at this
          exact this
        clear HA
        subst e
        go_wp2
        go_ret2
        exact ⟨by rw [HE.out]; rfl, rfl⟩
  · have hb : bitsRes d s.data.toList = none := by unfold bitsRes; rw [if_neg (by simpa using hl)]
    rw [hb]
    have hne : ((s.size : Int) != (d : Int)) = true := by simp; omega
    clear hb hl
    go_enter Tryd.func30, Tryd.ntmps30
    go_wp2
    go_ret2
    exact ⟨rfl, rfl⟩

/-- A real number is read: with these bits, or none. -/
def ReadsF (k : FloatKind) (o : Option Nat) (w : World) (e : Ending) (w' : World) : Prop := ∃ r, e = .returned (.tuple #[.float k r, .bool o.isSome]) ∧ (∀ v, o = some v → r = v) ∧ r < 2 ^ k.format.width ∧ w' = w

theorem realOf_none {d : Nat} {isNaN : Nat → Bool} {n : Nat} {l : List UInt8} (h : ¬ l = [110, 97, 110]) (hb : bitsRes d l = none) : realOf d isNaN n l = none := by
  unfold realOf; rw [if_neg h, hb]; rfl
theorem realOf_nan {d : Nat} {isNaN : Nat → Bool} {n v : Nat} {l : List UInt8} (h : ¬ l = [110, 97, 110]) (hb : bitsRes d l = some v) (hv : isNaN v = true) : realOf d isNaN n l = none := by
  unfold realOf; rw [if_neg h, hb]; simp [hv]
theorem realOf_num {d : Nat} {isNaN : Nat → Bool} {n v : Nat} {l : List UInt8} (h : ¬ l = [110, 97, 110]) (hb : bitsRes d l = some v) (hv : isNaN v = false) : realOf d isNaN n l = some v := by
  unfold realOf; rw [if_neg h, hb]; simp [hv]
theorem bits16_lt {l : List UInt8} {v : Nat} (h : bitsRes 16 l = some v) : v < 18446744073709551616 := by
  unfold bitsRes at h
  split at h
  · have := hexOf_lt h
    rename_i e
    rw [e] at this
    exact this
  · cases h
theorem bits8_lt {l : List UInt8} {v : Nat} (h : bitsRes 8 l = some v) : v < 4294967296 := by
  unfold bitsRes at h
  split at h
  · have := hexOf_lt h
    rename_i e
    rw [e] at this
    exact this
  · cases h

theorem readReal_any (s : ByteArray) (w : World) :
    Calls Tryd.prog 19 #[.string s] w (ReadsF .f64 (realOf 16 (nan FloatKind.f64.format) 9221120237041090561 s.data.toList) w) := by
  have o0 : FloatKind.f64.format.order 0 0 = some .eq := by decide
  by_cases hn : s.data.toList = [110, 97, 110]
  · have hr : realOf 16 (nan FloatKind.f64.format) 9221120237041090561 s.data.toList = some 9221120237041090561 := by unfold realOf; rw [if_pos hn]
    have ht : (s.toList == [110, 97, 110]) = true := by rw [bytes_list]; simpa using hn
    rw [hr]
    clear hr hn
    go_enter Tryd.func19, Tryd.ntmps19
    go_wp2_with (go_at_call 29; refine (nan_call _).mono ?_; rintro e w' ⟨rfl, rfl⟩)
    go_ret2
    exact ⟨_, rfl, fun v e => Option.some.inj e, by decide, rfl⟩
  · have ht : (s.toList == [110, 97, 110]) = false := by rw [bytes_list]; simpa using hn
    have HB := readDigits_any s 16 (by omega)
    cases hb : bitsRes 16 s.data.toList with
    | none =>
      rw [realOf_none hn hb]
      rw [hb] at HB
      clear hb hn
      go_enter Tryd.func19, Tryd.ntmps19
      go_wp2_with (first | (go_at_call 30; refine (HB _).mono ?_; rintro e w' ⟨rfl, rfl⟩; simp only [bitsVal]) | go_in)
      go_ret2
      exact ⟨_, rfl, (fun v e => by cases e), by decide, rfl⟩
    | some v =>
      rw [hb] at HB
      have lv := bits16_lt hb
      by_cases hv : nan FloatKind.f64.format v = true
      · rw [realOf_nan hn hb hv]
        have ho : FloatKind.f64.format.order v v = none := ord_nan_l _ hv
        have LV := Lib.hid lv
        clear hb hn hv lv
        go_enter Tryd.func19, Tryd.ntmps19
        go_wp2_with (first | (go_at_call 30; refine (HB _).mono ?_; rintro e w' ⟨rfl, rfl⟩; simp only [bitsVal]) | go_in)
        go_ret2
        exact ⟨_, rfl, (fun v e => by cases e), LV.out, rfl⟩
      · have hv : nan FloatKind.f64.format v = false := by simpa using hv
        rw [realOf_num hn hb hv]
        have ho : FloatKind.f64.format.order v v = some .eq := ord_eq hv hv rfl
        have LV := Lib.hid lv
        clear hb hn hv lv
        go_enter Tryd.func19, Tryd.ntmps19
        go_wp2_with (first | (go_at_call 30; refine (HB _).mono ?_; rintro e w' ⟨rfl, rfl⟩; simp only [bitsVal]) | go_in)
        go_ret2
        exact ⟨_, rfl, fun v e => Option.some.inj e, LV.out, rfl⟩
end Go.Proofs.YtnbbkdjfhbcecaaDoor
