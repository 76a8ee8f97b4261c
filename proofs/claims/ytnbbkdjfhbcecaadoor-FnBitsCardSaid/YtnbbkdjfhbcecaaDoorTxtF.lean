import Derived.Test.YtnbbkdjfhbcecaaDoorRows
import Derived.Test.YtnbbkdjfhbcecaaDoorTxt
import Derived.Test.YtnbbkdjfhbcecaaDoorKit
import Derived.Test.YtnbbkdjfhbcecaaDoorExt
import Derived.Test.YtnbbkdjfhbcecaaDoorWalkRead
import Derived.Lib.Hide
/-
  The walks of what writes a number's bits.
-/
set_option linter.unusedVariables false
set_option linter.unusedSimpArgs false
namespace Go.Proofs.YtnbbkdjfhbcecaaDoor
open Go.RowKit Flt Hex

/-- The table that the number of trailing zeros is read of: what the walks need of it. -/
def Tab (w : World) : Prop := w.cell? ⟨4, 15, none⟩ = some (.int .u8 4)

theorem trailing_any (w : World) (ht : Tab w) :
    Calls Tryd.prog 74 #[.int .u64 16] w fun e w' => e = .returned (.int .i64 4) ∧ w' = w := by
  have hc : w.cell? ⟨4, 15, none⟩ = some (.int .u8 4) := ht
  have e1 : IntKind.u64.wrap (bits BinOp.and IntKind.u64 16 (IntKind.u64.wrap (-16)) * 285870213051353865) / 288230376151711744 = 15 := by decide
  go_enter Tryd.func74, Tryd.ntmps74
  go_wp2_with (go_at_call 78; go_in)
  all_goals go_ret
  exact ⟨rfl, rfl⟩

theorem power_any (w : World) :
    Calls Tryd.prog 73 #[.int .i64 16] w fun e w' => e = .returned (.bool true) ∧ w' = w := by
  go_enter Tryd.func73, Tryd.ntmps73
  go_wp2
  go_ret
  exact ⟨rfl, rfl⟩

/-- A byte as a value. -/
def byteV (c : UInt8) : Value := .int .u8 (c.toNat : Int)

/-- The block of 65 bytes: zeros, then what has been written. -/
def digitsObj (T : TypeId) (i : Nat) (t : List UInt8) : Obj := .cells (List.replicate i (Value.int .u8 0) ++ t.map byteV).toArray T

theorem digits_start (T : TypeId) : digitsObj T 65 [] = .cells (List.replicate 65 (Value.int .u8 0)).toArray T := rfl

theorem zeros65 : (Tryd.zeroCells110 : Array Value) = (List.replicate 65 (Value.int .u8 0)).toArray := by kernel_rfl

theorem digits_store {i : Nat} {t : List UInt8} (T : TypeId) (w : World) (c : UInt8) :
    (w.alloc (digitsObj T (i + 1) t)).setCell ⟨w.heap.size, i, none⟩ (byteV c) = w.alloc (digitsObj T i (c :: t)) := by
  unfold digitsObj
  rw [World.setCell_alloc_new]
  congr 2
  rw [List.replicate_succ']
  simp

theorem digits_cell {i : Nat} {t : List UInt8} (T : TypeId) (w : World) (j : Nat) (c : UInt8) (h : t[j]? = some c) :
    (w.alloc (digitsObj T i t)).cell? ⟨w.heap.size, i + j, none⟩ = some (byteV c) := by
  unfold digitsObj
  simp
  rw [List.getElem?_append_right (by simp)]
  simp [h]

theorem digits_room {i : Nat} {t : List UInt8} (T : TypeId) (w : World) : (w.alloc (digitsObj T (i + 1) t)).cell? ⟨w.heap.size, i, none⟩ = some (.int .u8 0) := by
  unfold digitsObj
  simp
  rw [List.getElem?_append_left (by simp)]
  simp

theorem digits_free {i : Nat} {t : List UInt8} (T : TypeId) (w : World) (j : Nat) : (w.alloc (digitsObj T i t)).frozen? ⟨w.heap.size, j, none⟩ = false := by
  unfold digitsObj
  simp

theorem and15 {r : Nat} (h : r < 18446744073709551616) : bits .and .u64 (r : Int) 15 = ((r % 16 : Nat) : Int) := by
  have e : bits .and .u64 (r : Int) 15 = IntKind.u64.wrap (((BitVec.ofInt 64 (r : Int) &&& BitVec.ofInt 64 15).toNat : Nat) : Int) := rfl
  rw [e, BitVec.toNat_and, BitVec.toNat_ofInt, BitVec.toNat_ofInt]
  rw [show (((15 : Int) % ((2 ^ 64 : Nat) : Int)).toNat) = 2 ^ 4 - 1 by decide, show (((r : Int) % ((2 ^ 64 : Nat) : Int)).toNat) = r by omega, Nat.and_two_pow_sub_one_eq_mod]
  exact IntWalk.u64_in _ (by omega)

theorem digit_at : ∀ d, d < 16 → ((#[48, 49, 50, 51, 52, 53, 54, 55, 56, 57, 97, 98, 99, 100, 101, 102, 103, 104, 105, 106, 107, 108, 109, 110, 111, 112, 113, 114, 115, 116, 117, 118, 119, 120, 121, 122] : Array UInt8)[d]?) = some (dig d) := by decide

theorem digit_byte (d : Nat) (h : d < 16) (h' : d < (⟨#[48, 49, 50, 51, 52, 53, 54, 55, 56, 57, 97, 98, 99, 100, 101, 102, 103, 104, 105, 106, 107, 108, 109, 110, 111, 112, 113, 114, 115, 116, 117, 118, 119, 120, 121, 122]⟩ : ByteArray).size) :
    (⟨#[48, 49, 50, 51, 52, 53, 54, 55, 56, 57, 97, 98, 99, 100, 101, 102, 103, 104, 105, 106, 107, 108, 109, 110, 111, 112, 113, 114, 115, 116, 117, 118, 119, 120, 121, 122]⟩ : ByteArray)[d]'h' = dig d := by
  have := digit_at d h
  rw [Array.getElem?_eq_some_iff] at this
  exact this.2

theorem len_lt {r len b u D e : Nat} (h : r * 16 ^ len + b = u) (hu : u < 16 ^ D) (hr : 16 ^ e ≤ r) : len + e < D := by
  have h1 : 16 ^ e * 16 ^ len ≤ r * 16 ^ len := Nat.mul_le_mul_right _ hr
  rw [← Nat.pow_add] at h1
  have h2 : 16 ^ (e + len) < 16 ^ D := by omega
  have := (Nat.pow_lt_pow_iff_right (by decide : 1 < 16)).1 h2
  omega

theorem arrayLen65 : Tryd.prog.arrayLen 110 = 65 := by kernel_rfl

theorem text_of (W : World) (g m L cap : Nat) (t : List UInt8) (hL : t.length = L) (h : ∀ j c, t[j]? = some c → W.cell? ⟨g, m + j, none⟩ = some (byteV c)) :
    (convert 22 9 (.slice (some ⟨g, m, none⟩) L cap)).run Tryd.prog W = .ok (.string ⟨t.toArray⟩) W := by
  subst hL
  rw [run_convert_bytes_string (e := 5) W _ _ _ _ _ Tryd.underlying22 Tryd.underlying5 Tryd.underlying9]
  have hl := run_loadCells_list (P := Tryd.prog) (w := W) ⟨g, m, none⟩ (t.map byteV) (fun j v hv => by
    rw [List.getElem?_map] at hv
    cases ht : t[j]? with
    | none => rw [ht] at hv; cases hv
    | some c =>
      rw [ht] at hv
      cases hv
      have := h j c ht
      rw [show (⟨g, m, none⟩ : Addr).add j = ⟨g, m + j, none⟩ by unfold Addr.add; split <;> simp_all]
      exact this)
  rw [List.length_map] at hl
  rw [run_bytesToString (P := Tryd.prog) W ⟨g, m, none⟩ t.length cap (t.map fun c => (c.toNat : Int)) (by rw [hl, List.map_map]; rfl)]
  congr 2
  have : ∀ (l : List UInt8) (r : ByteArray), (l.map fun c => (c.toNat : Int)).foldl (fun r n => r.push (UInt8.ofNat n.toNat)) r = ⟨(r.data.toList ++ l).toArray⟩ := by
    intro l
    induction l with
    | nil => intro r; simp
    | cons c l ih => intro r; simp only [List.map_cons, List.foldl_cons]; rw [ih]; simp
  rw [this]
  simp

theorem tab_alloc {w : World} (h : Tab w) (o : Obj) : Tab (w.alloc o) := by
  unfold Tab at *
  rw [World.cell?_alloc_past _ _ _ (World.block_lt_of_cell? _ _ h)]
  exact h

attribute [local go_sem] arrayLen65
set_option maxHeartbeats 1000000 in
set_option maxRecDepth 100000 in
theorem formatBits_any (u D : Nat) (hu : u < 16 ^ D) (hD : 1 ≤ D) (hD2 : D ≤ 16) (w : World) (ht : Tab w) :
    Calls Tryd.prog 63 #[.slice none 0 0, .int .u64 u, .int .i64 16, .bool false, .bool false] w fun e w' => ∃ t : ByteArray, e = .returned (.tuple #[.slice none 0 0, .string t]) ∧ hexOf t.data.toList = some u ∧ t.size ≤ D ∧ Below w.heap.size w w' := by
  have hT := fun (o : Obj) => trailing_any (w.alloc o) (tab_alloc ht o)
  go_enter Tryd.func63, Tryd.ntmps63
  go_wp2_with (first | (go_at_call 73; refine (power_any _).mono ?_; rintro e w' ⟨rfl, rfl⟩) | (go_at_call 74; refine (hT _).mono ?_; rintro e w' ⟨rfl, rfl⟩))
  rw [show (.cells Tryd.zeroCells110 110 : Obj) = digitsObj 110 65 [] from by rw [digits_start, zeros65]]
  have HU := Lib.hid hu
  clear hu
  go_loopw [1, 13] (fun U i wr => ∃ (k r : Nat) (t : List UInt8) (b : Nat), U = .int .u64 r ∧ i = .int .i64 k ∧ k + t.length = 65 ∧ r < 18446744073709551616 ∧ Hid (hexOf t = some b ∧ r * 16 ^ t.length + b = u ∧ (t = [] ∨ 1 ≤ r)) ∧ wr = w.alloc (digitsObj 110 k t)) (fun U _ _ => (intOf U).toNat)
  case atStart => exact ⟨65, u, [], 0, rfl, rfl, rfl, by
      have := HU.out
      have h16 : 16 ^ D ≤ 16 ^ 16 := Nat.pow_le_pow_right (by decide) hD2
      omega, Lib.hid ⟨rfl, by simp, .inl rfl⟩, rfl⟩
  case round =>
    obtain ⟨k, r, t, b, rfl, rfl, hk, hr, HI, rfl⟩ := hrel
    by_cases hge : 16 ≤ r
    · have hl : t.length + 1 < D := len_lt HI.out.2.1 HU.out hge
      obtain ⟨m, rfl⟩ : ∃ m, k = m + 1 := ⟨k - 1, by omega⟩
      have g1 : decide ((16 : Int) ≤ (r : Int)) = true := by simp; omega
      obtain ⟨d, hd⟩ : ∃ d, r % 16 = d := ⟨_, rfl⟩
      have hd16 : d < 16 := by omega
      have ea := and15 hr
      rw [hd] at ea
      have hroom := digits_room (i := m) (t := t) 110 w
      have hfree := digits_free (i := m + 1) (t := t) 110 w m
      have HD := Lib.hid hd
      have HN : Hid (hexOf (dig d :: t) = some (d * 16 ^ t.length + b) ∧ (r / 16) * 16 ^ (dig d :: t).length + (d * 16 ^ t.length + b) = u ∧ (dig d :: t = [] ∨ 1 ≤ r / 16)) := by
        refine ⟨hexOf_cons HI.out.1 hd16, ?_, .inr (by omega)⟩
        have := HI.out.2.1
        rw [List.length_cons, Nat.pow_succ, ← Nat.add_assoc, Nat.mul_comm (16 ^ t.length) 16, ← Nat.mul_assoc, ← Nat.add_mul, ← hd, Nat.div_add_mod']
        exact this
      have hpos : 0 < r := by omega
      clear hd hge HI
      go_wp2
      go_round
      case rel => exact ⟨m, r / 16, dig d :: t, d * 16 ^ t.length + b, by go_num, rfl, by simp; omega, by omega, HN, by rw [digit_byte d hd16]; exact digits_store _ _ _⟩
      case measure => simp [intOf]; omega
    · have hl : t.length < D := by
        rcases HI.out.2.2 with h | h
        · rw [h]; simp; omega
        · have := len_lt (e := 0) HI.out.2.1 HU.out (by simpa using h)
          omega
      obtain ⟨m, rfl⟩ : ∃ m, k = m + 1 := ⟨k - 1, by omega⟩
      have g1 : decide ((16 : Int) ≤ (r : Int)) = false := by simp; omega
      have hr16 : r < 16 := by omega
      have hroom := digits_room (i := m) (t := t) 110 w
      have hfree := digits_free (i := m + 1) (t := t) 110 w m
      have hal : (m : Int) ≤ 65 := by omega
      have HX : Hid (hexOf (dig r :: t) = some u) := by
        have h1 := hexOf_cons HI.out.1 hr16
        rw [HI.out.2.1] at h1
        exact h1
      have HB : Hid (Below w.heap.size w (w.alloc (digitsObj 110 m (dig r :: t)))) := (Below.refl _ _).alloc (Nat.le_refl _) _
      have HL := Lib.hid hl
      go_wp2
      rw [digit_byte r hr16, show (Value.int .u8 ((dig r).toNat : Int)) = byteV (dig r) from rfl, digits_store, text_of _ w.heap.size m _ _ (dig r :: t) (by simp; omega) (fun j c h => digits_cell _ _ _ _ h)]
      go_wp2
      go_ret2
      exact ⟨_, rfl, HX.out, by have := HL.out; simp [ByteArray.size]; omega, HB.out⟩

theorem formatIn_any (u D : Nat) (hu : u < 16 ^ D) (hD : 1 ≤ D) (hD2 : D ≤ 16) (w : World) (ht : Tab w) :
    Calls Tryd.prog 49 #[.int .u64 u, .int .i64 16] w fun e w' => ∃ t : ByteArray, e = .returned (.string t) ∧ hexOf t.data.toList = some u ∧ t.size ≤ D ∧ Below w.heap.size w w' := by
  have hf := formatBits_any u D hu hD hD2 w ht
  clear hu
  go_enter Tryd.func49, Tryd.ntmps49
  go_wp2_with (go_at_call 63; refine hf.mono ?_; rintro e w' ⟨t, rfl, h1, h2, hb⟩; have H1 := Lib.hid h1; have H2 := Lib.hid h2; have HB := Lib.hid hb; clear h1 h2 hb)
  go_ret
  exact ⟨_, rfl, H1.out, H2.out, HB.out⟩

theorem format_any (u D : Nat) (hu : u < 16 ^ D) (hD : 1 ≤ D) (hD2 : D ≤ 16) (w : World) (ht : Tab w) :
    Calls Tryd.prog 43 #[.int .u64 u, .int .i64 16] w fun e w' => ∃ t : ByteArray, e = .returned (.string t) ∧ hexOf t.data.toList = some u ∧ t.size ≤ D ∧ Below w.heap.size w w' := by
  have hf := formatIn_any u D hu hD hD2 w ht
  clear hu
  go_enter Tryd.func43, Tryd.ntmps43
  go_wp2_with (go_at_call 49; refine hf.mono ?_; rintro e w' ⟨t, rfl, h1, h2, hb⟩; have H1 := Lib.hid h1; have H2 := Lib.hid h2; have HB := Lib.hid hb; clear h1 h2 hb)
  go_ret
  exact ⟨_, rfl, H1.out, H2.out, HB.out⟩

theorem and32 {c : Nat} (h : c < 4294967296) : bits .and .u64 (c : Int) 4294967295 = (c : Int) := by
  have e : bits .and .u64 (c : Int) 4294967295 = IntKind.u64.wrap (((BitVec.ofInt 64 (c : Int) &&& BitVec.ofInt 64 4294967295).toNat : Nat) : Int) := rfl
  rw [e, BitVec.toNat_and, BitVec.toNat_ofInt, BitVec.toNat_ofInt]
  rw [show (((4294967295 : Int) % ((2 ^ 64 : Nat) : Int)).toNat) = 2 ^ 32 - 1 by decide, show (((c : Int) % ((2 ^ 64 : Nat) : Int)).toNat) = c by omega, Nat.and_two_pow_sub_one_eq_mod, Nat.mod_eq_of_lt h]
  exact IntWalk.u64_in _ (by omega)

theorem mul_small (c : Nat) (hc : c ≤ 16) (w : World) :
    Calls Tryd.prog 50 #[.int .u64 1, .int .u64 c] w fun e w' => e = .returned (.tuple #[.int .u64 0, .int .u64 c]) ∧ w' = w := by
  have e1 := and32 (c := c) (by omega)
  have e2 : bits .and .u64 1 4294967295 = 1 := by decide
  have e3 : (c : Int) / 4294967296 = 0 := by omega
  go_enter Tryd.func50, Tryd.ntmps50
  go_wp2_with (go_at_call 65; go_in)
  go_ret2
  exact ⟨rfl, rfl⟩
end Go.Proofs.YtnbbkdjfhbcecaaDoor
