/-
  Several texts of this claim, one behind the other; each says what it holds.
-/
import Derived.Test.YtdefhmpmgcahpaaDoorKit
import Derived.Test.YtdefhmpmgcahpaaDoorRows
import Derived.Lib.Hide
import Derived.Test.YtdefhmpmgcahpaaDoorFlt
import Derived.Test.YtdefhmpmgcahpaaDoorExt
import Derived.Deep.QuietTactic
import Derived.BigQuiet
import Derived.Test.YtdefhmpmgcahpaaDoorRow
/-
  Bytes that came in; a2At, a2Long.
-/
set_option linter.unusedVariables false
set_option linter.unusedSimpArgs false
namespace Go.Proofs.YtdefhmpmgcahpaaDoor
open Go.RowKit

theorem isRow_cell {w0 w : World} {x : Addr} {len cap : Nat} {zs : List Int} (hr : IsRow .u8 w0 (some x) len cap zs) (hb : Below w0.heap.size w0 w) {k : Nat} (hk : k < len) :
    ∃ z : Int, w.cell? (x.add k) = some (.int .u8 z) ∧ 0 ≤ z ∧ z ≤ 255 := by
  rcases hr with ⟨h, -⟩ | ⟨y, h, hl, hm, hz, hc, hw⟩
  · cases h
  · obtain rfl := Option.some.inj h
    have hk' : k < zs.length := by omega
    have c := hc k hk'
    refine ⟨zs.getD k 0, ?_, ?_⟩
    · rw [hb.cell (World.block_lt_of_cell? _ _ c), c]
    · have hmem : zs.getD k 0 ∈ zs := by
        rw [List.getD_eq_getElem?_getD, List.getElem?_eq_getElem hk']
        exact List.getElem_mem hk'
      have := hw _ hmem
      simp only [Lit.wf, decide_eq_true_eq] at this
      have h1 : IntKind.u8.min = 0 := by decide
      have h2 : IntKind.u8.max = 255 := by decide
      rw [h1, h2] at this
      simpa using this

theorem isRow_len {w0 : World} {a : Option Addr} {len cap : Nat} {zs : List Int} (hr : IsRow .u8 w0 a len cap zs) : len ≤ 9223372036854775807 := by
  rcases hr with ⟨-, rfl, -⟩ | ⟨y, h, hl, hm, hz, hc, hw⟩
  · omega
  · unfold maxLen at hm; omega

theorem isRow_below {k : IntKind} {w0 w1 : World} {a : Option Addr} {len cap : Nat} {zs : List Int} (hr : IsRow k w0 a len cap zs) (hb : Below w0.heap.size w0 w1) : IsRow k w1 a len cap zs := by
  rcases hr with h | ⟨x, h, hl, hm, hz, hc, hw⟩
  · exact .inl h
  · exact .inr ⟨x, h, hl, hm, hz, fun i hi => by rw [hb.cell (World.block_lt_of_cell? _ _ (hc i hi)), hc i hi], hw⟩

/-- A number from 0 to n - 1 is returned. -/
def Upto (n : Int) (w : World) (e : Ending) (w' : World) : Prop := ∃ r : Int, 0 ≤ r ∧ r < n ∧ e = .returned (.int .i64 r) ∧ w' = w

end Go.Proofs.YtdefhmpmgcahpaaDoor
/-
  The laws' own comparison of floats; words and their places.
-/
set_option linter.unusedVariables false
set_option linter.unusedSimpArgs false
namespace Go.Proofs.YtdefhmpmgcahpaaDoor
open Go.RowKit Flt

/-- The next greater word. -/
def upBits (a : Nat) : Nat := if a = 0 ∨ a = 9223372036854775808 then 1 else if a < 9223372036854775808 then (if a = 9218868437227405312 then a else a + 1) else a - 1

theorem plc_lo {x : Nat} (h : x < 9223372036854775808) : place FloatKind.f64.format x = x := place64_lo h
theorem plc_hi {x : Nat} (h : 9223372036854775808 ≤ x) (h' : x < 18446744073709551616) : place FloatKind.f64.format x = 9223372036854775808 - (x : Int) := place64_hi h h'
theorem nan_no {x : Nat} (h : x % 9223372036854775808 ≤ 9218868437227405312) : nan FloatKind.f64.format x = false := by
  show nan Ieee.double x = false
  rw [nan64]; exact decide_eq_false (by omega)
theorem nan_le {x : Nat} (h : nan FloatKind.f64.format x = false) : x % 9223372036854775808 ≤ 9218868437227405312 := by
  have h' : nan Ieee.double x = false := h
  rw [nan64] at h'
  have := of_decide_eq_false h'
  omega

end Go.Proofs.YtdefhmpmgcahpaaDoor
/-
  The walks of NextUp and NextUpNarrow.
-/
set_option linter.unusedVariables false
set_option linter.unusedSimpArgs false
namespace Go.Proofs.YtdefhmpmgcahpaaDoor
open Go.RowKit Flt

theorem upBits_lt {a : Nat} (h : a < 18446744073709551616) : upBits a < 18446744073709551616 := by
  unfold upBits; split
  · omega
  · split
    · split <;> omega
    · omega

end Go.Proofs.YtdefhmpmgcahpaaDoor
/-
  The draws of the model: l00Src and what is drawn by it. Nothing is said of the numbers that are drawn but that they fit.
-/
set_option linter.unusedVariables false
set_option linter.unusedSimpArgs false
namespace Go.Proofs.YtdefhmpmgcahpaaDoor
open Go.RowKit Flt

/-- In block B of the world w lies a source over the bytes (a, len, cap) that lay there in the world w0. -/
structure Src (w0 : World) (B : Nat) (a : Option Addr) (len cap : Nat) (i : Int) (w : World) : Prop where
  below : Below w0.heap.size w0 w
  new : w0.heap.size ≤ B
  code : w.cell? ⟨B, 0, none⟩ = some (.slice a len cap)
  pos : w.cell? ⟨B, 1, none⟩ = some (.int .i64 i)
  seed : ∃ s, w.cell? ⟨B, 2, none⟩ = some (.int .u64 s)
  free1 : w.frozen? ⟨B, 1, none⟩ = false
  free2 : w.frozen? ⟨B, 2, none⟩ = false
  low : 0 ≤ i

/-- A number from lo to hi is returned, and the source has gone on, by at most so many bytes. -/
def Picks (w0 : World) (B : Nat) (a : Option Addr) (len cap : Nat) (i : Int) (lo hi most : Int) (w : World) (e : Ending) (w' : World) : Prop :=
  ∃ r j, lo ≤ r ∧ r ≤ hi ∧ e = .returned (.int .i64 r) ∧ i ≤ j ∧ j ≤ i + most ∧ Src w0 B a len cap j w' ∧ w.grownBy w' (some B)

theorem block_of_cell {w : World} {B : Nat} {v : Value} {o : Nat} (h : w.cell? ⟨B, o, none⟩ = some v) : B < w.heap.size := World.block_lt_of_cell? _ _ h

/-- What the walk of 'next' leaves. -/
theorem src_step {w0 : World} {B : Nat} {a : Option Addr} {len cap : Nat} {k : Int} {w : World} (h : Src w0 B a len cap k w) (n m : Nat) (s : Int) :
    Src w0 B a len cap (k + 1) ((((w.drewN n).setCell ⟨B, 1, none⟩ (.int .i64 (k + 1))).setCell ⟨B, 2, none⟩ (.int .u64 s)).drewN m) ∧
    w.grownBy ((((w.drewN n).setCell ⟨B, 1, none⟩ (.int .i64 (k + 1))).setCell ⟨B, 2, none⟩ (.int .u64 s)).drewN m) (some B) := by
  obtain ⟨hb, hn, c0, c1, ⟨t, c2⟩, f1, f2, h0⟩ := h
  have hB := block_of_cell c0
  have d0 : (w.drewN n).cell? ⟨B, 0, none⟩ = some (.slice a len cap) := c0
  have d1 : (w.drewN n).cell? ⟨B, 1, none⟩ = some (.int .i64 k) := c1
  have d2 : (w.drewN n).cell? ⟨B, 2, none⟩ = some (.int .u64 t) := c2
  have e2 : ((w.drewN n).setCell ⟨B, 1, none⟩ (.int .i64 (k + 1))).cell? ⟨B, 2, none⟩ = some (.int .u64 t) := by
    rw [World.cell?_setCell_other (h := by simp)]; exact d2
  refine ⟨⟨?_, hn, ?_, ?_, ⟨s, ?_⟩, ?_, ?_, by omega⟩, ?_⟩
  · exact below_draws (Below.setCell (Below.setCell (below_draws hb n) (p := ⟨B, 1, none⟩) hn _) (p := ⟨B, 2, none⟩) hn _) m
  · show (((w.drewN n).setCell ⟨B, 1, none⟩ (.int .i64 (k + 1))).setCell ⟨B, 2, none⟩ (.int .u64 s)).cell? _ = _
    rw [World.cell?_setCell_other (h := by simp), World.cell?_setCell_other (h := by simp)]; exact d0
  · show (((w.drewN n).setCell ⟨B, 1, none⟩ (.int .i64 (k + 1))).setCell ⟨B, 2, none⟩ (.int .u64 s)).cell? _ = _
    rw [World.cell?_setCell_other (h := by simp), World.cell?_setCell_same (h := d1)]
  · show (((w.drewN n).setCell ⟨B, 1, none⟩ (.int .i64 (k + 1))).setCell ⟨B, 2, none⟩ (.int .u64 s)).cell? _ = _
    rw [World.cell?_setCell_same (h := e2)]
  · show (((w.drewN n).setCell ⟨B, 1, none⟩ (.int .i64 (k + 1))).setCell ⟨B, 2, none⟩ (.int .u64 s)).frozen? _ = _
    simp [f1]
  · show (((w.drewN n).setCell ⟨B, 1, none⟩ (.int .i64 (k + 1))).setCell ⟨B, 2, none⟩ (.int .u64 s)).frozen? _ = _
    simp [f2]
  · refine ⟨rfl, rfl, rfl, ?_, ?_⟩
    · show w.heap.size ≤ (((w.drewN n).setCell ⟨B, 1, none⟩ (.int .i64 (k + 1))).setCell ⟨B, 2, none⟩ (.int .u64 s)).heap.size
      simp [World.setCell]
    · intro j hj hne
      have hjB : j ≠ B := fun e => hne (by rw [e])
      show (((w.drewN n).setCell ⟨B, 1, none⟩ (.int .i64 (k + 1))).setCell ⟨B, 2, none⟩ (.int .u64 s)).heap[j]? = _
      rw [Below.heap_setCell _ _ _ _ hjB, Below.heap_setCell _ _ _ _ hjB]
      rfl

set_option maxHeartbeats 1000000 in
theorem next_in (w0 : World) (B : Nat) (x : Addr) (len cap : Nat) (zs : List Int) (hr : IsRow .u8 w0 (some x) len cap zs) (k : Nat) (hi : k < 4611686018427387904) (w : World) (h : Src w0 B (some x) len cap k w) (hl : k < len) :
    Calls Tryd.prog 97 #[.pointer (some ⟨B, 0, none⟩)] w (Picks w0 B (some x) len cap k 0 255 1 w) := by
  have HS := Lib.hid h
  obtain ⟨hb, hn, c0, c1, ⟨s, c2⟩, f1, f2, h0⟩ := h
  obtain ⟨z, hz, z0, z1⟩ := isRow_cell hr hb hl
  have hlen := isRow_len hr
  have hl' : (k : Int) < (len : Int) := by omega
  clear hr h0 hb
  go_enter Tryd.func97, Tryd.ntmps97
  go_wp2
  go_quiet (fail)
  go_wp2
  go_quiet (fail)
  go_wp2
  go_quiet (fail)
  go_wp2
  go_ret
  exact ⟨z, _, z0, z1, rfl, by omega, by omega, src_step HS.out _ _ _⟩

theorem and255 (n : Int) : 0 ≤ bits .and .u64 n 255 ∧ bits .and .u64 n 255 ≤ 255 := by
  have h : ∃ m : Nat, m ≤ 255 ∧ bits .and .u64 n 255 = IntKind.u64.wrap (m : Int) := by
    refine ⟨(BitVec.ofInt 64 n).toNat &&& 255, Nat.and_le_right, ?_⟩
    show IntKind.u64.wrap ((BitVec.ofInt 64 n &&& BitVec.ofInt 64 255).toNat : Int) = _
    rw [BitVec.toNat_and]
    rfl
  obtain ⟨m, hm, e⟩ := h
  rw [e, IntWalk.u64_in _ (by omega)]
  omega

set_option maxHeartbeats 1000000 in
theorem next_out (w0 : World) (B : Nat) (a : Option Addr) (len cap : Nat) (hlen : len ≤ 9223372036854775807) (k : Nat) (hi : k < 4611686018427387904) (w : World) (h : Src w0 B a len cap k w) (hl : ¬ k < len) :
    Calls Tryd.prog 97 #[.pointer (some ⟨B, 0, none⟩)] w (Picks w0 B a len cap k 0 255 1 w) := by
  have HS := Lib.hid h
  obtain ⟨hb, hn, c0, c1, ⟨s, c2⟩, f1, f2, h0⟩ := h
  have hl' : (len : Int) ≤ (k : Int) := by omega
  clear h0 hb
  go_enter Tryd.func97, Tryd.ntmps97
  go_wp2
  go_quiet (fail)
  go_wp2
  go_quiet (fail)
  go_wp2
  go_ret
  refine ⟨_, _, ?_, ?_, rfl, by omega, by omega, src_step HS.out _ _ _⟩
  all_goals
    rw [IntWalk.wrap64_in _ (by have := and255 (IntKind.u64.wrap (IntKind.u64.wrap (IntKind.u64.wrap (s * 6364136223846793005)) + 1442695040888963407) / 1099511627776); omega)]
    have := and255 (IntKind.u64.wrap (IntKind.u64.wrap (IntKind.u64.wrap (s * 6364136223846793005)) + 1442695040888963407) / 1099511627776)
    omega

/-- The bytes that a source reads lay in the world w0. -/
def Bytes (w0 : World) (a : Option Addr) (len cap : Nat) : Prop := ∃ zs, IsRow .u8 w0 a len cap zs

theorem next_any (w0 : World) (B : Nat) (a : Option Addr) (len cap : Nat) (hr : Bytes w0 a len cap) (i : Int) (hi : i < 4611686018427387904) (w : World) (h : Src w0 B a len cap i w) :
    Calls Tryd.prog 97 #[.pointer (some ⟨B, 0, none⟩)] w (Picks w0 B a len cap i 0 255 1 w) := by
  obtain ⟨zs, hr⟩ := hr
  obtain ⟨k, rfl⟩ : ∃ k : Nat, i = k := ⟨i.toNat, by have := h.low; omega⟩
  by_cases hl : k < len
  · cases a with
    | none =>
      rcases hr with ⟨-, rfl, -⟩ | ⟨x, hx, -⟩
      · omega
      · cases hx
    | some x => exact next_in w0 B x len cap zs hr k (by omega) w h hl
  · exact next_out w0 B a len cap (isRow_len hr) k (by omega) w h hl

theorem grown_trans {a b c : World} {B : Nat} (h : a.grownBy b (some B)) (k : b.grownBy c (some B)) : a.grownBy c (some B) :=
  ⟨k.os.trans h.os, k.tape.trans h.tape, k.output.trans h.output, Nat.le_trans h.size k.size, fun i hi hne => (k.block i (Nat.lt_of_lt_of_le hi h.size) hne).trans (h.block i hi hne)⟩

set_option maxHeartbeats 1000000 in
theorem pick_small (w0 : World) (B : Nat) (a : Option Addr) (len cap : Nat) (hr : Bytes w0 a len cap) (i : Int) (hi : i < 4611686018427387903) (n : Int) (hn : 1 < n) (hn' : n ≤ 200) (w : World) (h : Src w0 B a len cap i w) :
    Calls Tryd.prog 63 #[.pointer (some ⟨B, 0, none⟩), .int .i64 n] w (Picks w0 B a len cap i 0 (n - 1) 2 w) := by
  go_enter Tryd.func63, Tryd.ntmps63
  go_wp2_with fail
  go_at_call 97
  refine (next_any w0 B a len cap hr i (by omega) _ h).mono ?_
  rintro e w1 ⟨r, j, r0, r1, rfl, j0, j1, hs, hg⟩
  go_wp2
  go_ret
  have h1 := Int.emod_nonneg r (show n ≠ 0 by omega)
  have h2 := Int.emod_lt_of_pos r (show 0 < n by omega)
  exact ⟨_, j, h1, by omega, rfl, j0, by omega, hs, hg⟩

set_option maxHeartbeats 1000000 in
theorem pick_great (w0 : World) (B : Nat) (a : Option Addr) (len cap : Nat) (hr : Bytes w0 a len cap) (i : Int) (hi : i < 4611686018427387903) (n : Int) (hn : 200 < n) (hn' : n ≤ 4611686018427387904) (w : World) (h : Src w0 B a len cap i w) :
    Calls Tryd.prog 63 #[.pointer (some ⟨B, 0, none⟩), .int .i64 n] w (Picks w0 B a len cap i 0 (n - 1) 2 w) := by
  go_enter Tryd.func63, Tryd.ntmps63
  go_wp2_with fail
  go_at_call 97
  refine (next_any w0 B a len cap hr i (by omega) _ h).mono ?_
  rintro e w1 ⟨r, j, r0, r1, rfl, j0, j1, hs, hg⟩
  go_wp2_with fail
  go_at_call 97
  refine (next_any w0 B a len cap hr j (by omega) _ hs).mono ?_
  rintro e w2 ⟨r', j', r0', r1', rfl, j0', j1', hs', hg'⟩
  go_wp2
  go_ret
  have h1 := Int.emod_nonneg (r * 256 + r') (show n ≠ 0 by omega)
  have h2 := Int.emod_lt_of_pos (r * 256 + r') (show 0 < n by omega)
  exact ⟨_, j', h1, by omega, rfl, by omega, by omega, hs', grown_trans hg hg'⟩

theorem pick_any (w0 : World) (B : Nat) (a : Option Addr) (len cap : Nat) (hr : Bytes w0 a len cap) (i : Int) (hi : i < 4611686018427387903) (n : Int) (hn : 1 < n) (hn' : n ≤ 4611686018427387904) (w : World) (h : Src w0 B a len cap i w) :
    Calls Tryd.prog 63 #[.pointer (some ⟨B, 0, none⟩), .int .i64 n] w (Picks w0 B a len cap i 0 (n - 1) 2 w) := by
  by_cases h1 : n ≤ 200
  · exact pick_small w0 B a len cap hr i hi n hn h1 w h
  · exact pick_great w0 B a len cap hr i hi n (by omega) hn' w h

/-- A float is returned, of whatever bits, and the source has gone on. -/
def PicksF (w0 : World) (B : Nat) (a : Option Addr) (len cap : Nat) (i : Int) (most : Int) (w : World) (e : Ending) (w' : World) : Prop :=
  ∃ r j, r < 18446744073709551616 ∧ e = .returned (.float .f64 r) ∧ i ≤ j ∧ j ≤ i + most ∧ Src w0 B a len cap j w' ∧ w.grownBy w' (some B)

theorem Src.draws {w0 : World} {B : Nat} {a : Option Addr} {len cap : Nat} {i : Int} {w : World} (h : Src w0 B a len cap i w) (n : Nat) : Src w0 B a len cap i (w.drewN n) :=
  ⟨below_draws h.below n, h.new, h.code, h.pos, h.seed, h.free1, h.free2, h.low⟩
theorem grown_draws {a b : World} {row : Option Nat} (h : a.grownBy b row) (n : Nat) : a.grownBy (b.drewN n) row := ⟨h.os, h.tape, h.output, h.size, h.block⟩

theorem u64_bounds (x : Int) : 0 ≤ IntKind.u64.wrap x ∧ IntKind.u64.wrap x < 18446744073709551616 := by
  simp only [IntKind.wrap, IntKind.bits, IntKind.signed]
  simp
  omega
theorem bits_bounds (op : BinOp) (x y : Int) : 0 ≤ bits op .u64 x y ∧ bits op .u64 x y < 18446744073709551616 := by
  unfold bits
  exact u64_bounds _
theorem toNat_lt {x : Int} (h : 0 ≤ x ∧ x < 18446744073709551616) : x.toNat < 18446744073709551616 := by omega

/-- A source that is made anew. -/
theorem src_new {w : World} {a : Option Addr} {len cap : Nat} {t : TypeId} : Src w w.heap.size a len cap 0 (w.alloc (.cells #[.slice a len cap, .int .i64 0, .int .u64 0] t)) := by
  refine ⟨(Below.refl _ _).alloc (Nat.le_refl _) _, Nat.le_refl _, ?_, ?_, ⟨0, ?_⟩, ?_, ?_, Int.le_refl _⟩ <;> simp

theorem below_of_src {w w1 w2 : World} {B : Nat} {a : Option Addr} {len cap : Nat} {i : Int} (h : Src w B a len cap i w2) : Below w.heap.size w w2 := h.below

/-- A float of whatever bits; nothing that was there has turned. -/
def AnyF (w : World) (e : Ending) (w' : World) : Prop := (∃ r, r < 18446744073709551616 ∧ e = .returned (.float .f64 r)) ∧ Below w.heap.size w w'

end Go.Proofs.YtdefhmpmgcahpaaDoor
/-
  The draws of complex numbers: l01Any, A2Any; and a2At.
-/
set_option linter.unusedVariables false
set_option linter.unusedSimpArgs false
namespace Go.Proofs.YtdefhmpmgcahpaaDoor
open Go.RowKit Flt

/-- A bool is returned, and the source has gone on. -/
def PicksB (w0 : World) (B : Nat) (a : Option Addr) (len cap : Nat) (i : Int) (most : Int) (w : World) (e : Ending) (w' : World) : Prop :=
  ∃ b j, e = .returned (.bool b) ∧ i ≤ j ∧ j ≤ i + most ∧ Src w0 B a len cap j w' ∧ w.grownBy w' (some B)
/-- A complex number is returned, and the source has gone on. -/
def PicksC (w0 : World) (B : Nat) (a : Option Addr) (len cap : Nat) (i : Int) (most : Int) (w : World) (e : Ending) (w' : World) : Prop :=
  ∃ x y j, x < 18446744073709551616 ∧ y < 18446744073709551616 ∧ e = .returned (.complex .f64 x y) ∧ i ≤ j ∧ j ≤ i + most ∧ Src w0 B a len cap j w' ∧ w.grownBy w' (some B)

theorem one_any (w0 : World) (B : Nat) (a : Option Addr) (len cap : Nat) (hr : Bytes w0 a len cap) (i : Int) (hi : i < 4611686018427387903) (n : Int) (hn : 1 < n) (hn' : n ≤ 4611686018427387904) (w : World) (h : Src w0 B a len cap i w) :
    Calls Tryd.prog 65 #[.pointer (some ⟨B, 0, none⟩), .int .i64 n] w (PicksB w0 B a len cap i 2 w) := by
  go_enter Tryd.func65, Tryd.ntmps65
  go_wp2_with fail
  refine (pick_any w0 B a len cap hr i hi n hn hn' _ h).mono ?_
  rintro e w1 ⟨r, j, r0, r1, rfl, j0, j1, hs, hg⟩
  clear hn hn' h r0 r1
  go_wp2
  go_ret
  exact ⟨_, j, rfl, j0, j1, hs, hg⟩

/-- A complex number of whatever bits; nothing that was there has turned. -/
def AnyC (w : World) (e : Ending) (w' : World) : Prop := ∃ x y, x < 18446744073709551616 ∧ y < 18446744073709551616 ∧ e = .returned (.complex .f64 x y) ∧ Below w.heap.size w w'

end Go.Proofs.YtdefhmpmgcahpaaDoor
/-
  Floats up to the choice of a NaN: operations on 'Option Nat'.
-/
set_option linter.unusedVariables false
set_option linter.unusedSimpArgs false
namespace Go.Proofs.YtdefhmpmgcahpaaDoor
open Go Flt
namespace Flt

/-- An operation on two words, each up to the choice of a NaN. -/
def fop (op : BinOp) (k : FloatKind) : Option Nat → Option Nat → Option Nat
  | some x, some y => floatBits op k x y
  | _, _ => none

theorem floatBits_nan_l {op : BinOp} {k : FloatKind} {x : Nat} (y : Nat) (h : nan k.format x = true) : floatBits op k x y = none := by
  obtain ⟨s, t, e⟩ := read_nan k.format (hbi k) h
  unfold floatBits
  cases op <;> simp only [Ieee.Format.add, Ieee.Format.sub, Ieee.Format.mul, Ieee.Format.div, e] <;> cases k.format.read y <;> rfl

theorem floatBits_nan_r {op : BinOp} {k : FloatKind} (x : Nat) {y : Nat} (h : nan k.format y = true) : floatBits op k x y = none := by
  obtain ⟨s, t, e⟩ := read_nan k.format (hbi k) h
  unfold floatBits
  cases op <;> simp only [Ieee.Format.add, Ieee.Format.sub, Ieee.Format.mul, Ieee.Format.div, e] <;> cases k.format.read x <;> rfl

theorem floatBits_cn (op : BinOp) (k : FloatKind) (x y : Nat) : floatBits op k x y = fop op k (cn k x) (cn k y) := by
  by_cases hx : nan k.format x = true
  · rw [floatBits_nan_l y hx, cn_none hx]; rfl
  · have hx : nan k.format x = false := by simpa using hx
    by_cases hy : nan k.format y = true
    · rw [floatBits_nan_r x hy, cn_none hy]; cases cn k x <;> rfl
    · have hy : nan k.format y = false := by simpa using hy
      rw [cn_some hx, cn_some hy]; rfl

/-- What an operation gives, up to the choice of a NaN, when its operands are known so. -/
theorem cn_op {op : BinOp} {k : FloatKind} {r u v : Nat} {a b : Option Nat} (h : cn k r = floatBits op k u v) (hu : cn k u = a) (hv : cn k v = b) : cn k r = fop op k a b := by
  rw [h, floatBits_cn, hu, hv]

/-- The other sign. -/
def fneg (k : FloatKind) (a : Option Nat) : Option Nat := a.map (Op.negFloat k)

theorem cn_neg64 {x : Nat} (h : x < 18446744073709551616) : cn .f64 (Op.negFloat .f64 x) = fneg .f64 (cn .f64 x) := by
  have e : nan FloatKind.f64.format (Op.negFloat .f64 x) = nan FloatKind.f64.format x := nan_neg64 h
  unfold cn
  rw [e]
  split <;> rfl

theorem cn_neg32 {x : Nat} (h : x < 4294967296) : cn .f32 (Op.negFloat .f32 x) = fneg .f32 (cn .f32 x) := by
  have e : nan FloatKind.f32.format (Op.negFloat .f32 x) = nan FloatKind.f32.format x := nan_neg32 h
  unfold cn
  rw [e]
  split <;> rfl

theorem negFloat64_lt {x : Nat} (h : x < 18446744073709551616) : Op.negFloat .f64 x < 18446744073709551616 := neg64_lt h
theorem negFloat32_lt {x : Nat} (h : x < 4294967296) : Op.negFloat .f32 x < 4294967296 := neg32_lt h

/-- The nearest float of an integer is a number. -/
theorem nan_floatOfInt (k : FloatKind) (n : Int) : nan k.format (floatOfInt k n) = false := nan_write k.format (d := .number (n < 0) n.natAbs 0) rfl
theorem cn_floatOfInt (k : FloatKind) (n : Int) : cn k (floatOfInt k n) = some (floatOfInt k n) := cn_some (nan_floatOfInt k n)
theorem floatOfInt_lt (n : Int) : floatOfInt .f64 n < 18446744073709551616 := by
  have := floatOfInt_wf .f64 n
  simpa [Lit.wf] using this

/-- A float that is there, up to the choice of a NaN. -/
structure IsF (u : Nat) (a : Option Nat) : Prop where
  cn : Flt.cn .f64 u = a
  lt : u < 18446744073709551616

theorem IsF.op {op : BinOp} {r u v : Nat} {a b : Option Nat} (hu : IsF u a) (hv : IsF v b) (h : Flt.cn .f64 r = floatBits op .f64 u v) (hr : r < 2 ^ FloatKind.f64.format.width) : IsF r (fop op .f64 a b) :=
  ⟨cn_op h hu.cn hv.cn, hr⟩
theorem IsF.neg {u : Nat} {a : Option Nat} (hu : IsF u a) : IsF (Op.negFloat .f64 u) (fneg .f64 a) :=
  ⟨by rw [cn_neg64 hu.lt, hu.cn], negFloat64_lt hu.lt⟩
theorem IsF.ofInt (n : Int) : IsF (floatOfInt .f64 n) (some (floatOfInt .f64 n)) := ⟨cn_floatOfInt _ _, floatOfInt_lt n⟩
theorem IsF.lit {u : Nat} (h : nan FloatKind.f64.format u = false) (hu : u < 18446744073709551616) : IsF u (some u) := ⟨cn_some h, hu⟩
theorem IsF.self {u : Nat} (hu : u < 18446744073709551616) : IsF u (Flt.cn .f64 u) := ⟨rfl, hu⟩

end Flt
end Go.Proofs.YtdefhmpmgcahpaaDoor
/-
  Rounding: what is written is no farther than half a unit from the number, and the order is kept. No program.
-/
set_option linter.unusedVariables false
set_option linter.unusedSimpArgs false
namespace Go.Proofs.YtdefhmpmgcahpaaDoor.Flt
section
open Ieee
variable {f : Format}

theorem val_of {q k : Nat} (hq : q = 0 ∨ f.binade ≤ k) (hk : k ≤ 2 * f.binade) : val f (q * f.binade + k) = k * 2 ^ q := by
  have hb := binade_pos f
  by_cases h1 : k < f.binade
  · have h0 : q = 0 := by rcases hq with h | h <;> omega
    subst h0
    simp [val, h1]
  · have hge : f.binade ≤ k := by omega
    unfold val
    have hn : ¬ q * f.binade + k < f.binade := by omega
    rw [if_neg hn]
    by_cases h2 : k < 2 * f.binade
    · have hd : (q * f.binade + k) / f.binade = q + 1 := by
        rw [show q * f.binade + k = (k - f.binade) + (q + 1) * f.binade by rw [Nat.add_mul, Nat.one_mul]; omega, Nat.add_mul_div_right _ _ hb, Nat.div_eq_of_lt (by omega)]
        omega
      have hm : (q * f.binade + k) % f.binade = k - f.binade := by
        rw [show q * f.binade + k = (k - f.binade) + (q + 1) * f.binade by rw [Nat.add_mul, Nat.one_mul]; omega, Nat.add_mul_mod_self_right, Nat.mod_eq_of_lt (by omega)]
      rw [hd, hm, show q + 1 - 1 = q by omega, show f.binade + (k - f.binade) = k by omega]
    · have hk2 : k = 2 * f.binade := by omega
      subst hk2
      have hd : (q * f.binade + 2 * f.binade) / f.binade = q + 2 := by
        rw [← Nat.add_mul, Nat.mul_div_cancel _ hb]
      have hm : (q * f.binade + 2 * f.binade) % f.binade = 0 := by
        rw [← Nat.add_mul, Nat.mul_mod_left]
      rw [hd, hm, show q + 2 - 1 = q + 1 by omega, Nat.add_zero, Nat.pow_succ, Nat.mul_assoc 2, Nat.mul_left_comm 2, Nat.mul_comm 2 (2 ^ q)]

/-- What is cut to the nearest whole number is no farther from it than half a unit. -/
theorem cut_near (neg : Bool) (n drop : Nat) :
    2 * (Toward.even.cut neg n drop) * 2 ^ drop ≤ 2 * n + 2 ^ drop ∧ 2 * n ≤ (2 * (Toward.even.cut neg n drop) + 1) * 2 ^ drop := by
  unfold Toward.cut
  by_cases hd : drop ≤ n.log2 + 2
  · rw [show min drop (n.log2 + 2) = drop by omega, Nat.shiftLeft_eq, Nat.one_mul]
    generalize hg : 2 ^ drop = g
    have hgp : 0 < g := by rw [← hg]; exact Nat.two_pow_pos _
    have e := Nat.div_add_mod n g
    have hm := Nat.mod_lt n hgp
    simp only []
    generalize n / g = low at *
    generalize n % g = rest at *
    by_cases hc : (decide (g < 2 * rest) || g == 2 * rest && low % 2 == 1) = true
    · rw [hc]
      have hge : g ≤ 2 * rest := by
        simp only [Bool.or_eq_true, decide_eq_true_eq, Bool.and_eq_true, beq_iff_eq] at hc
        omega
      simp only [Bool.toNat_true]
      have e1 : 2 * (low + 1) * g = 2 * (g * low) + 2 * g := by rw [Nat.mul_comm g low, Nat.mul_assoc, Nat.add_mul]; omega
      have e2 : (2 * (low + 1) + 1) * g = 2 * (g * low) + 3 * g := by rw [Nat.mul_comm g low, Nat.add_mul, Nat.mul_assoc, Nat.add_mul]; omega
      omega
    · have hc : (decide (g < 2 * rest) || g == 2 * rest && low % 2 == 1) = false := by simpa using hc
      rw [hc]
      have hge : 2 * rest ≤ g := by
        simp only [Bool.or_eq_false_iff, decide_eq_false_iff_not] at hc
        omega
      simp only [Bool.toNat_false, Nat.add_zero]
      have e1 : 2 * low * g = 2 * (g * low) := by rw [Nat.mul_comm g low, Nat.mul_assoc]
      have e2 : (2 * low + 1) * g = 2 * (g * low) + g := by rw [Nat.mul_comm g low, Nat.add_mul, Nat.mul_assoc]; omega
      omega
  · rw [show min drop (n.log2 + 2) = n.log2 + 2 by omega, Nat.shiftLeft_eq, Nat.one_mul]
    have hlt : n < 2 ^ (n.log2 + 1) := Nat.lt_log2_self
    have h2 : 2 ^ (n.log2 + 2) = 2 * 2 ^ (n.log2 + 1) := by rw [Nat.pow_succ, Nat.mul_comm]
    have h3 : 2 ^ (n.log2 + 2) ≤ 2 ^ drop := Nat.pow_le_pow_right (by omega) (by omega)
    have e1 : n / 2 ^ (n.log2 + 2) = 0 := Nat.div_eq_of_lt (by omega)
    have e2 : n % 2 ^ (n.log2 + 2) = n := Nat.mod_eq_of_lt (by omega)
    simp only [e1, e2]
    have hc : (decide (2 ^ (n.log2 + 2) < 2 * n) || 2 ^ (n.log2 + 2) == 2 * n && 0 % 2 == 1) = false := by
      simp; omega
    rw [hc]
    simp only [Bool.toNat_false, Nat.add_zero, Nat.mul_zero, Nat.zero_mul, Nat.zero_add, Nat.one_mul]
    omega

/-- The rung to which a number is rounded. -/
def rungOf (f : Format) (m : Nat) (p : Int) : Nat :=
  if m = 0 then 0 else
  let last := max (p + m.log2 - f.fractionBits) f.leastPlace
  min ((last - f.leastPlace).toNat * f.binade + Toward.even.cut false (m <<< (p - last).toNat) (last - p).toNat) f.infRung

theorem cut_neg (neg : Bool) (n drop : Nat) : Toward.even.cut neg n drop = Toward.even.cut false n drop := rfl

theorem nearest_rung (neg : Bool) (m : Nat) (p : Int) : f.nearest neg m p = f.word neg (rungOf f m p) := by
  unfold Format.nearest rungOf
  split
  · rfl
  · rfl

/-- A number in units of 2^base. -/
def at_ (m : Nat) (p base : Int) : Nat := m * 2 ^ (p - base).toNat

/-- HOW A NUMBER IS ROUNDED: its rung is L binades and k, where k units of 2^(leastPlace + L) are nearest to it. -/
theorem rung_spec {m : Nat} {p base : Int} (hm : m ≠ 0) (h1 : base ≤ p) (h2 : base ≤ f.leastPlace) :
    ∃ L k : Nat, rungOf f m p = min (L * f.binade + k) f.infRung ∧ (L = 0 ∨ f.binade ≤ k) ∧ k ≤ 2 * f.binade ∧
      2 * k * (2 ^ L * 2 ^ (f.leastPlace - base).toNat) ≤ 2 * at_ m p base + 2 ^ L * 2 ^ (f.leastPlace - base).toNat ∧
      2 * at_ m p base ≤ (2 * k + 1) * (2 ^ L * 2 ^ (f.leastPlace - base).toNat) ∧
      (L ≠ 0 → f.binade * (2 ^ L * 2 ^ (f.leastPlace - base).toNat) ≤ at_ m p base) := by
  unfold rungOf
  rw [if_neg hm]
  simp only []
  generalize hlast : max (p + m.log2 - f.fractionBits) f.leastPlace = last
  have hl1 : f.leastPlace ≤ last := by omega
  have hl2 : p + m.log2 - f.fractionBits ≤ last := by omega
  obtain ⟨c1, c2⟩ := cut_near false (m <<< (p - last).toNat) (last - p).toNat
  generalize hk : Toward.even.cut false (m <<< (p - last).toNat) (last - p).toNat = k at *
  obtain ⟨L, hL⟩ : ∃ L, (last - f.leastPlace).toNat = L := ⟨_, rfl⟩
  obtain ⟨d, hd⟩ : ∃ d, (last - p).toNat = d := ⟨_, rfl⟩
  obtain ⟨W, hW⟩ : ∃ W, 2 ^ L * 2 ^ (f.leastPlace - base).toNat = W := ⟨_, rfl⟩
  have hW' : W = 2 ^ (last - base).toNat := by rw [← hW, ← Nat.pow_add]; congr 1; omega
  have hWp : 0 < W := by rw [hW']; exact Nat.two_pow_pos _
  rw [hL]
  refine ⟨L, k, rfl, ?_⟩
  rw [hW]
  rw [hd] at c1 c2
  have hn : (m <<< (p - last).toNat) * W = at_ m p base * 2 ^ d := by
    rw [Nat.shiftLeft_eq, hW']
    unfold at_
    rw [Nat.mul_assoc, Nat.mul_assoc, ← Nat.pow_add, ← Nat.pow_add]
    congr 2
    omega
  generalize (m <<< (p - last).toNat) = n at *
  have hgp : 0 < 2 ^ d := Nat.two_pow_pos _
  generalize hM : at_ m p base = M at *
  have k1 : 2 * k * W ≤ 2 * M + W := by
    have := Nat.mul_le_mul_right W c1
    rw [Nat.add_mul, Nat.mul_assoc 2 n W, hn] at this
    apply Nat.le_of_mul_le_mul_right (c := 2 ^ d) _ hgp
    calc 2 * k * W * 2 ^ d = 2 * k * 2 ^ d * W := by rw [Nat.mul_right_comm]
      _ ≤ 2 * (M * 2 ^ d) + 2 ^ d * W := this
      _ = (2 * M + W) * 2 ^ d := by rw [Nat.add_mul, Nat.mul_assoc, Nat.mul_comm (2 ^ d) W]
  have k2 : 2 * M ≤ (2 * k + 1) * W := by
    have := Nat.mul_le_mul_right W c2
    rw [Nat.mul_assoc 2 n W, hn] at this
    apply Nat.le_of_mul_le_mul_right (c := 2 ^ d) _ hgp
    calc 2 * M * 2 ^ d = 2 * (M * 2 ^ d) := by rw [Nat.mul_assoc]
      _ ≤ (2 * k + 1) * 2 ^ d * W := this
      _ = (2 * k + 1) * W * 2 ^ d := by rw [Nat.mul_right_comm]
  have lo := Nat.log2_self_le hm
  have hi := Nat.lt_log2_self (n := m)
  have hMlt : M < 2 * f.binade * W := by
    rw [← hM, hW']
    unfold at_ Format.binade
    calc m * 2 ^ (p - base).toNat < 2 ^ (m.log2 + 1) * 2 ^ (p - base).toNat := Nat.mul_lt_mul_of_pos_right hi (Nat.two_pow_pos _)
      _ = 2 ^ (m.log2 + 1 + (p - base).toNat) := by rw [← Nat.pow_add]
      _ ≤ 2 ^ (1 + f.fractionBits + (last - base).toNat) := Nat.pow_le_pow_right (by omega) (by omega)
      _ = 2 * 2 ^ f.fractionBits * 2 ^ (last - base).toNat := by rw [Nat.pow_add, Nat.pow_add]
  have hbig : L ≠ 0 → f.binade * W ≤ M := by
    intro hne
    have hle : last = p + m.log2 - f.fractionBits := by omega
    rw [← hM, hW']
    unfold at_ Format.binade
    calc 2 ^ f.fractionBits * 2 ^ (last - base).toNat = 2 ^ (m.log2 + (p - base).toNat) := by rw [← Nat.pow_add]; congr 1; omega
      _ = 2 ^ m.log2 * 2 ^ (p - base).toNat := by rw [Nat.pow_add]
      _ ≤ m * 2 ^ (p - base).toNat := Nat.mul_le_mul_right _ lo
  refine ⟨?_, ?_, k1, k2, hbig⟩
  · by_cases h0 : L = 0
    · exact .inl h0
    · right
      have hb := hbig h0
      have : 2 * (f.binade * W) ≤ (2 * k + 1) * W := Nat.le_trans (Nat.mul_le_mul_left 2 hb) k2
      rw [← Nat.mul_assoc] at this
      have := Nat.le_of_mul_le_mul_right this hWp
      omega
  · have h3 : 2 * k * W < (4 * f.binade + 1) * W := by
      have e : (4 * f.binade + 1) * W = 2 * (2 * f.binade * W) + W := by rw [Nat.add_mul, Nat.one_mul, show 4 * f.binade * W = 2 * (2 * f.binade * W) by rw [← Nat.mul_assoc, ← Nat.mul_assoc]]
      omega
    have := Nat.lt_of_mul_lt_mul_right h3
    omega

/-- A number that is no greater than that of a rung is rounded to it or below. -/
theorem rung_le {m R : Nat} {p base : Int} (h1 : base ≤ p) (h2 : base ≤ f.leastPlace) (h : at_ m p base ≤ val f R * 2 ^ (f.leastPlace - base).toNat) : rungOf f m p ≤ R := by
  by_cases hm : m = 0
  · unfold rungOf; rw [if_pos hm]; exact Nat.zero_le _
  obtain ⟨L, k, hr, hq, hk, k1, k2, hb⟩ := rung_spec (f := f) hm h1 h2
  rw [hr]
  obtain ⟨U, hU⟩ : ∃ U, 2 ^ (f.leastPlace - base).toNat = U := ⟨_, rfl⟩
  have hUp : 0 < U := by rw [← hU]; exact Nat.two_pow_pos _
  rw [hU] at h k1 k2 hb
  generalize at_ m p base = M at *
  refine Nat.le_trans (Nat.min_le_left _ _) ?_
  apply Nat.le_of_not_lt
  intro hlt
  have hv := val_lt f hlt
  rw [val_of hq hk] at hv
  have hLp : 0 < 2 ^ L := Nat.two_pow_pos _
  -- the rung's number is a whole number of 2^L, or it is less than a binade of them
  have hcase : (∃ K, val f R = K * 2 ^ L) ∨ (L ≠ 0 ∧ val f R < f.binade * 2 ^ L) := by
    by_cases h0 : R = 0
    · left; exact ⟨0, by rw [h0, val_zero]; simp⟩
    obtain ⟨j, q, hj0, hj, hjq, he, hv'⟩ := rung_parts (f := f) h0
    by_cases hLq : L ≤ q
    · left
      exact ⟨j * 2 ^ (q - L), by rw [hv', Nat.mul_assoc, ← Nat.pow_add, Nat.sub_add_cancel hLq]⟩
    · right
      refine ⟨by omega, ?_⟩
      rw [hv']
      have e : 2 ^ L = 2 ^ (L - q - 1) * (2 * 2 ^ q) := by
        rw [← Nat.mul_assoc, ← Nat.pow_succ, ← Nat.pow_add]; congr 1; omega
      have hge : 1 ≤ 2 ^ (L - q - 1) := Nat.two_pow_pos _
      calc j * 2 ^ q < 2 * f.binade * 2 ^ q := Nat.mul_lt_mul_of_pos_right hj (Nat.two_pow_pos _)
        _ = 1 * (f.binade * (2 * 2 ^ q)) := by rw [Nat.one_mul, Nat.mul_left_comm, Nat.mul_assoc]
        _ ≤ 2 ^ (L - q - 1) * (f.binade * (2 * 2 ^ q)) := Nat.mul_le_mul_right _ hge
        _ = f.binade * 2 ^ L := by rw [e, Nat.mul_left_comm]
  rcases hcase with ⟨K, hK⟩ | ⟨h0, hlt2⟩
  · rw [hK] at hv h
    have hKk : K < k := Nat.lt_of_mul_lt_mul_right hv
    have h3 : 2 * (K + 1) * (2 ^ L * U) ≤ 2 * k * (2 ^ L * U) := Nat.mul_le_mul_right _ (by omega)
    have e : 2 * (K + 1) * (2 ^ L * U) = 2 * (K * 2 ^ L * U) + 2 * (2 ^ L * U) := by rw [Nat.mul_assoc K, Nat.mul_assoc, Nat.add_mul, Nat.one_mul, Nat.mul_add]
    have hpos : 0 < 2 ^ L * U := Nat.mul_pos hLp hUp
    omega
  · have := hb h0
    have h4 : val f R * U < f.binade * 2 ^ L * U := Nat.mul_lt_mul_of_pos_right hlt2 hUp
    rw [← Nat.mul_assoc] at this
    omega

/-- A number that is no less than that of a rung is rounded to it or above. -/
theorem le_rung {m R : Nat} {p base : Int} (h1 : base ≤ p) (h2 : base ≤ f.leastPlace) (hR : R ≤ f.infRung) (h : val f R * 2 ^ (f.leastPlace - base).toNat ≤ at_ m p base) : R ≤ rungOf f m p := by
  by_cases hR0 : R = 0
  · rw [hR0]; exact Nat.zero_le _
  by_cases hm : m = 0
  · exfalso
    have hv : 0 < val f R := by have := val_lt f (r := 0) (s := R) (by omega); rw [val_zero] at this; exact this
    have : 0 < val f R * 2 ^ (f.leastPlace - base).toNat := Nat.mul_pos hv (Nat.two_pow_pos _)
    unfold at_ at h
    rw [hm, Nat.zero_mul] at h
    omega
  obtain ⟨L, k, hr, hq, hk, k1, k2, hb⟩ := rung_spec (f := f) hm h1 h2
  rw [hr]
  obtain ⟨U, hU⟩ : ∃ U, 2 ^ (f.leastPlace - base).toNat = U := ⟨_, rfl⟩
  have hUp : 0 < U := by rw [← hU]; exact Nat.two_pow_pos _
  rw [hU] at h k1 k2 hb
  generalize at_ m p base = M at *
  refine Nat.le_min.2 ⟨?_, hR⟩
  apply Nat.le_of_not_lt
  intro hlt
  have hv := val_lt f hlt
  rw [val_of hq hk] at hv
  have hLp : 0 < 2 ^ L := Nat.two_pow_pos _
  obtain ⟨j, q, hj0, hj, hjq, he, hv'⟩ := rung_parts (f := f) hR0
  by_cases hLq : L ≤ q
  · have hK : val f R = j * 2 ^ (q - L) * 2 ^ L := by rw [hv', Nat.mul_assoc, ← Nat.pow_add, Nat.sub_add_cancel hLq]
    generalize j * 2 ^ (q - L) = K at hK
    rw [hK] at hv h
    have hKk : k < K := Nat.lt_of_mul_lt_mul_right hv
    have h3 : (2 * k + 2) * (2 ^ L * U) ≤ 2 * (K * (2 ^ L * U)) := by
      have : (2 * k + 2) * (2 ^ L * U) ≤ 2 * K * (2 ^ L * U) := Nat.mul_le_mul_right _ (by omega)
      rwa [Nat.mul_assoc 2 K] at this
    rw [Nat.mul_assoc] at h
    have e : (2 * k + 2) * (2 ^ L * U) = (2 * k + 1) * (2 ^ L * U) + 2 ^ L * U := by rw [← Nat.succ_mul]
    have hpos : 0 < 2 ^ L * U := Nat.mul_pos hLp hUp
    omega
  · have hkb : f.binade ≤ k := by rcases hq with h | h <;> omega
    have e : 2 ^ L = 2 ^ (L - q - 1) * (2 * 2 ^ q) := by
      rw [← Nat.mul_assoc, ← Nat.pow_succ, ← Nat.pow_add]; congr 1; omega
    have hge : 1 ≤ 2 ^ (L - q - 1) := Nat.two_pow_pos _
    have : val f R < k * 2 ^ L := by
      rw [hv']
      calc j * 2 ^ q < 2 * f.binade * 2 ^ q := Nat.mul_lt_mul_of_pos_right hj (Nat.two_pow_pos _)
        _ = 1 * (f.binade * (2 * 2 ^ q)) := by rw [Nat.one_mul, Nat.mul_left_comm, Nat.mul_assoc]
        _ ≤ 2 ^ (L - q - 1) * (f.binade * (2 * 2 ^ q)) := Nat.mul_le_mul_right _ hge
        _ = f.binade * 2 ^ L := by rw [e, Nat.mul_left_comm]
        _ ≤ k * 2 ^ L := Nat.mul_le_mul_right _ hkb
    omega

end
end Go.Proofs.YtdefhmpmgcahpaaDoor.Flt
/-
  Sums and products in any order, and with the other sign, up to the choice of a NaN. No program is named here.
-/
set_option linter.unusedVariables false
set_option linter.unusedSimpArgs false
namespace Go.Proofs.YtdefhmpmgcahpaaDoor
open Go Flt
namespace Flt
open Ieee

theorem sum_comm (a b : Datum) : a.sum b = b.sum a := by
  cases a <;> cases b <;> simp only [Datum.sum]
  · rename_i s m i t n j
    simp only [Option.some.injEq, Datum.number.injEq]
    rw [Int.min_comm j i, Int.add_comm (signed t n _) (signed s m _), Bool.and_comm t s]
    exact ⟨rfl, rfl, rfl⟩
  · rename_i s t
    by_cases h : s = t
    · subst h; rfl
    · rw [if_neg h, if_neg (fun e => h e.symm)]

theorem product_comm (a b : Datum) : a.product b = b.product a := by
  cases a <;> cases b <;> simp only [Datum.product]
  · simp only [Option.some.injEq, Datum.number.injEq]
    exact ⟨Bool.xor_comm _ _, Nat.mul_comm _ _, Int.add_comm _ _⟩
  · rw [Bool.xor_comm]

theorem add_comm' (k : FloatKind) (x y : Nat) : floatBits .add k x y = floatBits .add k y x := by
  show Option.map _ _ = Option.map _ _
  rw [sum_comm]
theorem mul_comm' (k : FloatKind) (x y : Nat) : floatBits .mul k x y = floatBits .mul k y x := by
  show Option.map _ _ = Option.map _ _
  rw [product_comm]
theorem fop_add_comm (k : FloatKind) (a b : Option Nat) : fop .add k a b = fop .add k b a := by
  cases a <;> cases b <;> simp only [fop]
  exact add_comm' _ _ _
theorem fop_mul_comm (k : FloatKind) (a b : Option Nat) : fop .mul k a b = fop .mul k b a := by
  cases a <;> cases b <;> simp only [fop]
  exact mul_comm' _ _ _

/-- The word of the other sign stands for the opposite. -/
theorem read_neg {x : Nat} (h : x < 18446744073709551616) : double.read (Op.negFloat .f64 x) = (double.read x).opposite := by
  have e : ∃ s r, x / double.signWeight % 2 = s ∧ x % double.signWeight = r ∧ (s = 0 ∧ Op.negFloat .f64 x / double.signWeight % 2 = 1 ∨ s = 1 ∧ Op.negFloat .f64 x / double.signWeight % 2 = 0) ∧ Op.negFloat .f64 x % double.signWeight = r := by
    have hw : double.signWeight = 9223372036854775808 := by decide
    rw [hw]
    have e1 : Op.negFloat .f64 x = x ^^^ 2 ^ 63 := rfl
    rw [e1]
    by_cases h1 : x < 9223372036854775808
    · rw [neg64_lo h1]; exact ⟨_, _, rfl, rfl, by omega, by omega⟩
    · rw [neg64_hi (by omega) h]; exact ⟨_, _, rfl, rfl, by omega, by omega⟩
  obtain ⟨s, r, e1, e2, e3, e4⟩ := e
  unfold Format.read
  rw [e1, e2, e4]
  rcases e3 with ⟨rfl, e3⟩ | ⟨rfl, e3⟩ <;> rw [e3] <;> simp only <;> split <;> first | rfl | (split <;> first | rfl | (split <;> rfl))

theorem word_neg (b : Bool) {r : Nat} (h : r ≤ double.infRung) : double.word (!b) r = Op.negFloat .f64 (double.word b r) := by
  have h1 : r < 9223372036854775808 := Nat.lt_of_le_of_lt h (by decide)
  have e1 : ∀ x, Op.negFloat .f64 x = x ^^^ 2 ^ 63 := fun _ => rfl
  have hw : double.signWeight = 9223372036854775808 := by decide
  unfold Format.word
  rw [e1, hw]
  cases b
  · simp only [Bool.not_false, if_true, Bool.false_eq_true, if_false]
    rw [neg64_lo h1]; omega
  · simp only [Bool.not_true, if_true, Bool.false_eq_true, if_false]
    rw [neg64_hi (by omega) (by omega)]; omega

theorem nearest_neg (b : Bool) (m : Nat) (p : Int) : double.nearest (!b) m p = Op.negFloat .f64 (double.nearest b m p) := by
  unfold Format.nearest
  by_cases hm : m = 0
  · rw [if_pos hm, if_pos hm]; exact word_neg b (Nat.zero_le _)
  · rw [if_neg hm, if_neg hm]
    exact word_neg b (Nat.min_le_right _ _)

theorem write_opp {d : Datum} (h : d.isNaN = false) : double.write d.opposite = Op.negFloat .f64 (double.write d) := by
  cases d with
  | number s m p => exact nearest_neg s m p
  | infinity s => exact word_neg s (Nat.le_refl _)
  | nan => cases h

theorem product_num2 {a b d : Datum} (h : a.product b = some d) : d.isNaN = false := by
  cases a <;> cases b <;> simp only [Datum.product] at h <;> first | (cases h; done) | (cases h; rfl) | (split at h <;> first | (cases h; done) | (cases h; rfl))
theorem sum_num2 {a b d : Datum} (h : a.sum b = some d) : d.isNaN = false := by
  cases a <;> cases b <;> simp only [Datum.sum] at h <;> first | (cases h; done) | (cases h; rfl) | (split at h <;> first | (cases h; done) | (cases h; rfl))

theorem product_opp (a b : Datum) : a.product b.opposite = (a.product b).map Datum.opposite := by
  cases a <;> cases b <;> simp only [Datum.product, Datum.opposite, Option.map] <;> first | rfl | (simp [Datum.opposite]; done) | (split <;> simp [Datum.opposite])

theorem mul_neg' {x y : Nat} (h : y < 18446744073709551616) : floatBits .mul .f64 x (Op.negFloat .f64 y) = (floatBits .mul .f64 x y).map (Op.negFloat .f64) := by
  show Option.map double.write ((double.read x).product (double.read (Op.negFloat .f64 y))) = Option.map _ (Option.map double.write ((double.read x).product (double.read y)))
  rw [read_neg h, product_opp]
  cases e : (double.read x).product (double.read y) with
  | none => rfl
  | some d => exact congrArg some (write_opp (product_num2 e))

theorem opp_opp (d : Datum) : d.opposite.opposite = d := by cases d <;> simp [Datum.opposite]
theorem sub_neg' {x y : Nat} (h : y < 18446744073709551616) : floatBits .sub .f64 x (Op.negFloat .f64 y) = floatBits .add .f64 x y := by
  show Option.map double.write ((double.read x).sum (double.read (Op.negFloat .f64 y)).opposite) = Option.map double.write ((double.read x).sum (double.read y))
  rw [read_neg h, opp_opp]

theorem sum_opp (d : Datum) : d.opposite.sum d = none ∨ ∃ p, d.opposite.sum d = some (.number false 0 p) := by
  cases d with
  | nan => exact .inl rfl
  | infinity s => left; cases s <;> rfl
  | number s m p =>
    right
    have e : signed (!s) m (p - min p p).toNat + signed s m (p - min p p).toNat = 0 := by
      unfold signed
      cases s <;> simp <;> omega
    refine ⟨min p p, ?_⟩
    simp only [Datum.sum, Datum.opposite]
    rw [e]
    cases s <;> rfl

theorem neg_add_self {x : Nat} (h : x < 18446744073709551616) : floatBits .add .f64 (Op.negFloat .f64 x) x = none ∨ floatBits .add .f64 (Op.negFloat .f64 x) x = some 0 := by
  have e : floatBits .add .f64 (Op.negFloat .f64 x) x = Option.map double.write ((double.read x).opposite.sum (double.read x)) := by
    show Option.map double.write ((double.read (Op.negFloat .f64 x)).sum (double.read x)) = _
    rw [read_neg h]
  rw [e]
  rcases sum_opp (double.read x) with e1 | ⟨p, e1⟩ <;> rw [e1]
  · exact .inl rfl
  · right; rfl

/-- A float up to NaN that has a word. -/
def WfO (a : Option Nat) : Prop := ∀ x, a = some x → x < 18446744073709551616
theorem wfO_fop (op : BinOp) (a b : Option Nat) : WfO (fop op .f64 a b) := by
  intro x h
  cases a <;> cases b <;> simp only [fop] at h <;> first | (cases h; done) | (have := floatBits_wf h; simpa [Lit.wf] using this)
theorem IsF.wfO {u : Nat} {a : Option Nat} (h : IsF u a) : WfO a := by
  intro x e
  have h1 := h.cn
  unfold Flt.cn at h1
  rw [e] at h1
  split at h1
  · cases h1
  · cases h1; exact h.lt
theorem wfO_neg {a : Option Nat} (h : WfO a) : WfO (fneg .f64 a) := by
  intro x e
  cases a with
  | none => cases e
  | some y => cases e; exact negFloat64_lt (h y rfl)
theorem fop_mul_neg {a b : Option Nat} (h : WfO b) : fop .mul .f64 a (fneg .f64 b) = fneg .f64 (fop .mul .f64 a b) := by
  cases a <;> cases b <;> first | rfl | exact mul_neg' (h _ rfl)
theorem fop_sub_neg {a b : Option Nat} (h : WfO b) : fop .sub .f64 a (fneg .f64 b) = fop .add .f64 a b := by
  cases a <;> cases b <;> first | rfl | exact sub_neg' (h _ rfl)
theorem fop_neg_add {a : Option Nat} (h : WfO a) : fop .add .f64 (fneg .f64 a) a = none ∨ fop .add .f64 (fneg .f64 a) a = some 0 := by
  cases a with
  | none => exact .inl rfl
  | some x => exact neg_add_self (h x rfl)
theorem fop_zero_add {a b : Option Nat} (ha : a = none ∨ a = some 0) (hb : b = none ∨ b = some 0) : fop .add .f64 a b = none ∨ fop .add .f64 a b = some 0 := by
  rcases ha with rfl | rfl <;> rcases hb with rfl | rfl
  · exact .inl rfl
  · exact .inl rfl
  · exact .inl rfl
  · right; decide +kernel
end Flt
end Go.Proofs.YtdefhmpmgcahpaaDoor
/-
  Signals of wide complex numbers: as values, and what they stand for up to the choice of NaNs.
-/
set_option linter.unusedVariables false
set_option linter.unusedSimpArgs false
namespace Go.Proofs.YtdefhmpmgcahpaaDoor
open Go.RowKit Flt

namespace Fast
abbrev Z := Option Nat × Option Nat
def mulZ (a b : Z) : Z := (fop .sub .f64 (fop .mul .f64 a.1 b.1) (fop .mul .f64 a.2 b.2), fop .add .f64 (fop .mul .f64 a.1 b.2) (fop .mul .f64 a.2 b.1))
def addZ (a b : Z) : Z := (fop .add .f64 a.1 b.1, fop .add .f64 a.2 b.2)
def subZ (a b : Z) : Z := (fop .sub .f64 a.1 b.1, fop .sub .f64 a.2 b.2)
def z0 : Z := (some 0, some 0)

end Fast
open Fast
abbrev C := Nat × Nat
/-- Complex numbers as values. -/
def cval (p : C) : Value := .complex .f64 p.1 p.2
def cvals (xs : List C) : List Value := xs.map cval
theorem cvals_length (xs : List C) : (cvals xs).length = xs.length := by simp [cvals]
theorem cvals_getD {xs : List C} {j : Nat} (h : j < xs.length) : (cvals xs).getD j undef = .complex .f64 (xs.getD j (0, 0)).1 (xs.getD j (0, 0)).2 := getD_map _ xs (0, 0) h

/-- A complex number, up to the choice of NaNs. -/
structure IsC (p : C) (z : Option Nat × Option Nat) : Prop where
  re : IsF p.1 z.1
  im : IsF p.2 z.2

theorem info_c128 : (Tryd.prog.info? 227).map (fun i => (i.zero, i.size, i.bytes)) = some (some (.complex .f64 0 0), 1, 16) := by kernel_rfl

theorem grown_new {w w1 w2 : World} {row : Option Nat} {B : Nat} (h : w.grownBy w1 row) (k : w1.grownBy w2 (some B)) (hB : w.heap.size ≤ B) : w.grownBy w2 row :=
  ⟨k.os.trans h.os, k.tape.trans h.tape, k.output.trans h.output, Nat.le_trans h.size k.size, fun j hj hr => (k.block j (Nat.lt_of_lt_of_le hj h.size) (by simp; omega)).trans (h.block j hj hr)⟩

theorem cvals_snoc (xs : List C) (p : C) : cvals (xs ++ [p]) = cvals xs ++ [cval p] := by simp [cvals]

/-- The next place of a row that is being filled. -/
theorem fill_step {xs : List C} {p : C} {n k : Nat} (hk : k < n) (hx : xs.length = k) (z : Value) :
    (cvals xs ++ List.replicate (n - k) z).set k (cval p) = cvals (xs ++ [p]) ++ List.replicate (n - (k + 1)) z := by
  rw [List.set_append_right _ _ (by rw [cvals_length]; omega), cvals_length, hx, Nat.sub_self, cvals_snoc]
  obtain ⟨m, hm⟩ : ∃ m, n - k = m + 1 := ⟨n - k - 1, by omega⟩
  rw [hm, List.replicate_succ, List.set_cons_zero, show n - (k + 1) = m by omega, List.append_assoc]
  rfl

theorem fill_good {xs : List C} {p : C} {k : Nat} {z : Nat → Option Nat × Option Nat} (hx : xs.length = k) (hg : ∀ i, i < k → IsC (xs.getD i (0, 0)) (z i)) (hp : IsC p (z k)) :
    (xs ++ [p]).length = k + 1 ∧ ∀ i, i < k + 1 → IsC ((xs ++ [p]).getD i (0, 0)) (z i) := by
  refine ⟨by simp [hx], fun i hi => ?_⟩
  rcases Nat.lt_or_eq_of_le (Nat.le_of_lt_succ hi) with h | h
  · rw [show (xs ++ [p]).getD i (0, 0) = xs.getD i (0, 0) by simp [List.getD, List.getElem?_append_left, hx, h]]
    exact hg i h
  · subst h
    rw [show (xs ++ [p]).getD i (0, 0) = p by simp [List.getD, ← hx]]
    exact hp

/-- A complex number is returned, likewise. -/
def RetC (z : Option Nat × Option Nat) (w : World) (e : Ending) (w' : World) : Prop := ∃ a b, e = .returned (.complex .f64 a b) ∧ IsF a z.1 ∧ IsF b z.2 ∧ ∃ n, w' = w.drewN n

/-- What complex numbers stand for. -/
def zOf (p : C) : Z := (cn .f64 p.1, cn .f64 p.2)
def zsOf (xs : List C) : List Z := xs.map zOf
def WfC (xs : List C) : Prop := ∀ p ∈ xs, p.1 < 18446744073709551616 ∧ p.2 < 18446744073709551616
theorem zsOf_length (xs : List C) : (zsOf xs).length = xs.length := by simp [zsOf]
theorem zsOf_getD {xs : List C} {j : Nat} (h : j < xs.length) : (zsOf xs).getD j z0 = zOf (xs.getD j (0, 0)) := by simp [zsOf, List.getD, h]
theorem isC_zOf {p : C} (h : p.1 < 18446744073709551616 ∧ p.2 < 18446744073709551616) : IsC p (zOf p) := ⟨⟨rfl, h.1⟩, ⟨rfl, h.2⟩⟩
theorem getD_memC {xs : List C} {j : Nat} (h : j < xs.length) : xs.getD j (0, 0) ∈ xs := by
  rw [List.getD_eq_getElem?_getD, List.getElem?_eq_getElem h]
  exact List.getElem_mem h
theorem isC_getD {xs : List C} {j : Nat} (hw : WfC xs) (h : j < xs.length) : IsC (xs.getD j (0, 0)) ((zsOf xs).getD j z0) := by
  rw [zsOf_getD h]; exact isC_zOf (hw _ (getD_memC h))

theorem Row.base {w : World} {B B' : Nat} {e : TypeId} {v : Value} {cs : List Value} (h : Row w B' e v cs) (hB : B ≤ B') : Row w B e v cs := by
  refine ⟨h.1, ?_⟩
  rcases h.2 with hn | ⟨g, cap, cur, rfl, hb, r⟩
  · exact .inl hn
  · exact .inr ⟨g, cap, cur, rfl, Nat.le_trans hB hb, r⟩


end Go.Proofs.YtdefhmpmgcahpaaDoor
/-
  The walks of UnitsApart and NarrowUnitsApart.
-/
set_option linter.unusedVariables false
set_option linter.unusedSimpArgs false
namespace Go.Proofs.YtdefhmpmgcahpaaDoor
open Go.RowKit Flt

theorem and_hi {a : Nat} (h : a < 18446744073709551616) : bits .and .u64 (a : Int) 9223372036854775808 = if a < 9223372036854775808 then 0 else 9223372036854775808 := by
  have := u64_and_nat a 9223372036854775808 h (by omega)
  rw [show ((9223372036854775808 : Nat) : Int) = 9223372036854775808 from rfl] at this
  rw [this]
  have e : a &&& 9223372036854775808 = if a < 9223372036854775808 then 0 else 9223372036854775808 := by
    apply Nat.eq_of_testBit_eq; intro i
    rw [Nat.testBit_and, show (9223372036854775808 : Nat) = 2 ^ 63 from rfl, Nat.testBit_two_pow]
    by_cases hi : 63 = i
    · subst hi
      split
      · rename_i h1; rw [Nat.testBit_lt_two_pow h1]; rfl
      · rename_i h1
        obtain ⟨y, rfl⟩ : ∃ y, a = 2 ^ 63 + y := ⟨a - 2 ^ 63, by omega⟩
        rw [Nat.testBit_two_pow_add_eq, Nat.testBit_lt_two_pow (by omega)]
        decide
    · split
      · simp [hi]
      · rw [Nat.testBit_two_pow]; simp [hi]
  rw [e]; split <;> rfl

theorem andNot_hi {a : Nat} (h : 9223372036854775808 ≤ a) (h' : a < 18446744073709551616) : bits .andNot .u64 (a : Int) 9223372036854775808 = (a : Int) - 9223372036854775808 := by
  have := u64_andNot_nat a 9223372036854775808 h' (by omega)
  rw [show ((9223372036854775808 : Nat) : Int) = 9223372036854775808 from rfl] at this
  rw [this, show (18446744073709551615 - 9223372036854775808 : Nat) = 2 ^ 63 - 1 by omega, Nat.and_two_pow_sub_one_eq_mod]
  omega

/-- So many units lie between two places. -/
def unitsOf (p q : Int) : Int := if p ≤ q then min (q - p) 1000000000000000000 else min (p - q) 1000000000000000000

theorem u64_sub {p q : Int} (h : p ≤ q) (hp : -9223372036854775808 ≤ p) (hq : q ≤ 9223372036854775807) : IntKind.u64.wrap (IntKind.u64.wrap q - IntKind.u64.wrap p) = q - p := by
  simp only [IntKind.wrap, IntKind.bits, IntKind.signed]
  simp
  omega

theorem plc_bounds {x : Nat} (h : x < 18446744073709551616) : -9223372036854775808 ≤ place FloatKind.f64.format x ∧ place FloatKind.f64.format x ≤ 9223372036854775807 := by
  by_cases h1 : x < 9223372036854775808
  · rw [plc_lo h1]; omega
  · rw [plc_hi (by omega) h]; omega

theorem negF_hi {a : Nat} (h : 9223372036854775808 ≤ a) (h' : a < 18446744073709551616) : Op.negFloat .f64 a = a - 9223372036854775808 := neg64_hi h h'

theorem unitsOf_comm (p q : Int) : unitsOf p q = unitsOf q p := by unfold unitsOf; split <;> split <;> omega

end Go.Proofs.YtdefhmpmgcahpaaDoor
