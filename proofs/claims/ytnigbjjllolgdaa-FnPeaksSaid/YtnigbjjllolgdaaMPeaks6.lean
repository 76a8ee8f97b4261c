/-
  Several texts of this claim, one behind the other; each says what it holds.
-/
import Derived.Test.YtnigbjjllolgdaaMPeaks5
import Derived.Test.YtnigbjjllolgdaaRows
import Derived.Deep.QuietTactic
import Derived.BigQuiet
import Derived.Lib.Hide
import Derived.Deep.RegionWith
import Derived.Laws.EntriesVeiled
import Derived.StillTailTactics
import Derived.Deep.RegionLaw
import Derived.IntWalk
import Derived.Deep.MidRow
/-
  The draws of the model: l00Src and what is drawn by it. Nothing is said of the numbers that are drawn but that they fit.
-/
set_option linter.unusedVariables false
set_option linter.unusedSimpArgs false
namespace Go.Proofs.Ytnigbjjllolgdaa
open Go.RowKit Flt

/-- In block B of the world w lies a source over the bytes (a, len, cap) that lay there in the world w0. -/
structure Src (w0 : World) (B : Nat) (a : Option Addr) (len cap : Nat) (i : Int) (w : World) : Prop where
  below : Below w0.heap.size w0 w
  new : w0.heap.size ≤ B
  code : w.cell? ⟨B, 0, none⟩ = some (.slice a len cap)
  pos : w.cell? ⟨B, 1, none⟩ = some (.int .i64 i)
  seed : ∃ s, w.cell? ⟨B, 2, none⟩ = some (.int .u64 s)
  free1 : w.frozen? ⟨B, 1, none⟩ = false
  free2 : w.frozen? ⟨B, 2, none⟩ = false
  low : 0 ≤ i

/-- A number from lo to hi is returned, and the source has gone on, by at most so many bytes. -/
def Picks (w0 : World) (B : Nat) (a : Option Addr) (len cap : Nat) (i : Int) (lo hi most : Int) (w : World) (e : Ending) (w' : World) : Prop :=
  ∃ r j, lo ≤ r ∧ r ≤ hi ∧ e = .returned (.int .i64 r) ∧ i ≤ j ∧ j ≤ i + most ∧ Src w0 B a len cap j w' ∧ w.grownBy w' (some B)

theorem block_of_cell {w : World} {B : Nat} {v : Value} {o : Nat} (h : w.cell? ⟨B, o, none⟩ = some v) : B < w.heap.size := World.block_lt_of_cell? _ _ h

/-- What the walk of 'next' leaves. -/
theorem src_step {w0 : World} {B : Nat} {a : Option Addr} {len cap : Nat} {k : Int} {w : World} (h : Src w0 B a len cap k w) (n m : Nat) (s : Int) :
    Src w0 B a len cap (k + 1) ((((w.drewN n).setCell ⟨B, 1, none⟩ (.int .i64 (k + 1))).setCell ⟨B, 2, none⟩ (.int .u64 s)).drewN m) ∧
    w.grownBy ((((w.drewN n).setCell ⟨B, 1, none⟩ (.int .i64 (k + 1))).setCell ⟨B, 2, none⟩ (.int .u64 s)).drewN m) (some B) := by
  obtain ⟨hb, hn, c0, c1, ⟨t, c2⟩, f1, f2, h0⟩ := h
  have hB := block_of_cell c0
  have d0 : (w.drewN n).cell? ⟨B, 0, none⟩ = some (.slice a len cap) := c0
  have d1 : (w.drewN n).cell? ⟨B, 1, none⟩ = some (.int .i64 k) := c1
  have d2 : (w.drewN n).cell? ⟨B, 2, none⟩ = some (.int .u64 t) := c2
  have e2 : ((w.drewN n).setCell ⟨B, 1, none⟩ (.int .i64 (k + 1))).cell? ⟨B, 2, none⟩ = some (.int .u64 t) := by
    rw [World.cell?_setCell_other (h := by simp)]; exact d2
  refine ⟨⟨?_, hn, ?_, ?_, ⟨s, ?_⟩, ?_, ?_, by omega⟩, ?_⟩
  · exact below_draws (Below.setCell (Below.setCell (below_draws hb n) (p := ⟨B, 1, none⟩) hn _) (p := ⟨B, 2, none⟩) hn _) m
  · show (((w.drewN n).setCell ⟨B, 1, none⟩ (.int .i64 (k + 1))).setCell ⟨B, 2, none⟩ (.int .u64 s)).cell? _ = _
    rw [World.cell?_setCell_other (h := by simp), World.cell?_setCell_other (h := by simp)]; exact d0
  · show (((w.drewN n).setCell ⟨B, 1, none⟩ (.int .i64 (k + 1))).setCell ⟨B, 2, none⟩ (.int .u64 s)).cell? _ = _
    rw [World.cell?_setCell_other (h := by simp), World.cell?_setCell_same (h := d1)]
  · show (((w.drewN n).setCell ⟨B, 1, none⟩ (.int .i64 (k + 1))).setCell ⟨B, 2, none⟩ (.int .u64 s)).cell? _ = _
    rw [World.cell?_setCell_same (h := e2)]
  · show (((w.drewN n).setCell ⟨B, 1, none⟩ (.int .i64 (k + 1))).setCell ⟨B, 2, none⟩ (.int .u64 s)).frozen? _ = _
    simp [f1]
  · show (((w.drewN n).setCell ⟨B, 1, none⟩ (.int .i64 (k + 1))).setCell ⟨B, 2, none⟩ (.int .u64 s)).frozen? _ = _
    simp [f2]
  · refine ⟨rfl, rfl, rfl, ?_, ?_⟩
    · show w.heap.size ≤ (((w.drewN n).setCell ⟨B, 1, none⟩ (.int .i64 (k + 1))).setCell ⟨B, 2, none⟩ (.int .u64 s)).heap.size
      simp [World.setCell]
    · intro j hj hne
      have hjB : j ≠ B := fun e => hne (by rw [e])
      show (((w.drewN n).setCell ⟨B, 1, none⟩ (.int .i64 (k + 1))).setCell ⟨B, 2, none⟩ (.int .u64 s)).heap[j]? = _
      rw [Below.heap_setCell _ _ _ _ hjB, Below.heap_setCell _ _ _ _ hjB]
      rfl

set_option maxHeartbeats 1000000 in
theorem next_in (w0 : World) (B : Nat) (x : Addr) (len cap : Nat) (zs : List Int) (hr : IsRow .u8 w0 (some x) len cap zs) (k : Nat) (hi : k < 4611686018427387904) (w : World) (h : Src w0 B (some x) len cap k w) (hl : k < len) :
    Calls Try.prog 56 #[.pointer (some ⟨B, 0, none⟩)] w (Picks w0 B (some x) len cap k 0 255 1 w) := by
  have HS := Lib.hid h
  obtain ⟨hb, hn, c0, c1, ⟨s, c2⟩, f1, f2, h0⟩ := h
  obtain ⟨z, hz, z0, z1⟩ := isRow_cell hr hb hl
  have hlen := isRow_len hr
  have hl' : (k : Int) < (len : Int) := by omega
  clear hr h0 hb
  go_enter Try.func56, Try.ntmps56
  go_wp2
  go_quiet (fail)
  go_wp2
  go_quiet (fail)
  go_wp2
  go_quiet (fail)
  go_wp2
  go_ret
  exact ⟨z, _, z0, z1, rfl, by omega, by omega, src_step HS.out _ _ _⟩

theorem and255 (n : Int) : 0 ≤ bits .and .u64 n 255 ∧ bits .and .u64 n 255 ≤ 255 := by
  have h : ∃ m : Nat, m ≤ 255 ∧ bits .and .u64 n 255 = IntKind.u64.wrap (m : Int) := by
    refine ⟨(BitVec.ofInt 64 n).toNat &&& 255, Nat.and_le_right, ?_⟩
    show IntKind.u64.wrap ((BitVec.ofInt 64 n &&& BitVec.ofInt 64 255).toNat : Int) = _
    rw [BitVec.toNat_and]
    rfl
  obtain ⟨m, hm, e⟩ := h
  rw [e, IntWalk.u64_in _ (by omega)]
  omega

set_option maxHeartbeats 1000000 in
theorem next_out (w0 : World) (B : Nat) (a : Option Addr) (len cap : Nat) (hlen : len ≤ 9223372036854775807) (k : Nat) (hi : k < 4611686018427387904) (w : World) (h : Src w0 B a len cap k w) (hl : ¬ k < len) :
    Calls Try.prog 56 #[.pointer (some ⟨B, 0, none⟩)] w (Picks w0 B a len cap k 0 255 1 w) := by
  have HS := Lib.hid h
  obtain ⟨hb, hn, c0, c1, ⟨s, c2⟩, f1, f2, h0⟩ := h
  have hl' : (len : Int) ≤ (k : Int) := by omega
  clear h0 hb
  go_enter Try.func56, Try.ntmps56
  go_wp2
  go_quiet (fail)
  go_wp2
  go_quiet (fail)
  go_wp2
  go_ret
  refine ⟨_, _, ?_, ?_, rfl, by omega, by omega, src_step HS.out _ _ _⟩
  all_goals
    rw [IntWalk.wrap64_in _ (by have := and255 (IntKind.u64.wrap (IntKind.u64.wrap (IntKind.u64.wrap (s * 6364136223846793005)) + 1442695040888963407) / 1099511627776); omega)]
    have := and255 (IntKind.u64.wrap (IntKind.u64.wrap (IntKind.u64.wrap (s * 6364136223846793005)) + 1442695040888963407) / 1099511627776)
    omega

/-- The bytes that a source reads lay in the world w0. -/
def Bytes (w0 : World) (a : Option Addr) (len cap : Nat) : Prop := ∃ zs, IsRow .u8 w0 a len cap zs

theorem next_any (w0 : World) (B : Nat) (a : Option Addr) (len cap : Nat) (hr : Bytes w0 a len cap) (i : Int) (hi : i < 4611686018427387904) (w : World) (h : Src w0 B a len cap i w) :
    Calls Try.prog 56 #[.pointer (some ⟨B, 0, none⟩)] w (Picks w0 B a len cap i 0 255 1 w) := by
  obtain ⟨zs, hr⟩ := hr
  obtain ⟨k, rfl⟩ : ∃ k : Nat, i = k := ⟨i.toNat, by have := h.low; omega⟩
  by_cases hl : k < len
  · cases a with
    | none =>
      rcases hr with ⟨-, rfl, -⟩ | ⟨x, hx, -⟩
      · omega
      · cases hx
    | some x => exact next_in w0 B x len cap zs hr k (by omega) w h hl
  · exact next_out w0 B a len cap (isRow_len hr) k (by omega) w h hl

theorem grown_trans {a b c : World} {B : Nat} (h : a.grownBy b (some B)) (k : b.grownBy c (some B)) : a.grownBy c (some B) :=
  ⟨k.os.trans h.os, k.tape.trans h.tape, k.output.trans h.output, Nat.le_trans h.size k.size, fun i hi hne => (k.block i (Nat.lt_of_lt_of_le hi h.size) hne).trans (h.block i hi hne)⟩

set_option maxHeartbeats 1000000 in
theorem pick_small (w0 : World) (B : Nat) (a : Option Addr) (len cap : Nat) (hr : Bytes w0 a len cap) (i : Int) (hi : i < 4611686018427387903) (n : Int) (hn : 1 < n) (hn' : n ≤ 200) (w : World) (h : Src w0 B a len cap i w) :
    Calls Try.prog 26 #[.pointer (some ⟨B, 0, none⟩), .int .i64 n] w (Picks w0 B a len cap i 0 (n - 1) 2 w) := by
  go_enter Try.func26, Try.ntmps26
  go_wp2_with fail
  go_at_call 56
  refine (next_any w0 B a len cap hr i (by omega) _ h).mono ?_
  rintro e w1 ⟨r, j, r0, r1, rfl, j0, j1, hs, hg⟩
  go_wp2
  go_ret
  have h1 := Int.emod_nonneg r (show n ≠ 0 by omega)
  have h2 := Int.emod_lt_of_pos r (show 0 < n by omega)
  exact ⟨_, j, h1, by omega, rfl, j0, by omega, hs, hg⟩

set_option maxHeartbeats 1000000 in
theorem pick_great (w0 : World) (B : Nat) (a : Option Addr) (len cap : Nat) (hr : Bytes w0 a len cap) (i : Int) (hi : i < 4611686018427387903) (n : Int) (hn : 200 < n) (hn' : n ≤ 4611686018427387904) (w : World) (h : Src w0 B a len cap i w) :
    Calls Try.prog 26 #[.pointer (some ⟨B, 0, none⟩), .int .i64 n] w (Picks w0 B a len cap i 0 (n - 1) 2 w) := by
  go_enter Try.func26, Try.ntmps26
  go_wp2_with fail
  go_at_call 56
  refine (next_any w0 B a len cap hr i (by omega) _ h).mono ?_
  rintro e w1 ⟨r, j, r0, r1, rfl, j0, j1, hs, hg⟩
  go_wp2_with fail
  go_at_call 56
  refine (next_any w0 B a len cap hr j (by omega) _ hs).mono ?_
  rintro e w2 ⟨r', j', r0', r1', rfl, j0', j1', hs', hg'⟩
  go_wp2
  go_ret
  have h1 := Int.emod_nonneg (r * 256 + r') (show n ≠ 0 by omega)
  have h2 := Int.emod_lt_of_pos (r * 256 + r') (show 0 < n by omega)
  exact ⟨_, j', h1, by omega, rfl, by omega, by omega, hs', grown_trans hg hg'⟩

theorem pick_any (w0 : World) (B : Nat) (a : Option Addr) (len cap : Nat) (hr : Bytes w0 a len cap) (i : Int) (hi : i < 4611686018427387903) (n : Int) (hn : 1 < n) (hn' : n ≤ 4611686018427387904) (w : World) (h : Src w0 B a len cap i w) :
    Calls Try.prog 26 #[.pointer (some ⟨B, 0, none⟩), .int .i64 n] w (Picks w0 B a len cap i 0 (n - 1) 2 w) := by
  by_cases h1 : n ≤ 200
  · exact pick_small w0 B a len cap hr i hi n hn h1 w h
  · exact pick_great w0 B a len cap hr i hi n (by omega) hn' w h

/-- A float is returned, of whatever bits, and the source has gone on. -/
def PicksF (w0 : World) (B : Nat) (a : Option Addr) (len cap : Nat) (i : Int) (most : Int) (w : World) (e : Ending) (w' : World) : Prop :=
  ∃ r j, r < 18446744073709551616 ∧ e = .returned (.float .f64 r) ∧ i ≤ j ∧ j ≤ i + most ∧ Src w0 B a len cap j w' ∧ w.grownBy w' (some B)

theorem Src.draws {w0 : World} {B : Nat} {a : Option Addr} {len cap : Nat} {i : Int} {w : World} (h : Src w0 B a len cap i w) (n : Nat) : Src w0 B a len cap i (w.drewN n) :=
  ⟨below_draws h.below n, h.new, h.code, h.pos, h.seed, h.free1, h.free2, h.low⟩
theorem grown_draws {a b : World} {row : Option Nat} (h : a.grownBy b row) (n : Nat) : a.grownBy (b.drewN n) row := ⟨h.os, h.tape, h.output, h.size, h.block⟩

theorem u64_bounds (x : Int) : 0 ≤ IntKind.u64.wrap x ∧ IntKind.u64.wrap x < 18446744073709551616 := by
  simp only [IntKind.wrap, IntKind.bits, IntKind.signed]
  simp
  omega
theorem bits_bounds (op : BinOp) (x y : Int) : 0 ≤ bits op .u64 x y ∧ bits op .u64 x y < 18446744073709551616 := by
  unfold bits
  exact u64_bounds _
theorem toNat_lt {x : Int} (h : 0 ≤ x ∧ x < 18446744073709551616) : x.toNat < 18446744073709551616 := by omega

set_option maxRecDepth 100000 in
theorem copysign_zero (w : World) :
    Calls Try.prog 85 #[.float .f64 0, .float .f64 13830554455654793216] w fun e w' => e = .returned (.float .f64 9223372036854775808) ∧ w' = w := by
  go_enter Try.func85, Try.ntmps85
  go_wp2
  go_ret
  exact ⟨by kernel_rfl, rfl⟩

/-- A source that is made anew. -/
theorem src_new {w : World} {a : Option Addr} {len cap : Nat} {t : TypeId} : Src w w.heap.size a len cap 0 (w.alloc (.cells #[.slice a len cap, .int .i64 0, .int .u64 0] t)) := by
  refine ⟨(Below.refl _ _).alloc (Nat.le_refl _) _, Nat.le_refl _, ?_, ?_, ⟨0, ?_⟩, ?_, ?_, Int.le_refl _⟩ <;> simp

theorem below_of_src {w w1 w2 : World} {B : Nat} {a : Option Addr} {len cap : Nat} {i : Int} (h : Src w B a len cap i w2) : Below w.heap.size w w2 := h.below

/-- A float of whatever bits; nothing that was there has turned. -/
def AnyF (w : World) (e : Ending) (w' : World) : Prop := (∃ r, r < 18446744073709551616 ∧ e = .returned (.float .f64 r)) ∧ Below w.heap.size w w'

end Go.Proofs.Ytnigbjjllolgdaa
/-
  The draws of complex numbers: l01Any, A2Any; and a2At.
-/
set_option linter.unusedVariables false
set_option linter.unusedSimpArgs false
namespace Go.Proofs.Ytnigbjjllolgdaa
open Go.RowKit Flt

/-- A bool is returned, and the source has gone on. -/
def PicksB (w0 : World) (B : Nat) (a : Option Addr) (len cap : Nat) (i : Int) (most : Int) (w : World) (e : Ending) (w' : World) : Prop :=
  ∃ b j, e = .returned (.bool b) ∧ i ≤ j ∧ j ≤ i + most ∧ Src w0 B a len cap j w' ∧ w.grownBy w' (some B)
/-- A complex number is returned, and the source has gone on. -/
def PicksC (w0 : World) (B : Nat) (a : Option Addr) (len cap : Nat) (i : Int) (most : Int) (w : World) (e : Ending) (w' : World) : Prop :=
  ∃ x y j, x < 18446744073709551616 ∧ y < 18446744073709551616 ∧ e = .returned (.complex .f64 x y) ∧ i ≤ j ∧ j ≤ i + most ∧ Src w0 B a len cap j w' ∧ w.grownBy w' (some B)

/-- A complex number of whatever bits; nothing that was there has turned. -/
def AnyC (w : World) (e : Ending) (w' : World) : Prop := ∃ x y, x < 18446744073709551616 ∧ y < 18446744073709551616 ∧ e = .returned (.complex .f64 x y) ∧ Below w.heap.size w w'

end Go.Proofs.Ytnigbjjllolgdaa
/-
  The draw of a signal: l01Signal, A2Wild.
-/
set_option linter.unusedVariables false
set_option linter.unusedSimpArgs false
namespace Go.Proofs.Ytnigbjjllolgdaa
open Go.RowKit Flt Fast

theorem Src.alloc {w0 : World} {B : Nat} {a : Option Addr} {len cap : Nat} {i : Int} {w : World} (h : Src w0 B a len cap i w) (o : Obj) : Src w0 B a len cap i (w.alloc o) := by
  have hB := block_of_cell h.code
  have hb : Below w.heap.size w (w.alloc o) := (Below.refl _ _).alloc (Nat.le_refl _) o
  refine ⟨h.below.alloc h.below.size o, h.new, ?_, ?_, ?_, ?_, ?_, h.low⟩
  · rw [hb.cell hB]; exact h.code
  · rw [hb.cell hB]; exact h.pos
  · obtain ⟨s, e⟩ := h.seed; exact ⟨s, by rw [hb.cell hB]; exact e⟩
  · rw [hb.frozen hB]; exact h.free1
  · rw [hb.frozen hB]; exact h.free2

theorem Src.other {w0 : World} {B : Nat} {a : Option Addr} {len cap : Nat} {i : Int} {w w' : World} {row : Option Nat} (h : Src w0 B a len cap i w) (hg : w.grownBy w' row) (hne : row ≠ some B) (hr : ∀ k, row = some k → w0.heap.size ≤ k) : Src w0 B a len cap i w' := by
  have hB := block_of_cell h.code
  have hk : w'.heap[B]? = w.heap[B]? := hg.block B hB (fun e => hne e.symm)
  have hc : ∀ j, w'.cell? ⟨B, j, none⟩ = w.cell? ⟨B, j, none⟩ := fun j => World.cell?_of_block (w := w) hk
  have hf : ∀ j, w'.frozen? ⟨B, j, none⟩ = w.frozen? ⟨B, j, none⟩ := fun j => World.frozen?_of_block (w := w) hk
  refine ⟨h.below.grown hg h.below.size hr, h.new, ?_, ?_, ?_, ?_, ?_, h.low⟩
  · rw [hc]; exact h.code
  · rw [hc]; exact h.pos
  · obtain ⟨s, e⟩ := h.seed; exact ⟨s, by rw [hc]; exact e⟩
  · rw [hf]; exact h.free1
  · rw [hf]; exact h.free2

theorem wfC_snoc {xs : List C} {p q : Nat} (h : WfC xs) (hp : p < 18446744073709551616) (hq : q < 18446744073709551616) : WfC (xs ++ [(p, q)]) := by
  intro u hu
  rcases List.mem_append.1 hu with h1 | h1
  · exact h u h1
  · rw [List.mem_singleton.1 h1]; exact ⟨hp, hq⟩

end Go.Proofs.Ytnigbjjllolgdaa
/-
  The draws of chapter 3 and on: l03Real, l03Number, P6Pick.
-/
set_option linter.unusedVariables false
set_option linter.unusedSimpArgs false
namespace Go.Proofs.Ytnigbjjllolgdaa
open Go.RowKit Flt Fast

/-- A complex number is returned, of whatever bits, and the source has gone on. -/
def PicksN (w0 : World) (B : Nat) (a : Option Addr) (len cap : Nat) (i : Int) (most : Int) (w : World) (e : Ending) (w' : World) : Prop :=
  ∃ p q j, p < 18446744073709551616 ∧ q < 18446744073709551616 ∧ e = .returned (.complex .f64 p q) ∧ i ≤ j ∧ j ≤ i + most ∧ Src w0 B a len cap j w' ∧ w.grownBy w' (some B)

theorem pick_one (w : World) (B : Nat) (n : Int) (hn : n ≤ 1) :
    Calls Try.prog 26 #[.pointer (some ⟨B, 0, none⟩), .int .i64 n] w fun e w' => e = .returned (.int .i64 0) ∧ w' = w := by
  go_enter Try.func26, Try.ntmps26
  go_wp2
  go_ret
  exact ⟨rfl, rfl⟩

/-- A number below n. -/
theorem p6Pick_any (w : World) (a : Option Addr) (len cap : Nat) (hr : ∃ zs, IsRow .u8 w a len cap zs) (n : Int) (h1 : 1 ≤ n) (hn : n ≤ 1000000) :
    Calls Try.prog 7 #[.slice a len cap, .int .i64 n] w fun e w' => ∃ r : Nat, e = .returned (.int .i64 r) ∧ (r : Int) < n ∧ Below w.heap.size w w' := by
  go_enter Try.func7, Try.ntmps7
  go_wp2_with (first | (go_at_call 25; go_in))
  by_cases h2 : n ≤ 1
  · refine (pick_one _ w.heap.size n h2).mono ?_
    rintro e w1 ⟨rfl, rfl⟩
    go_wp2
    go_ret
    exact ⟨0, rfl, by omega, (Below.refl _ _).alloc (Nat.le_refl _) _⟩
  · refine (pick_any w w.heap.size a len cap hr 0 (by omega) n (by omega) (by omega) _ src_new).mono ?_
    rintro e w1 ⟨r, j, r0, r1, rfl, j0, j1, hs, hg⟩
    obtain ⟨m, rfl⟩ : ∃ m : Nat, r = m := ⟨r.toNat, by omega⟩
    go_wp2
    go_ret
    exact ⟨m, rfl, by omega, hs.below⟩

end Go.Proofs.Ytnigbjjllolgdaa
/-
  FnPeaks: the powers that are drawn.
-/
set_option linter.unusedVariables false
set_option linter.unusedSimpArgs false
namespace Go.Proofs.Ytnigbjjllolgdaa
open Go.RowKit Flt

theorem th_eighth (k : Int) : (k : Rat) / 8 = th (4 * k) := by
  unfold th
  rw [Rat.intCast_mul, Rat.div_def, Rat.div_def]
  show (k : Rat) * (8 : Rat)⁻¹ = (4 : Rat) * k * (32 : Rat)⁻¹
  grind
/-- A drawn number by 8: no draw of its own. -/
theorem pk_run {r : Int} (h0 : 0 ≤ r) (h1 : r ≤ 63) : ∃ d, Has d (th (4 * (1 + r))) ∧ ∀ (P : Program) (t : TypeId) (w : World), (binOp .quo t (.float .f64 (floatOfInt .f64 (1 + r))) (.float .f64 4620693217682128896)).run P w = .ok (.float .f64 d) w := by
  have hF := fv_int_exact (n := 1 + r) (by omega)
  have hd : Dy 5 256 (((1 + r : Int) : Rat) / 8) := by rw [th_eighth]; exact th_dy (by omega)
  obtain ⟨d, hd, hr⟩ := run_has (.inr (.inr (.inr rfl))) (hd.fv_div (by omega) (by omega) (by decide) hF has_eight.fv)
  rw [th_eighth] at hd
  exact ⟨d, hd, hr⟩

/-- The drawn powers, as eighths. -/
def PkL (xs : List Nat) (K : Nat → Int) : Prop := (∀ i, 1 ≤ K i ∧ K i ≤ 64) ∧ ∀ i, i < xs.length → Has (xs.getD i 0) (th (4 * K i))
theorem PkL.nil : PkL [] (fun _ => 1) := ⟨fun _ => ⟨by show (1 : Int) ≤ 1; omega, by show (1 : Int) ≤ 64; omega⟩, fun i hi => by simp at hi⟩
theorem PkL.snoc {xs : List Nat} {K : Nat → Int} (h : PkL xs K) {d : Nat} {k : Int} (hd : Has d (th (4 * k))) (h0 : 1 ≤ k) (h1 : k ≤ 64) : ∃ K', PkL (xs ++ [d]) K' := by
  refine ⟨fun i => if i = xs.length then k else K i, fun i => ?_, fun i hi => ?_⟩
  · by_cases e : i = xs.length
    · simp only [e, if_true]; exact ⟨h0, h1⟩
    · simp only [e, if_false]; exact h.1 i
  · by_cases e : i = xs.length
    · subst e
      simp only [if_true]
      rw [show (xs ++ [d]).getD xs.length 0 = d by simp [List.getD]]
      exact hd
    · have hl : i < xs.length := by simp at hi; omega
      simp only [e, if_false]
      rw [show (xs ++ [d]).getD i 0 = xs.getD i 0 by simp [List.getD, List.getElem?_append_left, hl]]
      exact h.2 i hl

set_option maxRecDepth 100000 in
set_option maxHeartbeats 4000000 in
theorem p6Powers_any (a : Option Addr) (len cap : Nat) (n : Nat) (hn : n ≤ 100) (w : World) (hr : ∃ zs, IsRow .u8 w a len cap zs) :
    Calls Try.prog 16 #[.slice a len cap, .int .i64 n] w fun e w' => ∃ v xs, e = .returned v ∧ Row w' w.heap.size 30 v (flts xs) ∧ xs.length = n ∧ (∃ K, PkL xs K) ∧ Below w.heap.size w w' := by
  obtain ⟨i0, hi, hz0, hz1, hz2⟩ := info_parts info_f64'
  have HRR := Lib.hid hr
  obtain ⟨B, hB⟩ : ∃ B, w.heap.size = B := ⟨_, rfl⟩
  have HSRC : Hid (Src w B a len cap 0 (w.alloc (.cells #[.slice a len cap, .int .i64 0, .int .u64 0] 68))) := by rw [← hB]; exact Lib.hid src_new
  have HBB := Lib.hid hB
  clear hr
  go_enter Try.func16, Try.ntmps16
  go_wp2_with (first | (go_at_call 25; go_in))
  clear hB
  go_loopw [6, 7] (fun v k wr => ∃ (m : Nat) (xs : List Nat) (j : Int), k = .int .i64 m ∧ m ≤ n ∧ xs.length = m ∧ 0 ≤ j ∧ j ≤ 2 * (m : Int) ∧ B + 1 ≤ wr.heap.size ∧ Src w B a len cap j wr ∧ Row wr (B + 1) 30 v (flts xs) ∧ ∃ K, PkL xs K) (fun _ k _ => n - (intOf k).toNat)
  case atStart =>
    refine ⟨0, [], 0, rfl, Nat.zero_le _, rfl, by omega, by omega, by simp [HBB.out], HSRC.out.alloc _, ?_, _, PkL.nil⟩
    have := World.ownsRow_lit (w.alloc (.cells #[.slice a len cap, .int .i64 0, .int .u64 0] 68)) (e := 30) (base := B + 1) #[] 0 (size := 1) (by simp [HBB.out]) (by unfold maxLen; omega) rfl
    rw [show (w.alloc (.cells #[.slice a len cap, .int .i64 0, .int .u64 0] 68)).heap.size = B + 1 by simp [HBB.out]] at this
    exact this
  case round =>
    clear HSRC
    obtain ⟨m, xs, j, rfl, hm, hx, hj0, hj1, hsz, hs, hrw, hwf⟩ := hrel
    have HX := Lib.hid hx
    have HS := Lib.hid hs
    have HR := Lib.hid hrw
    have HW := Lib.hid hwf
    clear hx hs hrw hwf
    by_cases hlt : m < n
    · go_wp2_with fail
      refine (pick_any w B a len cap HRR.out j (by omega) 64 (by omega) (by omega) _ HS.out).mono ?_
      rintro e w4 ⟨r, j2, r0, r1, rfl, k0, k1, hs4, hg4⟩
      obtain ⟨p, hp, hrun⟩ := pk_run r0 (by omega)
      have eR : IntKind.i64.wrap ((1 : Int) + r) = 1 + r := IntWalk.i64_in _ (by omega)
      have hr4 : Row w4 (B + 1) 30 u6 (flts xs) := HR.out.kept hg4 (.inr (fun e => by have := (HR.out.lt _ e).1; omega))
      have hz4 : B + 1 ≤ w4.heap.size := Nat.le_trans hsz hg4.size
      have hxl : (flts xs).length = m := by rw [flts_length, HX.out]
      have HFin : Hid (∀ (w6 : World) v', w6.ownsRow (B + 1) 30 1 v' (m + 1) (flts xs ++ [.float .f64 p]) → (w4.alloc (.cells #[.float .f64 p] 30)).grownBy w6 u6.ownBlock →
          B + 1 ≤ w6.heap.size ∧ Src w B a len cap j2 w6 ∧ Row w6 (B + 1) 30 v' (flts (xs ++ [p])) ∧ ∃ K, PkL (xs ++ [p]) K) := fun w6 v' hown hgr => by
        refine ⟨by have := hgr.size; simp at *; omega, (hs4.alloc _).other hgr (fun e => ?_) (fun k e => ?_), ?_, ?_⟩
        · have := (hr4.lt _ e).1; omega
        · have h1 := (hr4.lt _ e).1; have h2 := hs4.new; omega
        · show w6.ownsRow _ _ _ _ _ _
          rw [flts_snoc, List.length_append, hxl]
          exact hown
        · obtain ⟨K, hK⟩ := HW.out
          exact hK.snoc hp (by omega) (by omega)
      have HR4 := Lib.hid hr4
      clear hr4 hs4 hg4 HR HS hp
      go_wp2_with (at_builtin; refine wpList_append_own _ rfl _ _ 24 rfl (B + 1) 30 i0 (.float .f64 0) 1 8 Try.underlying24 hi hz0 hz1 hz2 rfl (by decide) _ _ _ rfl (HR4.out.alloc _) ⟨_, 0, none⟩ 1 1 [.float .f64 p] rfl rfl (cell_one_new _ _ _) (by intro u hu; simp at hu; subst hu; rfl) (by rw [hxl]; simp only [maxLen]; omega) (by rw [hxl]; omega) (by simp; omega) ?_)
      intro v' w6 hown' hgrow _
      have HE := Lib.hid (HFin.out w6 v' hown' hgrow)
      clear hown' hgrow HR4 HFin hrun hxl
      go_wp2
      go_roundw
      case rel => first | exact ⟨m + 1, xs ++ [p], j2, by go_num, by omega, by simp [HX.out], by omega, by omega, HE.out⟩ | ((repeat apply Exists.intro); refine ⟨?_, rfl⟩; exact ⟨m + 1, xs ++ [p], j2, by go_num, by omega, by simp [HX.out], by omega, by omega, HE.out⟩)
      case measure => simp [intOf]; omega
    · have e : m = n := by omega
      subst e
      go_wp2
      go_ret
      exact ⟨_, xs, rfl, HR.out.base (by rw [HBB.out]; omega), HX.out, HW.out, HS.out.below⟩


end Go.Proofs.Ytnigbjjllolgdaa
/-
  PowersApart of both.
-/
set_option linter.unusedVariables false
set_option linter.unusedSimpArgs false
namespace Go.Proofs.Ytnigbjjllolgdaa
open Go.RowKit Flt Fast
attribute [local go_sem] run_fadd run_fsub run_fmul run_fquo run_cadd run_csub

/-- The absolute value, up to NaNs. -/
def absO : Option Nat → Option Nat
  | some x => some (x % 9223372036854775808)
  | none => none
theorem nan_abs (a : Nat) : nan FloatKind.f64.format (a % 9223372036854775808) = nan FloatKind.f64.format a := by
  show nan Ieee.double _ = nan Ieee.double _
  rw [nan64, nan64]; congr 1; simp
theorem isF_abs {a : Nat} {z : Option Nat} (h : IsF a z) : IsF (a % 9223372036854775808) (absO z) := by
  refine ⟨?_, by omega⟩
  rcases isF_cases h with ⟨hn, rfl⟩ | ⟨hn, rfl⟩
  · exact cn_none (by rw [nan_abs]; exact hn)
  · exact cn_some (by rw [nan_abs]; exact hn)

def apO (xs ys : List Nat) (i : Nat) : Option Nat := absO (fop .sub .f64 (wO xs i) (wO ys i))
def apK (n m : Nat) : Int := if 256 < n ∨ 256 < m then 3 else if n ≠ m then 2 else 0
def apR (xs ys : List Nat) : Option Nat := if apK xs.length ys.length = 0 then sumO (apO xs ys) xs.length else some 0

theorem apK_zero {n m : Nat} (h : apK n m = 0) : n ≤ 256 ∧ n = m := by
  unfold apK at h
  split at h
  · omega
  · split at h <;> omega

theorem checkPairA_any (a a' : Option Addr) (n m cap cap' : Nat) (hn : (n : Int) ≤ 9223372036854775807) (hm : (m : Int) ≤ 9223372036854775807) (w : World) :
    Calls Try.prog 53 #[.slice a n cap, .slice a' m cap'] w fun e w' => e = .returned (.int .i64 (apK n m)) ∧ w' = w := by
  by_cases h1 : 256 < n
  · have e : apK n m = 3 := if_pos (.inl h1)
    rw [e]; clear e
    go_enter Try.func53, Try.ntmps53
    go_wp2
    go_ret
    exact ⟨rfl, rfl⟩
  · by_cases h2 : 256 < m
    · have e : apK n m = 3 := if_pos (.inr h2)
      rw [e]; clear e
      go_enter Try.func53, Try.ntmps53
      go_wp2
      go_ret
      exact ⟨rfl, rfl⟩
    · by_cases h3 : n = m
      · have e : apK n m = 0 := by unfold apK; rw [if_neg (by omega), if_neg (by omega)]
        rw [e]; clear e
        subst h3
        go_enter Try.func53, Try.ntmps53
        go_wp2
        go_ret
        exact ⟨rfl, rfl⟩
      · have e : apK n m = 2 := by unfold apK; rw [if_neg (by omega), if_pos h3]
        rw [e]; clear e
        have g3 : ((n : Int) == (m : Int)) = false := by simp; omega
        clear h3
        go_enter Try.func53, Try.ntmps53
        go_wp2
        go_ret
        exact ⟨rfl, rfl⟩

theorem enter_apart1 (args : Array Value) (w : World) : (callFunc 54 args).run Try.prog w = .ok (.enter 54 args) w := by kernel_rfl

set_option maxRecDepth 100000 in
set_option maxHeartbeats 4000000 in
theorem apart1_any (xs ys : List Nat) (n : Nat) (hx : xs.length = n) (hy : ys.length = n) (hn : n ≤ 256) (hzx : ∀ z ∈ xs, z < 18446744073709551616) (hzy : ∀ z ∈ ys, z < 18446744073709551616) (v u : Value) (i b c : Nat) (hi : i < n) (w : World) (h : Reads w v (flts xs)) (h' : Reads w u (flts ys))
    (hb : w.cell? ⟨b, 0, none⟩ = some v) (hc : w.cell? ⟨c, 0, none⟩ = some u) :
    Calls Try.prog 54 #[.int .i64 i, .pointer (some ⟨b, 0, none⟩), .pointer (some ⟨c, 0, none⟩)] w fun e w' => ∃ q, e = .returned (fval q) ∧ IsF q (apO xs ys i) ∧ Below w.heap.size w w' := by
  have hrd := fl_reads h
  have hrd' := fl_reads h'
  obtain ⟨a, cap, rfl⟩ := fl_form h
  obtain ⟨a', cap', rfl⟩ := fl_form h'
  rw [flts_length, hx] at hrd hb
  rw [flts_length, hy] at hrd' hc
  obtain ⟨g, rfl, -, c1⟩ := hrd _ _ _ rfl i hi
  obtain ⟨g', rfl, -, c2⟩ := hrd' _ _ _ rfl i hi
  have hX := wO_isF hzx (i := i) (by omega)
  have hY := wO_isF hzy (i := i) (by omega)
  have hA := fun wf => isF_abs (isF_fres (op := .sub) hX hY wf)
  obtain ⟨x, hxx⟩ : ∃ x, xs.getD i 0 = x := ⟨_, rfl⟩
  obtain ⟨y, hyy⟩ : ∃ y, ys.getD i 0 = y := ⟨_, rfl⟩
  rw [hxx] at c1
  rw [hyy] at c2
  rw [hxx, hyy] at hA
  have hi3 : (i : Int) < (n : Int) := by omega
  have HA := Lib.hid hA
  clear h h' hrd hrd' hxx hyy hX hY hA hzx hzy
  go_enter Try.func54, Try.ntmps54
  go_wp2
  go_still_tail 8, (by kernel_rfl)
  change wpList _ _ _ _ _ w.drew
  go_wp2_with (go_at_call 55; refine (abs_any _ (fres_lt64 _ _ _ _) _).mono ?_; rintro e w' ⟨rfl, rfl⟩)
  go_ret
  exact ⟨_, rfl, HA.out _, below_draws (Below.refl _ _) _⟩

set_option maxRecDepth 100000 in
set_option maxHeartbeats 4000000 in
theorem apart_impl (xs ys : List Nat) (hzx : ∀ z ∈ xs, z < 18446744073709551616) (hzy : ∀ z ∈ ys, z < 18446744073709551616) (v u : Value) (w : World) (h : Reads w v (flts xs)) (h' : Reads w u (flts ys)) :
    Calls Try.prog 24 #[v, u] w (FloatTo (apR xs ys) (apK xs.length ys.length) w) := by
  have hcap := fl_cap h
  have hcap' := fl_cap h'
  have hf := fl_form h
  have hf' := fl_form h'
  by_cases hk : apK xs.length ys.length = 0
  · obtain ⟨h1, h2⟩ := apK_zero hk
    have e1 : apR xs ys = sumO (apO xs ys) xs.length := if_pos hk
    rw [e1, hk]
    obtain ⟨a, cap, rfl⟩ := hf
    obtain ⟨a', cap', rfl⟩ := hf'
    rw [flts_length] at *
    rw [flts_length] at *
    have CK := Lib.hid (fun w => checkPairA_any a a' xs.length ys.length cap cap' (hcap _ _ _ rfl) (hcap' _ _ _ rfl) w)
    rw [hk] at CK
    obtain ⟨n, hn⟩ : ∃ n, xs.length = n := ⟨_, rfl⟩
    have hm : ys.length = n := by omega
    have HRX := Lib.hid (fun w1 (hb : Below w.heap.size w w1) => h.below hb)
    have HRY := Lib.hid (fun w1 (hb : Below w.heap.size w w1) => h'.below hb)
    rw [hn, hm] at CK
    rw [hn, hm]
    rw [hn] at h1 HRX
    rw [hm] at HRY
    have C := Lib.hid (fun (i : Nat) (hi : i < n) (w1 : World) (b c : Nat) (hx1 : Reads w1 (.slice a n cap) (flts xs)) (hy1 : Reads w1 (.slice a' n cap') (flts ys)) => apart1_any xs ys n hn hm h1 hzx hzy (.slice a n cap) (.slice a' n cap') i b c hi w1 hx1 hy1)
    have hmax : (n : Int) ≤ 9223372036854775807 := by omega
    have L : Hid (∀ w3 : World, Below w.heap.size w w3 → w.heap.size + 1 < w3.heap.size → w3.cell? ⟨w.heap.size, 0, none⟩ = some (.slice a n cap) → w3.cell? ⟨w.heap.size + 1, 0, none⟩ = some (.slice a' n cap') →
        Calls Try.prog 30 #[.int .i64 n, .func (.func 54) #[] #[.pointer (some ⟨w.heap.size, 0, none⟩), .pointer (some ⟨w.heap.size + 1, 0, none⟩)]] w3 fun e w' =>
        ∃ v xs', e = .returned v ∧ Row w' w3.heap.size 30 v (flts xs') ∧ xs'.length = n ∧ (∀ i, i < n → IsF (xs'.getD i 0) (apO xs ys i)) ∧ Below w3.heap.size w3 w') := by
      refine Lib.hid fun w3 hb3 hlt hc hd => listOf_f64' 54 _ n (by omega) (apO xs ys) w3 enter_apart1 fun i w1 hi hb1 => ?_
      have hb31 := below_step hb3 hb1 hb3.size
      exact C.out i hi w1 _ _ (HRX.out w1 hb31) (HRY.out w1 hb31) (by rw [hb1.cell (by show w.heap.size < _; omega)]; exact hc) (by rw [hb1.cell hlt]; exact hd)
    clear e1 hk h h' hzx hzy hn hm h2 hcap hcap' C HRX HRY
    go_enter Try.func24, Try.ntmps24
    go_wp2_with fail
    refine (CK.out _).mono ?_
    rintro e w' ⟨rfl, rfl⟩
    go_wp2_with (go_at_call 30; with_reducible refine (L.out _ ?_ ?_ ?_ ?_).mono ?_)
    · exact ((Below.refl _ _).alloc (Nat.le_refl _) _).alloc (by simp) _
    · simp
    · go_simp
    · go_simp
    rintro e w3 ⟨v', fs, rfl, hr, hl, hg, hb⟩
    have S := Lib.hid (sumF_any (xs := fs) (w := w3) hr.reads (by omega) (apO xs ys) (fun i hi => hg i (by omega)))
    rw [hl] at S
    have HB : Hid (Below w.heap.size w w3) := below_step (((Below.refl _ _).alloc (Nat.le_refl _) _).alloc (by simp) _) hb (by simp; omega)
    clear hr hl hg hb
    go_wp2_with fail
    refine S.out.mono ?_
    rintro e w4 ⟨r, rfl, hr, m, rfl⟩
    have HR := Lib.hid hr
    clear hr
    go_wp2
    go_ret2
    exact ⟨_, rfl, HR.out, below_draws HB.out m⟩
  · have e1 : apR xs ys = some 0 := if_neg hk
    rw [e1]
    obtain ⟨a, cap, rfl⟩ := hf
    obtain ⟨a', cap', rfl⟩ := hf'
    rw [flts_length] at *
    rw [flts_length] at *
    have CK := Lib.hid (fun w => checkPairA_any a a' xs.length ys.length cap cap' (hcap _ _ _ rfl) (hcap' _ _ _ rfl) w)
    obtain ⟨n, hn⟩ : ∃ n, xs.length = n := ⟨_, rfl⟩
    obtain ⟨m, hm⟩ : ∃ m, ys.length = m := ⟨_, rfl⟩
    rw [hn, hm] at CK hk ⊢
    obtain ⟨K, hK⟩ : ∃ K, apK n m = K := ⟨_, rfl⟩
    rw [hK] at CK hk ⊢
    clear e1 h h' hzx hzy hn hm hcap hcap' hK
    go_enter Try.func24, Try.ntmps24
    go_wp2_with fail
    refine (CK.out _).mono ?_
    rintro e w' ⟨rfl, rfl⟩
    go_wp2
    go_ret2
    exact ⟨0, rfl, IsF.lit (by decide) (by omega), ((Below.refl _ _).alloc (Nat.le_refl _) _).alloc (by simp) _⟩

end Go.Proofs.Ytnigbjjllolgdaa
/-
  CentroidOf of both.
-/
set_option linter.unusedVariables false
set_option linter.unusedSimpArgs false
namespace Go.Proofs.Ytnigbjjllolgdaa
open Go.RowKit Flt Fast
attribute [local go_sem] run_fadd run_fsub run_fmul run_fquo run_cadd run_csub

/-- No number, or 0. -/
def zeroO : Option Nat → Bool
  | some x => FloatKind.f64.format.order x 0 == some .eq
  | none => true
theorem zeroO_cases {s : Nat} {z : Option Nat} (h : IsF s z) :
    (zeroO z = true ∧ (FloatKind.f64.format.order s 0 == some .eq) = true) ∨ (zeroO z = true ∧ FloatKind.f64.format.order s 0 = none ∧ FloatKind.f64.format.order s s = none ∧ nan FloatKind.f64.format s = true) ∨
      (zeroO z = false ∧ (FloatKind.f64.format.order s 0 == some .eq) = false ∧ FloatKind.f64.format.order s s = some .eq ∧ nan FloatKind.f64.format s = false) := by
  rcases isF_cases h with ⟨hn, rfl⟩ | ⟨hn, rfl⟩
  · exact .inr (.inl ⟨rfl, ordN_l hn, ordN_l hn, hn⟩)
  · cases ho : (FloatKind.f64.format.order s 0 == some .eq)
    · exact .inr (.inr ⟨ho, rfl, ord_eq hn hn rfl, hn⟩)
    · exact .inl ⟨ho, rfl⟩

/-- A place times its number. -/
def cenZ (xs : List Nat) (k : Nat) : Option Nat := fop .mul .f64 (some (floatOfInt .f64 (k : Int))) (wO xs k)
def cenK (xs : List Nat) : Int := if 256 < xs.length then 3 else if zeroO (sumO (wO xs) xs.length) = true then 4 else 0
def cenR (xs : List Nat) : Option Nat := if cenK xs = 0 then fop .quo .f64 (sumO (cenZ xs) xs.length) (sumO (wO xs) xs.length) else some 0

theorem enter_cen1 (args : Array Value) (w : World) : (callFunc 43 args).run Try.prog w = .ok (.enter 43 args) w := by kernel_rfl

set_option maxRecDepth 100000 in
set_option maxHeartbeats 4000000 in
theorem cen1_any (xs : List Nat) (n : Nat) (hx : xs.length = n) (hn : n ≤ 256) (hz : ∀ z ∈ xs, z < 18446744073709551616) (v : Value) (i b : Nat) (hi : i < n) (w : World) (h : Reads w v (flts xs)) (hb : w.cell? ⟨b, 0, none⟩ = some v) :
    Calls Try.prog 43 #[.int .i64 i, .pointer (some ⟨b, 0, none⟩)] w fun e w' => ∃ q, e = .returned (fval q) ∧ IsF q (cenZ xs i) ∧ Below w.heap.size w w' := by
  have hrd := fl_reads h
  obtain ⟨a, cap, rfl⟩ := fl_form h
  rw [flts_length, hx] at hrd hb
  obtain ⟨g, rfl, -, c1⟩ := hrd _ _ _ rfl i hi
  have hX := wO_isF hz (i := i) (by omega)
  have hA := fun wf => isF_fres (op := .mul) (IsF.ofInt (i : Int)) hX wf
  obtain ⟨x, hxx⟩ : ∃ x, xs.getD i 0 = x := ⟨_, rfl⟩
  rw [hxx] at c1 hA
  have hi3 : (i : Int) < (n : Int) := by omega
  have HA := Lib.hid hA
  clear h hrd hxx hX hA hz
  go_enter Try.func43, Try.ntmps43
  go_wp2
  go_ret
  exact ⟨_, rfl, HA.out _, below_draws (Below.refl _ _) _⟩

set_option maxRecDepth 100000 in
set_option maxHeartbeats 4000000 in
theorem cen_impl (xs : List Nat) (hz : ∀ z ∈ xs, z < 18446744073709551616) (v : Value) (w : World) (h : Reads w v (flts xs)) :
    Calls Try.prog 20 #[v] w (FloatTo (cenR xs) (cenK xs) w) := by
  have hcap := fl_cap h
  have hW : ∀ i, i < xs.length → IsF (xs.getD i 0) (wO xs i) := fun i hi => wO_isF hz hi
  by_cases hb : 256 < xs.length
  · have e2 : cenK xs = 3 := if_pos hb
    have e1 : cenR xs = some 0 := by unfold cenR; rw [e2]; rfl
    rw [e1, e2]
    obtain ⟨a, cap, rfl⟩ := fl_form h
    rw [flts_length] at *
    replace hcap := hcap _ _ _ rfl
    obtain ⟨n, hn⟩ : ∃ n, xs.length = n := ⟨_, rfl⟩
    rw [hn] at hcap hb ⊢
    clear e1 e2 h hW hn hz
    go_enter Try.func20, Try.ntmps20
    go_wp2
    go_ret2
    exact ⟨0, rfl, IsF.lit (by decide) (by omega), (Below.refl _ _).alloc (Nat.le_refl _) _⟩
  · have SX := Lib.hid (fun w1 (hb : Below w.heap.size w w1) => sumF_any (xs := xs) (w := w1) (h.below hb) (by omega) (wO xs) hW)
    have hK : cenK xs = if zeroO (sumO (wO xs) xs.length) = true then 4 else 0 := if_neg hb
    have hR : cenR xs = if cenK xs = 0 then fop .quo .f64 (sumO (cenZ xs) xs.length) (sumO (wO xs) xs.length) else some 0 := rfl
    have HRX := Lib.hid (fun w1 (hb : Below w.heap.size w w1) => h.below hb)
    obtain ⟨a, cap, rfl⟩ := fl_form h
    rw [flts_length] at *
    replace hcap := hcap _ _ _ rfl
    obtain ⟨n, hn⟩ : ∃ n, xs.length = n := ⟨_, rfl⟩
    have hn2 : n ≤ 256 := by omega
    rw [hn] at SX hcap HRX hK hR hb ⊢
    have C := Lib.hid (fun (i : Nat) (hi : i < n) (w1 : World) (b : Nat) (hx1 : Reads w1 (.slice a n cap) (flts xs)) => cen1_any xs n hn hn2 hz (.slice a n cap) i b hi w1 hx1)
    obtain ⟨s, hs⟩ : ∃ s, sumO (wO xs) n = s := ⟨_, rfl⟩
    rw [hs] at SX hK hR
    rw [hR, hK]
    clear h hz hW hn hs hR hK
    have SX0 := Lib.hid (fun w1 hb => (SX.out w1 hb))
    have hb0 := (Below.refl w.heap.size w).alloc (Nat.le_refl _) (.cells #[.slice a n cap] 24)
    have S0 := Lib.hid (SX.out _ hb0)
    cases hz0 : zeroO s
    · rw [show (if false = true then (4 : Int) else 0) = 0 from rfl, if_pos rfl]
      have HZ0 := Lib.hid hz0
      clear hz0
      go_enter Try.func20, Try.ntmps20
      go_wp2_with fail
      refine S0.out.mono ?_
      rintro e w2 ⟨r, rfl, hr, m, rfl⟩
      have HR := Lib.hid hr
      obtain ⟨k2, k3⟩ : (FloatKind.f64.format.order r 0 == some .eq) = false ∧ FloatKind.f64.format.order r r = some .eq := by
        rcases zeroO_cases hr with ⟨k1, k2⟩ | ⟨k1, k2, k3, k4⟩ | ⟨k1, k2, k3, k4⟩
        · rw [HZ0.out] at k1; cases k1
        · rw [HZ0.out] at k1; cases k1
        · exact ⟨k2, k3⟩
      clear hr hb0 S0 SX0
      have L : Hid (∀ w3 : World, Below w.heap.size w w3 → w.heap.size < w3.heap.size → w3.cell? ⟨w.heap.size, 0, none⟩ = some (.slice a n cap) →
          Calls Try.prog 30 #[.int .i64 n, .func (.func 43) #[] #[.pointer (some ⟨w.heap.size, 0, none⟩)]] w3 fun e w' =>
          ∃ v xs', e = .returned v ∧ Row w' w3.heap.size 30 v (flts xs') ∧ xs'.length = n ∧ (∀ i, i < n → IsF (xs'.getD i 0) (cenZ xs i)) ∧ Below w3.heap.size w3 w') := by
        refine Lib.hid fun w3 hb3 hlt hc => listOf_f64' 43 _ n (by omega) (cenZ xs) w3 enter_cen1 fun i w1 hi hb1 => ?_
        exact C.out i hi w1 _ (HRX.out w1 (below_step hb3 hb1 hb3.size)) (by rw [hb1.cell hlt]; exact hc)
      clear C HRX SX
      go_wp2_with (first | (go_at_call 42; go_in) | (go_at_call 30; with_reducible refine (L.out _ ?_ ?_ ?_).mono ?_))
      · exact below_draws ((Below.refl _ _).alloc (Nat.le_refl _) _) _
      · simp
      · go_simp
      rintro e w3 ⟨v', fs, rfl, hr, hl, hg, hb⟩
      have S := Lib.hid (sumF_any (xs := fs) (w := w3) hr.reads (by omega) (cenZ xs) (fun i hi => hg i (by omega)))
      rw [hl] at S
      have HB : Hid (Below w.heap.size w w3) := below_step (below_draws ((Below.refl _ _).alloc (Nat.le_refl _) _) _) hb (by simp)
      clear hr hl hg hb
      go_wp2_with fail
      refine S.out.mono ?_
      rintro e w4 ⟨r2, rfl, hr2, m2, rfl⟩
      have HR2 := Lib.hid hr2
      clear hr2
      go_wp2
      go_ret2
      exact ⟨_, rfl, isF_fres HR2.out HR.out _, below_draws HB.out _⟩
    · rw [show (if true = true then (4 : Int) else 0) = 4 from rfl, if_neg (by decide)]
      have HZ0 := Lib.hid hz0
      clear hz0
      go_enter Try.func20, Try.ntmps20
      go_wp2_with fail
      refine S0.out.mono ?_
      rintro e w2 ⟨r, rfl, hr, m, rfl⟩
      rcases zeroO_cases hr with ⟨k1, k2⟩ | ⟨k1, k2, k3, k4⟩ | ⟨k1, k2, k3, k4⟩
      · clear k1
        go_wp2
        go_ret2
        exact ⟨0, rfl, IsF.lit (by decide) (by omega), below_draws ((Below.refl _ _).alloc (Nat.le_refl _) _) _⟩
      · clear k1 k4
        go_wp2_with (go_at_call 42; go_in)
        go_ret2
        exact ⟨0, rfl, IsF.lit (by decide) (by omega), below_draws ((Below.refl _ _).alloc (Nat.le_refl _) _) _⟩
      · rw [HZ0.out] at k1; cases k1

theorem float0 : floatOfInt .f64 ((0 : Nat) : Int) = 0 := by decide

end Go.Proofs.Ytnigbjjllolgdaa
/-
  Hills: PeakBetween of both; neighbours on a ring.
-/
set_option linter.unusedVariables false
set_option linter.unusedSimpArgs false
namespace Go.Proofs.Ytnigbjjllolgdaa
open Go.RowKit Flt Fast
attribute [local go_sem] run_fadd run_fsub run_fmul run_fquo run_cadd run_csub

theorem rest_facts (k : Int) (n r : Nat) (hn : 0 < n) (hr : k % (n : Int) = (r : Int)) : ∃ t : Int, k.tmod (n : Int) = t ∧ -(n : Int) < t ∧ t < (n : Int) ∧ (t + (n : Int)).tmod (n : Int) = (r : Int) ∧ (t + (n : Int)) % (n : Int) = (r : Int) := by
  have hn' : (0 : Int) < (n : Int) := by omega
  have h1 : k.tmod (n : Int) < (n : Int) := Int.tmod_lt_of_pos k hn'
  have h2 : -(n : Int) < k.tmod (n : Int) := Int.lt_tmod_of_pos k hn'
  have h3 : (k.tmod (n : Int) + (n : Int)) % (n : Int) = (r : Int) := by
    rw [Int.add_emod_right, ← hr, Int.tmod_def, Int.sub_mul_emod_self_left]
  refine ⟨_, rfl, h2, h1, ?_, h3⟩
  rw [Int.tmod_eq_emod_of_nonneg (by omega)]
  exact h3

theorem restOf_any (k : Int) (n r : Nat) (hn : 0 < n) (hn2 : n ≤ 1000000) (hr : k % (n : Int) = (r : Int)) (w : World) :
    Calls Try.prog 50 #[.int .i64 k, .int .i64 n] w fun e w' => e = .returned (.int .i64 (r : Int)) ∧ w' = w := by
  obtain ⟨t, e1, h1, h2, e2, e3⟩ := rest_facts k n r hn hr
  have hz : ¬ (n : Int) = 0 := by omega
  have hz' : ¬ n = 0 := by omega
  have hb : (n : Int) ≤ 1000000 := by omega
  clear hr hn hn2
  go_enter Try.func50, Try.ntmps50
  go_wp2
  go_ret
  exact ⟨rfl, rfl⟩

/-- The place before, and the place behind, on a ring of n places. -/
def prv (n k : Nat) : Nat := if k = 0 then n - 1 else k - 1
def nxt (n k : Nat) : Nat := if k + 1 = n then 0 else k + 1
theorem prv_lt {n k : Nat} (h : k < n) : prv n k < n := by unfold prv; split <;> omega
theorem nxt_lt {n k : Nat} (h : k < n) : nxt n k < n := by unfold nxt; split <;> omega
theorem prv_rest {n k : Nat} (h : k < n) : ((k : Int) - 1) % (n : Int) = (prv n k : Int) := by
  unfold prv
  split
  · rename_i h0
    rw [← Int.add_emod_right, Int.emod_eq_of_lt (by omega) (by omega)]
    omega
  · rw [Int.emod_eq_of_lt (by omega) (by omega)]
    omega
theorem nxt_rest {n k : Nat} (h : k < n) : ((k : Int) + 1) % (n : Int) = (nxt n k : Int) := by
  unfold nxt
  split
  · rename_i h0
    rw [show (k : Int) + 1 = (n : Int) by omega, Int.emod_self]; rfl
  · rw [Int.emod_eq_of_lt (by omega) (by omega)]
    omega

theorem res_cell1 {fn : Func} {p : Tmp} {ty : TypeId} (h : fn.results = #[.cell p ty]) (tmps : Array Value) (P : Program) (w : World) {a : Addr} {v : Value} (ha : tmps.getD p undef = .pointer (some a)) (hv : (loadVar ty a).run P w = .ok v w) :
    (results fn tmps).run P w = .ok v w := by
  have ha' : tmps[p]?.getD undef = .pointer (some a) := by simpa using ha
  simp only [results, h]
  simp [Sem.run_bind, Result.andThen, ha', asAddr, hv]
theorem infoHill : (Try.prog.info? 54).map (·.size) = some 3 := by kernel_rfl

set_option maxRecDepth 100000 in
set_option maxHeartbeats 4000000 in
theorem hillAt_any (xs : List Nat) (n : Nat) (hx : xs.length = n) (hn : n ≤ 256) (k : Nat) (hk : k < n) (v : Value) (w : World) (h : Reads w v (flts xs)) :
    Calls Try.prog 37 #[v, .int .i64 k] w fun e w' => e = .returned (.agg #[.float .f64 (xs.getD (prv n k) 0), .float .f64 (xs.getD k 0), .float .f64 (xs.getD (nxt n k) 0)]) ∧ Below w.heap.size w w' := by
  have hrd := fl_reads h
  have hp := prv_lt hk
  have hq := nxt_lt hk
  have R1 := Lib.hid (fun w => restOf_any ((k : Int) - 1) n (prv n k) (by omega) (by omega) (prv_rest hk) w)
  have R2 := Lib.hid (fun w => restOf_any ((k : Int) + 1) n (nxt n k) (by omega) (by omega) (nxt_rest hk) w)
  obtain ⟨a, cap, rfl⟩ := fl_form h
  rw [flts_length, hx] at hrd ⊢
  obtain ⟨P, hP⟩ : ∃ P, prv n k = P := ⟨_, rfl⟩
  obtain ⟨Q, hQ⟩ : ∃ Q, nxt n k = Q := ⟨_, rfl⟩
  rw [hP] at hp R1 ⊢
  rw [hQ] at hq R2 ⊢
  obtain ⟨g, rfl, hgw, c1⟩ := hrd _ _ _ rfl P hp
  obtain ⟨g', e', -, c2⟩ := hrd _ _ _ rfl k hk
  simp only [Option.some.injEq, Addr.mk.injEq, and_true] at e'
  subst e'
  obtain ⟨g', e', -, c3⟩ := hrd _ _ _ rfl Q hq
  simp only [Option.some.injEq, Addr.mk.injEq, and_true] at e'
  subst e'
  obtain ⟨x, hxx⟩ : ∃ x, xs.getD P 0 = x := ⟨_, rfl⟩
  obtain ⟨y, hyy⟩ : ∃ y, xs.getD k 0 = y := ⟨_, rfl⟩
  obtain ⟨z, hzz⟩ : ∃ z, xs.getD Q 0 = z := ⟨_, rfl⟩
  rw [hxx] at c1 ⊢
  rw [hyy] at c2 ⊢
  rw [hzz] at c3 ⊢
  have i1 : (P : Int) < (n : Int) := by omega
  have i2 : (Q : Int) < (n : Int) := by omega
  have i3 : (k : Int) < (n : Int) := by omega
  have hgs : g ≠ w.heap.size := by omega
  have eW1 : IntKind.i64.wrap ((k : Int) - 1) = (k : Int) - 1 := IntWalk.i64_in _ (by omega)
  have eW2 : IntKind.i64.wrap ((k : Int) + 1) = (k : Int) + 1 := IntWalk.i64_in _ (by omega)
  clear h hrd hxx hyy hzz hP hQ hx
  go_enter Try.func37, Try.ntmps37
  go_wp2
  refine wp_region_still_tail 18 (by kernel_rfl) (by kernel_rfl) ?_
  simp only [List.take_succ_cons, List.take_zero, List.drop_succ_cons, List.drop_zero]
  change wpStill _ _ (World.drew (w.alloc (.cells #[.float .f64 0, .float .f64 0, .float .f64 0] 54))) (fun a' => wpList _ _ _ _ a' (World.drew (w.alloc (.cells #[.float .f64 0, .float .f64 0, .float .f64 0] 54)))) _ _
  have HW : Hid (∃ W, W = (w.alloc (.cells #[.float .f64 0, .float .f64 0, .float .f64 0] 54)).drew) := ⟨_, rfl⟩
  obtain ⟨W, hW⟩ := HW.out
  have d1 : W.cell? ⟨g, P, none⟩ = some (.float .f64 x) := by rw [hW]; go_simp
  have d2 : W.cell? ⟨g, k, none⟩ = some (.float .f64 y) := by rw [hW]; go_simp
  have d3 : W.cell? ⟨g, Q, none⟩ = some (.float .f64 z) := by rw [hW]; go_simp
  have a0 : W.cell? ⟨w.heap.size, 0, none⟩ = some (.float .f64 0) := by rw [hW]; go_simp
  have a1 : W.cell? ⟨w.heap.size, 1, none⟩ = some (.float .f64 0) := by rw [hW]; go_simp
  have a2 : W.cell? ⟨w.heap.size, 2, none⟩ = some (.float .f64 0) := by rw [hW]; go_simp
  have f0 : W.frozen? ⟨w.heap.size, 0, none⟩ = false := by rw [hW]; go_simp
  have f1 : W.frozen? ⟨w.heap.size, 1, none⟩ = false := by rw [hW]; go_simp
  have f2 : W.frozen? ⟨w.heap.size, 2, none⟩ = false := by rw [hW]; go_simp
  have HB : Hid (Below w.heap.size w W) := by
    have h0 := (Below.refl w.heap.size w).alloc (Nat.le_refl _) (.cells #[.float .f64 0, .float .f64 0, .float .f64 0] 54)
    rw [hW]
    exact ⟨h0.os, h0.tape, h0.output, h0.size, h0.block⟩
  have HSZ : Hid (w.heap.size < W.heap.size) := by rw [hW]; show _ < (w.alloc _).heap.size; simp
  rw [← hW]
  clear hW HW c1 c2 c3
  repeat still_step
  still_call (R1.out _)
  repeat still_step
  still_call (R2.out _)
  repeat still_step
  refine wpStill_nil ?_
  go_wp2
  (try simp only [Exit.inBlock, Exit.then])
  refine bodyPost_ret (res_cell1 rfl _ _ _ rfl (run_loadVar_mid _ _ _ _ [.float .f64 x, .float .f64 y, .float .f64 z] _ ?_ Try.underlying54 rfl infoHill)) rfl ?_
  · intro j v hv
    rcases j with _ | _ | _ | j <;> simp at hv <;> subst hv <;> go_simp
  · refine ⟨rfl, ?_⟩
    exact ((HB.out.setCell (Nat.le_refl _) _).setCell (Nat.le_refl _) _).setCell (Nat.le_refl _) _

end Go.Proofs.Ytnigbjjllolgdaa
/-
  Tops of hills: PeakBetween of both.
-/
set_option linter.unusedVariables false
set_option linter.unusedSimpArgs false
namespace Go.Proofs.Ytnigbjjllolgdaa
open Go.RowKit Flt Fast
attribute [local go_sem] run_fadd run_fsub run_fmul run_fquo run_cadd run_csub

/-- At most 1 in size. -/
def inUnit : Option Nat → Bool
  | some x => decide (x % 9223372036854775808 ≤ 4607182418800017408)
  | none => false

theorem one_num : nan FloatKind.f64.format 4607182418800017408 = false := by decide
theorem mone_num : nan FloatKind.f64.format 13830554455654793216 = false := by decide
theorem place_one : place FloatKind.f64.format 4607182418800017408 = 4607182418800017408 := by decide
theorem place_mone : place FloatKind.f64.format 13830554455654793216 = -4607182418800017408 := by decide

theorem cmp_le (a b : Int) : ((some (compare a b) : Option Ordering) == some .lt || (some (compare a b) : Option Ordering) == some .eq) = decide (a ≤ b) := by
  rcases Int.lt_trichotomy a b with h | h | h
  · rw [Int.compare_eq_lt.2 h, decide_eq_true (by omega)]; rfl
  · rw [Int.compare_eq_eq.2 h, decide_eq_true (by omega)]; rfl
  · rw [Int.compare_eq_gt.2 h, decide_eq_false (by omega)]; rfl
theorem cmp_ge (a b : Int) : ((some (compare a b) : Option Ordering) == some .gt || (some (compare a b) : Option Ordering) == some .eq) = decide (b ≤ a) := by
  rcases Int.lt_trichotomy a b with h | h | h
  · rw [Int.compare_eq_lt.2 h, decide_eq_false (by omega)]; rfl
  · rw [Int.compare_eq_eq.2 h, decide_eq_true (by omega)]; rfl
  · rw [Int.compare_eq_gt.2 h, decide_eq_true (by omega)]; rfl

theorem unit_abs {a : Nat} {z : Option Nat} (h : IsF a z) :
    (FloatKind.f64.format.order (a % 9223372036854775808) 4607182418800017408 == some .lt || FloatKind.f64.format.order (a % 9223372036854775808) 4607182418800017408 == some .eq) = inUnit z := by
  rcases isF_cases h with ⟨hn, rfl⟩ | ⟨hn, rfl⟩
  · rw [ordN_l (by rw [nan_abs]; exact hn)]; rfl
  · have hn' : nan FloatKind.f64.format (a % 9223372036854775808) = false := by rw [nan_abs]; exact hn
    rw [ord_num hn' one_num, cmp_le, place_one, plc_lo (by omega)]
    show decide _ = decide _
    congr 1
    apply propext
    omega

theorem unit_both {a : Nat} {z : Option Nat} (h : IsF a z) :
    ((FloatKind.f64.format.order a 13830554455654793216 == some .gt || FloatKind.f64.format.order a 13830554455654793216 == some .eq) && (FloatKind.f64.format.order a 4607182418800017408 == some .lt || FloatKind.f64.format.order a 4607182418800017408 == some .eq)) = inUnit z := by
  rcases isF_cases h with ⟨hn, rfl⟩ | ⟨hn, rfl⟩
  · rw [ordN_l hn, ordN_l hn]; rfl
  · have hl := h.lt
    rw [ord_num hn one_num, ord_num hn mone_num, cmp_le, cmp_ge, place_one, place_mone]
    have hp : (place FloatKind.f64.format a = (a : Int) ∧ a < 9223372036854775808) ∨ (place FloatKind.f64.format a = 9223372036854775808 - (a : Int) ∧ 9223372036854775808 ≤ a) := by
      rcases Nat.lt_or_ge a 9223372036854775808 with h1 | h1
      · exact .inl ⟨place64_lo h1, h1⟩
      · exact .inr ⟨place64_hi h1 hl, h1⟩
    show (decide _ && decide _) = decide _
    rw [← Bool.decide_and]
    congr 1
    apply propext
    rcases hp with ⟨e, h1⟩ | ⟨e, h1⟩ <;> rw [e] <;> omega

theorem zero_mod {d : Nat} (hl : d < 18446744073709551616) (h : (FloatKind.f64.format.order d 0 == some .eq) = true) : d % 9223372036854775808 = 0 := by
  have h0 : nan FloatKind.f64.format 0 = false := by decide
  have p0 : place FloatKind.f64.format 0 = 0 := by decide
  by_cases hn : nan FloatKind.f64.format d = true
  · rw [ordN_l hn] at h; cases h
  · have hn : nan FloatKind.f64.format d = false := by simpa using hn
    rw [ord_num hn h0, p0] at h
    have he : place FloatKind.f64.format d = 0 := by
      rcases Int.lt_trichotomy (place FloatKind.f64.format d) 0 with h1 | h1 | h1
      · rw [Int.compare_eq_lt.2 h1] at h; cases h
      · exact h1
      · rw [Int.compare_eq_gt.2 h1] at h; cases h
    rcases Nat.lt_or_ge d 9223372036854775808 with h1 | h1
    · have e := place64_lo h1
      have he' : place Ieee.double d = 0 := he
      omega
    · have e := place64_hi h1 hl
      have he' : place Ieee.double d = 0 := he
      omega

theorem inf_big (s : Bool) : inUnit (some (Ieee.double.write (.infinity s))) = false := by cases s <;> decide

/-- What is divided by 0 is not at most 1. -/
theorem unit_zero {d : Nat} {q : Option Nat} (hl : d < 18446744073709551616) (h : (FloatKind.f64.format.order d 0 == some .eq) = true) : inUnit (fop .quo .f64 q (some d)) = false := by
  have hm := zero_mod hl h
  cases q with
  | none => rfl
  | some x =>
    show inUnit (((Ieee.double.read x).quotient (Ieee.double.fractionBits + 2) (Ieee.double.read d)).map Ieee.double.write) = false
    have hd : Ieee.double.read d = .number (d / 9223372036854775808 % 2 == 1) 0 Ieee.double.leastPlace := by
      have e1 : d % Ieee.double.signWeight = 0 := by rw [sw64]; exact hm
      unfold Ieee.Format.read
      rw [e1, sw64]
      rfl
    rw [hd]
    generalize (d / 9223372036854775808 % 2 == 1) = t
    cases hx : Ieee.double.read x with
    | nan s u => rfl
    | infinity s => exact inf_big _
    | number s m p =>
      simp only [Ieee.Datum.quotient, ↓reduceIte]
      by_cases h0 : m = 0
      · rw [if_pos h0]; rfl
      · rw [if_neg h0]; exact inf_big _

/-- The bend, the offset and the value of a top. -/
def bendO (x y z : Option Nat) : Option Nat := fop .add .f64 (fop .sub .f64 x (fop .mul .f64 (some 4611686018427387904) y)) z
def offO (x y z : Option Nat) : Option Nat := fop .quo .f64 (fop .mul .f64 (some 4602678819172646912) (fop .sub .f64 x z)) (bendO x y z)
def topO (x y z : Option Nat) : Option Nat := fop .sub .f64 y (fop .mul .f64 (fop .mul .f64 (some 4598175219545276416) (fop .sub .f64 x z)) (offO x y z))

section
variable {a b c : Nat} {x y z : Option Nat} (ha : IsF a x) (hb : IsF b y) (hc : IsF c z)
include ha hb hc
theorem bend_isF (w3 w4 w5 : World) : IsF (fres .add .f64 (fres .sub .f64 a (fres .mul .f64 4611686018427387904 b w3) w4) c w5) (bendO x y z) :=
  isF_fres (isF_fres ha (isF_fres (IsF.lit (by decide) (by omega)) hb _) _) hc _
theorem off_isF (w1 w2 w3 w4 w5 w6 : World) : IsF (fres .quo .f64 (fres .mul .f64 4602678819172646912 (fres .sub .f64 a c w1) w2) (fres .add .f64 (fres .sub .f64 a (fres .mul .f64 4611686018427387904 b w3) w4) c w5) w6) (offO x y z) :=
  isF_fres (isF_fres (IsF.lit (by decide) (by omega)) (isF_fres ha hc _) _) (bend_isF ha hb hc _ _ _) _
theorem top_isF {o : Nat} (ho : IsF o (offO x y z)) (w1 w2 w3 w4 : World) : IsF (fres .sub .f64 b (fres .mul .f64 (fres .mul .f64 4598175219545276416 (fres .sub .f64 a c w1) w2) o w3) w4) (topO x y z) :=
  isF_fres hb (isF_fres (isF_fres (IsF.lit (by decide) (by omega)) (isF_fres ha hc _) _) ho _) _
end

set_option maxRecDepth 100000 in
set_option maxHeartbeats 4000000 in
theorem top_any (a b c : Nat) (x y z : Option Nat) (ha : IsF a x) (hb : IsF b y) (hc : IsF c z) (w : World) :
    Calls Try.prog 40 #[.agg #[.float .f64 a, .float .f64 b, .float .f64 c]] w fun e w' => ∃ o v, e = .returned (.tuple #[.float .f64 o, .float .f64 v, .bool (inUnit (offO x y z))]) ∧ IsF o (offO x y z) ∧ IsF v (topO x y z) ∧ Below w.heap.size w w' := by
  have HO := Lib.hid (fun w1 w2 w3 w4 w5 w6 => off_isF ha hb hc w1 w2 w3 w4 w5 w6)
  have HT := Lib.hid (fun o (ho : IsF o (offO x y z)) w1 w2 w3 w4 => top_isF ha hb hc ho w1 w2 w3 w4)
  have HU : ∀ w1 w2 w3 w4 w5 w6, (FloatKind.f64.format.order (fres .quo .f64 (fres .mul .f64 4602678819172646912 (fres .sub .f64 a c w1) w2) (fres .add .f64 (fres .sub .f64 a (fres .mul .f64 4611686018427387904 b w3) w4) c w5) w6 % 9223372036854775808) 4607182418800017408 == some .lt || FloatKind.f64.format.order (fres .quo .f64 (fres .mul .f64 4602678819172646912 (fres .sub .f64 a c w1) w2) (fres .add .f64 (fres .sub .f64 a (fres .mul .f64 4611686018427387904 b w3) w4) c w5) w6 % 9223372036854775808) 4607182418800017408 == some .eq) = inUnit (offO x y z) := fun w1 w2 w3 w4 w5 w6 => unit_abs (HO.out w1 w2 w3 w4 w5 w6)
  obtain ⟨u, hu⟩ : ∃ u, inUnit (offO x y z) = u := ⟨_, rfl⟩
  rw [hu] at HU ⊢
  clear ha hb hc hu
  go_enter Try.func40, Try.ntmps40
  go_wp2_with (go_at_call 55; refine (abs_any _ (fres_lt64 _ _ _ _) _).mono ?_; rintro e w' ⟨rfl, rfl⟩)
  go_ret3
  exact ⟨_, _, rfl, HO.out _ _ _ _ _ _, HT.out _ (HO.out _ _ _ _ _ _) _ _ _ _, below_draws ((Below.refl _ _).alloc (Nat.le_refl _) _) _⟩

end Go.Proofs.Ytnigbjjllolgdaa
