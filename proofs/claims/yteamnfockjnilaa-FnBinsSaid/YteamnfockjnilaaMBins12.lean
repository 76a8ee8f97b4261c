/-
  Several texts of this claim, one behind the other; each says what it holds.
-/
import Derived.Test.YteamnfockjnilaaMBins11
import Derived.Test.YteamnfockjnilaaRows
import Derived.Lib.Hide
import Derived.Deep.QuietTactic
import Derived.BigQuiet
import Derived.Deep.RegionWith
import Derived.Deep.RegionLaw
import Derived.Deep.AppendLies
import Derived.Deep.CutRange
import Derived.Deep.CutBlock
import Derived.WalkSmall
/-
  IsNear of signals that are near.
-/
set_option linter.unusedVariables false
set_option linter.unusedSimpArgs false
namespace Go.Proofs.Yteamnfockjnilaa
open Go.RowKit Flt Fast

theorem readsAtN {w : World} {a : Option Addr} {cap n : Nat} {xs : List C} (h : Reads w (.slice a n cap) (cvals xs)) : ∀ k, k < n → ∃ g, a = some ⟨g, 0, none⟩ ∧ w.cell? ⟨g, k, none⟩ = some (.complex .f64 (xs.getD k (0, 0)).1 (xs.getD k (0, 0)).2) := by
  intro k hk
  generalize hcs : cvals xs = cs at h
  cases h with
  | none a cap => omega
  | row g cap L cs hL h0 hc hm hcell => exact ⟨g, rfl, by rw [hcell k hk, ← hcs, cvals_getD (by rw [← hcs, cvals_length] at hL; omega)]⟩
theorem readsMaxN {w : World} {a : Option Addr} {cap n : Nat} {xs : List C} (h : Reads w (.slice a n cap) (cvals xs)) : n ≤ maxLen := by
  generalize cvals xs = cs at h
  cases h with
  | none a cap => exact Nat.zero_le _
  | row g cap L cs hL h0 hc hm hcell => omega

theorem has_abs {u : Nat} {q : Rat} (h : Has u q) : Has (u % 9223372036854775808) (Flt.ab q) := by
  obtain ⟨h1, rfl⟩ := h
  obtain ⟨neg, r, hr, rfl⟩ := fin_parts h1
  have hs : Ieee.double.signWeight = 9223372036854775808 := by decide
  have hr' := hr
  rw [ir64] at hr'
  have e : Ieee.double.word neg r % 9223372036854775808 = Ieee.double.word false r := by
    unfold Ieee.Format.word
    rw [hs]
    cases neg
    · simp only [Bool.false_eq_true, if_false]
      omega
    · simp only [Bool.false_eq_true, if_false, if_true]
      omega
  rw [e]
  refine ⟨fin_word _ hr, ?_⟩
  rw [fq_word _ hr, fq_word _ hr]
  have h0 := rq_nonneg r
  unfold Flt.ab
  cases neg
  · simp only [Bool.false_eq_true, if_false]
    rw [if_pos h0]
  · simp only [Bool.false_eq_true, if_false, if_true]
    split <;> grind

theorem order_le {u v : Nat} {p q : Rat} (hu : Has u p) (hv : Has v q) (h : p ≤ q) : (FloatKind.f64.format.order u v == some .lt || FloatKind.f64.format.order u v == some .eq) = true := by
  show (Ieee.double.order u v == some .lt || Ieee.double.order u v == some .eq) = true
  rw [order_q hu.1 hv.1]
  rcases Int.lt_trichotomy (rsv Ieee.double u) (rsv Ieee.double v) with k | k | k
  · rw [Int.compare_eq_lt.2 k]; rfl
  · rw [Int.compare_eq_eq.2 k]; rfl
  · have := fq_lt.2 k
    rw [hu.2, hv.2] at this
    exact absurd h (Rat.not_le.2 this)

theorem near_word {a b bd : Nat} {p q B : Rat} (ha : Has a p) (hb : Has b q) (h : Near p q B) (hB : B ≤ 1152921504606846976) (hbd : Has bd B) :
    ∃ d, d < 18446744073709551616 ∧ (∀ (P : Program) (t : TypeId) (w : World), (binOp .sub t (.float .f64 a) (.float .f64 b)).run P w = .ok (.float .f64 d) w) ∧ (FloatKind.f64.format.order (d % 9223372036854775808) bd == some .lt || FloatKind.f64.format.order (d % 9223372036854775808) bd == some .eq) = true := by
  have hs := near_size.1 h
  obtain ⟨r, h1, h2⟩ := fv_sub ha.fv hb.fv (size_1000 hs (le_1000 hB))
  obtain ⟨d, h3, h4⟩ := run_has (.inr (.inl rfl)) h1
  have hrep : Rep B := ⟨bd, hbd.1, hbd.2⟩
  refine ⟨d, h3.lt, h4, order_le (has_abs h3) hbd ?_⟩
  exact ab_le ⟨h2.le B hrep hs.1, by have := h2.ge (-B) (rep_neg hrep) (by have := hs.2; grind); grind⟩

theorem realNear_any {a b bd : Nat} {p q B : Rat} (ha : Has a p) (hb : Has b q) (h : Near p q B) (hB : B ≤ 1152921504606846976) (hbd : Has bd B) (w : World) :
    Calls Try.prog 28 #[.float .f64 a, .float .f64 b, .float .f64 bd] w fun e w' => e = .returned (.bool true) ∧ w' = w := by
  obtain ⟨d, hd, E, ho⟩ := near_word ha hb h hB hbd
  have A := Lib.hid (fun w => abs_any d hd w)
  clear ha hb h hB hbd
  go_enter Try.func28, Try.ntmps28
  go_wp2_with (go_at_call 44; refine (A.out _).mono ?_; rintro e w' ⟨rfl, rfl⟩)
  go_ret
  exact ⟨rfl, rfl⟩

/-- Two signals the numbers of which have values that are near. -/
def NearC (xs ys : List C) (B : Rat) : Prop := ∀ i, i < xs.length → ∃ p q p' q' : Rat, Has (xs.getD i (0, 0)).1 p ∧ Has (xs.getD i (0, 0)).2 q ∧ Has (ys.getD i (0, 0)).1 p' ∧ Has (ys.getD i (0, 0)).2 q' ∧ Near p p' B ∧ Near q q' B

set_option maxRecDepth 100000 in
set_option maxHeartbeats 4000000 in
theorem isNear_any {v v' : Value} {xs ys : List C} {w : World} (h : Reads w v (cvals xs)) (h' : Reads w v' (cvals ys)) (hxy : xs.length = ys.length) (hl : xs.length ≤ 256) {B : Rat} {bd : Nat} (hB : B ≤ 1152921504606846976) (hbd : Has bd B) (hn : NearC xs ys B) :
    Calls Try.prog 12 #[v, v', .float .f64 bd] w fun e w' => e = .returned (.tuple #[.bool true, .int .i64 0]) ∧ ∃ n, w' = w.drewN n := by
  obtain ⟨a, cap, rfl⟩ := h.form
  obtain ⟨a', cap', rfl⟩ := h'.form
  rw [cvals_length] at h h' ⊢
  rw [cvals_length, ← hxy]
  rw [← hxy] at h'
  obtain ⟨L, hL⟩ : ∃ L, xs.length = L := ⟨_, rfl⟩
  have HC : Hid (∀ k, k < L → ∃ g, a = some ⟨g, 0, none⟩ ∧ w.cell? ⟨g, k, none⟩ = some (.complex .f64 (xs.getD k (0, 0)).1 (xs.getD k (0, 0)).2)) := fun k hk => readsAtN h k (by omega)
  have HC' : Hid (∀ k, k < L → ∃ g, a' = some ⟨g, 0, none⟩ ∧ w.cell? ⟨g, k, none⟩ = some (.complex .f64 (ys.getD k (0, 0)).1 (ys.getD k (0, 0)).2)) := fun k hk => readsAtN h' k (by omega)
  have hmax := maxLen_int (readsMaxN h)
  have HN : Hid (∀ i, i < L → ∃ p q p' q' : Rat, Has (xs.getD i (0, 0)).1 p ∧ Has (xs.getD i (0, 0)).2 q ∧ Has (ys.getD i (0, 0)).1 p' ∧ Has (ys.getD i (0, 0)).2 q' ∧ Near p p' B ∧ Near q q' B) := fun i hi => hn i (by omega)
  rw [hL] at hmax hl ⊢
  have heq : (FloatKind.f64.format.order bd bd != some .eq) = false := by
    have := eq_has hbd hbd
    unfold bne
    rw [this]; rfl
  have HB := Lib.hid hB
  have HBD := Lib.hid hbd
  clear h h' hxy hL hn hB hbd
  go_enter Try.func12, Try.ntmps12
  go_wp2_with fail
  refine (checkPair_any a a' L cap cap' hl w).mono ?_
  rintro e w' ⟨rfl, rfl⟩
  go_wp2_with (first | go_in)
  go_loopw [20] (fun i wr => ∃ k n : Nat, i = .int .i64 k ∧ k ≤ L ∧ wr = w'.drewN n) (fun i _ => L - (intOf i).toNat)
  case atStart => exact ⟨0, 0, rfl, Nat.zero_le _, rfl⟩
  case round =>
    obtain ⟨k, n, rfl, hk, hw⟩ := hrel
    have HW := Lib.hid hw
    clear hw
    by_cases hlt : k < L
    · obtain ⟨g, rfl, c1⟩ := HC.out k hlt
      obtain ⟨g', rfl, c2⟩ := HC'.out k hlt
      obtain ⟨p, q, p', q', n1, n2, n3, n4, n5, n6⟩ := HN.out k hlt
      generalize xs.getD k (0, 0) = x at *
      generalize ys.getD k (0, 0) = y at *
      obtain ⟨x1, x2⟩ := x
      obtain ⟨y1, y2⟩ := y
      have S1 := Lib.hid (fun w => realNear_any n1 n3 n5 HB.out HBD.out w)
      have S2 := Lib.hid (fun w => realNear_any n2 n4 n6 HB.out HBD.out w)
      replace c1 : wr.cell? ⟨g, k, none⟩ = some (.complex .f64 x1 x2) := by rw [HW.out]; exact c1
      replace c2 : wr.cell? ⟨g', k, none⟩ = some (.complex .f64 y1 y2) := by rw [HW.out]; exact c2
      clear n1 n2 n3 n4 n5 n6
      go_wp2
      go_quiet ((go_at_call 28; (first | with_reducible exact Calls.quiet_of_same (S1.out _) | with_reducible exact Calls.quiet_of_same (S2.out _))))
      go_wp2
      go_roundw
      case rel => first | exact ⟨k + 1, n + nq, by go_num, by omega, by rw [HW.out, World.drewN_drewN]⟩ | ((repeat apply Exists.intro); refine ⟨?_, rfl⟩; exact ⟨k + 1, n + nq, by go_num, by omega, by rw [HW.out, World.drewN_drewN]⟩)
      case measure => simp [intOf]; omega
    · have e : k = L := by omega
      subst e
      go_wp2
      go_ret2
      exact ⟨rfl, n, HW.out⟩

end Go.Proofs.Yteamnfockjnilaa
/-
  Bytes that came in; a2At, a2Long.
-/
set_option linter.unusedVariables false
set_option linter.unusedSimpArgs false
namespace Go.Proofs.Yteamnfockjnilaa
open Go.RowKit

theorem isRow_cell {w0 w : World} {x : Addr} {len cap : Nat} {zs : List Int} (hr : IsRow .u8 w0 (some x) len cap zs) (hb : Below w0.heap.size w0 w) {k : Nat} (hk : k < len) :
    ∃ z : Int, w.cell? (x.add k) = some (.int .u8 z) ∧ 0 ≤ z ∧ z ≤ 255 := by
  rcases hr with ⟨h, -⟩ | ⟨y, h, hl, hm, hz, hc, hw⟩
  · cases h
  · obtain rfl := Option.some.inj h
    have hk' : k < zs.length := by omega
    have c := hc k hk'
    refine ⟨zs.getD k 0, ?_, ?_⟩
    · rw [hb.cell (World.block_lt_of_cell? _ _ c), c]
    · have hmem : zs.getD k 0 ∈ zs := by
        rw [List.getD_eq_getElem?_getD, List.getElem?_eq_getElem hk']
        exact List.getElem_mem hk'
      have := hw _ hmem
      simp only [Lit.wf, decide_eq_true_eq] at this
      have h1 : IntKind.u8.min = 0 := by decide
      have h2 : IntKind.u8.max = 255 := by decide
      rw [h1, h2] at this
      simpa using this

theorem isRow_len {w0 : World} {a : Option Addr} {len cap : Nat} {zs : List Int} (hr : IsRow .u8 w0 a len cap zs) : len ≤ 9223372036854775807 := by
  rcases hr with ⟨-, rfl, -⟩ | ⟨y, h, hl, hm, hz, hc, hw⟩
  · omega
  · unfold maxLen at hm; omega

theorem isRow_below {k : IntKind} {w0 w1 : World} {a : Option Addr} {len cap : Nat} {zs : List Int} (hr : IsRow k w0 a len cap zs) (hb : Below w0.heap.size w0 w1) : IsRow k w1 a len cap zs := by
  rcases hr with h | ⟨x, h, hl, hm, hz, hc, hw⟩
  · exact .inl h
  · exact .inr ⟨x, h, hl, hm, hz, fun i hi => by rw [hb.cell (World.block_lt_of_cell? _ _ (hc i hi)), hc i hi], hw⟩

/-- A number from 0 to n - 1 is returned. -/
def Upto (n : Int) (w : World) (e : Ending) (w' : World) : Prop := ∃ r : Int, 0 ≤ r ∧ r < n ∧ e = .returned (.int .i64 r) ∧ w' = w

end Go.Proofs.Yteamnfockjnilaa
/-
  The draws of the model: l00Src and what is drawn by it. Nothing is said of the numbers that are drawn but that they fit.
-/
set_option linter.unusedVariables false
set_option linter.unusedSimpArgs false
namespace Go.Proofs.Yteamnfockjnilaa
open Go.RowKit Flt

/-- In block B of the world w lies a source over the bytes (a, len, cap) that lay there in the world w0. -/
structure Src (w0 : World) (B : Nat) (a : Option Addr) (len cap : Nat) (i : Int) (w : World) : Prop where
  below : Below w0.heap.size w0 w
  new : w0.heap.size ≤ B
  code : w.cell? ⟨B, 0, none⟩ = some (.slice a len cap)
  pos : w.cell? ⟨B, 1, none⟩ = some (.int .i64 i)
  seed : ∃ s, w.cell? ⟨B, 2, none⟩ = some (.int .u64 s)
  free1 : w.frozen? ⟨B, 1, none⟩ = false
  free2 : w.frozen? ⟨B, 2, none⟩ = false
  low : 0 ≤ i

/-- A number from lo to hi is returned, and the source has gone on, by at most so many bytes. -/
def Picks (w0 : World) (B : Nat) (a : Option Addr) (len cap : Nat) (i : Int) (lo hi most : Int) (w : World) (e : Ending) (w' : World) : Prop :=
  ∃ r j, lo ≤ r ∧ r ≤ hi ∧ e = .returned (.int .i64 r) ∧ i ≤ j ∧ j ≤ i + most ∧ Src w0 B a len cap j w' ∧ w.grownBy w' (some B)

theorem block_of_cell {w : World} {B : Nat} {v : Value} {o : Nat} (h : w.cell? ⟨B, o, none⟩ = some v) : B < w.heap.size := World.block_lt_of_cell? _ _ h

/-- What the walk of 'next' leaves. -/
theorem src_step {w0 : World} {B : Nat} {a : Option Addr} {len cap : Nat} {k : Int} {w : World} (h : Src w0 B a len cap k w) (n m : Nat) (s : Int) :
    Src w0 B a len cap (k + 1) ((((w.drewN n).setCell ⟨B, 1, none⟩ (.int .i64 (k + 1))).setCell ⟨B, 2, none⟩ (.int .u64 s)).drewN m) ∧
    w.grownBy ((((w.drewN n).setCell ⟨B, 1, none⟩ (.int .i64 (k + 1))).setCell ⟨B, 2, none⟩ (.int .u64 s)).drewN m) (some B) := by
  obtain ⟨hb, hn, c0, c1, ⟨t, c2⟩, f1, f2, h0⟩ := h
  have hB := block_of_cell c0
  have d0 : (w.drewN n).cell? ⟨B, 0, none⟩ = some (.slice a len cap) := c0
  have d1 : (w.drewN n).cell? ⟨B, 1, none⟩ = some (.int .i64 k) := c1
  have d2 : (w.drewN n).cell? ⟨B, 2, none⟩ = some (.int .u64 t) := c2
  have e2 : ((w.drewN n).setCell ⟨B, 1, none⟩ (.int .i64 (k + 1))).cell? ⟨B, 2, none⟩ = some (.int .u64 t) := by
    rw [World.cell?_setCell_other (h := by simp)]; exact d2
  refine ⟨⟨?_, hn, ?_, ?_, ⟨s, ?_⟩, ?_, ?_, by omega⟩, ?_⟩
  · exact below_draws (Below.setCell (Below.setCell (below_draws hb n) (p := ⟨B, 1, none⟩) hn _) (p := ⟨B, 2, none⟩) hn _) m
  · show (((w.drewN n).setCell ⟨B, 1, none⟩ (.int .i64 (k + 1))).setCell ⟨B, 2, none⟩ (.int .u64 s)).cell? _ = _
    rw [World.cell?_setCell_other (h := by simp), World.cell?_setCell_other (h := by simp)]; exact d0
  · show (((w.drewN n).setCell ⟨B, 1, none⟩ (.int .i64 (k + 1))).setCell ⟨B, 2, none⟩ (.int .u64 s)).cell? _ = _
    rw [World.cell?_setCell_other (h := by simp), World.cell?_setCell_same (h := d1)]
  · show (((w.drewN n).setCell ⟨B, 1, none⟩ (.int .i64 (k + 1))).setCell ⟨B, 2, none⟩ (.int .u64 s)).cell? _ = _
    rw [World.cell?_setCell_same (h := e2)]
  · show (((w.drewN n).setCell ⟨B, 1, none⟩ (.int .i64 (k + 1))).setCell ⟨B, 2, none⟩ (.int .u64 s)).frozen? _ = _
    simp [f1]
  · show (((w.drewN n).setCell ⟨B, 1, none⟩ (.int .i64 (k + 1))).setCell ⟨B, 2, none⟩ (.int .u64 s)).frozen? _ = _
    simp [f2]
  · refine ⟨rfl, rfl, rfl, ?_, ?_⟩
    · show w.heap.size ≤ (((w.drewN n).setCell ⟨B, 1, none⟩ (.int .i64 (k + 1))).setCell ⟨B, 2, none⟩ (.int .u64 s)).heap.size
      simp [World.setCell]
    · intro j hj hne
      have hjB : j ≠ B := fun e => hne (by rw [e])
      show (((w.drewN n).setCell ⟨B, 1, none⟩ (.int .i64 (k + 1))).setCell ⟨B, 2, none⟩ (.int .u64 s)).heap[j]? = _
      rw [Below.heap_setCell _ _ _ _ hjB, Below.heap_setCell _ _ _ _ hjB]
      rfl

set_option maxHeartbeats 1000000 in
theorem next_in (w0 : World) (B : Nat) (x : Addr) (len cap : Nat) (zs : List Int) (hr : IsRow .u8 w0 (some x) len cap zs) (k : Nat) (hi : k < 4611686018427387904) (w : World) (h : Src w0 B (some x) len cap k w) (hl : k < len) :
    Calls Try.prog 30 #[.pointer (some ⟨B, 0, none⟩)] w (Picks w0 B (some x) len cap k 0 255 1 w) := by
  have HS := Lib.hid h
  obtain ⟨hb, hn, c0, c1, ⟨s, c2⟩, f1, f2, h0⟩ := h
  obtain ⟨z, hz, z0, z1⟩ := isRow_cell hr hb hl
  have hlen := isRow_len hr
  have hl' : (k : Int) < (len : Int) := by omega
  clear hr h0 hb
  go_enter Try.func30, Try.ntmps30
  go_wp2
  go_quiet (fail)
  go_wp2
  go_quiet (fail)
  go_wp2
  go_quiet (fail)
  go_wp2
  go_ret
  exact ⟨z, _, z0, z1, rfl, by omega, by omega, src_step HS.out _ _ _⟩

theorem and255 (n : Int) : 0 ≤ bits .and .u64 n 255 ∧ bits .and .u64 n 255 ≤ 255 := by
  have h : ∃ m : Nat, m ≤ 255 ∧ bits .and .u64 n 255 = IntKind.u64.wrap (m : Int) := by
    refine ⟨(BitVec.ofInt 64 n).toNat &&& 255, Nat.and_le_right, ?_⟩
    show IntKind.u64.wrap ((BitVec.ofInt 64 n &&& BitVec.ofInt 64 255).toNat : Int) = _
    rw [BitVec.toNat_and]
    rfl
  obtain ⟨m, hm, e⟩ := h
  rw [e, IntWalk.u64_in _ (by omega)]
  omega

set_option maxHeartbeats 1000000 in
theorem next_out (w0 : World) (B : Nat) (a : Option Addr) (len cap : Nat) (hlen : len ≤ 9223372036854775807) (k : Nat) (hi : k < 4611686018427387904) (w : World) (h : Src w0 B a len cap k w) (hl : ¬ k < len) :
    Calls Try.prog 30 #[.pointer (some ⟨B, 0, none⟩)] w (Picks w0 B a len cap k 0 255 1 w) := by
  have HS := Lib.hid h
  obtain ⟨hb, hn, c0, c1, ⟨s, c2⟩, f1, f2, h0⟩ := h
  have hl' : (len : Int) ≤ (k : Int) := by omega
  clear h0 hb
  go_enter Try.func30, Try.ntmps30
  go_wp2
  go_quiet (fail)
  go_wp2
  go_quiet (fail)
  go_wp2
  go_ret
  refine ⟨_, _, ?_, ?_, rfl, by omega, by omega, src_step HS.out _ _ _⟩
  all_goals
    rw [IntWalk.wrap64_in _ (by have := and255 (IntKind.u64.wrap (IntKind.u64.wrap (IntKind.u64.wrap (s * 6364136223846793005)) + 1442695040888963407) / 1099511627776); omega)]
    have := and255 (IntKind.u64.wrap (IntKind.u64.wrap (IntKind.u64.wrap (s * 6364136223846793005)) + 1442695040888963407) / 1099511627776)
    omega

/-- The bytes that a source reads lay in the world w0. -/
def Bytes (w0 : World) (a : Option Addr) (len cap : Nat) : Prop := ∃ zs, IsRow .u8 w0 a len cap zs

theorem next_any (w0 : World) (B : Nat) (a : Option Addr) (len cap : Nat) (hr : Bytes w0 a len cap) (i : Int) (hi : i < 4611686018427387904) (w : World) (h : Src w0 B a len cap i w) :
    Calls Try.prog 30 #[.pointer (some ⟨B, 0, none⟩)] w (Picks w0 B a len cap i 0 255 1 w) := by
  obtain ⟨zs, hr⟩ := hr
  obtain ⟨k, rfl⟩ : ∃ k : Nat, i = k := ⟨i.toNat, by have := h.low; omega⟩
  by_cases hl : k < len
  · cases a with
    | none =>
      rcases hr with ⟨-, rfl, -⟩ | ⟨x, hx, -⟩
      · omega
      · cases hx
    | some x => exact next_in w0 B x len cap zs hr k (by omega) w h hl
  · exact next_out w0 B a len cap (isRow_len hr) k (by omega) w h hl

theorem grown_trans {a b c : World} {B : Nat} (h : a.grownBy b (some B)) (k : b.grownBy c (some B)) : a.grownBy c (some B) :=
  ⟨k.os.trans h.os, k.tape.trans h.tape, k.output.trans h.output, Nat.le_trans h.size k.size, fun i hi hne => (k.block i (Nat.lt_of_lt_of_le hi h.size) hne).trans (h.block i hi hne)⟩

set_option maxHeartbeats 1000000 in
theorem pick_small (w0 : World) (B : Nat) (a : Option Addr) (len cap : Nat) (hr : Bytes w0 a len cap) (i : Int) (hi : i < 4611686018427387903) (n : Int) (hn : 1 < n) (hn' : n ≤ 200) (w : World) (h : Src w0 B a len cap i w) :
    Calls Try.prog 15 #[.pointer (some ⟨B, 0, none⟩), .int .i64 n] w (Picks w0 B a len cap i 0 (n - 1) 2 w) := by
  go_enter Try.func15, Try.ntmps15
  go_wp2_with fail
  go_at_call 30
  refine (next_any w0 B a len cap hr i (by omega) _ h).mono ?_
  rintro e w1 ⟨r, j, r0, r1, rfl, j0, j1, hs, hg⟩
  go_wp2
  go_ret
  have h1 := Int.emod_nonneg r (show n ≠ 0 by omega)
  have h2 := Int.emod_lt_of_pos r (show 0 < n by omega)
  exact ⟨_, j, h1, by omega, rfl, j0, by omega, hs, hg⟩

set_option maxHeartbeats 1000000 in
theorem pick_great (w0 : World) (B : Nat) (a : Option Addr) (len cap : Nat) (hr : Bytes w0 a len cap) (i : Int) (hi : i < 4611686018427387903) (n : Int) (hn : 200 < n) (hn' : n ≤ 4611686018427387904) (w : World) (h : Src w0 B a len cap i w) :
    Calls Try.prog 15 #[.pointer (some ⟨B, 0, none⟩), .int .i64 n] w (Picks w0 B a len cap i 0 (n - 1) 2 w) := by
  go_enter Try.func15, Try.ntmps15
  go_wp2_with fail
  go_at_call 30
  refine (next_any w0 B a len cap hr i (by omega) _ h).mono ?_
  rintro e w1 ⟨r, j, r0, r1, rfl, j0, j1, hs, hg⟩
  go_wp2_with fail
  go_at_call 30
  refine (next_any w0 B a len cap hr j (by omega) _ hs).mono ?_
  rintro e w2 ⟨r', j', r0', r1', rfl, j0', j1', hs', hg'⟩
  go_wp2
  go_ret
  have h1 := Int.emod_nonneg (r * 256 + r') (show n ≠ 0 by omega)
  have h2 := Int.emod_lt_of_pos (r * 256 + r') (show 0 < n by omega)
  exact ⟨_, j', h1, by omega, rfl, by omega, by omega, hs', grown_trans hg hg'⟩

theorem pick_any (w0 : World) (B : Nat) (a : Option Addr) (len cap : Nat) (hr : Bytes w0 a len cap) (i : Int) (hi : i < 4611686018427387903) (n : Int) (hn : 1 < n) (hn' : n ≤ 4611686018427387904) (w : World) (h : Src w0 B a len cap i w) :
    Calls Try.prog 15 #[.pointer (some ⟨B, 0, none⟩), .int .i64 n] w (Picks w0 B a len cap i 0 (n - 1) 2 w) := by
  by_cases h1 : n ≤ 200
  · exact pick_small w0 B a len cap hr i hi n hn h1 w h
  · exact pick_great w0 B a len cap hr i hi n (by omega) hn' w h

/-- A float is returned, of whatever bits, and the source has gone on. -/
def PicksF (w0 : World) (B : Nat) (a : Option Addr) (len cap : Nat) (i : Int) (most : Int) (w : World) (e : Ending) (w' : World) : Prop :=
  ∃ r j, r < 18446744073709551616 ∧ e = .returned (.float .f64 r) ∧ i ≤ j ∧ j ≤ i + most ∧ Src w0 B a len cap j w' ∧ w.grownBy w' (some B)

theorem Src.draws {w0 : World} {B : Nat} {a : Option Addr} {len cap : Nat} {i : Int} {w : World} (h : Src w0 B a len cap i w) (n : Nat) : Src w0 B a len cap i (w.drewN n) :=
  ⟨below_draws h.below n, h.new, h.code, h.pos, h.seed, h.free1, h.free2, h.low⟩
theorem grown_draws {a b : World} {row : Option Nat} (h : a.grownBy b row) (n : Nat) : a.grownBy (b.drewN n) row := ⟨h.os, h.tape, h.output, h.size, h.block⟩

theorem u64_bounds (x : Int) : 0 ≤ IntKind.u64.wrap x ∧ IntKind.u64.wrap x < 18446744073709551616 := by
  simp only [IntKind.wrap, IntKind.bits, IntKind.signed]
  simp
  omega
theorem bits_bounds (op : BinOp) (x y : Int) : 0 ≤ bits op .u64 x y ∧ bits op .u64 x y < 18446744073709551616 := by
  unfold bits
  exact u64_bounds _
theorem toNat_lt {x : Int} (h : 0 ≤ x ∧ x < 18446744073709551616) : x.toNat < 18446744073709551616 := by omega

theorem inf_neg (w : World) :
    Calls Try.prog 60 #[.int .i64 (-1)] w fun e w' => e = .returned (.float .f64 18442240474082181120) ∧ w' = w := by
  go_enter Try.func60, Try.ntmps60
  go_wp2
  go_ret
  exact ⟨rfl, rfl⟩
theorem nan_call (w : World) :
    Calls Try.prog 59 #[] w fun e w' => e = .returned (.float .f64 9221120237041090561) ∧ w' = w := by
  go_enter Try.func59, Try.ntmps59
  go_wp2
  go_ret
  exact ⟨rfl, rfl⟩
set_option maxRecDepth 100000 in
theorem copysign_zero (w : World) :
    Calls Try.prog 61 #[.float .f64 0, .float .f64 13830554455654793216] w fun e w' => e = .returned (.float .f64 9223372036854775808) ∧ w' = w := by
  go_enter Try.func61, Try.ntmps61
  go_wp2
  go_ret
  exact ⟨by kernel_rfl, rfl⟩

/-- A source that is made anew. -/
theorem src_new {w : World} {a : Option Addr} {len cap : Nat} {t : TypeId} : Src w w.heap.size a len cap 0 (w.alloc (.cells #[.slice a len cap, .int .i64 0, .int .u64 0] t)) := by
  refine ⟨(Below.refl _ _).alloc (Nat.le_refl _) _, Nat.le_refl _, ?_, ?_, ⟨0, ?_⟩, ?_, ?_, Int.le_refl _⟩ <;> simp

theorem below_of_src {w w1 w2 : World} {B : Nat} {a : Option Addr} {len cap : Nat} {i : Int} (h : Src w B a len cap i w2) : Below w.heap.size w w2 := h.below

/-- A float of whatever bits; nothing that was there has turned. -/
def AnyF (w : World) (e : Ending) (w' : World) : Prop := (∃ r, r < 18446744073709551616 ∧ e = .returned (.float .f64 r)) ∧ Below w.heap.size w w'

end Go.Proofs.Yteamnfockjnilaa
/-
  The draws of complex numbers: l01Any, A2Any; and a2At.
-/
set_option linter.unusedVariables false
set_option linter.unusedSimpArgs false
namespace Go.Proofs.Yteamnfockjnilaa
open Go.RowKit Flt

/-- A bool is returned, and the source has gone on. -/
def PicksB (w0 : World) (B : Nat) (a : Option Addr) (len cap : Nat) (i : Int) (most : Int) (w : World) (e : Ending) (w' : World) : Prop :=
  ∃ b j, e = .returned (.bool b) ∧ i ≤ j ∧ j ≤ i + most ∧ Src w0 B a len cap j w' ∧ w.grownBy w' (some B)
/-- A complex number is returned, and the source has gone on. -/
def PicksC (w0 : World) (B : Nat) (a : Option Addr) (len cap : Nat) (i : Int) (most : Int) (w : World) (e : Ending) (w' : World) : Prop :=
  ∃ x y j, x < 18446744073709551616 ∧ y < 18446744073709551616 ∧ e = .returned (.complex .f64 x y) ∧ i ≤ j ∧ j ≤ i + most ∧ Src w0 B a len cap j w' ∧ w.grownBy w' (some B)

theorem one_any (w0 : World) (B : Nat) (a : Option Addr) (len cap : Nat) (hr : Bytes w0 a len cap) (i : Int) (hi : i < 4611686018427387903) (n : Int) (hn : 1 < n) (hn' : n ≤ 4611686018427387904) (w : World) (h : Src w0 B a len cap i w) :
    Calls Try.prog 54 #[.pointer (some ⟨B, 0, none⟩), .int .i64 n] w (PicksB w0 B a len cap i 2 w) := by
  go_enter Try.func54, Try.ntmps54
  go_wp2_with fail
  refine (pick_any w0 B a len cap hr i hi n hn hn' _ h).mono ?_
  rintro e w1 ⟨r, j, r0, r1, rfl, j0, j1, hs, hg⟩
  clear hn hn' h r0 r1
  go_wp2
  go_ret
  exact ⟨_, j, rfl, j0, j1, hs, hg⟩

/-- A complex number of whatever bits; nothing that was there has turned. -/
def AnyC (w : World) (e : Ending) (w' : World) : Prop := ∃ x y, x < 18446744073709551616 ∧ y < 18446744073709551616 ∧ e = .returned (.complex .f64 x y) ∧ Below w.heap.size w w'

end Go.Proofs.Yteamnfockjnilaa
/-
  The draw of a signal: l01Signal, A2Wild.
-/
set_option linter.unusedVariables false
set_option linter.unusedSimpArgs false
namespace Go.Proofs.Yteamnfockjnilaa
open Go.RowKit Flt Fast

theorem Src.alloc {w0 : World} {B : Nat} {a : Option Addr} {len cap : Nat} {i : Int} {w : World} (h : Src w0 B a len cap i w) (o : Obj) : Src w0 B a len cap i (w.alloc o) := by
  have hB := block_of_cell h.code
  have hb : Below w.heap.size w (w.alloc o) := (Below.refl _ _).alloc (Nat.le_refl _) o
  refine ⟨h.below.alloc h.below.size o, h.new, ?_, ?_, ?_, ?_, ?_, h.low⟩
  · rw [hb.cell hB]; exact h.code
  · rw [hb.cell hB]; exact h.pos
  · obtain ⟨s, e⟩ := h.seed; exact ⟨s, by rw [hb.cell hB]; exact e⟩
  · rw [hb.frozen hB]; exact h.free1
  · rw [hb.frozen hB]; exact h.free2

theorem Src.other {w0 : World} {B : Nat} {a : Option Addr} {len cap : Nat} {i : Int} {w w' : World} {row : Option Nat} (h : Src w0 B a len cap i w) (hg : w.grownBy w' row) (hne : row ≠ some B) (hr : ∀ k, row = some k → w0.heap.size ≤ k) : Src w0 B a len cap i w' := by
  have hB := block_of_cell h.code
  have hk : w'.heap[B]? = w.heap[B]? := hg.block B hB (fun e => hne e.symm)
  have hc : ∀ j, w'.cell? ⟨B, j, none⟩ = w.cell? ⟨B, j, none⟩ := fun j => World.cell?_of_block (w := w) hk
  have hf : ∀ j, w'.frozen? ⟨B, j, none⟩ = w.frozen? ⟨B, j, none⟩ := fun j => World.frozen?_of_block (w := w) hk
  refine ⟨h.below.grown hg h.below.size hr, h.new, ?_, ?_, ?_, ?_, ?_, h.low⟩
  · rw [hc]; exact h.code
  · rw [hc]; exact h.pos
  · obtain ⟨s, e⟩ := h.seed; exact ⟨s, by rw [hc]; exact e⟩
  · rw [hf]; exact h.free1
  · rw [hf]; exact h.free2

/-- A signal of at most so many numbers has been drawn. -/
def Wild (n : Nat) (w : World) (e : Ending) (w' : World) : Prop := ∃ v xs, e = .returned v ∧ Row w' w.heap.size 27 v (cvals xs) ∧ xs.length ≤ n ∧ WfC xs ∧ Below w.heap.size w w'

theorem wfC_snoc {xs : List C} {p q : Nat} (h : WfC xs) (hp : p < 18446744073709551616) (hq : q < 18446744073709551616) : WfC (xs ++ [(p, q)]) := by
  intro u hu
  rcases List.mem_append.1 hu with h1 | h1
  · exact h u h1
  · rw [List.mem_singleton.1 h1]; exact ⟨hp, hq⟩

end Go.Proofs.Yteamnfockjnilaa
/-
  The draw of a signal of few sixteenths: l01Plain, A2Signal.
-/
set_option linter.unusedVariables false
set_option linter.unusedSimpArgs false
namespace Go.Proofs.Yteamnfockjnilaa
open Go.RowKit Flt Fast

/-- A word that is few sixteenths. -/
def Few (p : Nat) : Prop := ∃ k : Int, k.natAbs ≤ 1024 ∧ Has p ((k : Rat) / 16)
theorem Few.lt {p : Nat} (h : Few p) : p < 18446744073709551616 := by
  obtain ⟨k, -, h⟩ := h
  exact h.lt
theorem Few.zero : Few 0 := ⟨0, by decide, by
  have := has_zero
  rwa [show ((0 : Int) : Rat) / 16 = 0 by decide +kernel]⟩
/-- Numbers both parts of which are few sixteenths. -/
def FewC (xs : List C) : Prop := ∀ u ∈ xs, Few u.1 ∧ Few u.2
theorem FewC.wf {xs : List C} (h : FewC xs) : WfC xs := fun u hu => ⟨(h u hu).1.lt, (h u hu).2.lt⟩
theorem fewC_snoc {xs : List C} {p q : Nat} (h : FewC xs) (hp : Few p) (hq : Few q) : FewC (xs ++ [(p, q)]) := by
  intro u hu
  rcases List.mem_append.1 hu with h1 | h1
  · exact h u h1
  · rw [List.mem_singleton.1 h1]; exact ⟨hp, hq⟩

theorem has_sixteen : Has 4625196817309499392 16 := has_int (n := 16) (by decide) (by decide)
theorem few_of {r : Int} {q : Nat} (h0 : 0 ≤ r) (h1 : r ≤ 2048) (hq : cn .f64 q = floatBits .quo .f64 (floatOfInt .f64 (r - 1024)) 4625196817309499392) (hb : q < 2 ^ FloatKind.f64.format.width) : Few q := by
  have hF := fv_int_exact (n := r - 1024) (by omega)
  have hd : Dy 4 1024 (((r - 1024 : Int) : Rat) / 16) := ⟨r - 1024, by omega, by rw [show two 4 = 16 from rfl]; exact Rat.div_mul_cancel (by decide)⟩
  exact ⟨r - 1024, by omega, Has.of (IsF.op (IsF.ofInt _) has_sixteen.isF hq hb) (hd.fv_div (by omega) (by omega) (by decide) hF has_sixteen.fv)⟩

/-- A float of few sixteenths is returned, and the source has gone on. -/
def PicksV (w0 : World) (B : Nat) (a : Option Addr) (len cap : Nat) (i : Int) (most : Int) (w : World) (e : Ending) (w' : World) : Prop :=
  ∃ r j, Few r ∧ e = .returned (.float .f64 r) ∧ i ≤ j ∧ j ≤ i + most ∧ Src w0 B a len cap j w' ∧ w.grownBy w' (some B)

/-- A signal of at most so many numbers of few sixteenths has been drawn. -/
def Drawn16 (n : Nat) (w : World) (e : Ending) (w' : World) : Prop := ∃ v xs, e = .returned v ∧ Row w' w.heap.size 27 v (cvals xs) ∧ xs.length ≤ n ∧ FewC xs ∧ Below w.heap.size w w'

end Go.Proofs.Yteamnfockjnilaa
/-
  listOf over wide complex numbers, whatever makes them.
-/
set_option linter.unusedVariables false
set_option linter.unusedSimpArgs false
namespace Go.Proofs.Yteamnfockjnilaa
open Go.RowKit Flt Turn

end Go.Proofs.Yteamnfockjnilaa
/-
  The walks of the factors of a number.
-/
set_option linter.unusedVariables false
set_option linter.unusedSimpArgs false
namespace Go.Proofs.Yteamnfockjnilaa
open Go.RowKit

theorem tmod_nat (n k : Nat) : (n : Int).tmod (k : Int) = ((n % k : Nat) : Int) := rfl
theorem tdiv_nat (n k : Nat) : (n : Int).tdiv (k : Int) = ((n / k : Nat) : Int) := rfl

theorem info_i64 : (Try.prog.info? 2).map (fun i => (i.zero, i.size, i.bytes)) = some (some (.int .i64 0), 1, 8) := by kernel_rfl

/-- A slice that owns these naturals, each a cell. -/
def OwnsN (w : World) (B : Nat) (v : Value) (xs : List Nat) : Prop := w.ownsRow B 2 1 v xs.length (xs.map fun (x : Nat) => Value.int .i64 (x : Int))

theorem pow_len {k m n : Nat} (h : 2 ^ k * m ≤ n) (hm : 1 ≤ m) (hn : n ≤ 1024) : k ≤ 10 := by
  apply Nat.le_of_not_lt
  intro hc
  have h1 : 2 ^ 11 ≤ 2 ^ k := Nat.pow_le_pow_right (by omega) hc
  have h2 : (2 : Nat) ^ 11 = 2048 := by decide
  have h3 : 2 ^ k * 1 ≤ 2 ^ k * m := Nat.mul_le_mul_left _ hm
  omega

/-- What a round of the factors does. -/
theorem fac_step {n m p : Nat} {xs : List Nat} (hm : 1 < m) (hp : Fac.Least m p) (hF : ∀ ys, Fac.Facs m ys → Fac.Facs n (xs ++ ys)) (hl : 2 ^ xs.length * m ≤ n) :
    (∀ ys, Fac.Facs (m / p) ys → Fac.Facs n ((xs ++ [p]) ++ ys)) ∧ 2 ^ (xs ++ [p]).length * (m / p) ≤ n ∧ 1 ≤ m / p ∧ m / p < m := by
  have hle := hp.le hm
  have h2 := hp.two
  have e : m / p * p = m := Nat.div_mul_cancel (Nat.dvd_of_mod_eq_zero hp.dvd)
  have h1 : 1 ≤ m / p := (Nat.le_div_iff_mul_le (by omega)).2 (by omega)
  have h3 : m / p * 2 ≤ m / p * p := Nat.mul_le_mul_left _ h2
  refine ⟨fun ys h => ?_, ?_, h1, by omega⟩
  · rw [List.append_assoc]
    exact hF _ (.more hm hp h)
  · simp only [List.length_append, List.length_cons, List.length_nil, Nat.zero_add, Nat.pow_succ]
    have : 2 ^ xs.length * (m / p * 2) ≤ 2 ^ xs.length * m := Nat.mul_le_mul_left _ (by omega)
    rw [Nat.mul_assoc, Nat.mul_comm 2 (m / p)]
    omega

/-- What FactorsOf returns: the factors, or an error. -/
def FR (n : Int) (zs : List Int) (c : Int) : Prop :=
  (∃ m : Nat, n = m ∧ 1 ≤ m ∧ m ≤ 1024 ∧ c = 0 ∧ ∃ xs, zs = xs.map (fun (x : Nat) => (x : Int)) ∧ Fac.Facs m xs) ∨ (¬ (1 ≤ n ∧ n ≤ 1024) ∧ zs = [] ∧ c = 2)

theorem FR.unique {n c c' : Int} {zs zs' : List Int} (h : FR n zs c) (h' : FR n zs' c') : zs = zs' ∧ c = c' := by
  rcases h with ⟨m, rfl, h1, h2, rfl, xs, rfl, hf⟩ | ⟨h1, rfl, rfl⟩
  · rcases h' with ⟨m', e, _, _, rfl, xs', rfl, hf'⟩ | ⟨h3, _⟩
    · obtain rfl : m = m' := by omega
      rw [hf.unique hf']; exact ⟨rfl, rfl⟩
    · omega
  · rcases h' with ⟨m', e, _, _, _⟩ | ⟨_, rfl, rfl⟩
    · omega
    · exact ⟨rfl, rfl⟩

theorem FR.len {n c : Int} {zs : List Int} (h : FR n zs c) : zs.length ≤ 10 := by
  rcases h with ⟨m, rfl, h1, h2, rfl, xs, rfl, hf⟩ | ⟨h1, rfl, rfl⟩
  · have := hf.len_le h2; simpa using this
  · simp

theorem OwnsN.row {w : World} {B : Nat} {v : Value} {xs : List Nat} (h : OwnsN w B v xs) : Row w B 2 v (ints (xs.map fun (x : Nat) => (x : Int))) := by
  unfold OwnsN at h
  unfold Row ints
  rw [List.length_map, List.length_map, List.map_map]
  exact h

end Go.Proofs.Yteamnfockjnilaa
/-
  The walk of the model's fast transform.
-/
set_option linter.unusedVariables false
set_option linter.unusedSimpArgs false
namespace Go.Proofs.Yteamnfockjnilaa
open Go.RowKit Flt Turn Fast
attribute [local go_sem] run_fadd run_fsub run_fmul run_fquo run_cadd run_csub

/-- Rows of different types lie in different blocks. -/
theorem Row.apart {w : World} {B B' : Nat} {e e' : TypeId} {v v' : Value} {cs cs' : List Value} (h : Row w B e v cs) (h' : Row w B' e' v' cs') (hne : e ≠ e') : v.ownBlock = none ∨ v.ownBlock ≠ v'.ownBlock := by
  rcases h.2 with ⟨rfl, _⟩ | ⟨g, cap, cur, rfl, _, hg, _⟩
  · exact .inl rfl
  · right
    rcases h'.2 with ⟨rfl, _⟩ | ⟨g', cap', cur', rfl, _, hg', _⟩
    · simp [Value.ownBlock]
    · intro e2
      simp only [Value.ownBlock, Option.some.injEq] at e2
      subst e2
      rw [hg] at hg'
      simp only [Option.some.injEq, Obj.cells.injEq] at hg'
      exact hne hg'.2.1

theorem info_rows : (Try.prog.info? 24).map (fun i => (i.zero, i.size, i.bytes)) = some (some (.slice none 0 0), 1, 24) := by kernel_rfl

/-- The first i numbers of a part. -/
def partN (xs : List C) (r p i : Nat) : List C := (List.range i).map fun t => xs.getD (r + t * p) (0, 0)
theorem partN_length (xs : List C) (r p i : Nat) : (partN xs r p i).length = i := by simp [partN]
theorem partN_succ (xs : List C) (r p i : Nat) : partN xs r p (i + 1) = partN xs r p i ++ [xs.getD (r + i * p) (0, 0)] := by simp [partN, List.range_succ]
theorem partN_wf {xs : List C} {r p i m : Nat} (hw : WfC xs) (hn : xs.length = p * m) (hr : r < p) (hi : i ≤ m) : WfC (partN xs r p i) := by
  intro q hq
  obtain ⟨t, ht, rfl⟩ := List.mem_map.1 hq
  have ht := List.mem_range.1 ht
  refine hw _ (getD_memC ?_)
  rw [hn]
  have : (t + 1) * p ≤ m * p := Nat.mul_le_mul_right _ (by omega)
  rw [Nat.add_mul, Nat.one_mul, Nat.mul_comm m p] at this
  omega
theorem part_every {xs : List C} {r p m : Nat} (hp : 0 < p) (hn : xs.length = p * m) (hr : r < p) : zsOf (partN xs r p m) = every (zsOf xs) r p := by
  have hl : (every (zsOf xs) r p).length = m := every_length hp (by rw [zsOf_length, hn]) hr
  unfold every at hl ⊢
  rw [List.length_map, List.length_range] at hl
  rw [hl]
  unfold zsOf partN
  rw [List.map_map]
  apply List.map_congr_left
  intro t ht
  have ht := List.mem_range.1 ht
  have hlt : r + t * p < xs.length := by
    rw [hn]
    have : (t + 1) * p ≤ m * p := Nat.mul_le_mul_right _ (by omega)
    rw [Nat.add_mul, Nat.one_mul, Nat.mul_comm m p] at this
    omega
  exact (zsOf_getD hlt).symm

/-- What the fast transform returns. -/
def FastR (xs : List C) (w : World) (e : Ending) (w' : World) : Prop :=
  ∃ v ys, e = .returned v ∧ Row w' w.heap.size 27 v (cvals ys) ∧ WfC ys ∧ Fast (zsOf xs) (zsOf ys) ∧ Below w.heap.size w w'

theorem row_one {w : World} {B : Nat} {e : TypeId} {v : Value} {cs : List Value} (h : Row w B e v cs) : v.oneCell' = true := by
  rcases h.2 with ⟨rfl, _⟩ | ⟨g, cap, cur, rfl, _⟩ <;> rfl

/-- A row that is not empty, as the walk reads it. -/
theorem Row.get {w : World} {B : Nat} {e : TypeId} {v : Value} {ys : List C} {m : Nat} (h : Row w B e v (cvals ys)) (hl : ys.length = m) (hm : 0 < m) :
    ∃ g cap, v = .slice (some ⟨g, 0, none⟩) m cap ∧ m ≤ cap ∧ g < w.heap.size ∧ ∀ j, j < m → w.cell? ⟨g, j, none⟩ = some (.complex .f64 (ys.getD j (0, 0)).1 (ys.getD j (0, 0)).2) := by
  have h' := h
  have hl' : (cvals ys).length = m := by rw [cvals_length, hl]
  rcases h.shape with ⟨a, cap, rfl, e⟩ | ⟨g, cap, rfl, h0, _, hg, hc, _⟩
  · rw [e] at hl'; simp at hl'; omega
  · rw [hl'] at hc h' ⊢
    exact ⟨g, cap, rfl, hc, hg, fun j hj => by rw [h'.cellAt hj, cvals_getD (by omega)]⟩

/-- A row of whatever values that is not empty. -/
theorem Row.getV {w : World} {B : Nat} {e : TypeId} {v : Value} {cs : List Value} {m : Nat} (h : Row w B e v cs) (hl : cs.length = m) (hm : 0 < m) :
    ∃ g cap, v = .slice (some ⟨g, 0, none⟩) m cap ∧ m ≤ cap ∧ g < w.heap.size ∧ ∀ j, j < m → w.cell? ⟨g, j, none⟩ = some (cs.getD j undef) := by
  have h' := h
  rcases h.shape with ⟨a, cap, rfl, e⟩ | ⟨g, cap, rfl, h0, _, hg, hc, _⟩
  · rw [e] at hl; simp at hl; omega
  · rw [hl] at hc h' ⊢
    exact ⟨g, cap, rfl, hc, hg, fun j hj => h'.cellAt hj⟩

theorem Row.heap {w w' : World} {B : Nat} {e : TypeId} {v : Value} {cs : List Value} (h : Row w B e v cs) (e2 : w'.heap = w.heap) : Row w' B e v cs := by
  unfold Row World.ownsRow at *
  rw [e2]
  exact h

/-- What the second loop fills. -/
structure Outs (W wr : World) (n m p k : Nat) (zy : Nat → List Z) (os : List C) : Prop where
  len : os.length = n
  row : Row wr W.heap.size 27 (.slice (some ⟨W.heap.size, 0, none⟩) n n) (cvals os)
  wf : WfC os
  good : ∀ i, i < n → i % m < k → (zsOf os).getD i z0 = outP n p zy (i % m) (i / m)
  below : Below W.heap.size W wr

theorem Outs.all {W wr : World} {n m p : Nat} {zy : Nat → List Z} {os : List C} (h : Outs W wr n m p m zy os) (hm : 0 < m) (hd : n / p = m) : zsOf os = joinP n p zy := by
  apply List.ext_getElem (by rw [zsOf_length, h.len, joinP_length])
  intro i h1 h2
  rw [joinP_length] at h2
  have e := h.good i h2 (Nat.mod_lt _ hm)
  have e2 := joinP_getD (p := p) (ys := zy) h2
  rw [hd] at e2
  rw [← e2] at e
  simpa [List.getD, h1, joinP_length, h2] using e

theorem wfC_snoc2 {xs : List C} {p q : Nat} (h : WfC xs) (hp : p < 18446744073709551616) (hq : q < 18446744073709551616) : WfC (xs ++ [(p, q)]) := by
  intro u hu
  rcases List.mem_append.1 hu with h1 | h1
  · exact h u h1
  · rw [List.mem_singleton.1 h1]; exact ⟨hp, hq⟩

/-- The terms of a round. -/
structure Terms (W wr : World) (n k r : Nat) (zy : Nat → List Z) (v : Value) (ts : List C) : Prop where
  len : ts.length = r
  row : Row wr W.heap.size 27 v (cvals ts)
  wf : WfC ts
  good : ∀ i, i < r → (zsOf ts).getD i z0 = term n zy k i
  below : Below W.heap.size W wr

/-- One term more. -/
theorem Terms.next {W wt w2 : World} {n k s nn : Nat} {zy : Nat → List Z} {v v' : Value} {ts : List C} {c d : Nat} {o : Obj} (h : Terms W wt n k s zy v ts) (hown : w2.ownsRow W.heap.size 27 1 v' (s + 1) (cvals ts ++ [.complex .f64 c d]))
    (hgr : ((wt.drewN nn).alloc o).grownBy w2 v.ownBlock) (hcd : IsC (c, d) (term n zy k s)) : Terms W w2 n k (s + 1) zy v' (ts ++ [(c, d)]) := by
  have hl : (cvals ts).length = s := by rw [cvals_length, h.len]
  have hlt := (h.row.alloc o).lt
  refine ⟨by rw [List.length_append, h.len]; rfl, ?_, wfC_snoc2 h.wf hcd.re.lt hcd.im.lt, fun i hi => ?_, ?_⟩
  · show w2.ownsRow _ _ _ _ _ _
    rw [cvals_snoc, List.length_append, hl]
    exact hown
  · have hlz : (zsOf ts).length = s := by rw [zsOf_length, h.len]
    have e : zsOf (ts ++ [(c, d)]) = zsOf ts ++ [zOf (c, d)] := by simp [zsOf]
    rw [e]
    rcases Nat.lt_or_eq_of_le (Nat.le_of_lt_succ hi) with h1 | h1
    · rw [show (zsOf ts ++ [zOf (c, d)]).getD i z0 = (zsOf ts).getD i z0 by simp [List.getD, List.getElem?_append_left, hlz, h1]]
      exact h.good i h1
    · subst h1
      rw [show (zsOf ts ++ [zOf (c, d)]).getD i z0 = zOf (c, d) by simp [List.getD, ← hlz]]
      unfold zOf
      rw [hcd.re.cn, hcd.im.cn]
  · exact (below_draws h.below nn).alloc h.below.size o |>.grown hgr (by have := h.below.size; show _ ≤ (wt.alloc o).heap.size; simp; omega) (fun b e => (hlt b e).1)

/-- What the first loop gathers: the transforms of the parts. -/
structure Parts (w wr : World) (xs : List C) (p r : Nat) (v6 : Value) (vs : List Value) (ys : Nat → List C) : Prop where
  len : vs.length = r
  row : Row wr w.heap.size 24 v6 vs
  each : ∀ i, i < r → Row wr w.heap.size 27 (vs.getD i undef) (cvals (ys i)) ∧ WfC (ys i) ∧ Fast (every (zsOf xs) i p) (zsOf (ys i))
  below : Below w.heap.size w wr

/-- The parts stay while new blocks are made. -/
theorem Parts.below' {w wr wq : World} {xs : List C} {p r : Nat} {v6 : Value} {vs : List Value} {ys : Nat → List C} (h : Parts w wr xs p r v6 vs ys) (hb : Below wr.heap.size wr wq) : Parts w wq xs p r v6 vs ys :=
  ⟨h.len, h.row.below hb (fun k hk => (h.row.lt k hk).2), fun i hi => ⟨(h.each i hi).1.below hb (fun k hk => ((h.each i hi).1.lt k hk).2), (h.each i hi).2⟩, h.below.trans (hb.mono h.below.size)⟩

/-- One part more. -/
theorem Parts.next {w w2 w3 : World} {xs : List C} {p r B2 : Nat} {v6 v6' v' : Value} {vs : List Value} {ys : Nat → List C} {y : List C} (h : Parts w w2 xs p r v6 vs ys)
    (hv : Row w2 B2 27 v' (cvals y)) (hB2 : w.heap.size ≤ B2) (hw : WfC y) (hf : Fast (every (zsOf xs) r p) (zsOf y)) (hr6 : Row w3 w.heap.size 24 v6' (vs ++ [v'])) (hg : w2.grownBy w3 v6.ownBlock) :
    Parts w w3 xs p (r + 1) v6' (vs ++ [v']) (fun i => if i = r then y else ys i) := by
  have ne : (27 : TypeId) ≠ 24 := by decide
  refine ⟨by simp [h.len], hr6, fun i hi => ?_, h.below.grown hg h.below.size (fun b e => (h.row.lt b e).1)⟩
  by_cases hir : i = r
  · subst hir
    rw [if_pos rfl, show (vs ++ [v']).getD i undef = v' by simp [List.getD, ← h.len]]
    exact ⟨(hv.base hB2).kept hg (hv.apart h.row ne), hw, hf⟩
  · rw [if_neg hir, show (vs ++ [v']).getD i undef = vs.getD i undef by simp [List.getD, List.getElem?_append_left, h.len, show i < r by omega]]
    obtain ⟨a, b⟩ := h.each i (by omega)
    exact ⟨a.kept hg (a.apart h.row ne), b⟩

/-- What has been filled of a column. -/
structure OutsQ (W wr : World) (n m p k q : Nat) (zy : Nat → List Z) (os : List C) : Prop where
  len : os.length = n
  row : Row wr W.heap.size 27 (.slice (some ⟨W.heap.size, 0, none⟩) n n) (cvals os)
  wf : WfC os
  good : ∀ i, i < n → (i % m < k ∨ i % m = k ∧ i / m < q) → (zsOf os).getD i z0 = outP n p zy (i % m) (i / m)
  below : Below W.heap.size W wr

theorem Outs.start {W wr wq : World} {n m p k : Nat} {zy : Nat → List Z} {os : List C} (h : Outs W wr n m p k zy os) (hb : Below wr.heap.size wr wq) : OutsQ W wq n m p k 0 zy os :=
  ⟨h.len, h.row.below hb (fun j hj => (h.row.lt j hj).2), h.wf, fun i hi hc => h.good i hi (hc.resolve_right (fun e => Nat.not_lt_zero _ e.2)), h.below.trans (hb.mono h.below.size)⟩

theorem OutsQ.draws {W wr : World} {n m p k q : Nat} {zy : Nat → List Z} {os : List C} (h : OutsQ W wr n m p k q zy os) (nn : Nat) : OutsQ W (wr.drewN nn) n m p k q zy os :=
  ⟨h.len, h.row.drewN nn, h.wf, h.good, below_draws h.below nn⟩

theorem OutsQ.done {W wr : World} {n m p k : Nat} {zy : Nat → List Z} {os : List C} (h : OutsQ W wr n m p k p zy os) (hn : n = p * m) (hm : 0 < m) : Outs W wr n m p (k + 1) zy os :=
  ⟨h.len, h.row, h.wf, fun i hi hc => h.good i hi (by
    have : i / m < p := Nat.div_lt_of_lt_mul (by rw [Nat.mul_comm]; omega)
    omega), h.below⟩

theorem OutsQ.next {W wr : World} {n m p k q : Nat} {zy : Nat → List Z} {os : List C} {c d : Nat} (h : OutsQ W wr n m p k q zy os) (hk : k < m) (hi : k + q * m < n) (hcd : IsC (c, d) (outP n p zy k q)) :
    OutsQ W (wr.setCell ⟨W.heap.size, k + q * m, none⟩ (.complex .f64 c d)) n m p k (q + 1) zy (os.set (k + q * m) (c, d)) := by
  have hS := h.row.set (k + q * m) (.complex .f64 c d)
  have hm : 0 < m := by omega
  have e1 : (k + q * m) % m = k := by rw [Nat.add_mul_mod_self_right, Nat.mod_eq_of_lt hk]
  have e2 : (k + q * m) / m = q := by rw [Nat.add_mul_div_right _ _ hm, Nat.div_eq_of_lt hk, Nat.zero_add]
  refine ⟨by rw [List.length_set, h.len], ?_, fun u hu => ?_, fun i hi' hc => ?_, h.below.setCell (p := ⟨W.heap.size, k + q * m, none⟩) (Nat.le_refl _) _⟩
  · have : cvals (os.set (k + q * m) (c, d)) = (cvals os).set (k + q * m) (.complex .f64 c d) := by simp [cvals, cval, List.map_set]
    rw [this]; exact hS.1
  · rcases List.mem_or_eq_of_mem_set hu with h1 | rfl
    · exact h.wf u h1
    · exact ⟨hcd.re.lt, hcd.im.lt⟩
  · have ez : zsOf (os.set (k + q * m) (c, d)) = (zsOf os).set (k + q * m) (zOf (c, d)) := by simp [zsOf, List.map_set]
    rw [ez]
    by_cases he : k + q * m = i
    · subst he
      rw [e1, e2]
      rw [show ((zsOf os).set (k + q * m) (zOf (c, d))).getD (k + q * m) z0 = zOf (c, d) by simp [List.getD, zsOf_length, h.len, hi]]
      unfold zOf
      rw [hcd.re.cn, hcd.im.cn]
    · rw [show ((zsOf os).set (k + q * m) (zOf (c, d))).getD i z0 = (zsOf os).getD i z0 by simp [List.getD, he]]
      refine h.good i hi' ?_
      rcases hc with h1 | ⟨h1, h2⟩
      · exact .inl h1
      · refine .inr ⟨h1, ?_⟩
        have : i / m ≠ q := fun e => he (by rw [← e, ← h1, Nat.mul_comm]; exact Nat.mod_add_div i m)
        omega

/-- The row of the terms stays while a number of the result is written. -/
theorem Row.far {w : World} {B g j : Nat} {e : TypeId} {v u : Value} {cs : List Value} (h : Row w B e v cs) (hg : g < B) : Row (w.setCell ⟨g, j, none⟩ u) B e v cs := by
  refine ⟨h.1, ?_⟩
  · rcases h.2 with hn | ⟨g', cap, cur, rfl, hb, hc, r⟩
    · exact .inl hn
    · refine .inr ⟨g', cap, cur, rfl, hb, ?_, r⟩
      rw [Below.heap_setCell _ _ _ _ (by show g' ≠ g; omega)]
      exact hc

theorem one_single (a b : Nat) : ∀ u ∈ [Value.complex .f64 a b], u.oneCell' = true := by intro u hu; simp at hu; subst hu; rfl

end Go.Proofs.Yteamnfockjnilaa
/-
  What a call leaves that may fill one cache: blocks below B, but for the cache, stay.
-/
set_option linter.unusedVariables false
set_option linter.unusedSimpArgs false
namespace Go.Proofs.Yteamnfockjnilaa
open Go.RowKit Flt Turn Fast

structure Keeps (B b : Nat) (w w' : World) : Prop where
  os : w'.os = w.os
  tape : w'.tape = w.tape
  output : w'.output = w.output
  size : w.heap.size ≤ w'.heap.size
  block : ∀ k, k < B → k ≠ b → w'.heap[k]? = w.heap[k]?

section
variable {B b : Nat} {w w1 w2 : World}
theorem Keeps.refl (B b : Nat) (w : World) : Keeps B b w w := ⟨rfl, rfl, rfl, Nat.le_refl _, fun _ _ _ => rfl⟩
theorem Keeps.trans (h : Keeps B b w w1) (k : Keeps B b w1 w2) : Keeps B b w w2 :=
  ⟨k.os.trans h.os, k.tape.trans h.tape, k.output.trans h.output, Nat.le_trans h.size k.size, fun i hi hb => (k.block i hi hb).trans (h.block i hi hb)⟩
theorem Keeps.mono {B' : Nat} (h : Keeps B b w w1) (hB : B' ≤ B) : Keeps B' b w w1 := ⟨h.os, h.tape, h.output, h.size, fun k hk hb => h.block k (Nat.lt_of_lt_of_le hk hB) hb⟩
theorem Keeps.of_below (h : Below B w w1) : Keeps B b w w1 := ⟨h.os, h.tape, h.output, h.size, fun k hk _ => h.block k hk⟩
theorem Keeps.of_grown (h : w.grownBy w1 (some b)) : Keeps w.heap.size b w w1 := ⟨h.os, h.tape, h.output, h.size, fun k hk hb => h.block k hk (by simpa using hb)⟩
theorem Keeps.below (h : Keeps B b w w1) (k : Below w1.heap.size w1 w2) (hB : B ≤ w1.heap.size) : Keeps B b w w2 := h.trans (.of_below (k.mono hB))
theorem Keeps.grown (h : Keeps B b w w1) (k : w1.grownBy w2 (some b)) (hB : B ≤ w1.heap.size) : Keeps B b w w2 := h.trans ((Keeps.of_grown k).mono hB)
theorem Keeps.keeps (h : Keeps B b w w1) (k : Keeps w1.heap.size b w1 w2) (hB : B ≤ w1.heap.size) : Keeps B b w w2 := h.trans (k.mono hB)
theorem Keeps.draws (h : Keeps B b w w1) (n : Nat) : Keeps B b w (w1.drewN n) := ⟨h.os, h.tape, h.output, h.size, h.block⟩
theorem Keeps.alloc (h : Keeps B b w w1) (hB : B ≤ w1.heap.size) (o : Obj) : Keeps B b w (w1.alloc o) := h.trans (.of_below ((Below.refl _ _).alloc hB o))
theorem Keeps.setCell (h : Keeps B b w w1) {p : Addr} (hp : B ≤ p.block) (u : Value) : Keeps B b w (w1.setCell p u) := h.trans (.of_below ((Below.refl _ _).setCell hp u))
theorem Keeps.cell (h : Keeps B b w w1) {p : Addr} (hp : p.block < B) (hb : p.block ≠ b) : w1.cell? p = w.cell? p := World.cell?_of_block (w := w) (h.block p.block hp hb)
theorem Keeps.frozen (h : Keeps B b w w1) {p : Addr} (hp : p.block < B) (hb : p.block ≠ b) : w1.frozen? p = w.frozen? p := World.frozen?_of_block (w := w) (h.block p.block hp hb)

/-- A row is no cache. -/
theorem Row.notCache {B c : Nat} {e : TypeId} {v : Value} {cs : List Value} (h : Row w B e v cs) (hc : Cache w b c) : v.ownBlock ≠ some b := by
  intro e1
  obtain ⟨es, clock, hb, _⟩ := hc
  rcases h.2 with ⟨rfl, _⟩ | ⟨g, cap, cur, rfl, _, hg, _⟩
  · cases e1
  · simp only [Value.ownBlock, Option.some.injEq] at e1
    subst e1
    rw [hb] at hg
    cases hg
theorem Row.keeps {B' : Nat} {e : TypeId} {v : Value} {cs : List Value} (h : Row w B' e v cs) (hk : Keeps B b w w1) (hv : ∀ k, v.ownBlock = some k → k < B) (hb : v.ownBlock ≠ some b) : Row w1 B' e v cs := by
  refine ⟨h.1, ?_⟩
  rcases h.2 with hn | ⟨g, cap, cur, rfl, hbb, hgg, rest⟩
  · exact .inl hn
  · refine .inr ⟨g, cap, cur, rfl, hbb, ?_, rest⟩
    rw [hk.block g (hv g (by simp [Value.ownBlock])) (fun e => hb (by rw [← e]; rfl))]
    exact hgg
theorem Row.grownK {B' : Nat} {e : TypeId} {v : Value} {cs : List Value} {c : Nat} (h : Row w B' e v cs) (hc : Cache w b c) (hk : w.grownBy w1 (some b)) : Row w1 B' e v cs :=
  h.keeps (Keeps.of_grown hk) (fun k e => (h.lt k e).2) (h.notCache hc)
theorem Cache.below {c : Nat} (h : Cache w b c) (hb : Below w.heap.size w w1) : Cache w1 b c := h.kept (grown_of_below hb) (by simp)
theorem cell_notCache {p : Addr} {c : Nat} {v : Value} (h : w.cell? p = some v) (hc : Cache w b c) : p.block ≠ b := by
  intro e
  obtain ⟨es, clock, hb, _⟩ := hc
  unfold World.cell? at h
  rw [e, hb] at h
  cases h
end

theorem readsAt' {w : World} {v : Value} {xs : List C} (h : Reads w v (cvals xs)) : ∀ a n cap, v = .slice a n cap → ∀ k, k < n → ∃ g, a = some ⟨g, 0, none⟩ ∧ g < w.heap.size ∧ w.cell? ⟨g, k, none⟩ = some (.complex .f64 (xs.getD k (0, 0)).1 (xs.getD k (0, 0)).2) := by
  intro a n cap e k hk
  generalize hcs : cvals xs = cs at h
  cases h with
  | none a' cap' => simp only [Value.slice.injEq] at e; omega
  | row g cap' L cs hL h0 hc hm hcell =>
    simp only [Value.slice.injEq] at e
    obtain ⟨rfl, rfl, rfl⟩ := e
    have c := hcell k hk
    rw [← hcs, cvals_getD (by rw [← hcs, cvals_length] at hL; omega)] at c
    exact ⟨g, rfl, World.block_lt_of_cell? _ _ c, c⟩

/-- The shape of what is read. -/
theorem Reads.form' {w : World} {v : Value} {cs : List Value} (h : Reads w v cs) : ∃ a cap, v = .slice a cs.length cap := by
  cases h with
  | none a cap => exact ⟨a, cap, rfl⟩
  | row g cap L cs hL => subst hL; exact ⟨_, cap, rfl⟩

end Go.Proofs.Yteamnfockjnilaa
/-
  BoundOf of the program: exact for signals of few sixteenths.
-/
set_option linter.unusedVariables false
set_option linter.unusedSimpArgs false
namespace Go.Proofs.Yteamnfockjnilaa
open Go.RowKit Flt Fast

/-- The sizes of the parts of the first k numbers. -/
def sizeN (xs : List C) (i : Nat) : Nat := if i % 2 = 0 then (xs.getD (i / 2) (0, 0)).1 % 9223372036854775808 else (xs.getD (i / 2) (0, 0)).2 % 9223372036854775808
def sizesN (xs : List C) (k : Nat) : List Nat := (List.range (2 * k)).map (sizeN xs)
theorem sizesN_length (xs : List C) (k : Nat) : (sizesN xs k).length = 2 * k := by simp [sizesN]
theorem sizesN_succ (xs : List C) (k : Nat) : sizesN xs (k + 1) = sizesN xs k ++ [(xs.getD k (0, 0)).1 % 9223372036854775808, (xs.getD k (0, 0)).2 % 9223372036854775808] := by
  unfold sizesN
  rw [show 2 * (k + 1) = 2 * k + 1 + 1 by omega, List.range_succ, List.range_succ, List.map_append, List.map_append, List.append_assoc]
  congr 1
  simp only [List.map_cons, List.map_nil, List.cons_append, List.nil_append]
  have e1 : sizeN xs (2 * k) = (xs.getD k (0, 0)).1 % 9223372036854775808 := by
    unfold sizeN; rw [if_pos (by omega), show 2 * k / 2 = k by omega]
  have e2 : sizeN xs (2 * k + 1) = (xs.getD k (0, 0)).2 % 9223372036854775808 := by
    unfold sizeN; rw [if_neg (by omega), show (2 * k + 1) / 2 = k by omega]
  rw [e1, e2]
theorem sizesN_getD {xs : List C} {k i : Nat} (hi : i < 2 * k) : (sizesN xs k).getD i 0 = sizeN xs i := by simp [sizesN, List.getD, hi]

/-- Values of the parts of signals of few sixteenths. -/
def qC (u : C) : Q2 := (fq u.1, fq u.2)
def xQ (xs : List C) (j : Nat) : Q2 := qC (xs.getD j (0, 0))
theorem Few.has {p : Nat} (h : Few p) : Has p (fq p) := by
  obtain ⟨k, -, h⟩ := h
  exact ⟨h.1, rfl⟩
theorem Few.dy {p : Nat} (h : Few p) : Dy 4 1024 (fq p) := by
  obtain ⟨k, hk, h⟩ := h
  exact ⟨k, hk, by rw [h.2, show two 4 = 16 from rfl]; exact Rat.div_mul_cancel (by decide)⟩
theorem dy_ab {e K : Nat} {q : Rat} (h : Dy e K q) : Dy e K (Flt.ab q) := by
  unfold Flt.ab
  split
  · exact h
  · exact h.neg
theorem FewC.at {xs : List C} (h : FewC xs) {j : Nat} (hj : j < xs.length) : Few (xs.getD j (0, 0)).1 ∧ Few (xs.getD j (0, 0)).2 := h _ (getD_memC hj)

/-- The sum of the sizes. -/
def sumS (xs : List C) : Rat := psum (fun j => nrm (xQ xs j)) xs.length
def pS (xs : List C) (i : Nat) : Rat := if i % 2 = 0 then Flt.ab (xQ xs (i / 2)).1 else Flt.ab (xQ xs (i / 2)).2
theorem psum_pS (xs : List C) (k : Nat) : psum (pS xs) (2 * k) = psum (fun j => nrm (xQ xs j)) k := by
  induction k with
  | zero => rfl
  | succ k ih =>
    rw [show 2 * (k + 1) = 2 * k + 1 + 1 by omega, psum_succ, psum_succ, psum_succ, ih]
    have e1 : pS xs (2 * k) = Flt.ab (xQ xs k).1 := by unfold pS; rw [if_pos (by omega), show 2 * k / 2 = k by omega]
    have e2 : pS xs (2 * k + 1) = Flt.ab (xQ xs k).2 := by unfold pS; rw [if_neg (by omega), show (2 * k + 1) / 2 = k by omega]
    rw [e1, e2]
    unfold nrm
    grind
theorem few_size {xs : List C} (h : FewC xs) {i : Nat} (hi : i < 2 * xs.length) : Has (sizeN xs i) (pS xs i) ∧ Dy 4 1024 (pS xs i) := by
  have hf := h.at (show i / 2 < xs.length by omega)
  unfold sizeN pS xQ qC
  split
  · exact ⟨has_abs hf.1.has, dy_ab hf.1.dy⟩
  · exact ⟨has_abs hf.2.has, dy_ab hf.2.dy⟩
theorem sumS_dy {xs : List C} (h : FewC xs) : Dy 4 (2 * xs.length * 1024) (sumS xs) := by
  unfold sumS
  rw [← psum_pS]
  exact psum_dy fun i hi => (few_size h hi).2

theorem has_bound : Has 4769312005385355264 68719476736 := has_int (n := 68719476736) (by decide) (by decide)

/-- The bound of a signal of few sixteenths, exactly. -/
def BndR (xs : List C) (w : World) (e : Ending) (w' : World) : Prop := ∃ u, e = .returned (.tuple #[.float .f64 u, .int .i64 0]) ∧ Has u (sumS xs / 68719476736) ∧ Below w.heap.size w w'

end Go.Proofs.Yteamnfockjnilaa
