import Derived.Test.YtdefhmpmgcahpaaDoorRow
import Derived.Test.YtdefhmpmgcahpaaDoorMPlanTeL21
import Derived.RangeFuncNested
import Derived.RangeFuncBound
import Derived.RangeFuncCalls
import Derived.RangeFuncLeaves
import Derived.Shelf.Abstract
import Derived.Shelf.RegionOpen
import Derived.WalkKit
import Derived.OwnWalkIn
import Derived.TacticsInMore
import Derived.LoopNIn
import Derived.LoopIn
import Derived.IntWalk
/-
  Ranges over functions: what is kept but for one block; marks (written by genbwd.py, from CnvI and RcP).
-/
set_option linter.unusedVariables false
set_option linter.unusedSimpArgs false
namespace Go.Proofs.YtdefhmpmgcahpaaDoor
open Go.RowKit Go.Shelf
attribute [local go_sem] Oper.semAt_some

theorem wide_fn (k : Nat) : Fence.wide.fn k = True := rfl
theorem wide_depth : Fence.wide.depth.isSome = false := rfl
theorem wide_round : Fence.wide.round = none := rfl
theorem wide_fnR (l k : Nat) : (Fence.wide.inRound l).fn k = True := rfl
theorem wide_depthR (l : Nat) : (Fence.wide.inRound l).depth.isSome = false := rfl

/-- Whatever lay below n, but for block B, lies as it lay. -/
structure KeptBut (n B : Nat) (W W' : World) : Prop where
  os : W'.os = W.os
  tape : W'.tape = W.tape
  output : W'.output = W.output
  size : W.heap.size ≤ W'.heap.size
  block : ∀ k, k < n → k ≠ B → W'.heap[k]? = W.heap[k]?
theorem KeptBut.refl (n B : Nat) (W : World) : KeptBut n B W W := ⟨rfl, rfl, rfl, Nat.le_refl _, fun _ _ _ => rfl⟩
theorem KeptBut.trans {n B : Nat} {X Y Z : World} (h : KeptBut n B X Y) (k : KeptBut n B Y Z) : KeptBut n B X Z :=
  ⟨k.os.trans h.os, k.tape.trans h.tape, k.output.trans h.output, Nat.le_trans h.size k.size, fun b h1 h2 => (k.block b h1 h2).trans (h.block b h1 h2)⟩
theorem KeptBut.of_below {n B : Nat} {W W' : World} (h : Below W.heap.size W W') (hn : n ≤ W.heap.size) : KeptBut n B W W' :=
  ⟨h.os, h.tape, h.output, h.size, fun b h1 _ => h.block b (by omega)⟩
theorem KeptBut.cell {n B : Nat} {W W' : World} (h : KeptBut n B W W') {b o : Nat} (h1 : b < n) (h2 : b ≠ B) : W'.cell? ⟨b, o, none⟩ = W.cell? ⟨b, o, none⟩ := by
  simp [World.cell?, h.block b h1 h2]
theorem KeptBut.putObj {n B : Nat} (W : World) (l : Nat) (o : Obj) (h : n ≤ l) : KeptBut n B W (W.putObj l o) :=
  ⟨rfl, rfl, rfl, by simp, fun k hk _ => World.putObj_heap_other (by omega)⟩
theorem grown_of_below {W W' : World} (h : Below W.heap.size W W') : W.grownBy W' none := ⟨h.os, h.tape, h.output, h.size, fun k hk _ => h.block k hk⟩

/-- Marks of ranges over functions: blocks from n on. -/
def Marks (n : Nat) (w : World) (ds : List Deferred) : Prop :=
  ∃ Ds : List Nat, ds = Ds.map (fun D => { target := .collected D, args := #[] }) ∧ Ds.Nodup ∧ ∀ D ∈ Ds, n ≤ D ∧ w.heap[D]? = some (.deferred (some []))
theorem Marks.nil (n : Nat) (w : World) : Marks n w [] := ⟨[], rfl, List.nodup_nil, fun D h => by cases h⟩
theorem Marks.lt {n : Nat} {w : World} {ds : List Deferred} (h : Marks n w ds) : ∃ Ds : List Nat, ds = Ds.map (fun D => { target := .collected D, args := #[] }) ∧ Ds.Nodup ∧ ∀ D ∈ Ds, n ≤ D ∧ D < w.heap.size ∧ w.heap[D]? = some (.deferred (some [])) := by
  obtain ⟨Ds, e, hn, h⟩ := h
  exact ⟨Ds, e, hn, fun D hD => ⟨(h D hD).1, (Array.getElem?_eq_some_iff.1 (h D hD).2).1, (h D hD).2⟩⟩
theorem Marks.cons {n D : Nat} {w W : World} {ds : List Deferred} (h : Marks n w ds) (hk : ∀ (k : Nat) (o : Obj), w.heap[k]? = some o → o.isCells = false → W.heap[k]? = some o) (hD : w.heap.size ≤ D) (hn : n ≤ D) (hb : W.heap[D]? = some (.deferred (some []))) :
    Marks n W ({ target := .collected D, args := #[] } :: ds) := by
  obtain ⟨Ds, e, hnd, h⟩ := h.lt
  refine ⟨D :: Ds, by simp [e], List.nodup_cons.2 ⟨fun hm => by have := (h D hm).2.1; omega, hnd⟩, fun k hk' => ?_⟩
  rcases List.mem_cons.1 hk' with rfl | hk'
  · exact ⟨hn, hb⟩
  · exact ⟨(h k hk').1, hk k _ (h k hk').2.2 rfl⟩
theorem Marks.kept {n : Nat} {w W : World} {ds : List Deferred} (h : Marks n w ds) (hk : ∀ (k : Nat) (o : Obj), w.heap[k]? = some o → o.isCells = false → W.heap[k]? = some o) : Marks n W ds := by
  obtain ⟨Ds, e, hnd, h⟩ := h
  exact ⟨Ds, e, hnd, fun D hD => ⟨(h D hD).1, hk D _ (h D hD).2 rfl⟩⟩

/-- The marks' blocks are shut; all that is cells lies as it lay. -/
structure Shut (n : Nat) (w w' : World) : Prop where
  os : w'.os = w.os
  tape : w'.tape = w.tape
  output : w'.output = w.output
  size : w'.heap.size = w.heap.size
  low : ∀ k, k < n → w'.heap[k]? = w.heap[k]?
  cells : ∀ (k : Nat) (o : Obj), w.heap[k]? = some o → o.isCells = true → w'.heap[k]? = some o
theorem Shut.refl (n : Nat) (w : World) : Shut n w w := ⟨rfl, rfl, rfl, rfl, fun _ _ => rfl, fun _ _ h _ => h⟩
theorem Shut.row {n B e : Nat} {w w' : World} {v : Value} {cs : List Value} (hs : Shut n w w') (h : Row w B e v cs) : Row w' B e v cs := by
  refine ⟨h.1, ?_⟩
  rcases h.2 with hn | ⟨g, cap, cur, rfl, hb, hg, rest⟩
  · exact .inl hn
  · exact .inr ⟨g, cap, cur, rfl, hb, hs.cells g _ hg rfl, rest⟩
theorem Shut.below {n : Nat} {w0 w w' : World} (hs : Shut n w w') (hn : w0.heap.size ≤ n) (h : Below w0.heap.size w0 w) : Below w0.heap.size w0 w' :=
  ⟨hs.os.trans h.os, hs.tape.trans h.tape, hs.output.trans h.output, by rw [hs.size]; exact h.size, fun k hk => (hs.low k (by omega)).trans (h.block k hk)⟩

/-- A function leaves by its marks. -/
theorem leaves_marks {F : Fence} {m n : Nat} {P : Program} {fn : Func} {tmps : Array Value} {R : Ending → World → Prop} (w : World) (ds : List Deferred) (h : Marks n w ds)
    (hR : ∀ w', Shut n w w' → LeavesIn F m P fn tmps R [] .returning w') : LeavesInM F m P fn tmps R ds .returning w := by
  obtain ⟨Ds, rfl, hnd, h⟩ := h
  suffices H : ∀ (Ds : List Nat) (w1 : World), Ds.Nodup → Shut n w w1 → (∀ D ∈ Ds, n ≤ D ∧ w1.heap[D]? = some (.deferred (some []))) → LeavesInM F m P fn tmps R (Ds.map (fun D => { target := .collected D, args := #[] })) .returning w1 from H Ds w hnd (Shut.refl _ _) h
  intro Ds
  induction Ds with
  | nil => exact fun w1 _ hs _ => hR w1 hs
  | cons D Ds ih =>
    intro w1 hnd hs h
    obtain ⟨hD, hnd⟩ := List.nodup_cons.1 hnd
    have hb := (h D (by simp)).2
    refine ⟨by simp, .inl ⟨D, _, rfl, run_takeDeferred hb, ih _ hnd ⟨hs.os, hs.tape, hs.output, by simp; exact hs.size, fun k hk => ?_, fun k o hk hc => ?_⟩ fun D' hD' => ?_⟩⟩
    · rw [World.putObj_heap_other (by have := (h D (by simp)).1; omega)]; exact hs.low k hk
    · have hw := hs.cells k o hk hc
      rw [World.putObj_heap_other (fun e => by subst e; rw [hw] at hb; cases hb; cases hc)]; exact hw
    · have := h D' (by simp [hD'])
      exact ⟨this.1, (World.putObj_heap_other (fun e => hD (by rw [← e]; exact hD'))).trans this.2⟩

theorem Boxed.drewN {W : World} {B : Nat} {t : TypeId} {v : Value} (h : Boxed W B t v) (d : Nat) : Boxed (W.drewN d) B t v := h
theorem KeptBut.drewN {n B : Nat} {X W : World} (h : KeptBut n B X W) (d : Nat) : KeptBut n B X (W.drewN d) := ⟨h.os, h.tape, h.output, h.size, h.block⟩
theorem KeptBut.setCell {n B : Nat} {X W : World} (h : KeptBut n B X W) (b o : Nat) (v : Value) (hb : b = B ∨ n ≤ b) : KeptBut n B X (W.setCell ⟨b, o, none⟩ v) := by
  have hs : (W.setCell ⟨b, o, none⟩ v).heap.size = W.heap.size := by simp
  exact ⟨h.os, h.tape, h.output, by rw [hs]; exact h.size, fun k h1 h2 => (Below.heap_setCell _ _ _ k (by show k ≠ b; rcases hb with rfl | hb <;> omega)).trans (h.block k h1 h2)⟩
theorem KeptBut.grown {n B : Nat} {X W W' : World} {row : Option Nat} (h : KeptBut n B X W) (hg : W.grownBy W' row) (hr : ∀ r, row = some r → n ≤ r) (hn : n ≤ W.heap.size) : KeptBut n B X W' :=
  ⟨hg.os.trans h.os, hg.tape.trans h.tape, hg.output.trans h.output, Nat.le_trans h.size hg.size, fun k h1 h2 => (hg.block k (by omega) (fun e => by have := hr k e.symm; omega)).trans (h.block k h1 h2)⟩
/-- Four blocks that are laid one after the other. -/
theorem laid4 (w : World) (a b c d : Obj) {N : Nat} (hN : w.heap.size = N) {W : World} (hW : (((w.alloc a).alloc b).alloc c).alloc d = W) :
    W.heap.size = N + 4 ∧ W.heap[N]? = some a ∧ W.heap[N + 1]? = some b ∧ W.heap[N + 2]? = some c ∧ W.heap[N + 3]? = some d ∧ Below w.heap.size w W := by
  subst hN; subst hW
  have up : ∀ (W : World) (o : Obj) (k : Nat) (x : Obj), W.heap[k]? = some x → (W.alloc o).heap[k]? = some x := fun W o k x h => (Below.heap_alloc W o k (Array.getElem?_eq_some_iff.1 h).1).trans h
  have n0 := World.alloc_heap_new w a
  have n1 := World.alloc_heap_new (w.alloc a) b
  have n2 := World.alloc_heap_new ((w.alloc a).alloc b) c
  have n3 := World.alloc_heap_new (((w.alloc a).alloc b).alloc c) d
  simp only [World.size_alloc] at n1 n2 n3
  refine ⟨by simp, up _ _ _ _ (up _ _ _ _ (up _ _ _ _ n0)), up _ _ _ _ (up _ _ _ _ n1), up _ _ _ _ n2, n3, (((((Below.refl _ w).alloc (Nat.le_refl _) _).alloc (by simp) _).alloc (by simp; omega) _).alloc (by simp; omega) _)⟩

theorem Row.keptBut {n B e b : Nat} {w w' : World} {v : Value} {cs : List Value} (h : Row w b e v cs) (hk : KeptBut n B w w') (hv : ∀ k, v.ownBlock = some k → k < n ∧ k ≠ B) : Row w' b e v cs := by
  refine ⟨h.1, ?_⟩
  rcases h.2 with hn | ⟨g, cap, cur, rfl, hbb, hgg, rest⟩
  · exact .inl hn
  · refine .inr ⟨g, cap, cur, rfl, hbb, ?_, rest⟩
    obtain ⟨h1, h2⟩ := hv g (by simp [Value.ownBlock])
    rw [hk.block g h1 h2]
    exact hgg


end Go.Proofs.YtdefhmpmgcahpaaDoor
