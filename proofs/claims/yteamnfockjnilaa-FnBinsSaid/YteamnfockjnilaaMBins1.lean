/-
  Several texts of this claim, one behind the other; each says what it holds.
-/
import Derived.WalkKit
import Derived.WalkSpells
import Derived.WalkLawsBesides
import Derived.Deep.Draws
import Derived.Lib.Hide
import Derived.Deep.QuietTactic
import Derived.BigQuiet
import Derived.RangeFuncWrites
import Derived.RangeFuncNested
import Derived.RangeFuncBound
import Derived.RangeFuncCalls
import Derived.RangeFuncLeaves
import Derived.Shelf.Abstract
import Derived.Shelf.RegionOpen
import Derived.OwnWalkIn
import Derived.TacticsInMore
import Derived.LoopNIn
import Derived.LoopIn
import Derived.IntWalk
/-
  Words that the walks of this seat share.
-/
set_option linter.unusedVariables false
set_option linter.unusedSimpArgs false
namespace Go.Proofs.Yteamnfockjnilaa
open Go.RowKit

/-- A slice of integers that came in: nil, or a row of cells. -/
def IsRow (k : IntKind) (w : World) (a : Option Addr) (len cap : Nat) (zs : List Int) : Prop :=
  (a = none ∧ len = 0 ∧ cap = 0 ∧ zs = []) ∨
  ∃ x, a = some x ∧ len ≤ cap ∧ cap ≤ maxLen ∧ zs.length = cap ∧ (∀ i, i < zs.length → w.cell? (x.add i) = some (.int k (zs.getD i 0))) ∧ ∀ n ∈ zs, (Lit.int k n).wf = true


theorem below_draws {B : Nat} {a w : World} (h : Below B a w) (n : Nat) : Below B a (w.drewN n) := ⟨h.os, h.tape, h.output, h.size, h.block⟩

end Go.Proofs.Yteamnfockjnilaa
/-
  Slices of one-cell elements that the call itself has made.
-/
set_option linter.unusedVariables false
set_option linter.unusedSimpArgs false
namespace Go.Proofs.Yteamnfockjnilaa
open Go.RowKit

/-- A slice that owns these values, each a cell. -/
def Row (w : World) (B : Nat) (e : TypeId) (v : Value) (cs : List Value) : Prop := w.ownsRow B e 1 v cs.length cs

section
variable {w w' : World} {B : Nat} {e : TypeId} {v : Value} {cs : List Value} {a : Option Addr} {g L cap j : Nat}

theorem Row.len (h : Row w B e (.slice a L cap) cs) : cs.length = L := by
  rcases h.2 with ⟨e, e'⟩ | ⟨g, cap, cur, e, _⟩
  · simp only [Value.slice.injEq] at e; omega
  · simp only [Value.slice.injEq] at e; exact e.2.1.symm

theorem Row.cellAt (h : Row w B e (.slice (some ⟨g, 0, none⟩) L cap) cs) (hj : j < L) : w.cell? ⟨g, j, none⟩ = some (cs.getD j undef) := by
  have hl := h.len
  subst hl
  rw [World.ownsRow.cellAt h j (by omega)]
  simp [List.getD, hj]

theorem Row.frozenAt (h : Row w B e (.slice (some ⟨g, 0, none⟩) L cap) cs) (j : Nat) : w.frozen? ⟨g, j, none⟩ = false := by
  have hl := h.len
  subst hl
  exact World.ownsRow.frozenAt h j

theorem Row.set (h : Row w B e (.slice (some ⟨g, 0, none⟩) L cap) cs) (j : Nat) (u : Value) :
    Row (w.setCell ⟨g, j, none⟩ u) B e (.slice (some ⟨g, 0, none⟩) L cap) (cs.set j u) ∧ w.grownBy (w.setCell ⟨g, j, none⟩ u) (some g) := by
  have hl := h.len
  subst hl
  have := World.ownsRow.stored h j u
  unfold Row
  rw [List.length_set]
  exact this

theorem Row.kept {row : Option Nat} (h : Row w B e v cs) (hg : w.grownBy w' row) (hne : v.ownBlock = none ∨ v.ownBlock ≠ row) : Row w' B e v cs := World.ownsRow.kept h hg hne
theorem Row.alloc (h : Row w B e v cs) (o : Obj) : Row (w.alloc o) B e v cs := World.ownsRow.alloc h o
theorem Row.drewN (h : Row w B e v cs) (n : Nat) : Row (w.drewN n) B e v cs := h

/-- What was there stays, behind whatever leaves the blocks below B as they were, if the row lies below. -/
theorem Row.below {B' : Nat} (h : Row w B e v cs) (hb : Below B' w w') (hv : ∀ k, v.ownBlock = some k → k < B') : Row w' B e v cs := by
  refine ⟨h.1, ?_⟩
  rcases h.2 with hn | ⟨g, cap, cur, rfl, hbb, hgg, rest⟩
  · exact .inl hn
  · refine .inr ⟨g, cap, cur, rfl, hbb, ?_, rest⟩
    rw [hb.block g (hv g (by simp [Value.ownBlock]))]
    exact hgg

theorem Row.lt (h : Row w B e v cs) : ∀ k, v.ownBlock = some k → B ≤ k ∧ k < w.heap.size := World.ownsRow.lt h

/-- The two forms of such a slice. -/
theorem Row.shape (h : Row w B e v cs) :
    (∃ a cap, v = .slice a 0 cap ∧ cs = []) ∨ ∃ g cap, v = .slice (some ⟨g, 0, none⟩) cs.length cap ∧ 0 < cs.length ∧ B ≤ g ∧ g < w.heap.size ∧ cs.length ≤ cap ∧ cap ≤ maxLen := by
  by_cases h0 : cs = []
  · subst h0
    rcases h.2 with ⟨e, _⟩ | ⟨g, cap, cur, e, _⟩
    · exact .inl ⟨none, 0, e, rfl⟩
    · exact .inl ⟨_, cap, e, rfl⟩
  · have hp : 0 < cs.length := List.length_pos_iff.2 h0
    rcases h.2 with ⟨_, e⟩ | ⟨g, cap, cur, e, hb, hg, hnc, hcm, _⟩
    · omega
    · subst e
      exact .inr ⟨g, cap, rfl, hp, hb, (Array.getElem?_eq_some_iff.1 hg).1, hnc, hcm⟩

end

theorem maxLen_int {n : Nat} (h : n ≤ maxLen) : (n : Int) ≤ 9223372036854775807 := by
  have := h
  simp only [maxLen] at this
  omega

/-- A slice as the walk reads it: nothing in it, or a row whose cells can be read. -/
inductive Reads (w : World) : Value → List Value → Prop
  | none (a : Option Addr) (cap : Nat) : Reads w (.slice a 0 cap) []
  | row (g cap L : Nat) (cs : List Value) (hL : cs.length = L) (h0 : 0 < L) (hc : L ≤ cap) (hm : cap ≤ maxLen) (h : ∀ j, j < L → w.cell? ⟨g, j, Option.none⟩ = some (cs.getD j undef)) : Reads w (.slice (some ⟨g, 0, Option.none⟩) L cap) cs

theorem Row.reads {w : World} {B : Nat} {e : TypeId} {v : Value} {cs : List Value} (h : Row w B e v cs) : Reads w v cs := by
  have h' := h
  rcases h.shape with ⟨a, cap, rfl, rfl⟩ | ⟨g, cap, rfl, h0, _, _, h1, h2⟩
  · exact .none a cap
  · exact .row g cap _ cs rfl h0 h1 h2 (fun j hj => h'.cellAt hj)

theorem Reads.drewN {w : World} {v : Value} {cs : List Value} (h : Reads w v cs) (n : Nat) : Reads (w.drewN n) v cs := by
  cases h with
  | none a cap => exact .none a cap
  | row g cap L cs hL h0 hc hm hh => exact .row g cap L cs hL h0 hc hm hh

theorem getD_map {α : Type} (f : α → Value) (xs : List α) (d : α) {j : Nat} (h : j < xs.length) : (xs.map f).getD j undef = f (xs.getD j d) := by
  simp [List.getD, h]

theorem addr_lit (g j : Nat) : (⟨g, 0, none⟩ : Addr).add j = ⟨g, j, none⟩ := by unfold Addr.add; split <;> simp_all
theorem addr_block (x : Addr) (j : Nat) : (x.add j).block = x.block := by unfold Addr.add; split <;> rfl

end Go.Proofs.Yteamnfockjnilaa
/-
  A range over a function whose rounds come in a told order: the body may know which one comes next.
-/
set_option linter.unusedVariables false
set_option linter.unusedSimpArgs false
namespace Go.Proofs.Yteamnfockjnilaa
open Go Go.RowKit

/-- What comes: states, the steps with what yield is handed, and silent steps. -/
structure Told (σ α : Type) where
  encs : α → Array Value
  step : σ → α → σ → Prop
  silent : σ → σ → Prop
  start : σ
  last : σ

/-- An iterator hands yield what is told, in the told order, to its end or until a round says that it is enough. -/
def Tells {σ α : Type} (F : Fence) (n : Nat) (P : Program) (g : Nat) (lb : Array Value) (T : Told σ α) (Kp : World → World → Prop) (w : World) : Prop :=
  ∀ (l : Nat) (J Jx : σ → World → Prop) (W : World), Below w.heap.size w W → AbidesFrom W.heap.size J → AbidesFrom W.heap.size Jx →
    (∀ s s' W1, J s W1 → T.silent s s' → J s' W1) →
    (∀ s x s' W1, J s W1 → T.step s x s' → YieldAt F (n - 1) P l (T.encs x) W1 fun e W' =>
      (e = .returned (.bool true) ∧ J s' W' ∧ Kp W1 W') ∨ (e = .returned (.bool false) ∧ Jx s' W')) →
    J T.start W →
    CallsIn F n P g (#[.func (.yield l) #[] #[]] ++ lb) W fun e W' => (∃ v, e = .returned v) ∧ (J T.last W' ∨ ∃ s, Jx s W')

/-- How a round's body may be left. -/
def LeavesAt {σ : Type} (B : Nat) (Kp : World → World → Prop) (I : σ → World → Prop) (Ix : Code → σ → World → Prop) (s : σ) (W : World) : Exit → Act → World → Prop
  | .normal, _, W' => KeepsFrom B W W' ∧ Kp W W' ∧ I s W'
  | .panic _, _, _ => False
  | .outgrown, _, _ => False
  | .ret, _, W' => KeepsFrom B W W' ∧ Ix .ret s W'
  | .exit id, _, W' => KeepsFrom B W W' ∧ Ix (.exit id) s W'
  | .goto t, _, W' => KeepsFrom B W W' ∧ Ix (.goto t) s W'

section
variable {F : Fence} {n : Nat} {P : Program} {σ α : Type}

/-- The law: a loop over such an iterator, in a function of its own (no round of another loop). -/
theorem wpIn_range_told {g : Operand} {ps : Array Tmp} {assign body : Code} {Q : Exit → Act → World → Prop} {a : Act} {w w0 : World} {gf : Nat} {lb : Array Value} {T : Told σ α} {Kp : World → World → Prop}
    (hro : F.round = none) (h1 : 1 ≤ n) (hg : a.eval g = .func (.func gf) #[] lb) (hFg : F.fn gf) (eg : ∀ args w, (callFunc gf args).run P w = .ok (.enter gf args) w)
    (hT : Tells F (n - 1) P gf lb T Kp w0) (hb0 : Below w0.heap.size w0 w)
    (hKt : ∀ {A B C : World}, Kp A B → Kp B C → Kp A C) (hKb : ∀ (W : World) (l : Nat) (o o' : Obj), w.heap.size ≤ l → W.heap[l]? = some o → o.isCells = false → o.isWalk = false → Kp W (W.putObj l o'))
    (hps : ∀ x, (T.encs x).size = ps.size)
    (I : σ → World → Prop) (Ix : Code → σ → World → Prop) (hI : OwnFrom w.heap.size I) (hIx : ∀ c, OwnFrom w.heap.size (Ix c)) (hs : ∀ s s' W, I s W → T.silent s s' → I s' W) (h0 : I T.start w) (a₁ : α → Act)
    (hassign : ∀ (l : Nat) (x : α) (W : World) (K : Act → World → Prop), K (a₁ x) W →
      assign.wpIn (F.inRound l) (n - 1 - 1) P (Exit.then K (fun _ _ _ => False)) { tmps := (ps.zip (T.encs x)).foldl (fun t (p, v) => t.setIfInBounds p v) a.tmps, defers := [] } W)
    (hbody : ∀ (l : Nat) (s s' : σ) (x : α) (W : World), I s W → T.step s x s' → body.wpIn (F.inRound l) (n - 1 - 1) P (LeavesAt w.heap.size Kp I Ix s' W) (a₁ x) W)
    (hdone : ∀ (D : Nat) (W : World), w.heap.size ≤ D → I T.last W → W.heap[D]? = some (.deferred (some [])) → Q .normal { a with defers := { target := .collected D, args := #[] } :: a.defers } W)
    (hstop : ∀ (D : Nat) (c : Code) (s : σ) (W : World), w.heap.size ≤ D → Ix c s W → W.heap[D]? = some (.deferred (some [])) → c.wpIn F n P Q { a with defers := { target := .collected D, args := #[] } :: a.defers } W) :
    (Code.rangeFunc g ps assign body).wpIn F n P Q a w := by
  refine wpIn_rangeFunc fun fn hfn => ?_
  rw [hro]
  -- the record, with its state and what is pending
  let rec' : LoopState → Option Code → Loop := fun st pe => { state := st, pending := pe, fn, tmps := a.tmps, params := ps, assign, body, defers := w.heap.size }
  obtain ⟨recd, hrecd⟩ : ∃ r, r = rec' := ⟨_, rfl⟩
  have hp : ∀ st pe, (recd st pe).params = ps := fun st pe => by rw [hrecd]
  obtain ⟨M, hM⟩ : ∃ M, M = w.heap.size := ⟨_, rfl⟩
  let Book : LoopState → Option Code → World → Prop := fun st pe W => W.heap[M + 1]? = some (.loop (recd st pe)) ∧ W.heap[M]? = some (.deferred (some []))
  obtain ⟨W1, hW1⟩ : ∃ W1, W1 = (w.alloc (.deferred (some []))).alloc (.loop (recd .ready none)) := ⟨_, rfl⟩
  have hsz : W1.heap.size = M + 2 := by rw [hW1, hM]; simp
  have hbook : Book .ready none W1 := by
    constructor
    · have := World.alloc_heap_new (w.alloc (.deferred (some []))) (.loop (recd .ready none))
      rw [World.size_alloc] at this
      rw [hW1, hM]; exact this
    · rw [hW1, hM]; exact (Below.heap_alloc _ _ _ (by simp)).trans (World.alloc_heap_new w _)
  -- a block of the iterator's own is none of ours
  have ours : ∀ {A B : World} {row : Option Nat}, (∀ r, row = some r → W1.heap.size ≤ r ∧ ∃ o : Obj, A.heap[r]? = some o ∧ o.isWalk = true) → ∀ r, row = some r → w.heap.size ≤ r ∧ ∃ o : Obj, A.heap[r]? = some o ∧ o.isCells = false := fun h r e => by
    obtain ⟨h1, o, ho, hw⟩ := h r e
    exact ⟨by omega, o, ho, Obj.not_cells_of_walk hw⟩
  have book_kept : ∀ {A B : World} {row : Option Nat} {st : LoopState} {pe : Option Code}, Book st pe A → A.grownBy B row → (∀ r, row = some r → W1.heap.size ≤ r ∧ ∃ o : Obj, A.heap[r]? = some o ∧ o.isWalk = true) → Book st pe B := fun h hg hr =>
    ⟨(grownBy_keeps hg (fun r e => (hr r e).2) h.1 rfl).trans h.1, (grownBy_keeps hg (fun r e => (hr r e).2) h.2 rfl).trans h.2⟩
  -- the record turns
  have turn : ∀ {W : World} {st : LoopState} {pe : Option Code} (st' : LoopState) (pe' : Option Code), Book st pe W → Book st' pe' (W.putObj (M + 1) (.loop (recd st' pe'))) := fun st' pe' h =>
    ⟨World.putObj_heap_same (Array.getElem?_eq_some_iff.1 h.1).1, (World.putObj_heap_other (by omega)).trans h.2⟩
  refine ⟨M + 1, [{ target := .collected M, args := #[] }], W1, { target := .fn (.func gf) lb, args := #[.func (.yield (M + 1)) #[] #[]] }, W1, gf, #[.func (.yield (M + 1)) #[] #[]] ++ lb, W1, ?_, ?_, ?_, ?_, fun _ => h1, ?_⟩
  · rw [hW1, hM, hrecd]; exact run_enterLoop_outer _ _ _ _ _
  · simp only [resolve, hg]
    simp [go_sem]
  · intro f' hf'; simp [Target.leads] at hf'; subst hf'; exact hFg
  · simp [invoke, go_sem, eg]
  refine (hT (M + 1) (fun s W => I s W ∧ Book .ready none W) (fun s W => ∃ c, Ix c s W ∧ Book .done (some c) W) W1 ?_ ?_ ?_ ?_ ?_ ⟨?_, hbook⟩).mono ?_
  · rw [hW1]; exact hb0.trans ((((Below.refl _ w).alloc (Nat.le_refl _) _).alloc (by simp) _).mono hb0.size)
  · exact fun s A B row h hg hr => ⟨hI s A B row h.1 hg (ours (B := B) hr), book_kept h.2 hg hr⟩
  · rintro s A B row ⟨c, hc, hb⟩ hg hr
    exact ⟨c, hIx c s A B row hc hg (ours (B := B) hr), book_kept hb hg hr⟩
  · exact fun s s' W h hs' => ⟨hs _ _ _ h.1 hs', h.2⟩
  · rintro s x s' W ⟨hi, hb⟩ hst
    have hy := run_yield (P := P) (args := T.encs x) hb.1 (by rw [hp]; exact hps x)
    rw [hrecd] at hy
    refine ⟨fn, _, assign, body, hy, roundIn_of_wpIn hfn (hassign _ x W _ ⟨_, run_beginRound hb.1 (by rw [hrecd]), ?_⟩)⟩
    have hbusy : { recd .ready none with state := .busy } = recd .busy none := by rw [hrecd]
    rw [hbusy]
    have hb2 := turn .busy none hb
    have hk2 : Kp W (W.putObj (M + 1) (.loop (recd .busy none))) := hKb _ _ _ _ (by omega) hb.1 rfl rfl
    refine wpIn_mono (hbody _ s s' x _ (hI.putObj _ hi (by omega) hb.1 rfl) hst) ?_
    -- the round's end, by whatever jump
    have fin : ∀ (jump : Option Code) (W3 : World), KeepsFrom w.heap.size (W.putObj (M + 1) (.loop (recd .busy none))) W3 →
        (Instr.endRound (M + 1) jump).run P W3 = .ok (.bool jump.isNone) (W3.putObj (M + 1) (.loop (recd (if jump.isNone then .ready else .done) jump))) ∧ Book .busy none W3 := fun jump W3 hk3 => by
      have hb3 : Book .busy none W3 := ⟨hk3.same _ _ (by omega) hb2.1 rfl, hk3.same _ _ (by omega) hb2.2 rfl⟩
      have h := run_endRound (P := P) jump hb3.1
      refine ⟨?_, hb3⟩
      rw [h, hrecd]
    have stop : ∀ (c : Code) (W3 : World), KeepsFrom w.heap.size (W.putObj (M + 1) (.loop (recd .busy none))) W3 → Ix c s' W3 →
        ∃ v w', (Instr.endRound (M + 1) (some c)).run P W3 = .ok v w' ∧ ((Ending.returned v = .returned (.bool true) ∧ (I s' w' ∧ Book .ready none w') ∧ Kp W w') ∨ (Ending.returned v = .returned (.bool false) ∧ ∃ c, Ix c s' w' ∧ Book .done (some c) w')) := fun c W3 hk3 hi3 => by
      obtain ⟨hr, hb3⟩ := fin (some c) W3 hk3
      exact ⟨_, _, hr, .inr ⟨rfl, c, (hIx _).putObj _ hi3 (by omega) hb3.1 rfl, turn _ _ hb3⟩⟩
    rintro e a3 W3 hq
    cases e with
    | normal =>
      obtain ⟨hk3, hkp, hi3⟩ := hq
      obtain ⟨hr, hb3⟩ := fin none W3 hk3
      exact ⟨_, _, hr, .inl ⟨rfl, ⟨hI.putObj _ hi3 (by omega) hb3.1 rfl, turn _ _ hb3⟩, hKt (hKt hk2 hkp) (hKb _ _ _ _ (by omega) hb3.1 rfl rfl)⟩⟩
    | ret => exact stop _ W3 hq.1 hq.2
    | exit id => exact stop _ W3 hq.1 hq.2
    | goto t => exact stop _ W3 hq.1 hq.2
    | panic ch => exact hq.elim
    | outgrown => exact hq.elim
  · rw [hW1]; exact hI.alloc _ (hI.alloc _ h0)
  · rintro e W2 ⟨⟨v, rfl⟩, (⟨hi, hb⟩ | ⟨s, c, hi, hb⟩)⟩
    · refine ⟨none, W2.putObj (M + 1) (.loop (recd .exhausted none)), ?_, ?_⟩
      · have h := run_endLoop (P := P) hb.1 (by rw [hrecd]; simp [rec'])
        rw [hrecd] at h ⊢; exact h
      · have := hdone M (W2.putObj (M + 1) (.loop (recd .exhausted none))) (by omega) (hI.putObj _ hi (by omega) hb.1 rfl) ((World.putObj_heap_other (by omega)).trans hb.2)
        exact this
    · refine ⟨some c, W2.putObj (M + 1) (.loop (recd .exhausted (some c))), ?_, ?_⟩
      · have h := run_endLoop (P := P) hb.1 (by rw [hrecd]; simp [rec'])
        rw [hrecd] at h ⊢; exact h
      · have := hstop M c s (W2.putObj (M + 1) (.loop (recd .exhausted (some c)))) (by omega) ((hIx c).putObj _ hi (by omega) hb.1 rfl) ((World.putObj_heap_other (by omega)).trans hb.2)
        exact this
end

end Go.Proofs.Yteamnfockjnilaa
/-
  Ranges over functions: what is kept but for one block; marks (written by genbwd.py, from CnvI and RcP).
-/
set_option linter.unusedVariables false
set_option linter.unusedSimpArgs false
namespace Go.Proofs.Yteamnfockjnilaa
open Go.RowKit Go.Shelf
attribute [local go_sem] Oper.semAt_some

theorem wide_fn (k : Nat) : Fence.wide.fn k = True := rfl
theorem wide_depth : Fence.wide.depth.isSome = false := rfl
theorem wide_round : Fence.wide.round = none := rfl
theorem wide_fnR (l k : Nat) : (Fence.wide.inRound l).fn k = True := rfl
theorem wide_depthR (l : Nat) : (Fence.wide.inRound l).depth.isSome = false := rfl

/-- Whatever lay below n, but for block B, lies as it lay. -/
structure KeptBut (n B : Nat) (W W' : World) : Prop where
  os : W'.os = W.os
  tape : W'.tape = W.tape
  output : W'.output = W.output
  size : W.heap.size ≤ W'.heap.size
  block : ∀ k, k < n → k ≠ B → W'.heap[k]? = W.heap[k]?
theorem KeptBut.refl (n B : Nat) (W : World) : KeptBut n B W W := ⟨rfl, rfl, rfl, Nat.le_refl _, fun _ _ _ => rfl⟩
theorem KeptBut.trans {n B : Nat} {X Y Z : World} (h : KeptBut n B X Y) (k : KeptBut n B Y Z) : KeptBut n B X Z :=
  ⟨k.os.trans h.os, k.tape.trans h.tape, k.output.trans h.output, Nat.le_trans h.size k.size, fun b h1 h2 => (k.block b h1 h2).trans (h.block b h1 h2)⟩
theorem KeptBut.of_below {n B : Nat} {W W' : World} (h : Below W.heap.size W W') (hn : n ≤ W.heap.size) : KeptBut n B W W' :=
  ⟨h.os, h.tape, h.output, h.size, fun b h1 _ => h.block b (by omega)⟩
theorem KeptBut.cell {n B : Nat} {W W' : World} (h : KeptBut n B W W') {b o : Nat} (h1 : b < n) (h2 : b ≠ B) : W'.cell? ⟨b, o, none⟩ = W.cell? ⟨b, o, none⟩ := by
  simp [World.cell?, h.block b h1 h2]
theorem KeptBut.putObj {n B : Nat} (W : World) (l : Nat) (o : Obj) (h : n ≤ l) : KeptBut n B W (W.putObj l o) :=
  ⟨rfl, rfl, rfl, by simp, fun k hk _ => World.putObj_heap_other (by omega)⟩
theorem grown_of_below {W W' : World} (h : Below W.heap.size W W') : W.grownBy W' none := ⟨h.os, h.tape, h.output, h.size, fun k hk _ => h.block k hk⟩

/-- Marks of ranges over functions: blocks from n on. -/
def Marks (n : Nat) (w : World) (ds : List Deferred) : Prop :=
  ∃ Ds : List Nat, ds = Ds.map (fun D => { target := .collected D, args := #[] }) ∧ Ds.Nodup ∧ ∀ D ∈ Ds, n ≤ D ∧ w.heap[D]? = some (.deferred (some []))
theorem Marks.nil (n : Nat) (w : World) : Marks n w [] := ⟨[], rfl, List.nodup_nil, fun D h => by cases h⟩
theorem Marks.lt {n : Nat} {w : World} {ds : List Deferred} (h : Marks n w ds) : ∃ Ds : List Nat, ds = Ds.map (fun D => { target := .collected D, args := #[] }) ∧ Ds.Nodup ∧ ∀ D ∈ Ds, n ≤ D ∧ D < w.heap.size ∧ w.heap[D]? = some (.deferred (some [])) := by
  obtain ⟨Ds, e, hn, h⟩ := h
  exact ⟨Ds, e, hn, fun D hD => ⟨(h D hD).1, (Array.getElem?_eq_some_iff.1 (h D hD).2).1, (h D hD).2⟩⟩
theorem Marks.cons {n D : Nat} {w W : World} {ds : List Deferred} (h : Marks n w ds) (hk : ∀ (k : Nat) (o : Obj), w.heap[k]? = some o → o.isCells = false → W.heap[k]? = some o) (hD : w.heap.size ≤ D) (hn : n ≤ D) (hb : W.heap[D]? = some (.deferred (some []))) :
    Marks n W ({ target := .collected D, args := #[] } :: ds) := by
  obtain ⟨Ds, e, hnd, h⟩ := h.lt
  refine ⟨D :: Ds, by simp [e], List.nodup_cons.2 ⟨fun hm => by have := (h D hm).2.1; omega, hnd⟩, fun k hk' => ?_⟩
  rcases List.mem_cons.1 hk' with rfl | hk'
  · exact ⟨hn, hb⟩
  · exact ⟨(h k hk').1, hk k _ (h k hk').2.2 rfl⟩
theorem Marks.kept {n : Nat} {w W : World} {ds : List Deferred} (h : Marks n w ds) (hk : ∀ (k : Nat) (o : Obj), w.heap[k]? = some o → o.isCells = false → W.heap[k]? = some o) : Marks n W ds := by
  obtain ⟨Ds, e, hnd, h⟩ := h
  exact ⟨Ds, e, hnd, fun D hD => ⟨(h D hD).1, hk D _ (h D hD).2 rfl⟩⟩

/-- The marks' blocks are shut; all that is cells lies as it lay. -/
structure Shut (n : Nat) (w w' : World) : Prop where
  os : w'.os = w.os
  tape : w'.tape = w.tape
  output : w'.output = w.output
  size : w'.heap.size = w.heap.size
  low : ∀ k, k < n → w'.heap[k]? = w.heap[k]?
  cells : ∀ (k : Nat) (o : Obj), w.heap[k]? = some o → o.isCells = true → w'.heap[k]? = some o
theorem Shut.refl (n : Nat) (w : World) : Shut n w w := ⟨rfl, rfl, rfl, rfl, fun _ _ => rfl, fun _ _ h _ => h⟩
theorem Shut.row {n B e : Nat} {w w' : World} {v : Value} {cs : List Value} (hs : Shut n w w') (h : Row w B e v cs) : Row w' B e v cs := by
  refine ⟨h.1, ?_⟩
  rcases h.2 with hn | ⟨g, cap, cur, rfl, hb, hg, rest⟩
  · exact .inl hn
  · exact .inr ⟨g, cap, cur, rfl, hb, hs.cells g _ hg rfl, rest⟩
theorem Shut.below {n : Nat} {w0 w w' : World} (hs : Shut n w w') (hn : w0.heap.size ≤ n) (h : Below w0.heap.size w0 w) : Below w0.heap.size w0 w' :=
  ⟨hs.os.trans h.os, hs.tape.trans h.tape, hs.output.trans h.output, by rw [hs.size]; exact h.size, fun k hk => (hs.low k (by omega)).trans (h.block k hk)⟩

/-- A function leaves by its marks. -/
theorem leaves_marks {F : Fence} {m n : Nat} {P : Program} {fn : Func} {tmps : Array Value} {R : Ending → World → Prop} (w : World) (ds : List Deferred) (h : Marks n w ds)
    (hR : ∀ w', Shut n w w' → LeavesIn F m P fn tmps R [] .returning w') : LeavesInM F m P fn tmps R ds .returning w := by
  obtain ⟨Ds, rfl, hnd, h⟩ := h
  suffices H : ∀ (Ds : List Nat) (w1 : World), Ds.Nodup → Shut n w w1 → (∀ D ∈ Ds, n ≤ D ∧ w1.heap[D]? = some (.deferred (some []))) → LeavesInM F m P fn tmps R (Ds.map (fun D => { target := .collected D, args := #[] })) .returning w1 from H Ds w hnd (Shut.refl _ _) h
  intro Ds
  induction Ds with
  | nil => exact fun w1 _ hs _ => hR w1 hs
  | cons D Ds ih =>
    intro w1 hnd hs h
    obtain ⟨hD, hnd⟩ := List.nodup_cons.1 hnd
    have hb := (h D (by simp)).2
    refine ⟨by simp, .inl ⟨D, _, rfl, run_takeDeferred hb, ih _ hnd ⟨hs.os, hs.tape, hs.output, by simp; exact hs.size, fun k hk => ?_, fun k o hk hc => ?_⟩ fun D' hD' => ?_⟩⟩
    · rw [World.putObj_heap_other (by have := (h D (by simp)).1; omega)]; exact hs.low k hk
    · have hw := hs.cells k o hk hc
      rw [World.putObj_heap_other (fun e => by subst e; rw [hw] at hb; cases hb; cases hc)]; exact hw
    · have := h D' (by simp [hD'])
      exact ⟨this.1, (World.putObj_heap_other (fun e => hD (by rw [← e]; exact hD'))).trans this.2⟩

theorem Boxed.drewN {W : World} {B : Nat} {t : TypeId} {v : Value} (h : Boxed W B t v) (d : Nat) : Boxed (W.drewN d) B t v := h
theorem KeptBut.drewN {n B : Nat} {X W : World} (h : KeptBut n B X W) (d : Nat) : KeptBut n B X (W.drewN d) := ⟨h.os, h.tape, h.output, h.size, h.block⟩
theorem KeptBut.setCell {n B : Nat} {X W : World} (h : KeptBut n B X W) (b o : Nat) (v : Value) (hb : b = B ∨ n ≤ b) : KeptBut n B X (W.setCell ⟨b, o, none⟩ v) := by
  have hs : (W.setCell ⟨b, o, none⟩ v).heap.size = W.heap.size := by simp
  exact ⟨h.os, h.tape, h.output, by rw [hs]; exact h.size, fun k h1 h2 => (Below.heap_setCell _ _ _ k (by show k ≠ b; rcases hb with rfl | hb <;> omega)).trans (h.block k h1 h2)⟩
theorem KeptBut.grown {n B : Nat} {X W W' : World} {row : Option Nat} (h : KeptBut n B X W) (hg : W.grownBy W' row) (hr : ∀ r, row = some r → n ≤ r) (hn : n ≤ W.heap.size) : KeptBut n B X W' :=
  ⟨hg.os.trans h.os, hg.tape.trans h.tape, hg.output.trans h.output, Nat.le_trans h.size hg.size, fun k h1 h2 => (hg.block k (by omega) (fun e => by have := hr k e.symm; omega)).trans (h.block k h1 h2)⟩
/-- Four blocks that are laid one after the other. -/
theorem laid4 (w : World) (a b c d : Obj) {N : Nat} (hN : w.heap.size = N) {W : World} (hW : (((w.alloc a).alloc b).alloc c).alloc d = W) :
    W.heap.size = N + 4 ∧ W.heap[N]? = some a ∧ W.heap[N + 1]? = some b ∧ W.heap[N + 2]? = some c ∧ W.heap[N + 3]? = some d ∧ Below w.heap.size w W := by
  subst hN; subst hW
  have up : ∀ (W : World) (o : Obj) (k : Nat) (x : Obj), W.heap[k]? = some x → (W.alloc o).heap[k]? = some x := fun W o k x h => (Below.heap_alloc W o k (Array.getElem?_eq_some_iff.1 h).1).trans h
  have n0 := World.alloc_heap_new w a
  have n1 := World.alloc_heap_new (w.alloc a) b
  have n2 := World.alloc_heap_new ((w.alloc a).alloc b) c
  have n3 := World.alloc_heap_new (((w.alloc a).alloc b).alloc c) d
  simp only [World.size_alloc] at n1 n2 n3
  refine ⟨by simp, up _ _ _ _ (up _ _ _ _ (up _ _ _ _ n0)), up _ _ _ _ (up _ _ _ _ n1), up _ _ _ _ n2, n3, (((((Below.refl _ w).alloc (Nat.le_refl _) _).alloc (by simp) _).alloc (by simp; omega) _).alloc (by simp; omega) _)⟩

theorem Row.keptBut {n B e b : Nat} {w w' : World} {v : Value} {cs : List Value} (h : Row w b e v cs) (hk : KeptBut n B w w') (hv : ∀ k, v.ownBlock = some k → k < n ∧ k ≠ B) : Row w' b e v cs := by
  refine ⟨h.1, ?_⟩
  rcases h.2 with hn | ⟨g, cap, cur, rfl, hbb, hgg, rest⟩
  · exact .inl hn
  · refine .inr ⟨g, cap, cur, rfl, hbb, ?_, rest⟩
    obtain ⟨h1, h2⟩ := hv g (by simp [Value.ownBlock])
    rw [hk.block g h1 h2]
    exact hgg


end Go.Proofs.Yteamnfockjnilaa
