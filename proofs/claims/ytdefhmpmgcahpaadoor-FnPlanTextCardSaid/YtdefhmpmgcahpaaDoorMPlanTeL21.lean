/-
  Several texts of this claim, one behind the other; each says what it holds.
-/
import Derived.Test.YtdefhmpmgcahpaaDoorKit
import Derived.RangeFuncWrites
import Derived.RangeFuncNested
/-
  A range over a function whose rounds come in a told order: the body may know which one comes next.
-/
set_option linter.unusedVariables false
set_option linter.unusedSimpArgs false
namespace Go.Proofs.YtdefhmpmgcahpaaDoor
open Go Go.RowKit

/-- What comes: states, the steps with what yield is handed, and silent steps. -/
structure Told (σ α : Type) where
  encs : α → Array Value
  step : σ → α → σ → Prop
  silent : σ → σ → Prop
  start : σ
  last : σ

/-- An iterator hands yield what is told, in the told order, to its end or until a round says that it is enough. -/
def Tells {σ α : Type} (F : Fence) (n : Nat) (P : Program) (g : Nat) (lb : Array Value) (T : Told σ α) (Kp : World → World → Prop) (w : World) : Prop :=
  ∀ (l : Nat) (J Jx : σ → World → Prop) (W : World), Below w.heap.size w W → AbidesFrom W.heap.size J → AbidesFrom W.heap.size Jx →
    (∀ s s' W1, J s W1 → T.silent s s' → J s' W1) →
    (∀ s x s' W1, J s W1 → T.step s x s' → YieldAt F (n - 1) P l (T.encs x) W1 fun e W' =>
      (e = .returned (.bool true) ∧ J s' W' ∧ Kp W1 W') ∨ (e = .returned (.bool false) ∧ Jx s' W')) →
    J T.start W →
    CallsIn F n P g (#[.func (.yield l) #[] #[]] ++ lb) W fun e W' => (∃ v, e = .returned v) ∧ (J T.last W' ∨ ∃ s, Jx s W')

/-- How a round's body may be left. -/
def LeavesAt {σ : Type} (B : Nat) (Kp : World → World → Prop) (I : σ → World → Prop) (Ix : Code → σ → World → Prop) (s : σ) (W : World) : Exit → Act → World → Prop
  | .normal, _, W' => KeepsFrom B W W' ∧ Kp W W' ∧ I s W'
  | .panic _, _, _ => False
  | .outgrown, _, _ => False
  | .ret, _, W' => KeepsFrom B W W' ∧ Ix .ret s W'
  | .exit id, _, W' => KeepsFrom B W W' ∧ Ix (.exit id) s W'
  | .goto t, _, W' => KeepsFrom B W W' ∧ Ix (.goto t) s W'

section
variable {F : Fence} {n : Nat} {P : Program} {σ α : Type}

/-- The law: a loop over such an iterator, in a function of its own (no round of another loop). -/
theorem wpIn_range_told {g : Operand} {ps : Array Tmp} {assign body : Code} {Q : Exit → Act → World → Prop} {a : Act} {w w0 : World} {gf : Nat} {lb : Array Value} {T : Told σ α} {Kp : World → World → Prop}
    (hro : F.round = none) (h1 : 1 ≤ n) (hg : a.eval g = .func (.func gf) #[] lb) (hFg : F.fn gf) (eg : ∀ args w, (callFunc gf args).run P w = .ok (.enter gf args) w)
    (hT : Tells F (n - 1) P gf lb T Kp w0) (hb0 : Below w0.heap.size w0 w)
    (hKt : ∀ {A B C : World}, Kp A B → Kp B C → Kp A C) (hKb : ∀ (W : World) (l : Nat) (o o' : Obj), w.heap.size ≤ l → W.heap[l]? = some o → o.isCells = false → o.isWalk = false → Kp W (W.putObj l o'))
    (hps : ∀ x, (T.encs x).size = ps.size)
    (I : σ → World → Prop) (Ix : Code → σ → World → Prop) (hI : OwnFrom w.heap.size I) (hIx : ∀ c, OwnFrom w.heap.size (Ix c)) (hs : ∀ s s' W, I s W → T.silent s s' → I s' W) (h0 : I T.start w) (a₁ : α → Act)
    (hassign : ∀ (l : Nat) (x : α) (W : World) (K : Act → World → Prop), K (a₁ x) W →
      assign.wpIn (F.inRound l) (n - 1 - 1) P (Exit.then K (fun _ _ _ => False)) { tmps := (ps.zip (T.encs x)).foldl (fun t (p, v) => t.setIfInBounds p v) a.tmps, defers := [] } W)
    (hbody : ∀ (l : Nat) (s s' : σ) (x : α) (W : World), I s W → T.step s x s' → body.wpIn (F.inRound l) (n - 1 - 1) P (LeavesAt w.heap.size Kp I Ix s' W) (a₁ x) W)
    (hdone : ∀ (D : Nat) (W : World), w.heap.size ≤ D → I T.last W → W.heap[D]? = some (.deferred (some [])) → Q .normal { a with defers := { target := .collected D, args := #[] } :: a.defers } W)
    (hstop : ∀ (D : Nat) (c : Code) (s : σ) (W : World), w.heap.size ≤ D → Ix c s W → W.heap[D]? = some (.deferred (some [])) → c.wpIn F n P Q { a with defers := { target := .collected D, args := #[] } :: a.defers } W) :
    (Code.rangeFunc g ps assign body).wpIn F n P Q a w := by
  refine wpIn_rangeFunc fun fn hfn => ?_
  rw [hro]
  -- the record, with its state and what is pending
  let rec' : LoopState → Option Code → Loop := fun st pe => { state := st, pending := pe, fn, tmps := a.tmps, params := ps, assign, body, defers := w.heap.size }
  obtain ⟨recd, hrecd⟩ : ∃ r, r = rec' := ⟨_, rfl⟩
  have hp : ∀ st pe, (recd st pe).params = ps := fun st pe => by rw [hrecd]
  obtain ⟨M, hM⟩ : ∃ M, M = w.heap.size := ⟨_, rfl⟩
  let Book : LoopState → Option Code → World → Prop := fun st pe W => W.heap[M + 1]? = some (.loop (recd st pe)) ∧ W.heap[M]? = some (.deferred (some []))
  obtain ⟨W1, hW1⟩ : ∃ W1, W1 = (w.alloc (.deferred (some []))).alloc (.loop (recd .ready none)) := ⟨_, rfl⟩
  have hsz : W1.heap.size = M + 2 := by rw [hW1, hM]; simp
  have hbook : Book .ready none W1 := by
    constructor
    · have := World.alloc_heap_new (w.alloc (.deferred (some []))) (.loop (recd .ready none))
      rw [World.size_alloc] at this
      rw [hW1, hM]; exact this
    · rw [hW1, hM]; exact (Below.heap_alloc _ _ _ (by simp)).trans (World.alloc_heap_new w _)
  -- a block of the iterator's own is none of ours
  have ours : ∀ {A B : World} {row : Option Nat}, (∀ r, row = some r → W1.heap.size ≤ r ∧ ∃ o : Obj, A.heap[r]? = some o ∧ o.isWalk = true) → ∀ r, row = some r → w.heap.size ≤ r ∧ ∃ o : Obj, A.heap[r]? = some o ∧ o.isCells = false := fun h r e => by
    obtain ⟨h1, o, ho, hw⟩ := h r e
    exact ⟨by omega, o, ho, Obj.not_cells_of_walk hw⟩
  have book_kept : ∀ {A B : World} {row : Option Nat} {st : LoopState} {pe : Option Code}, Book st pe A → A.grownBy B row → (∀ r, row = some r → W1.heap.size ≤ r ∧ ∃ o : Obj, A.heap[r]? = some o ∧ o.isWalk = true) → Book st pe B := fun h hg hr =>
    ⟨(grownBy_keeps hg (fun r e => (hr r e).2) h.1 rfl).trans h.1, (grownBy_keeps hg (fun r e => (hr r e).2) h.2 rfl).trans h.2⟩
  -- the record turns
  have turn : ∀ {W : World} {st : LoopState} {pe : Option Code} (st' : LoopState) (pe' : Option Code), Book st pe W → Book st' pe' (W.putObj (M + 1) (.loop (recd st' pe'))) := fun st' pe' h =>
    ⟨World.putObj_heap_same (Array.getElem?_eq_some_iff.1 h.1).1, (World.putObj_heap_other (by omega)).trans h.2⟩
  refine ⟨M + 1, [{ target := .collected M, args := #[] }], W1, { target := .fn (.func gf) lb, args := #[.func (.yield (M + 1)) #[] #[]] }, W1, gf, #[.func (.yield (M + 1)) #[] #[]] ++ lb, W1, ?_, ?_, ?_, ?_, fun _ => h1, ?_⟩
  · rw [hW1, hM, hrecd]; exact run_enterLoop_outer _ _ _ _ _
  · simp only [resolve, hg]
    simp [go_sem]
  · intro f' hf'; simp [Target.leads] at hf'; subst hf'; exact hFg
  · simp [invoke, go_sem, eg]
  refine (hT (M + 1) (fun s W => I s W ∧ Book .ready none W) (fun s W => ∃ c, Ix c s W ∧ Book .done (some c) W) W1 ?_ ?_ ?_ ?_ ?_ ⟨?_, hbook⟩).mono ?_
  · rw [hW1]; exact hb0.trans ((((Below.refl _ w).alloc (Nat.le_refl _) _).alloc (by simp) _).mono hb0.size)
  · exact fun s A B row h hg hr => ⟨hI s A B row h.1 hg (ours (B := B) hr), book_kept h.2 hg hr⟩
  · rintro s A B row ⟨c, hc, hb⟩ hg hr
    exact ⟨c, hIx c s A B row hc hg (ours (B := B) hr), book_kept hb hg hr⟩
  · exact fun s s' W h hs' => ⟨hs _ _ _ h.1 hs', h.2⟩
  · rintro s x s' W ⟨hi, hb⟩ hst
    have hy := run_yield (P := P) (args := T.encs x) hb.1 (by rw [hp]; exact hps x)
    rw [hrecd] at hy
    refine ⟨fn, _, assign, body, hy, roundIn_of_wpIn hfn (hassign _ x W _ ⟨_, run_beginRound hb.1 (by rw [hrecd]), ?_⟩)⟩
    have hbusy : { recd .ready none with state := .busy } = recd .busy none := by rw [hrecd]
    rw [hbusy]
    have hb2 := turn .busy none hb
    have hk2 : Kp W (W.putObj (M + 1) (.loop (recd .busy none))) := hKb _ _ _ _ (by omega) hb.1 rfl rfl
    refine wpIn_mono (hbody _ s s' x _ (hI.putObj _ hi (by omega) hb.1 rfl) hst) ?_
    -- the round's end, by whatever jump
    have fin : ∀ (jump : Option Code) (W3 : World), KeepsFrom w.heap.size (W.putObj (M + 1) (.loop (recd .busy none))) W3 →
        (Instr.endRound (M + 1) jump).run P W3 = .ok (.bool jump.isNone) (W3.putObj (M + 1) (.loop (recd (if jump.isNone then .ready else .done) jump))) ∧ Book .busy none W3 := fun jump W3 hk3 => by
      have hb3 : Book .busy none W3 := ⟨hk3.same _ _ (by omega) hb2.1 rfl, hk3.same _ _ (by omega) hb2.2 rfl⟩
      have h := run_endRound (P := P) jump hb3.1
      refine ⟨?_, hb3⟩
      rw [h, hrecd]
    have stop : ∀ (c : Code) (W3 : World), KeepsFrom w.heap.size (W.putObj (M + 1) (.loop (recd .busy none))) W3 → Ix c s' W3 →
        ∃ v w', (Instr.endRound (M + 1) (some c)).run P W3 = .ok v w' ∧ ((Ending.returned v = .returned (.bool true) ∧ (I s' w' ∧ Book .ready none w') ∧ Kp W w') ∨ (Ending.returned v = .returned (.bool false) ∧ ∃ c, Ix c s' w' ∧ Book .done (some c) w')) := fun c W3 hk3 hi3 => by
      obtain ⟨hr, hb3⟩ := fin (some c) W3 hk3
      exact ⟨_, _, hr, .inr ⟨rfl, c, (hIx _).putObj _ hi3 (by omega) hb3.1 rfl, turn _ _ hb3⟩⟩
    rintro e a3 W3 hq
    cases e with
    | normal =>
      obtain ⟨hk3, hkp, hi3⟩ := hq
      obtain ⟨hr, hb3⟩ := fin none W3 hk3
      exact ⟨_, _, hr, .inl ⟨rfl, ⟨hI.putObj _ hi3 (by omega) hb3.1 rfl, turn _ _ hb3⟩, hKt (hKt hk2 hkp) (hKb _ _ _ _ (by omega) hb3.1 rfl rfl)⟩⟩
    | ret => exact stop _ W3 hq.1 hq.2
    | exit id => exact stop _ W3 hq.1 hq.2
    | goto t => exact stop _ W3 hq.1 hq.2
    | panic ch => exact hq.elim
    | outgrown => exact hq.elim
  · rw [hW1]; exact hI.alloc _ (hI.alloc _ h0)
  · rintro e W2 ⟨⟨v, rfl⟩, (⟨hi, hb⟩ | ⟨s, c, hi, hb⟩)⟩
    · refine ⟨none, W2.putObj (M + 1) (.loop (recd .exhausted none)), ?_, ?_⟩
      · have h := run_endLoop (P := P) hb.1 (by rw [hrecd]; simp [rec'])
        rw [hrecd] at h ⊢; exact h
      · have := hdone M (W2.putObj (M + 1) (.loop (recd .exhausted none))) (by omega) (hI.putObj _ hi (by omega) hb.1 rfl) ((World.putObj_heap_other (by omega)).trans hb.2)
        exact this
    · refine ⟨some c, W2.putObj (M + 1) (.loop (recd .exhausted (some c))), ?_, ?_⟩
      · have h := run_endLoop (P := P) hb.1 (by rw [hrecd]; simp [rec'])
        rw [hrecd] at h ⊢; exact h
      · have := hstop M c s (W2.putObj (M + 1) (.loop (recd .exhausted (some c)))) (by omega) ((hIx c).putObj _ hi (by omega) hb.1 rfl) ((World.putObj_heap_other (by omega)).trans hb.2)
        exact this
end

end Go.Proofs.YtdefhmpmgcahpaaDoor
/-
  A range over a function whose iterator writes into a place of its own between the rounds (written from Rng).
-/
set_option linter.unusedVariables false
set_option linter.unusedSimpArgs false
namespace Go.Proofs.YtdefhmpmgcahpaaDoor
open Go Go.RowKit

/-- An iterator hands yield what is told, in the told order, to its end or until a round says that it is enough. -/
def TellsM {σ α : Type} (F : Fence) (n : Nat) (P : Program) (g : Nat) (lb : Array Value) (T : Told σ α) (Mv Kp : World → World → Prop) (w : World) : Prop :=
  ∀ (l : Nat) (J Jx : σ → World → Prop) (W : World), Below w.heap.size w W → AbidesFrom W.heap.size J → AbidesFrom W.heap.size Jx →
    (∀ s W1 W2, J s W1 → Mv W1 W2 → J s W2) →
    (∀ s x s' W1, J s W1 → T.step s x s' → YieldAt F (n - 1) P l (T.encs x) W1 fun e W' =>
      (e = .returned (.bool true) ∧ J s' W' ∧ Kp W1 W') ∨ (e = .returned (.bool false) ∧ Jx s' W')) →
    J T.start W →
    CallsIn F n P g (#[.func (.yield l) #[] #[]] ++ lb) W fun e W' => (∃ v, e = .returned v) ∧ (J T.last W' ∨ ∃ s, Jx s W')

section
variable {F : Fence} {n : Nat} {P : Program} {σ α : Type}

/-- The law: a loop over such an iterator, in a function of its own (no round of another loop). -/
theorem wpIn_range_moved {g : Operand} {ps : Array Tmp} {assign body : Code} {Q : Exit → Act → World → Prop} {a : Act} {w w0 : World} {gf : Nat} {lb : Array Value} {T : Told σ α} {Mv Kp : World → World → Prop}
    (hro : F.round = none) (h1 : 1 ≤ n) (hg : a.eval g = .func (.func gf) #[] lb) (hFg : F.fn gf) (eg : ∀ args w, (callFunc gf args).run P w = .ok (.enter gf args) w)
    (hT : TellsM F (n - 1) P gf lb T Mv Kp w0) (hb0 : Below w0.heap.size w0 w)
    (hKt : ∀ {A B C : World}, Kp A B → Kp B C → Kp A C) (hKb : ∀ (W : World) (l : Nat) (o o' : Obj), w.heap.size ≤ l → W.heap[l]? = some o → o.isCells = false → o.isWalk = false → Kp W (W.putObj l o'))
    (hps : ∀ x, (T.encs x).size = ps.size)
    (I : σ → World → Prop) (Ix : Code → σ → World → Prop) (hI : OwnFrom w.heap.size I) (hIx : ∀ c, OwnFrom w.heap.size (Ix c)) (hs : ∀ s W W2, I s W → Mv W W2 → I s W2) (hm : ∀ W W2, Mv W W2 → ∀ k, w.heap.size ≤ k → W2.heap[k]? = W.heap[k]?) (h0 : I T.start w) (a₁ : α → Act)
    (hassign : ∀ (l : Nat) (x : α) (W : World) (K : Act → World → Prop), K (a₁ x) W →
      assign.wpIn (F.inRound l) (n - 1 - 1) P (Exit.then K (fun _ _ _ => False)) { tmps := (ps.zip (T.encs x)).foldl (fun t (p, v) => t.setIfInBounds p v) a.tmps, defers := [] } W)
    (hbody : ∀ (l : Nat) (s s' : σ) (x : α) (W : World), I s W → T.step s x s' → body.wpIn (F.inRound l) (n - 1 - 1) P (LeavesAt w.heap.size Kp I Ix s' W) (a₁ x) W)
    (hdone : ∀ (D : Nat) (W : World), w.heap.size ≤ D → I T.last W → W.heap[D]? = some (.deferred (some [])) → Q .normal { a with defers := { target := .collected D, args := #[] } :: a.defers } W)
    (hstop : ∀ (D : Nat) (c : Code) (s : σ) (W : World), w.heap.size ≤ D → Ix c s W → W.heap[D]? = some (.deferred (some [])) → c.wpIn F n P Q { a with defers := { target := .collected D, args := #[] } :: a.defers } W) :
    (Code.rangeFunc g ps assign body).wpIn F n P Q a w := by
  refine wpIn_rangeFunc fun fn hfn => ?_
  rw [hro]
  -- the record, with its state and what is pending
  let rec' : LoopState → Option Code → Loop := fun st pe => { state := st, pending := pe, fn, tmps := a.tmps, params := ps, assign, body, defers := w.heap.size }
  obtain ⟨recd, hrecd⟩ : ∃ r, r = rec' := ⟨_, rfl⟩
  have hp : ∀ st pe, (recd st pe).params = ps := fun st pe => by rw [hrecd]
  obtain ⟨M, hM⟩ : ∃ M, M = w.heap.size := ⟨_, rfl⟩
  let Book : LoopState → Option Code → World → Prop := fun st pe W => W.heap[M + 1]? = some (.loop (recd st pe)) ∧ W.heap[M]? = some (.deferred (some []))
  obtain ⟨W1, hW1⟩ : ∃ W1, W1 = (w.alloc (.deferred (some []))).alloc (.loop (recd .ready none)) := ⟨_, rfl⟩
  have hsz : W1.heap.size = M + 2 := by rw [hW1, hM]; simp
  have hbook : Book .ready none W1 := by
    constructor
    · have := World.alloc_heap_new (w.alloc (.deferred (some []))) (.loop (recd .ready none))
      rw [World.size_alloc] at this
      rw [hW1, hM]; exact this
    · rw [hW1, hM]; exact (Below.heap_alloc _ _ _ (by simp)).trans (World.alloc_heap_new w _)
  -- a block of the iterator's own is none of ours
  have ours : ∀ {A B : World} {row : Option Nat}, (∀ r, row = some r → W1.heap.size ≤ r ∧ ∃ o : Obj, A.heap[r]? = some o ∧ o.isWalk = true) → ∀ r, row = some r → w.heap.size ≤ r ∧ ∃ o : Obj, A.heap[r]? = some o ∧ o.isCells = false := fun h r e => by
    obtain ⟨h1, o, ho, hw⟩ := h r e
    exact ⟨by omega, o, ho, Obj.not_cells_of_walk hw⟩
  have book_kept : ∀ {A B : World} {row : Option Nat} {st : LoopState} {pe : Option Code}, Book st pe A → A.grownBy B row → (∀ r, row = some r → W1.heap.size ≤ r ∧ ∃ o : Obj, A.heap[r]? = some o ∧ o.isWalk = true) → Book st pe B := fun h hg hr =>
    ⟨(grownBy_keeps hg (fun r e => (hr r e).2) h.1 rfl).trans h.1, (grownBy_keeps hg (fun r e => (hr r e).2) h.2 rfl).trans h.2⟩
  -- the record turns
  have turn : ∀ {W : World} {st : LoopState} {pe : Option Code} (st' : LoopState) (pe' : Option Code), Book st pe W → Book st' pe' (W.putObj (M + 1) (.loop (recd st' pe'))) := fun st' pe' h =>
    ⟨World.putObj_heap_same (Array.getElem?_eq_some_iff.1 h.1).1, (World.putObj_heap_other (by omega)).trans h.2⟩
  refine ⟨M + 1, [{ target := .collected M, args := #[] }], W1, { target := .fn (.func gf) lb, args := #[.func (.yield (M + 1)) #[] #[]] }, W1, gf, #[.func (.yield (M + 1)) #[] #[]] ++ lb, W1, ?_, ?_, ?_, ?_, fun _ => h1, ?_⟩
  · rw [hW1, hM, hrecd]; exact run_enterLoop_outer _ _ _ _ _
  · simp only [resolve, hg]
    simp [go_sem]
  · intro f' hf'; simp [Target.leads] at hf'; subst hf'; exact hFg
  · simp [invoke, go_sem, eg]
  refine (hT (M + 1) (fun s W => I s W ∧ Book .ready none W) (fun s W => ∃ c, Ix c s W ∧ Book .done (some c) W) W1 ?_ ?_ ?_ ?_ ?_ ⟨?_, hbook⟩).mono ?_
  · rw [hW1]; exact hb0.trans ((((Below.refl _ w).alloc (Nat.le_refl _) _).alloc (by simp) _).mono hb0.size)
  · exact fun s A B row h hg hr => ⟨hI s A B row h.1 hg (ours (B := B) hr), book_kept h.2 hg hr⟩
  · rintro s A B row ⟨c, hc, hb⟩ hg hr
    exact ⟨c, hIx c s A B row hc hg (ours (B := B) hr), book_kept hb hg hr⟩
  · exact fun s W W2 h hm' => ⟨hs _ _ _ h.1 hm', (hm _ _ hm' (M + 1) (by omega)).trans h.2.1, (hm _ _ hm' M (by omega)).trans h.2.2⟩
  · rintro s x s' W ⟨hi, hb⟩ hst
    have hy := run_yield (P := P) (args := T.encs x) hb.1 (by rw [hp]; exact hps x)
    rw [hrecd] at hy
    refine ⟨fn, _, assign, body, hy, roundIn_of_wpIn hfn (hassign _ x W _ ⟨_, run_beginRound hb.1 (by rw [hrecd]), ?_⟩)⟩
    have hbusy : { recd .ready none with state := .busy } = recd .busy none := by rw [hrecd]
    rw [hbusy]
    have hb2 := turn .busy none hb
    have hk2 : Kp W (W.putObj (M + 1) (.loop (recd .busy none))) := hKb _ _ _ _ (by omega) hb.1 rfl rfl
    refine wpIn_mono (hbody _ s s' x _ (hI.putObj _ hi (by omega) hb.1 rfl) hst) ?_
    -- the round's end, by whatever jump
    have fin : ∀ (jump : Option Code) (W3 : World), KeepsFrom w.heap.size (W.putObj (M + 1) (.loop (recd .busy none))) W3 →
        (Instr.endRound (M + 1) jump).run P W3 = .ok (.bool jump.isNone) (W3.putObj (M + 1) (.loop (recd (if jump.isNone then .ready else .done) jump))) ∧ Book .busy none W3 := fun jump W3 hk3 => by
      have hb3 : Book .busy none W3 := ⟨hk3.same _ _ (by omega) hb2.1 rfl, hk3.same _ _ (by omega) hb2.2 rfl⟩
      have h := run_endRound (P := P) jump hb3.1
      refine ⟨?_, hb3⟩
      rw [h, hrecd]
    have stop : ∀ (c : Code) (W3 : World), KeepsFrom w.heap.size (W.putObj (M + 1) (.loop (recd .busy none))) W3 → Ix c s' W3 →
        ∃ v w', (Instr.endRound (M + 1) (some c)).run P W3 = .ok v w' ∧ ((Ending.returned v = .returned (.bool true) ∧ (I s' w' ∧ Book .ready none w') ∧ Kp W w') ∨ (Ending.returned v = .returned (.bool false) ∧ ∃ c, Ix c s' w' ∧ Book .done (some c) w')) := fun c W3 hk3 hi3 => by
      obtain ⟨hr, hb3⟩ := fin (some c) W3 hk3
      exact ⟨_, _, hr, .inr ⟨rfl, c, (hIx _).putObj _ hi3 (by omega) hb3.1 rfl, turn _ _ hb3⟩⟩
    rintro e a3 W3 hq
    cases e with
    | normal =>
      obtain ⟨hk3, hkp, hi3⟩ := hq
      obtain ⟨hr, hb3⟩ := fin none W3 hk3
      exact ⟨_, _, hr, .inl ⟨rfl, ⟨hI.putObj _ hi3 (by omega) hb3.1 rfl, turn _ _ hb3⟩, hKt (hKt hk2 hkp) (hKb _ _ _ _ (by omega) hb3.1 rfl rfl)⟩⟩
    | ret => exact stop _ W3 hq.1 hq.2
    | exit id => exact stop _ W3 hq.1 hq.2
    | goto t => exact stop _ W3 hq.1 hq.2
    | panic ch => exact hq.elim
    | outgrown => exact hq.elim
  · rw [hW1]; exact hI.alloc _ (hI.alloc _ h0)
  · rintro e W2 ⟨⟨v, rfl⟩, (⟨hi, hb⟩ | ⟨s, c, hi, hb⟩)⟩
    · refine ⟨none, W2.putObj (M + 1) (.loop (recd .exhausted none)), ?_, ?_⟩
      · have h := run_endLoop (P := P) hb.1 (by rw [hrecd]; simp [rec'])
        rw [hrecd] at h ⊢; exact h
      · have := hdone M (W2.putObj (M + 1) (.loop (recd .exhausted none))) (by omega) (hI.putObj _ hi (by omega) hb.1 rfl) ((World.putObj_heap_other (by omega)).trans hb.2)
        exact this
    · refine ⟨some c, W2.putObj (M + 1) (.loop (recd .exhausted (some c))), ?_, ?_⟩
      · have h := run_endLoop (P := P) hb.1 (by rw [hrecd]; simp [rec'])
        rw [hrecd] at h ⊢; exact h
      · have := hstop M c s (W2.putObj (M + 1) (.loop (recd .exhausted (some c)))) (by omega) ((hIx c).putObj _ hi (by omega) hb.1 rfl) ((World.putObj_heap_other (by omega)).trans hb.2)
        exact this
end

end Go.Proofs.YtdefhmpmgcahpaaDoor
