import Derived.Test.YtnbmbegjpkebmaaCnvN
/-
  Signals that come back to themselves, pure; marks that ranges over functions leave.
-/
set_option linter.unusedVariables false
set_option linter.unusedSimpArgs false
namespace Go.Proofs.Ytnbmbegjpkebmaa
open Go.RowKit Go.Shelf Flt Fast

/-- The number at a place, when j terms of what comes back have been added. -/
def rcSum (xn : Z) (made a : List Z) (n : Nat) : Nat → Z
  | 0 => xn
  | j + 1 => addZ (rcSum xn made a n j) (mulZ (a.getD j z0) (made.getD (n - 1 - j) z0))
/-- The first numbers of the signal that comes back. -/
def rcAll (x a : List Z) : Nat → List Z
  | 0 => []
  | n + 1 => rcAll x a n ++ [rcSum (x.getD n z0) (rcAll x a n) a n (min n a.length)]

theorem rcAll_length (x a : List Z) : ∀ n, (rcAll x a n).length = n
  | 0 => rfl
  | n + 1 => by simp [rcAll, rcAll_length x a n]
/-- It depends on what has been there alone. -/
theorem rcAll_take (x a : List Z) (m : Nat) : ∀ n, n ≤ m → rcAll (x.take m) a n = rcAll x a n
  | 0, _ => rfl
  | n + 1, h => by
    rw [rcAll, rcAll, rcAll_take x a m n (by omega)]
    congr 3
    simp [List.getD, show n < m by omega]
theorem rcAll_prefix (x a : List Z) : ∀ m n, n ≤ m → (rcAll x a m).take n = rcAll x a n
  | 0, n, h => by obtain rfl : n = 0 := by omega
                  rfl
  | m + 1, n, h => by
    by_cases e : n = m + 1
    · subst e; rw [List.take_of_length_le (by rw [rcAll_length]; exact Nat.le_refl _)]
    · rw [rcAll, List.take_append_of_le_length (by rw [rcAll_length]; omega)]; exact rcAll_prefix x a m n (by omega)
/-- With nothing to come back it is the signal. -/
theorem rcAll_nil (x : List Z) : ∀ n, n ≤ x.length → rcAll x [] n = x.take n
  | 0, _ => rfl
  | n + 1, h => by
    rw [rcAll, rcAll_nil x n (by omega), List.take_add_one]
    congr 1
    simp [rcSum, List.getD, List.getElem?_eq_getElem (show n < x.length by omega)]

theorem IsCs.nil : IsCs [] [] := ⟨rfl, fun i hi => absurd hi (by simp)⟩
theorem IsCs.snoc {ps : List C} {zs : List Z} {p : C} {z : Z} (h : IsCs ps zs) (hp : IsC p z) : IsCs (ps ++ [p]) (zs ++ [z]) := by
  refine ⟨by simp [h.1], fun i hi => ?_⟩
  by_cases e : i < zs.length
  · rw [getD_snoc_lt (by rw [h.1]; exact e), show (zs ++ [z]).getD i z0 = zs.getD i z0 by simp [List.getD, List.getElem?_append_left, e]]; exact h.2 i e
  · have : i = zs.length := by simp at hi; omega
    rw [getD_snoc_eq (by rw [h.1]; exact this), show (zs ++ [z]).getD i z0 = z by subst this; simp [List.getD]]; exact hp
theorem IsCs.zs {ps : List C} {zs : List Z} (h : IsCs ps zs) : zsOf ps = zs := by
  apply List.ext_getElem?
  intro i
  by_cases hi : i < zs.length
  · have h2 := h.2 i hi
    have e1 : ps.getD i (0, 0) = ps[i]'(by rw [h.1]; exact hi) := by simp [List.getD, show i < ps.length by rw [h.1]; exact hi]
    have e2 : zs.getD i z0 = zs[i] := by simp [List.getD, hi]
    rw [e1, e2] at h2
    rw [List.getElem?_eq_getElem hi, List.getElem?_eq_getElem (by rw [zsOf_length, h.1]; exact hi)]
    simp only [zsOf, List.getElem_map]
    congr 1
    exact Prod.ext h2.re.cn h2.im.cn
  · rw [List.getElem?_eq_none (by rw [zsOf_length, h.1]; omega), List.getElem?_eq_none (by omega)]
theorem IsCs.wf {ps : List C} {zs : List Z} (h : IsCs ps zs) : WfC ps := by
  intro p hp
  obtain ⟨i, hi, rfl⟩ := List.getElem_of_mem hp
  have h2 := h.2 i (by rw [← h.1]; exact hi)
  have e1 : ps.getD i (0, 0) = ps[i] := by simp [List.getD, hi]
  rw [e1] at h2
  exact ⟨h2.re.lt, h2.im.lt⟩
theorem IsCs.of_wf {ps : List C} (h : WfC ps) : IsCs ps (zsOf ps) := ⟨(zsOf_length ps).symm, fun i hi => isC_getD h (by rw [zsOf_length] at hi; exact hi)⟩

/-- Marks of ranges over functions: blocks from n on. -/
def Marks (n : Nat) (w : World) (ds : List Deferred) : Prop :=
  ∃ Ds : List Nat, ds = Ds.map (fun D => { target := .collected D, args := #[] }) ∧ Ds.Nodup ∧ ∀ D ∈ Ds, n ≤ D ∧ w.heap[D]? = some (.deferred (some []))
theorem Marks.nil (n : Nat) (w : World) : Marks n w [] := ⟨[], rfl, List.nodup_nil, fun D h => by cases h⟩
theorem Marks.lt {n : Nat} {w : World} {ds : List Deferred} (h : Marks n w ds) : ∃ Ds : List Nat, ds = Ds.map (fun D => { target := .collected D, args := #[] }) ∧ Ds.Nodup ∧ ∀ D ∈ Ds, n ≤ D ∧ D < w.heap.size ∧ w.heap[D]? = some (.deferred (some [])) := by
  obtain ⟨Ds, e, hn, h⟩ := h
  exact ⟨Ds, e, hn, fun D hD => ⟨(h D hD).1, (Array.getElem?_eq_some_iff.1 (h D hD).2).1, (h D hD).2⟩⟩
theorem Marks.cons {n D : Nat} {w W : World} {ds : List Deferred} (h : Marks n w ds) (hk : ∀ (k : Nat) (o : Obj), w.heap[k]? = some o → o.isCells = false → W.heap[k]? = some o) (hD : w.heap.size ≤ D) (hn : n ≤ D) (hb : W.heap[D]? = some (.deferred (some []))) :
    Marks n W ({ target := .collected D, args := #[] } :: ds) := by
  obtain ⟨Ds, e, hnd, h⟩ := h.lt
  refine ⟨D :: Ds, by simp [e], List.nodup_cons.2 ⟨fun hm => by have := (h D hm).2.1; omega, hnd⟩, fun k hk' => ?_⟩
  rcases List.mem_cons.1 hk' with rfl | hk'
  · exact ⟨hn, hb⟩
  · exact ⟨(h k hk').1, hk k _ (h k hk').2.2 rfl⟩
theorem Marks.kept {n : Nat} {w W : World} {ds : List Deferred} (h : Marks n w ds) (hk : ∀ (k : Nat) (o : Obj), w.heap[k]? = some o → o.isCells = false → W.heap[k]? = some o) : Marks n W ds := by
  obtain ⟨Ds, e, hnd, h⟩ := h
  exact ⟨Ds, e, hnd, fun D hD => ⟨(h D hD).1, hk D _ (h D hD).2 rfl⟩⟩

/-- The marks' blocks are shut; all that is cells lies as it lay. -/
structure Shut (n : Nat) (w w' : World) : Prop where
  os : w'.os = w.os
  tape : w'.tape = w.tape
  output : w'.output = w.output
  size : w'.heap.size = w.heap.size
  low : ∀ k, k < n → w'.heap[k]? = w.heap[k]?
  cells : ∀ (k : Nat) (o : Obj), w.heap[k]? = some o → o.isCells = true → w'.heap[k]? = some o
theorem Shut.refl (n : Nat) (w : World) : Shut n w w := ⟨rfl, rfl, rfl, rfl, fun _ _ => rfl, fun _ _ h _ => h⟩
theorem Shut.row {n B e : Nat} {w w' : World} {v : Value} {cs : List Value} (hs : Shut n w w') (h : Row w B e v cs) : Row w' B e v cs := by
  refine ⟨h.1, ?_⟩
  rcases h.2 with hn | ⟨g, cap, cur, rfl, hb, hg, rest⟩
  · exact .inl hn
  · exact .inr ⟨g, cap, cur, rfl, hb, hs.cells g _ hg rfl, rest⟩
theorem Shut.below {n : Nat} {w0 w w' : World} (hs : Shut n w w') (hn : w0.heap.size ≤ n) (h : Below w0.heap.size w0 w) : Below w0.heap.size w0 w' :=
  ⟨hs.os.trans h.os, hs.tape.trans h.tape, hs.output.trans h.output, by rw [hs.size]; exact h.size, fun k hk => (hs.low k (by omega)).trans (h.block k hk)⟩

/-- A function leaves by its marks. -/
theorem leaves_marks {F : Fence} {m n : Nat} {P : Program} {fn : Func} {tmps : Array Value} {R : Ending → World → Prop} (w : World) (ds : List Deferred) (h : Marks n w ds)
    (hR : ∀ w', Shut n w w' → LeavesIn F m P fn tmps R [] .returning w') : LeavesInM F m P fn tmps R ds .returning w := by
  obtain ⟨Ds, rfl, hnd, h⟩ := h
  suffices H : ∀ (Ds : List Nat) (w1 : World), Ds.Nodup → Shut n w w1 → (∀ D ∈ Ds, n ≤ D ∧ w1.heap[D]? = some (.deferred (some []))) → LeavesInM F m P fn tmps R (Ds.map (fun D => { target := .collected D, args := #[] })) .returning w1 from H Ds w hnd (Shut.refl _ _) h
  intro Ds
  induction Ds with
  | nil => exact fun w1 _ hs _ => hR w1 hs
  | cons D Ds ih =>
    intro w1 hnd hs h
    obtain ⟨hD, hnd⟩ := List.nodup_cons.1 hnd
    have hb := (h D (by simp)).2
    refine ⟨by simp, .inl ⟨D, _, rfl, run_takeDeferred hb, ih _ hnd ⟨hs.os, hs.tape, hs.output, by simp; exact hs.size, fun k hk => ?_, fun k o hk hc => ?_⟩ fun D' hD' => ?_⟩⟩
    · rw [World.putObj_heap_other (by have := (h D (by simp)).1; omega)]; exact hs.low k hk
    · have hw := hs.cells k o hk hc
      rw [World.putObj_heap_other (fun e => by subst e; rw [hw] at hb; cases hb; cases hc)]; exact hw
    · have := h D' (by simp [hD'])
      exact ⟨this.1, (World.putObj_heap_other (fun e => hD (by rw [← e]; exact hD'))).trans this.2⟩

end Go.Proofs.Ytnbmbegjpkebmaa
