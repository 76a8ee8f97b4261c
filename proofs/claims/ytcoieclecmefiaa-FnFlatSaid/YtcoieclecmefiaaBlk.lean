import Derived.Test.YtcoieclecmefiaaDrw
import Derived.Test.YtcoieclecmefiaaAddS
/-
  P6Blocks: blocks of a size, of whatever numbers.
-/
set_option linter.unusedVariables false
set_option linter.unusedSimpArgs false
namespace Go.Proofs.Ytcoieclecmefiaa
open Go.RowKit Flt Fast

theorem info_rws : (Try.prog.info? 24).map (fun i => (i.zero, i.size, i.bytes)) = some (some (.slice none 0 0), 1, 24) := by kernel_rfl

theorem grown_own {w w1 w2 : World} {row r2 : Option Nat} (h : w.grownBy w1 row) (k : w1.grownBy w2 r2) (hB : ∀ b, r2 = some b → w.heap.size ≤ b) : w.grownBy w2 row :=
  ⟨k.os.trans h.os, k.tape.trans h.tape, k.output.trans h.output, Nat.le_trans h.size k.size, fun j hj hr => (k.block j (Nat.lt_of_lt_of_le hj h.size) (fun e => by have := hB j e.symm; omega)).trans (h.block j hj hr)⟩

theorem row_apart {w : World} {B1 B2 : Nat} {e1 e2 : TypeId} {v u : Value} {cs ds : List Value} (h : Row w B1 e1 v cs) (k : Row w B2 e2 u ds) (hne : e1 ≠ e2) : v.ownBlock = none ∨ v.ownBlock ≠ u.ownBlock := by
  rcases h.2 with ⟨rfl, -⟩ | ⟨g, cap, cur, rfl, -, hg, -⟩
  · exact .inl rfl
  · refine .inr fun e => ?_
    rcases k.2 with ⟨rfl, -⟩ | ⟨g', cap', cur', rfl, -, hg', -⟩
    · cases e
    · simp only [Value.ownBlock, Option.some.injEq] at e
      subst e
      rw [hg] at hg'
      simp only [Option.some.injEq, Obj.cells.injEq] at hg'
      exact hne hg'.2.1

/-- Blocks that are being drawn. -/
structure Drawn (W : World) (B n : Nat) (V : Value) (vs : List Value) (bs : Nat → List C) : Prop where
  row : Row W (B + 1) 24 V vs
  each : ∀ b, b < vs.length → Row W (B + 1) 26 (vs.getD b undef) (cvals (bs b)) ∧ (bs b).length = n ∧ WfC (bs b)

theorem Drawn.kept {W W' : World} {B n : Nat} {V : Value} {vs : List Value} {bs : Nat → List C} (h : Drawn W B n V vs bs) (hg : W.grownBy W' (some B)) : Drawn W' B n V vs bs :=
  ⟨h.row.kept hg (.inr fun e => by have := (h.row.lt _ e).1; omega), fun b hb => ⟨(h.each b hb).1.kept hg (.inr fun e => by have := ((h.each b hb).1.lt _ e).1; omega), (h.each b hb).2⟩⟩

theorem Drawn.next {W W' : World} {B n : Nat} {V V' u : Value} {vs : List Value} {bs : Nat → List C} {ts : List C} (h : Drawn W B n V vs bs) (hu : Row W (B + 1) 26 u (cvals ts)) (hl : ts.length = n) (hw : WfC ts)
    (hg : W.grownBy W' V.ownBlock) (hr : Row W' (B + 1) 24 V' (vs ++ [u])) : Drawn W' B n V' (vs ++ [u]) (fun i => if i = vs.length then ts else bs i) := by
  have ne : (26 : TypeId) ≠ 24 := by decide
  refine ⟨hr, fun b hb => ?_⟩
  by_cases hbl : b = vs.length
  · subst hbl
    rw [if_pos rfl, show (vs ++ [u]).getD vs.length undef = u by simp [List.getD]]
    exact ⟨hu.kept hg (row_apart hu h.row ne), hl, hw⟩
  · have hb2 : b < vs.length := by simp at hb; omega
    rw [if_neg hbl, show (vs ++ [u]).getD b undef = vs.getD b undef by simp [List.getD, List.getElem?_append_left, hb2]]
    obtain ⟨k1, k2⟩ := h.each b hb2
    exact ⟨k1.kept hg (row_apart k1 h.row ne), k2⟩

theorem Drawn.blks {W : World} {B n : Nat} {V : Value} {vs : List Value} {bs : Nat → List C} (h : Drawn W B n V vs bs) : Blks W V vs bs (fun b i => zOf ((bs b).getD i (0, 0))) n :=
  ⟨h.row.reads, fun b hb => by
    obtain ⟨k1, k2, k3⟩ := h.each b hb
    refine ⟨RdC.of_row k1, k2, fun i hi => ?_⟩
    have : (bs b).getD i (0, 0) ∈ bs b := by rw [List.getD_eq_getElem?_getD, List.getElem?_eq_getElem (by omega)]; exact List.getElem_mem _
    obtain ⟨l1, l2⟩ := k3 _ this
    exact ⟨IsF.self l1, IsF.self l2⟩⟩

end Go.Proofs.Ytcoieclecmefiaa
