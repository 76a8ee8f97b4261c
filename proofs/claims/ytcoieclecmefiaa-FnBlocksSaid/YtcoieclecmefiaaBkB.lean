import Derived.Test.YtcoieclecmefiaaBkA
/-
  The blocks of a signal: the model's.
-/
set_option linter.unusedVariables false
set_option linter.unusedSimpArgs false
namespace Go.Proofs.Ytcoieclecmefiaa
open Go.RowKit Flt Fast

/-- What stands at the place i of block b. -/
def blkQ (xs : List C) (h b i : Nat) : Z := if b * h + i < xs.length then zOf (xs.getD (b * h + i) (0, 0)) else z0

theorem cnt_facts (L n h : Nat) (hh : 1 ≤ h ∧ h ≤ n) : ∃ c : Nat, cntR L n h = c ∧ (∀ k, k < c → k * h < L) ∧ c ≤ L := by
  unfold cntR
  by_cases h0 : L = 0
  · subst h0
    exact ⟨0, by simp, fun k hk => by omega, Nat.le_refl _⟩
  · by_cases h1 : L ≤ n
    · refine ⟨1, ?_, fun k hk => by (have : k = 0 := by omega); subst this; omega, by omega⟩
      rw [if_neg (by omega), if_pos (by omega)]; rfl
    · obtain ⟨m, rfl⟩ : ∃ m, L = n + m := ⟨L - n, by omega⟩
      have hm : 1 ≤ m := by omega
      have e1 : ((n + m : Nat) : Int) - n + h - 1 = ((m + h - 1 : Nat) : Int) := by omega
      refine ⟨1 + (m + h - 1) / h, ?_, fun k hk => ?_, ?_⟩
      · rw [if_neg (by omega), if_neg (by omega), e1]
        rfl
      · have h2 : k ≤ (m + h - 1) / h := by omega
        have h3 := (Nat.le_div_iff_mul_le (by omega)).1 h2
        omega
      · have h2 : (m + h - 1) / h < m + 1 := by
          apply Nat.div_lt_of_lt_mul
          have : m ≤ h * m := Nat.le_mul_of_pos_left _ (by omega)
          rw [Nat.mul_add, Nat.mul_one]
          omega
        omega

theorem zOf_zero : IsC (0, 0) z0 := ⟨IsF.lit (by decide) (by omega), IsF.lit (by decide) (by omega)⟩

/-- A block that has been filled up to k, where either it is full or the signal is at its end. -/
theorem blk_done {xs ts : List C} {h b n k : Nat} (hw : WfC xs) (hk : ts.length = k) (hkn : k ≤ n) (hg : ∀ i, i < k → ts.getD i (0, 0) = xs.getD (b * h + i) (0, 0)) (hin : ∀ i, i < k → b * h + i < xs.length) (hend : k = n ∨ xs.length ≤ b * h + k) :
    (ts ++ List.replicate (n - k) (0, 0)).length = n ∧ ∀ i, i < n → IsC ((ts ++ List.replicate (n - k) (0, 0)).getD i (0, 0)) (blkQ xs h b i) := by
  refine ⟨by simp; omega, fun i hi => ?_⟩
  by_cases hik : i < k
  · have e : (ts ++ List.replicate (n - k) (0, 0)).getD i (0, 0) = ts.getD i (0, 0) := by simp [List.getD, List.getElem?_append_left, hk, hik]
    have hlt := hin i hik
    rw [e, hg i hik]
    unfold blkQ
    rw [if_pos hlt]
    have : xs.getD (b * h + i) (0, 0) ∈ xs := by rw [List.getD_eq_getElem?_getD, List.getElem?_eq_getElem hlt]; exact List.getElem_mem _
    obtain ⟨l1, l2⟩ := hw _ this
    exact ⟨IsF.self l1, IsF.self l2⟩
  · have e : (ts ++ List.replicate (n - k) (0, 0)).getD i (0, 0) = (0, 0) := by
      simp only [List.getD_eq_getElem?_getD]
      rw [List.getElem?_append_right (by omega), List.getElem?_replicate]
      rw [if_pos (by omega)]; rfl
    rw [e]
    unfold blkQ
    rw [if_neg (by omega)]
    exact zOf_zero

theorem cvals_rep (ts : List C) (m : Nat) : cvals (ts ++ List.replicate m (0, 0)) = cvals ts ++ List.replicate m (.complex .f64 0 0) := by
  simp [cvals, cval]

/-- Blocks that are being made, with their numbers. -/
structure Made (W : World) (B n : Nat) (V : Value) (vs : List Value) (bs : Nat → List C) (q : Nat → Nat → Z) : Prop where
  row : Row W B 24 V vs
  each : ∀ b, b < vs.length → Row W B 26 (vs.getD b undef) (cvals (bs b)) ∧ (bs b).length = n ∧ ∀ i, i < n → IsC ((bs b).getD i (0, 0)) (q b i)

theorem Made.below {W W' : World} {B n : Nat} {V : Value} {vs : List Value} {bs : Nat → List C} {q : Nat → Nat → Z} (h : Made W B n V vs bs q) (hb : Below W.heap.size W W') : Made W' B n V vs bs q :=
  ⟨h.row.below hb (fun k e => (h.row.lt k e).2), fun b hb' => ⟨(h.each b hb').1.below hb (fun k e => ((h.each b hb').1.lt k e).2), (h.each b hb').2⟩⟩

theorem Made.next {W W' : World} {B n : Nat} {V V' u : Value} {vs : List Value} {bs : Nat → List C} {ts : List C} {q : Nat → Nat → Z} (h : Made W B n V vs bs q) (hu : Row W B 26 u (cvals ts)) (hl : ts.length = n) (hw : ∀ i, i < n → IsC (ts.getD i (0, 0)) (q vs.length i))
    (hg : W.grownBy W' V.ownBlock) (hr : Row W' B 24 V' (vs ++ [u])) : Made W' B n V' (vs ++ [u]) (fun i => if i = vs.length then ts else bs i) q := by
  have ne : (26 : TypeId) ≠ 24 := by decide
  refine ⟨hr, fun b hb => ?_⟩
  by_cases hbl : b = vs.length
  · subst hbl
    rw [if_pos rfl, show (vs ++ [u]).getD vs.length undef = u by simp [List.getD]]
    exact ⟨hu.kept hg (row_apart hu h.row ne), hl, hw⟩
  · have hb2 : b < vs.length := by simp at hb; omega
    rw [if_neg hbl, show (vs ++ [u]).getD b undef = vs.getD b undef by simp [List.getD, List.getElem?_append_left, hb2]]
    obtain ⟨k1, k2⟩ := h.each b hb2
    exact ⟨k1.kept hg (row_apart k1 h.row ne), k2⟩

theorem Made.blks {W : World} {B n : Nat} {V : Value} {vs : List Value} {bs : Nat → List C} {q : Nat → Nat → Z} (h : Made W B n V vs bs q) : Blks W V vs bs q n :=
  ⟨h.row.reads, fun b hb => ⟨RdC.of_row (h.each b hb).1, (h.each b hb).2⟩⟩

end Go.Proofs.Ytcoieclecmefiaa
