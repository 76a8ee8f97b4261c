import Derived.Test.YtnbmbegjpkebmaaAddS
/-
  An adder's tail and what it has told are the sums of all blocks: pure facts.
-/
set_option linter.unusedVariables false
set_option linter.unusedSimpArgs false
namespace Go.Proofs.Ytnbmbegjpkebmaa
open Go.RowKit Flt Fast

section
variable {Y : Type} (add : Y → Y → Y) (d : Y)
theorem addAt_app (A X : List Y) (m : Nat) (p : Y) : addAt add d (A ++ X) (A.length + m) p = A ++ addAt add d X m p := by
  by_cases h : m < X.length
  · rw [addAt_lt add d (by simp; omega), addAt_lt add d h, List.set_append_right _ _ (by omega), Nat.add_sub_cancel_left]
    congr 3
    simp [List.getD, List.getElem?_append_right]
  · rw [addAt_ge add d (by simp; omega), addAt_ge add d h, List.append_assoc]
theorem addBlk_split {zs : List Y} {f : Nat} (q : Nat → Y) (hf : f ≤ zs.length) (m : Nat) : addBlk add d zs f q m = zs.take f ++ addBlk add d (zs.drop f) 0 q m := by
  have hl : (zs.take f).length = f := by simp; omega
  induction m with
  | zero => simp [addBlk]
  | succ m ih =>
    rw [addBlk, ih, addBlk, Nat.zero_add]
    have := addAt_app add d (zs.take f) (addBlk add d (zs.drop f) 0 q m) m (q m)
    rw [hl] at this
    exact this
theorem addBlk_list (T : List Y) (m : Nat) (hm : m ≤ T.length) : addBlk add d [] 0 (fun i => T.getD i d) m = T.take m := by
  induction m with
  | zero => simp [addBlk]
  | succ m ih =>
    rw [addBlk, ih (by omega), addAt_ge add d (by simp; omega), List.take_add_one]
    have : m < T.length := by omega
    simp [List.getD, this]
theorem addBlk_ext (zs : List Y) (f : Nat) (q q' : Nat → Y) (m : Nat) (h : ∀ i, i < m → q i = q' i) : addBlk add d zs f q m = addBlk add d zs f q' m := by
  induction m with
  | zero => rfl
  | succ m ih => rw [addBlk, addBlk, ih (fun i hi => h i (by omega)), h m (by omega)]
end

/-- What has been told after b blocks, and what is left. -/
def toldL (q : Nat → Nat → Z) (n h b : Nat) : List Z := (ovlL q n h b).take (b * h)
def tailL (q : Nat → Nat → Z) (n h b : Nat) : List Z := (ovlL q n h b).drop (b * h)
/-- The sums of a tail and a block. -/
def stepL (T : List Z) (q : Nat → Z) (n : Nat) : List Z := addBlk addZ z0 T 0 q n

theorem told_tail (q : Nat → Nat → Z) (n h b : Nat) : toldL q n h b ++ tailL q n h b = ovlL q n h b := List.take_append_drop _ _
theorem toldL_len (q : Nat → Nat → Z) {n h : Nat} (hh : h ≤ n) (b : Nat) : (toldL q n h b).length = b * h := by
  unfold toldL
  rw [List.length_take]
  have : b * h ≤ (ovlL q n h b).length := addAll_le _ _ _ _ _ hh b
  omega
theorem tailL_zero (q : Nat → Nat → Z) (n h : Nat) : tailL q n h 0 = [] := by simp [tailL, ovlL, addAll]
theorem tailL_len (q : Nat → Nat → Z) {n h : Nat} (hh : h ≤ n) (b : Nat) : (tailL q n h (b + 1)).length = n - h := by
  have e : (ovlL q n h (b + 1)).length = b * h + n := addAll_len _ _ _ _ _ hh b
  unfold tailL
  rw [List.length_drop, e, Nat.add_mul]
  omega
theorem ovl_succ (q : Nat → Nat → Z) {n h : Nat} (hh : h ≤ n) (b : Nat) : ovlL q n h (b + 1) = toldL q n h b ++ stepL (tailL q n h b) (q b) n := by
  have hl : b * h ≤ (ovlL q n h b).length := addAll_le _ _ _ _ _ hh b
  show addBlk addZ z0 (ovlL q n h b) (b * h) (q b) n = _
  rw [addBlk_split addZ z0 (q b) hl n]
  rfl
theorem stepL_len (T : List Z) (q : Nat → Z) (n : Nat) : (stepL T q n).length = max T.length n := by
  unfold stepL
  rw [addBlk_len addZ z0 q (Nat.zero_le _)]
  simp
theorem told_succ (q : Nat → Nat → Z) {n h : Nat} (hh : h ≤ n) (b : Nat) : toldL q n h (b + 1) = toldL q n h b ++ (stepL (tailL q n h b) (q b) n).take h := by
  have hl := toldL_len q hh b
  show (ovlL q n h (b + 1)).take ((b + 1) * h) = _
  rw [ovl_succ q hh b, Nat.add_mul, Nat.one_mul, ← hl, List.take_length_add_append]
theorem tail_succ (q : Nat → Nat → Z) {n h : Nat} (hh : h ≤ n) (b : Nat) : tailL q n h (b + 1) = (stepL (tailL q n h b) (q b) n).drop h := by
  have hl := toldL_len q hh b
  show (ovlL q n h (b + 1)).drop ((b + 1) * h) = _
  rw [ovl_succ q hh b, Nat.add_mul, Nat.one_mul, ← hl, List.drop_length_add_append]

theorem FitsC.take {fs : List C} {zs : List Z} (h : FitsC fs zs) (k : Nat) : FitsC (fs.take k) (zs.take k) := by
  refine ⟨by simp [h.len], fun i hi => ?_⟩
  rw [List.length_take] at hi
  have h1 : i < k := by omega
  rw [show (fs.take k).getD i (0, 0) = fs.getD i (0, 0) by simp [List.getD, List.getElem?_take, h1], show (zs.take k).getD i z0 = zs.getD i z0 by simp [List.getD, List.getElem?_take, h1]]
  exact h.good i (by omega)
theorem FitsC.drop {fs : List C} {zs : List Z} (h : FitsC fs zs) (k : Nat) : FitsC (fs.drop k) (zs.drop k) := by
  refine ⟨by simp [h.len], fun i hi => ?_⟩
  simp at hi
  rw [show (fs.drop k).getD i (0, 0) = fs.getD (k + i) (0, 0) by simp [List.getD, List.getElem?_drop], show (zs.drop k).getD i z0 = zs.getD (k + i) z0 by simp [List.getD, List.getElem?_drop]]
  exact h.good (k + i) (by omega)
theorem FitsC.app {fs gs : List C} {zs ys : List Z} (h : FitsC fs zs) (k : FitsC gs ys) : FitsC (fs ++ gs) (zs ++ ys) := by
  refine ⟨by simp [h.len, k.len], fun i hi => ?_⟩
  by_cases hl : i < fs.length
  · rw [show (fs ++ gs).getD i (0, 0) = fs.getD i (0, 0) by simp [List.getD, List.getElem?_append_left, hl], show (zs ++ ys).getD i z0 = zs.getD i z0 by simp [List.getD, List.getElem?_append_left, ← h.len, hl]]
    exact h.good i hl
  · have e1 : (fs ++ gs).getD i (0, 0) = gs.getD (i - fs.length) (0, 0) := by simp [List.getD, List.getElem?_append_right (Nat.le_of_not_lt hl)]
    have e2 : (zs ++ ys).getD i z0 = ys.getD (i - fs.length) z0 := by rw [h.len] at hl ⊢; simp [List.getD, List.getElem?_append_right (Nat.le_of_not_lt hl)]
    rw [e1, e2]
    exact k.good _ (by simp at hi; omega)

/-- The sums that sumsAtPlaces makes of a tail and a block. -/
theorem two_sums (T : List Z) (q : Nat → Z) (n : Nat) : addAll addZ z0 (fun b i => if b = 0 then T.getD i z0 else q i) (fun b => if b = 0 then T.length else n) 0 2 = stepL T q n := by
  show addBlk addZ z0 (addBlk addZ z0 [] (0 * 0) (fun i => if (0 : Nat) = 0 then T.getD i z0 else q i) (if (0 : Nat) = 0 then T.length else n)) (1 * 0) (fun i => if (1 : Nat) = 0 then T.getD i z0 else q i) (if (1 : Nat) = 0 then T.length else n) = _
  simp only [if_true, Nat.mul_zero]
  rw [if_neg (by omega), addBlk_list addZ z0 T T.length (Nat.le_refl _), List.take_length]
  exact addBlk_ext addZ z0 T 0 _ _ n (fun i _ => by rw [if_neg (by omega)])

end Go.Proofs.Ytnbmbegjpkebmaa
