/-
  Numbers that are added at places, block by block. No program is named here.
-/
set_option linter.unusedVariables false
set_option linter.unusedSimpArgs false
namespace Go.Proofs.Ytnbmbegjpkebmaa

section
variable {Z : Type} (add : Z → Z → Z) (d : Z)
/-- A number is added at a place, or stands there as the first one. -/
def addAt (zs : List Z) (k : Nat) (p : Z) : List Z := if k < zs.length then zs.set k (add (zs.getD k d) p) else zs ++ [p]
def addBlk (zs : List Z) (f : Nat) (q : Nat → Z) : Nat → List Z
  | 0 => zs
  | m + 1 => addAt add d (addBlk zs f q m) (f + m) (q m)
def addAll (q : Nat → Nat → Z) (ln : Nat → Nat) (h : Nat) : Nat → List Z
  | 0 => []
  | b + 1 => addBlk add d (addAll q ln h b) (b * h) (q b) (ln b)

theorem addAt_lt {zs : List Z} {k : Nat} {p : Z} (h : k < zs.length) : addAt add d zs k p = zs.set k (add (zs.getD k d) p) := if_pos h
theorem addAt_ge {zs : List Z} {k : Nat} {p : Z} (h : ¬ k < zs.length) : addAt add d zs k p = zs ++ [p] := if_neg h
theorem addAt_len_le (zs : List Z) (k : Nat) (p : Z) : (addAt add d zs k p).length ≤ zs.length + 1 := by
  unfold addAt; split <;> simp
theorem addBlk_len_le (zs : List Z) (f : Nat) (q : Nat → Z) (m : Nat) : (addBlk add d zs f q m).length ≤ zs.length + m := by
  induction m with
  | zero => exact Nat.le_refl _
  | succ m ih => have := addAt_len_le add d (addBlk add d zs f q m) (f + m) (q m); rw [addBlk]; omega
theorem addAll_len_le (q : Nat → Nat → Z) (ln : Nat → Nat) (h N : Nat) (hl : ∀ b, ln b ≤ N) (b : Nat) : (addAll add d q ln h b).length ≤ b * N := by
  induction b with
  | zero => simp [addAll]
  | succ b ih => have := addBlk_len_le add d (addAll add d q ln h b) (b * h) (q b) (ln b); have := hl b; rw [addAll, Nat.add_mul]; omega
theorem addBlk_len {zs : List Z} {f : Nat} (q : Nat → Z) (hf : f ≤ zs.length) (m : Nat) : (addBlk add d zs f q m).length = max zs.length (f + m) := by
  induction m with
  | zero => simp [addBlk]; omega
  | succ m ih =>
    rw [addBlk]
    by_cases h : f + m < (addBlk add d zs f q m).length
    · rw [addAt_lt add d h, List.length_set, ih]; rw [ih] at h; omega
    · rw [addAt_ge add d h, List.length_append, ih]; rw [ih] at h; simp; omega
theorem addAll_le (q : Nat → Nat → Z) (n h : Nat) (hh : h ≤ n) (b : Nat) : b * h ≤ (addAll add d q (fun _ => n) h b).length := by
  induction b with
  | zero => simp
  | succ b ih => rw [addAll, addBlk_len add d _ ih, Nat.add_mul]; omega
theorem addAll_len (q : Nat → Nat → Z) (n h : Nat) (hh : h ≤ n) (b : Nat) : (addAll add d q (fun _ => n) h (b + 1)).length = b * h + n := by
  rw [addAll, addBlk_len add d _ (addAll_le add d q n h hh b)]
  cases b with
  | zero => simp [addAll]
  | succ b =>
    have : (addAll add d q (fun _ => n) h (b + 1)).length = b * h + n := addAll_len q n h hh b
    rw [this, Nat.add_mul]; omega
end

end Go.Proofs.Ytnbmbegjpkebmaa
