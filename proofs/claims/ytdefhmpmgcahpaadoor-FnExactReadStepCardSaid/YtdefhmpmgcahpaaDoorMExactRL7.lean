/-
  Several texts of this claim, one behind the other; each says what it holds.
-/
import Derived.Test.YtdefhmpmgcahpaaDoorMExactRL1
import Derived.Test.YtdefhmpmgcahpaaDoorStrZ
import Derived.Test.YtdefhmpmgcahpaaDoorApwZ
import Derived.Test.YtdefhmpmgcahpaaDoorWalkSplitZ
import Derived.Laws.Strings
/-
  l01Split and l09Small of the model.
-/
set_option linter.unusedVariables false
set_option linter.unusedSimpArgs false
namespace Go.Proofs.YtdefhmpmgcahpaaDoor
open Go.RowKit

theorem strs_len (ts : List (List UInt8)) : (strs ts).length = ts.length := by simp [strs]
theorem strs_app (a b : List (List UInt8)) : strs (a ++ b) = strs a ++ strs b := by simp [strs]
theorem strs_one (ts : List (List UInt8)) : ∀ v ∈ strs ts, v.oneCell' = true := fun v hv => by
  obtain ⟨p, -, rfl⟩ := List.mem_map.1 hv
  rfl

/-- Where a text is cut so far: the pieces out, the rest from here on has no such byte up to i. -/
structure Cut (c : UInt8) (t : List UInt8) (out : List (List UInt8)) (from' i : Nat) : Prop where
  le : from' ≤ i
  lt : i ≤ t.length
  eq : splitL c t = out ++ splitL c (t.drop from')
  no : c ∉ (t.drop from').take (i - from')
theorem Cut.start (c : UInt8) (t : List UInt8) : Cut c t [] 0 0 := ⟨Nat.le_refl _, Nat.zero_le _, by simp, by simp⟩
theorem Cut.pass {c : UInt8} {t : List UInt8} {out : List (List UInt8)} {f i : Nat} (h : Cut c t out f i) (hi : i < t.length) (hc : t[i] ≠ c) : Cut c t out f (i + 1) := by
  obtain ⟨h1, h2, h3, h4⟩ := h
  refine ⟨by omega, by omega, h3, ?_⟩
  rw [show i + 1 - f = (i - f) + 1 by omega, List.take_add_one]
  intro hm
  rcases List.mem_append.1 hm with hm | hm
  · exact h4 hm
  · rw [List.getElem?_drop, show f + (i - f) = i by omega, List.getElem?_eq_getElem hi] at hm
    simp at hm
    exact hc hm.symm
theorem Cut.hit {c : UInt8} {t : List UInt8} {out : List (List UInt8)} {f i : Nat} (h : Cut c t out f i) (hi : i < t.length) (hc : t[i] = c) : Cut c t (out ++ [(t.drop f).take (i - f)]) (i + 1) (i + 1) := by
  obtain ⟨h1, h2, h3, h4⟩ := h
  refine ⟨Nat.le_refl _, hi, ?_, by simp⟩
  rw [h3, List.append_assoc]
  congr 1
  have e : t.drop f = (t.drop f).take (i - f) ++ c :: t.drop (i + 1) := by
    rw [← hc]
    have e1 : t.drop (i + 1) = (t.drop i).drop 1 := by rw [List.drop_drop]
    have e2 : t[i] :: t.drop (i + 1) = t.drop i := (List.drop_eq_getElem_cons hi).symm
    rw [e2]
    have e3 : t.drop i = (t.drop f).drop (i - f) := by rw [List.drop_drop]; congr 1; omega
    rw [e3, List.take_append_drop]
  conv => lhs; rw [e]
  rw [split_hit _ h4]
  rfl
theorem Cut.done {c : UInt8} {t : List UInt8} {out : List (List UInt8)} {f : Nat} (h : Cut c t out f t.length) : splitL c t = out ++ [t.drop f] := by
  obtain ⟨h1, h2, h3, h4⟩ := h
  rw [h3, split_none]
  rwa [List.take_of_length_le (by rw [List.length_drop]; omega)] at h4

theorem ext_take (t : List UInt8) (f i : Nat) : (strOf t).extract f i = strOf ((t.drop f).take (i - f)) := by
  unfold strOf
  apply ByteArray.ext
  apply Array.ext'
  rw [ByteArray.data_extract]
  simp
theorem spl_cut (t : List UInt8) : ∀ k, k ≤ t.length → Cut 32 t ((spl (strOf t) k).1.map (·.data.toList)) (spl (strOf t) k).2 k
  | 0, _ => Cut.start 32 t
  | k + 1, hk => by
    have ih := spl_cut t k (by omega)
    have hget : (strOf t).data.toList[k]? = some t[k] := by
      rw [strOf_list, List.getElem?_eq_getElem (by omega)]
    by_cases hc : t[k] = 32
    · have e : spl (strOf t) (k + 1) = ((spl (strOf t) k).1 ++ [(strOf t).extract (spl (strOf t) k).2 k], k + 1) := by
        show (if _ then _ else _) = _
        rw [if_pos (by rw [hget, hc])]
      rw [e]
      simp only [List.map_append, List.map_cons, List.map_nil]
      rw [ext_take, strOf_list]
      exact ih.hit (by omega) hc
    · have e : spl (strOf t) (k + 1) = spl (strOf t) k := by
        show (if _ then _ else _) = _
        rw [if_neg (by rw [hget]; simpa using hc)]
      rw [e]
      exact ih.pass (by omega) hc
theorem words_split (t : List UInt8) : (wordsOf (strOf t)).map Value.string = strs (splitL 32 t) := by
  have h := (spl_cut t t.length (Nat.le_refl _)).done
  unfold wordsOf
  rw [strOf_size, h, strs_app, List.map_append]
  congr 1
  · unfold strs
    rw [List.map_map]
    apply List.map_congr_left
    intro s _
    simp only [Function.comp_apply, strOf_self]
  · rw [ext_take]
    have : (t.drop (spl (strOf t) t.length).2).take (t.length - (spl (strOf t) t.length).2) = t.drop (spl (strOf t) t.length).2 := List.take_of_length_le (by rw [List.length_drop]; omega)
    rw [this]
    rfl
/-- l01Split of the model. -/
theorem splitM_any (t : List UInt8) (ht : t.length ≤ 1048576) (w : World) :
    Calls Tryd.prog 45 #[.string (strOf t), .int .u8 32] w fun e w' => ∃ u, e = .returned u ∧ Row w' w.heap.size 9 u (strs (splitL 32 t)) ∧ Below w.heap.size w w' := by
  refine (l01Split_any (strOf t) ht w).mono ?_
  rintro e w' ⟨v, rfl, ho, hb⟩
  refine ⟨v, rfl, ?_, hb⟩
  rw [← words_split]
  show w'.ownsRow _ _ _ _ _ _
  rw [List.length_map]
  exact ho

theorem strs_find {w : World} {B : Nat} {u : Value} {ts : List (List UInt8)} (h : Row w B 9 u (strs ts)) : ∃ a cap, u = .slice a ts.length cap ∧ ∀ j, j < ts.length → ∃ g, a = some ⟨g, 0, none⟩ ∧ g < w.heap.size ∧ w.cell? ⟨g, j, none⟩ = some (.string (strOf (ts.getD j []))) := by
  have hl := strs_len ts
  have hr := h.reads
  generalize hcs : strs ts = cs at hr hl
  cases hr with
  | none a cap =>
    have : ts.length = 0 := by rw [← hl]; rfl
    exact ⟨a, cap, by rw [this], fun j hj => by omega⟩
  | row g cap L cs hL h0 hc hm hcell =>
    refine ⟨_, cap, by rw [← hl, hL], fun j hj => ⟨g, rfl, World.block_lt_of_cell? _ _ (hcell 0 (by omega)), ?_⟩⟩
    rw [hcell j (by omega), ← hcs]
    unfold strs
    rw [List.getD_eq_getElem?_getD, List.getElem?_map, List.getElem?_eq_getElem hj, List.getD_eq_getElem?_getD, List.getElem?_eq_getElem hj]
    rfl

end Go.Proofs.YtdefhmpmgcahpaaDoor
/-
  l09Small of the model.
-/
set_option linter.unusedVariables false
set_option linter.unusedSimpArgs false
namespace Go.Proofs.YtdefhmpmgcahpaaDoor
open Go.RowKit

theorem byte_at (t : List UInt8) (k : Nat) (h : k < t.length) (h' : k < (strOf t).size) : (strOf t)[k]'h' = t[k]'h := by
  show (strOf t).data[k]'h' = t[k]'h
  simp [strOf]
theorem dVal_take {t : List UInt8} {k : Nat} (h : k < t.length) : dVal (t.take (k + 1)) = dVal (t.take k) * 10 + (t[k].toNat - 48) := by
  rw [List.take_add_one, List.getElem?_eq_getElem h, Option.toList_some, dVal_snoc]
theorem all_take {t : List UInt8} {k : Nat} (h : k < t.length) (ha : (t.take k).all isDig = true) (hd : isDig t[k] = true) : (t.take (k + 1)).all isDig = true := by
  rw [List.take_add_one, List.getElem?_eq_getElem h, Option.toList_some, List.all_append, ha]
  simp [hd]
theorem dVal_lt {t : List UInt8} (ha : t.all isDig = true) : ∀ k, k ≤ t.length → dVal (t.take k) < 10 ^ k
  | 0, _ => by simp [dVal]
  | k + 1, h => by
    have ih := dVal_lt ha k (by omega)
    rw [dVal_take (by omega), Nat.pow_succ]
    have hd : isDig t[k] = true := List.all_eq_true.1 ha _ (List.getElem_mem _)
    have : 48 ≤ t[k].toNat ∧ t[k].toNat ≤ 57 := by simpa [isDig] using hd
    omega
theorem dVal_small {t : List UInt8} (ha : t.all isDig = true) (hl : t.length ≤ 3) : dVal t < 1000 := by
  have h := dVal_lt ha t.length (Nat.le_refl _)
  rw [List.take_length] at h
  have : 10 ^ t.length ≤ 10 ^ 3 := Nat.pow_le_pow_right (by decide) hl
  omega

end Go.Proofs.YtdefhmpmgcahpaaDoor
