import Derived.Test.YtpphmolfhogepaaDoorDdp
import Derived.Test.YtpphmolfhogepaaDoorApw
import Derived.Test.YtpphmolfhogepaaDoorWalkSplit
import Derived.Laws.Strings
/-
  l01Split and l09Small of the model.
-/
set_option linter.unusedVariables false
set_option linter.unusedSimpArgs false
namespace Go.Proofs.YtpphmolfhogepaaDoor
open Go.RowKit

theorem strs_len (ts : List (List UInt8)) : (strs ts).length = ts.length := by simp [strs]
theorem strs_app (a b : List (List UInt8)) : strs (a ++ b) = strs a ++ strs b := by simp [strs]
theorem strs_one (ts : List (List UInt8)) : ∀ v ∈ strs ts, v.oneCell' = true := fun v hv => by
  obtain ⟨p, -, rfl⟩ := List.mem_map.1 hv
  rfl

/-- Where a text is cut so far: the pieces out, the rest from here on has no such byte up to i. -/
structure Cut (c : UInt8) (t : List UInt8) (out : List (List UInt8)) (from' i : Nat) : Prop where
  le : from' ≤ i
  lt : i ≤ t.length
  eq : splitL c t = out ++ splitL c (t.drop from')
  no : c ∉ (t.drop from').take (i - from')
theorem Cut.start (c : UInt8) (t : List UInt8) : Cut c t [] 0 0 := ⟨Nat.le_refl _, Nat.zero_le _, by simp, by simp⟩
theorem Cut.pass {c : UInt8} {t : List UInt8} {out : List (List UInt8)} {f i : Nat} (h : Cut c t out f i) (hi : i < t.length) (hc : t[i] ≠ c) : Cut c t out f (i + 1) := by
  obtain ⟨h1, h2, h3, h4⟩ := h
  refine ⟨by omega, by omega, h3, ?_⟩
  rw [show i + 1 - f = (i - f) + 1 by omega, List.take_add_one]
  intro hm
  rcases List.mem_append.1 hm with hm | hm
  · exact h4 hm
  · rw [List.getElem?_drop, show f + (i - f) = i by omega, List.getElem?_eq_getElem hi] at hm
    simp at hm
    exact hc hm.symm
theorem Cut.hit {c : UInt8} {t : List UInt8} {out : List (List UInt8)} {f i : Nat} (h : Cut c t out f i) (hi : i < t.length) (hc : t[i] = c) : Cut c t (out ++ [(t.drop f).take (i - f)]) (i + 1) (i + 1) := by
  obtain ⟨h1, h2, h3, h4⟩ := h
  refine ⟨Nat.le_refl _, hi, ?_, by simp⟩
  rw [h3, List.append_assoc]
  congr 1
  have e : t.drop f = (t.drop f).take (i - f) ++ c :: t.drop (i + 1) := by
    rw [← hc]
    have e1 : t.drop (i + 1) = (t.drop i).drop 1 := by rw [List.drop_drop]
    have e2 : t[i] :: t.drop (i + 1) = t.drop i := (List.drop_eq_getElem_cons hi).symm
    rw [e2]
    have e3 : t.drop i = (t.drop f).drop (i - f) := by rw [List.drop_drop]; congr 1; omega
    rw [e3, List.take_append_drop]
  conv => lhs; rw [e]
  rw [split_hit _ h4]
  rfl
theorem Cut.done {c : UInt8} {t : List UInt8} {out : List (List UInt8)} {f : Nat} (h : Cut c t out f t.length) : splitL c t = out ++ [t.drop f] := by
  obtain ⟨h1, h2, h3, h4⟩ := h
  rw [h3, split_none]
  rwa [List.take_of_length_le (by rw [List.length_drop]; omega)] at h4

theorem ext_take (t : List UInt8) (f i : Nat) : (strOf t).extract f i = strOf ((t.drop f).take (i - f)) := by
  unfold strOf
  apply ByteArray.ext
  apply Array.ext'
  rw [ByteArray.data_extract]
  simp
theorem spl_cut (t : List UInt8) : ∀ k, k ≤ t.length → Cut 32 t ((spl (strOf t) k).1.map (·.data.toList)) (spl (strOf t) k).2 k
  | 0, _ => Cut.start 32 t
  | k + 1, hk => by
    have ih := spl_cut t k (by omega)
    have hget : (strOf t).data.toList[k]? = some t[k] := by
      rw [strOf_list, List.getElem?_eq_getElem (by omega)]
    by_cases hc : t[k] = 32
    · have e : spl (strOf t) (k + 1) = ((spl (strOf t) k).1 ++ [(strOf t).extract (spl (strOf t) k).2 k], k + 1) := by
        show (if _ then _ else _) = _
        rw [if_pos (by rw [hget, hc])]
      rw [e]
      simp only [List.map_append, List.map_cons, List.map_nil]
      rw [ext_take, strOf_list]
      exact ih.hit (by omega) hc
    · have e : spl (strOf t) (k + 1) = spl (strOf t) k := by
        show (if _ then _ else _) = _
        rw [if_neg (by rw [hget]; simpa using hc)]
      rw [e]
      exact ih.pass (by omega) hc
theorem words_split (t : List UInt8) : (wordsOf (strOf t)).map Value.string = strs (splitL 32 t) := by
  have h := (spl_cut t t.length (Nat.le_refl _)).done
  unfold wordsOf
  rw [strOf_size, h, strs_app, List.map_append]
  congr 1
  · unfold strs
    rw [List.map_map]
    apply List.map_congr_left
    intro s _
    simp only [Function.comp_apply, strOf_self]
  · rw [ext_take]
    have : (t.drop (spl (strOf t) t.length).2).take (t.length - (spl (strOf t) t.length).2) = t.drop (spl (strOf t) t.length).2 := List.take_of_length_le (by rw [List.length_drop]; omega)
    rw [this]
    rfl
/-- l01Split of the model. -/
theorem splitM_any (t : List UInt8) (ht : t.length ≤ 1048576) (w : World) :
    Calls Tryd.prog 20 #[.string (strOf t), .int .u8 32] w fun e w' => ∃ u, e = .returned u ∧ Row w' w.heap.size 9 u (strs (splitL 32 t)) ∧ Below w.heap.size w w' := by
  refine (l01Split_any (strOf t) ht w).mono ?_
  rintro e w' ⟨v, rfl, ho, hb⟩
  refine ⟨v, rfl, ?_, hb⟩
  rw [← words_split]
  show w'.ownsRow _ _ _ _ _ _
  rw [List.length_map]
  exact ho

end Go.Proofs.YtpphmolfhogepaaDoor
