import Derived.Test.YtpphmolfhogepaaDoorDdp
/-
  What the model reads of a text: pure.
-/
set_option linter.unusedVariables false
set_option linter.unusedSimpArgs false
namespace Go.Proofs.YtpphmolfhogepaaDoor
open Go.RowKit

/-- The words of a text, and two more that are empty. -/
def wsM (t : List UInt8) : List (List UInt8) := splitL 32 t ++ [[], []]
/-- The deed of a kind that the model makes of words. -/
def dM (t : List UInt8) (k : Nat) : Dd := ⟨k, smZ ((wsM t).getD 1 []), if 1 < ddCnt k then smZ ((wsM t).getD 2 []) else 0, if 2 < ddCnt k ∧ 3 < (wsM t).length then smZ ((wsM t).getD 3 []) else 0⟩
def condM (t : List UInt8) (k : Nat) : Prop := (ddWord k).data.toList = (wsM t).getD 0 [] ∧ ddText (dM t k) = t

theorem wsM_len (t : List UInt8) : 3 ≤ (wsM t).length := by
  unfold wsM
  have := List.length_pos_iff.2 (splitL_ne 32 t)
  simp
  omega
theorem wsM_mem (t : List UInt8) (i : Nat) : ((wsM t).getD i []).length ≤ t.length := by
  by_cases h : i < (wsM t).length
  · rw [List.getD_eq_getElem?_getD, List.getElem?_eq_getElem h]
    have hm : (wsM t)[i] ∈ wsM t := List.getElem_mem h
    simp only [Option.getD_some]
    generalize (wsM t)[i] = x at hm
    unfold wsM at hm
    rcases List.mem_append.1 hm with hm | hm
    · exact split_len_mem 32 hm
    · simp at hm
      subst hm
      simp
  · rw [List.getD_eq_getElem?_getD, List.getElem?_eq_none (by omega)]
    simp
theorem ddWord_ne {q : Nat} (h1 : 1 ≤ q) (h8 : q ≤ 8) : (ddWord q).data.toList ≠ [] := by
  rcases kinds8 h1 h8 with rfl | rfl | rfl | rfl | rfl | rfl | rfl | rfl <;> decide
theorem condM_yes {t : List UInt8} {k : Nat} (h1 : 1 ≤ k) (h8 : k ≤ 8) (h : condM t k) : ReadsDd t (some (dM t k)) := by
  obtain ⟨hw, ht⟩ := h
  refine ⟨?_, ht⟩
  cases hv : validDd (dM t k) with
  | true => rfl
  | false =>
    exfalso
    have : ddText (dM t k) = [] := by unfold ddText; rw [hv]; rfl
    rw [this] at ht
    subst ht
    exact ddWord_ne h1 h8 hw
theorem condM_no {t : List UInt8} (h : ∀ k, 1 ≤ k → k ≤ 8 → ¬ condM t k) : ReadsDd t none := fun d hd e => by
  obtain ⟨q, k1, q1, q8⟩ := dd_kind hd
  have hq : d.kind.toNat = q := by rw [k1]; rfl
  have hs : splitL 32 t = ddWords d := by rw [← e]; exact ddText_split hd
  have hw : wsM t = (ddWord q).data.toList :: (ddNums d).map Lib.itoa ++ [[], []] := by unfold wsM; rw [hs, ddWords, hq]
  refine h q q1 q8 ⟨by rw [hw]; rfl, ?_⟩
  have hn := ddNums_len hd
  rw [hq] at hn
  have hz := ddNums_in hd
  have hde : dM t q = d := by
    obtain ⟨kd, a, b, c⟩ := d
    simp only at k1
    subst k1
    have hv := validDd_split q1 q8 a b c
    rw [hd] at hv
    obtain ⟨-, ha, hb, hc⟩ := valid_dd hd
    simp only at ha hb hc
    unfold dM
    rw [hw]
    unfold ddNums
    simp only [Int.toNat_natCast]
    have hm := ddCnt_in q1 q8
    generalize ddCnt q = m at hv hm
    rcases hm with rfl | rfl | rfl
    · simp [dOk, smZ_itoa ha] at hv ⊢
      simp_all
    · simp [dOk, smZ_itoa ha, smZ_itoa hb] at hv ⊢
      simp_all
    · simp [smZ_itoa ha, smZ_itoa hb, smZ_itoa hc]
  rw [hde, e]
theorem long_no {t : List UInt8} (h : 40 < t.length) : ReadsDd t none := fun d hd e => by
  obtain ⟨q, k1, q1, q8⟩ := dd_kind hd
  have hq : d.kind.toNat = q := by rw [k1]; rfl
  have hl := tx_len (ddWord_len (show q < 9 by omega)) (fun z hz => by have := ddNums_in hd z hz; omega : ∀ z ∈ ddNums d, -1024 ≤ z ∧ z ≤ 1024)
  have key : ∀ (u : List UInt8) (zs : List Int), (∀ z ∈ zs, 0 ≤ z ∧ z ≤ 999) → (txGo u zs).length ≤ u.length + 4 * zs.length := by
    intro u zs
    induction zs generalizing u with
    | nil => intro _; simp [txGo]
    | cons z zs ih =>
      intro hz
      have h1 := ih (u ++ (32 :: Lib.itoa z)) (fun y hy => hz y (List.mem_cons_of_mem _ hy))
      obtain ⟨n, hn⟩ : ∃ n : Nat, z = n := ⟨z.toNat, by have := hz z (by simp); omega⟩
      have h3 : (Lib.itoa z).length ≤ 3 := by
        rw [hn, Lib.itoa_nonneg]
        exact (dec_len3 (by have := hz z (by simp); omega)).2
      have e2 : txGo u (z :: zs) = txGo (u ++ (32 :: Lib.itoa z)) zs := rfl
      rw [e2]
      simp only [List.length_append, List.length_cons] at h1 ⊢
      omega
  have h2 := key (ddWord q).data.toList (ddNums d) (ddNums_in hd)
  have hn := ddNums_len hd
  rw [hq] at hn
  have hm := ddCnt_in q1 q8
  have hw := ddWord_len (show q < 9 by omega)
  have e3 : ddText d = txGo (ddWord q).data.toList (ddNums d) := by unfold ddText; rw [hd, if_pos rfl, hq]
  rw [← e, e3] at h
  omega

end Go.Proofs.YtpphmolfhogepaaDoor
