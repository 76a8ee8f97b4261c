import Derived.Test.YtpphmolfhogepaaDoorScd
/-
  Deeds that are read of their texts: pure.
-/
set_option linter.unusedVariables false
set_option linter.unusedSimpArgs false
namespace Go.Proofs.YtpphmolfhogepaaDoor
open Go.RowKit

theorem txGo_app (a b : List UInt8) : ∀ zs : List Int, txGo (a ++ b) zs = a ++ txGo b zs := by
  intro zs
  unfold txGo
  induction zs generalizing b with
  | nil => rfl
  | cons z zs ih => simp only [List.foldl_cons, List.append_assoc]; exact ih _
theorem join_tx : ∀ (t : List UInt8) (zs : List Int), joinL 32 (t :: zs.map Lib.itoa) = txGo t zs
  | t, [] => rfl
  | t, z :: zs => by
    rw [List.map_cons, joinL_cons _ _ (by simp), join_tx]
    have : txGo t (z :: zs) = txGo (t ++ (32 :: Lib.itoa z)) zs := rfl
    rw [this, txGo_app]
    have e := txGo_app [32] (Lib.itoa z) zs
    rw [show (32 :: Lib.itoa z) = [32] ++ Lib.itoa z from rfl, e]
    rfl
theorem ddText_join {d : Dd} (h : validDd d = true) : joinL 32 (ddWords d) = ddText d := by
  unfold ddWords ddText
  rw [h, if_pos rfl, join_tx]
theorem ddWord_no {q : Nat} (h1 : 1 ≤ q) (h8 : q ≤ 8) : (32 : UInt8) ∉ (ddWord q).data.toList := by
  rcases kinds8 h1 h8 with rfl | rfl | rfl | rfl | rfl | rfl | rfl | rfl <;> decide
theorem ddText_split {d : Dd} (h : validDd d = true) : splitL 32 (ddText d) = ddWords d := by
  rw [← ddText_join h]
  refine split_join (by unfold ddWords; simp) fun t ht => ?_
  unfold ddWords at ht
  rcases List.mem_cons.1 ht with rfl | ht
  · obtain ⟨q, e, q1, q8⟩ := dd_kind h
    rw [e]
    exact ddWord_no q1 q8
  · obtain ⟨z, -, rfl⟩ := List.mem_map.1 ht
    exact itoa_no (by decide) (by decide)

/-- The deed with a text, or none. -/
def ReadsDd (t : List UInt8) (r : Option Dd) : Prop := match r with | some d => validDd d = true ∧ ddText d = t | none => ∀ d, validDd d = true → ddText d ≠ t
theorem ddText_inj {d d' : Dd} (h : validDd d = true) (h' : validDd d' = true) (e : ddText d = ddText d') : d = d' := by
  have hw : ddWords d = ddWords d' := by rw [← ddText_split h, ← ddText_split h', e]
  obtain ⟨q, k1, q1, q8⟩ := dd_kind h
  obtain ⟨q', k2, q1', q8'⟩ := dd_kind h'
  unfold ddWords at hw
  rw [k1, k2] at hw
  simp only [Int.toNat_natCast, List.cons.injEq] at hw
  obtain ⟨hw1, hw2⟩ := hw
  obtain rfl : q = q' := ddWord_inj q1 q8 q1' q8' hw1
  have hn : ddNums d = ddNums d' := by
    have z1 := ddNums_in h
    have z2 := ddNums_in h'
    have inj : ∀ (a b : List Int), (∀ z ∈ a, 0 ≤ z ∧ z ≤ 999) → (∀ z ∈ b, 0 ≤ z ∧ z ≤ 999) → a.map Lib.itoa = b.map Lib.itoa → a = b := by
      intro a
      induction a with
      | nil => intro b _ _ e; cases b with | nil => rfl | cons _ _ => cases e
      | cons x a ih =>
        intro b ha hb e
        cases b with
        | nil => cases e
        | cons y b =>
          simp only [List.map_cons, List.cons.injEq] at e
          have hx := ha x (by simp)
          have hy := hb y (by simp)
          rw [itoa_inj (by omega) (by omega) (by omega) (by omega) e.1, ih b (fun z hz => ha z (List.mem_cons_of_mem _ hz)) (fun z hz => hb z (List.mem_cons_of_mem _ hz)) e.2]
    exact inj _ _ z1 z2 hw2
  obtain ⟨kd, a, b, c⟩ := d
  obtain ⟨kd', a', b', c'⟩ := d'
  simp only at k1 k2
  subst k1; subst k2
  have v1 := validDd_split q1 q8 a b c
  have v2 := validDd_split q1 q8 a' b' c'
  rw [h] at v1
  rw [h'] at v2
  unfold ddNums at hn
  simp only [Int.toNat_natCast] at hn
  have hm := ddCnt_in q1 q8
  generalize ddCnt q = m at hn v1 v2 hm
  rcases hm with rfl | rfl | rfl
  · simp [dOk] at hn v1 v2
    simp_all
  · simp [dOk] at hn v1 v2
    simp_all
  · simp at hn
    obtain ⟨rfl, rfl, rfl⟩ := hn
    rfl
theorem ReadsDd.unique {t : List UInt8} {r r' : Option Dd} (h : ReadsDd t r) (h' : ReadsDd t r') : r = r' := by
  cases r with
  | none =>
    cases r' with
    | none => rfl
    | some d => exact absurd h'.2 (h d h'.1)
  | some d =>
    cases r' with
    | none => exact absurd h.2 (h' d h.1)
    | some d' => rw [ddText_inj h.1 h'.1 (h.2.trans h'.2.symm)]
def rV (r : Option Dd) : Value := match r with | some d => ddV d | none => ddV ⟨0, 0, 0, 0⟩
def rC (r : Option Dd) : Int := match r with | some _ => 0 | none => 5

/-- What is scanned of the words of a text. -/
theorem reads_all {t : List UInt8} {d : Dd} (hd : validDd d = true) (h : splitL 32 t = ddWords d) : ReadsDd t (some d) := ⟨hd, by rw [← ddText_join hd, ← h, join_split]⟩
theorem reads_no {t : List UInt8} (h : ∀ d, validDd d = true → splitL 32 t ≠ ddWords d) : ReadsDd t none := fun d hd e => h d hd (by rw [← e, ddText_split hd])
theorem reads_more {t : List UInt8} {d : Dd} {k : Nat} (hd : validDd d = true) (hk : k = 1 + ddCnt d.kind.toNat) (hl : k < (splitL 32 t).length) (h : (splitL 32 t).take k = ddWords d) : ReadsDd t none := reads_no fun d' hd' e => by
  obtain ⟨q, e1, q1, q8⟩ := dd_kind hd
  have hq : d.kind.toNat = q := by rw [e1]; rfl
  rw [hq] at hk
  have h0 : (ddWord q).data.toList = (splitL 32 t).getD 0 [] := by
    have := congrArg (fun l => l.getD 0 []) h
    simp only [ddWords, hq] at this
    rw [List.getD_eq_getElem?_getD, List.getElem?_take, if_pos (by omega), ← List.getD_eq_getElem?_getD] at this
    simpa using this.symm
  have := (words_no q1 q8 h0 hd' e).2.1
  omega

end Go.Proofs.YtpphmolfhogepaaDoor
