/-
  Several texts of this claim, one behind the other; each says what it holds.
-/
import Derived.Test.YtdefhmpmgcahpaaDoorMPlanTeL19
import Derived.Test.YtdefhmpmgcahpaaDoorMPlanTeL11
import Derived.Test.YtdefhmpmgcahpaaDoorMPlanTeL23
import Derived.Test.YtdefhmpmgcahpaaDoorMPlanTeL13
import Derived.Test.YtdefhmpmgcahpaaDoorMPlanTeL10
import Derived.Test.YtdefhmpmgcahpaaDoorMPlanTeL8
/-
  Plans that are read of their texts: pure.
-/
set_option linter.unusedVariables false
set_option linter.unusedSimpArgs false
namespace Go.Proofs.YtdefhmpmgcahpaaDoor
open Go.RowKit

theorem wordOf_no10 {q : Nat} (h1 : 1 ≤ q) (h13 : q ≤ 13) : (10 : UInt8) ∉ (wordOf q).data.toList := by
  have hc : q = 1 ∨ q = 2 ∨ q = 3 ∨ q = 4 ∨ q = 5 ∨ q = 6 ∨ q = 7 ∨ q = 8 ∨ q = 9 ∨ q = 10 ∨ q = 11 ∨ q = 12 ∨ q = 13 := by omega
  rcases hc with rfl | rfl | rfl | rfl | rfl | rfl | rfl | rfl | rfl | rfl | rfl | rfl | rfl <;> decide
theorem tx_no10 (t : List UInt8) (ht : (10 : UInt8) ∉ t) : ∀ zs : List Int, (10 : UInt8) ∉ txGo t zs := by
  intro zs
  unfold txGo
  induction zs generalizing t with
  | nil => exact ht
  | cons z zs ih =>
    rw [List.foldl_cons]
    refine ih _ fun hm => ?_
    rcases List.mem_append.1 hm with hm | hm
    · exact ht hm
    · rcases List.mem_cons.1 hm with hm | hm
      · exact absurd hm (by decide)
      · exact itoa_no (by decide) (by decide) hm
theorem stText_no10 (s : St) : (10 : UInt8) ∉ stText s := by
  unfold stText
  by_cases hv : validSt s = true
  · rw [if_pos hv]
    obtain ⟨q, e, q1, q13⟩ := st_kind hv
    rw [e]
    exact tx_no10 _ (wordOf_no10 q1 q13) _
  · rw [if_neg hv]
    simp

theorem pt_app (a b : List UInt8) : ∀ ss : List St, ptGo (a ++ b) ss = a ++ ptGo b ss := by
  intro ss
  unfold ptGo
  induction ss generalizing b with
  | nil => rfl
  | cons s ss ih => simp only [List.foldl_cons, List.append_assoc]; exact ih _
theorem pt_cons (s : St) (ss : List St) : ptGo [] (s :: ss) = stText s ++ 10 :: ptGo [] ss := by
  have : ptGo [] (s :: ss) = ptGo ([] ++ (stText s ++ [10])) ss := rfl
  rw [this, List.nil_append]
  have e := pt_app (stText s ++ [10]) [] ss
  rw [List.append_nil] at e
  rw [e, List.append_assoc]
  rfl
theorem pt_split : ∀ ss : List St, splitL 10 (ptGo [] ss) = ss.map stText ++ [[]]
  | [] => rfl
  | s :: ss => by
    rw [pt_cons, split_hit _ (stText_no10 s), pt_split ss]
    rfl
theorem pt_join : ∀ ss : List St, joinL 10 (ss.map stText ++ [[]]) = ptGo [] ss := fun ss => by
  rw [← pt_split, join_split]

theorem validPl_each {ss : List St} (h : validPl ss = true) : ∀ s ∈ ss, validSt s = true := by
  simp only [validPl, Bool.and_eq_true, decide_eq_true_eq, List.all_eq_true] at h
  exact h.2
theorem plText_valid {ss : List St} (h : validPl ss = true) : plText ss = ptGo [] ss := by
  unfold plText
  rw [if_pos h]
/-- The pieces of a valid plan's text. -/
theorem pl_pieces {t : List UInt8} {ss : List St} (h : validPl ss = true) (e : plText ss = t) : (splitL 10 t).length = ss.length + 1 ∧ (splitL 10 t).getD ss.length [] = [] ∧ cntL (splitL 10 t) = ss.length ∧
    ∀ j, j < ss.length → ReadsSt ((splitL 10 t).getD j []) (some (ss.getD j default)) := by
  rw [plText_valid h] at e
  have hs := pt_split ss
  rw [e] at hs
  rw [hs]
  have h1 : (ss.map stText ++ [[]]).length = ss.length + 1 := by simp
  have h2 : (ss.map stText ++ [[]]).getD ss.length [] = [] := by
    rw [List.getD_eq_getElem?_getD, List.getElem?_append_right (by simp)]
    simp
  refine ⟨h1, h2, ?_, fun j hj => ?_⟩
  · unfold cntL
    rw [h1, show ss.length + 1 - 1 = ss.length by omega, if_pos h2]
  · have e1 : (ss.map stText ++ [[]]).getD j [] = stText (ss.getD j default) := by
      rw [List.getD_eq_getElem?_getD, List.getElem?_append_left (by simpa using hj), List.getElem?_map, List.getD_eq_getElem?_getD, List.getElem?_eq_getElem hj]
      rfl
    rw [e1]
    refine ⟨validPl_each h _ ?_, rfl⟩
    rw [List.getD_eq_getElem?_getD, List.getElem?_eq_getElem hj]
    exact List.getElem_mem hj
theorem list_ext {ss rs : List St} (h : ss.length = rs.length) (h2 : ∀ j, j < ss.length → ss.getD j default = rs.getD j default) : ss = rs := by
  refine List.ext_getElem h fun j h1 h3 => ?_
  have := h2 j h1
  rwa [List.getD_eq_getElem?_getD, List.getElem?_eq_getElem h1, List.getD_eq_getElem?_getD, List.getElem?_eq_getElem h3] at this

/-- What is read of a text that is not too long, or why nothing is. -/
def ReadsP (t : List UInt8) (ss : List St) (c : Int) : Prop :=
  (4000 < t.length ∧ ss = [] ∧ c = 2) ∨ (t.length ≤ 4000 ∧ ((c = 0 ∧ validPl ss = true ∧ plText ss = t) ∨ (c = 5 ∧ ss = [] ∧ ∀ rs, validPl rs = true → plText rs ≠ t)))

theorem pl_inj {t : List UInt8} {ss rs : List St} (h : validPl ss = true) (e : plText ss = t) (h' : validPl rs = true) (e' : plText rs = t) : ss = rs := by
  obtain ⟨a1, -, -, a2⟩ := pl_pieces h e
  obtain ⟨b1, -, -, b2⟩ := pl_pieces h' e'
  refine list_ext (by omega) fun j hj => ?_
  have := (a2 j hj).unique (b2 j (by omega))
  simpa using this
theorem ReadsP.unique {t : List UInt8} {ss rs : List St} {c d : Int} (h : ReadsP t ss c) (h' : ReadsP t rs d) : ss = rs ∧ c = d := by
  rcases h with ⟨l1, rfl, rfl⟩ | ⟨l1, ⟨rfl, v1, e1⟩ | ⟨rfl, rfl, n1⟩⟩ <;> rcases h' with ⟨l2, rfl, rfl⟩ | ⟨l2, ⟨rfl, v2, e2⟩ | ⟨rfl, rfl, n2⟩⟩
  · exact ⟨rfl, rfl⟩
  · omega
  · omega
  · omega
  · exact ⟨pl_inj v1 e1 v2 e2, rfl⟩
  · exact absurd e1 (n2 _ v1)
  · omega
  · exact absurd e2 (n1 _ v2)
  · exact ⟨rfl, rfl⟩
theorem ReadsP.valid {t : List UInt8} {ss : List St} {c : Int} (h : ReadsP t ss c) : validPl ss = true := by
  rcases h with ⟨_, rfl, _⟩ | ⟨_, ⟨_, v, _⟩ | ⟨_, rfl, _⟩⟩
  · rfl
  · exact v
  · rfl

/-- A line is no step's. -/
theorem pl_bad {t : List UInt8} (ht : t.length ≤ 4000) {j : Nat} (hj : j < cntL (splitL 10 t)) (h : ReadsSt ((splitL 10 t).getD j []) none) : ReadsP t [] 5 := by
  refine .inr ⟨ht, .inr ⟨rfl, rfl, fun rs hv e => ?_⟩⟩
  obtain ⟨-, -, a3, a4⟩ := pl_pieces hv e
  exact absurd ((a4 j (by omega)).unique h) (by simp)
/-- All lines are read; the text is that of what is read, or not. -/
theorem pl_all {t : List UInt8} (ht : t.length ≤ 4000) {ss : List St} (hl : ss.length = cntL (splitL 10 t)) (h : ∀ j, j < ss.length → ReadsSt ((splitL 10 t).getD j []) (some (ss.getD j default))) :
    (plText ss = t → ReadsP t ss 0) ∧ (plText ss ≠ t → ReadsP t [] 5) := by
  refine ⟨fun e => .inr ⟨ht, .inl ⟨rfl, ?_, e⟩⟩, fun hn => .inr ⟨ht, .inr ⟨rfl, rfl, fun rs hv e => hn ?_⟩⟩⟩
  · by_cases hv : validPl ss = true
    · exact hv
    · unfold plText at e
      rw [if_neg hv] at e
      subst e
      have : ss.length = 0 := hl
      rw [List.eq_nil_of_length_eq_zero this]
      rfl
  · obtain ⟨-, -, a3, a4⟩ := pl_pieces hv e
    have : ss = rs := list_ext (by omega) fun j hj => by
      have := (h j hj).unique (a4 j (by omega))
      simpa using this
    rw [this]
    exact e
/-- All pieces but the last one are read, as the model does it. -/
theorem pl_model {t : List UInt8} (ht : t.length ≤ 4000) {ss : List St} (hl : ss.length + 1 = (splitL 10 t).length) (h : ∀ j, j < ss.length → ReadsSt ((splitL 10 t).getD j []) (some (ss.getD j default))) :
    ((splitL 10 t).getD ss.length [] = [] → validPl ss = true → ReadsP t ss 0) ∧ ((splitL 10 t).getD ss.length [] ≠ [] ∨ validPl ss = false → ReadsP t [] 5) := by
  have key : ∀ rs, validPl rs = true → plText rs = t → rs = ss ∧ (splitL 10 t).getD ss.length [] = [] := fun rs hv e => by
    obtain ⟨a1, a2, a3, a4⟩ := pl_pieces hv e
    have hL : rs.length = ss.length := by omega
    refine ⟨list_ext hL fun j hj => ?_, by rw [← hL]; exact a2⟩
    have := (a4 j hj).unique (h j (by omega))
    simpa using this
  refine ⟨fun he hv => .inr ⟨ht, .inl ⟨rfl, hv, ?_⟩⟩, fun hb => .inr ⟨ht, .inr ⟨rfl, rfl, fun rs hv e => ?_⟩⟩⟩
  · rw [plText_valid hv, ← pt_join]
    have : splitL 10 t = ss.map stText ++ [[]] := by
      refine List.ext_getElem? fun j => ?_
      by_cases hj : j < ss.length
      · have hr := (h j hj).2
        rw [List.getElem?_append_left (by simpa using hj), List.getElem?_map, List.getElem?_eq_getElem hj, List.getElem?_eq_getElem (by omega)]
        rw [List.getD_eq_getElem?_getD, List.getElem?_eq_getElem hj, List.getD_eq_getElem?_getD, List.getElem?_eq_getElem (show j < (splitL 10 t).length by omega)] at hr
        simp only [Option.getD_some] at hr
        rw [Option.map_some, hr]
      · by_cases hj2 : j = ss.length
        · subst hj2
          rw [List.getD_eq_getElem?_getD, List.getElem?_eq_getElem (by omega)] at he
          simp only [Option.getD_some] at he
          rw [List.getElem?_append_right (by simp), List.getElem?_eq_getElem (by omega), he]
          simp
        · rw [List.getElem?_eq_none (by omega), List.getElem?_eq_none (by simp; omega)]
    rw [← this, join_split]
  · obtain ⟨rfl, he⟩ := key rs hv e
    rcases hb with hb | hb
    · exact hb he
    · rw [hv] at hb
      cases hb

end Go.Proofs.YtdefhmpmgcahpaaDoor
/-
  ReadPlan of the program.
-/
set_option linter.unusedVariables false
set_option linter.unusedSimpArgs false
namespace Go.Proofs.YtdefhmpmgcahpaaDoor
open Go.RowKit Go.Shelf
attribute [local go_sem] Oper.semAt_some wide_fn wide_depth wide_fnR wide_depthR

theorem ownsRow_of {w w' : World} {B : Nat} {e : TypeId} {sz n : Nat} {v : Value} {cs : List Value} (h : w.ownsRow B e sz v n cs) (hb : ∀ k o, v.ownBlock = some k → w.heap[k]? = some o → o.isCells = true → w'.heap[k]? = w.heap[k]?) : w'.ownsRow B e sz v n cs := by
  refine ⟨h.1, ?_⟩
  rcases h.2 with hn | ⟨g, cap, cur, rfl, hbb, hgg, rest⟩
  · exact .inl hn
  · refine .inr ⟨g, cap, cur, rfl, hbb, ?_, rest⟩
    rw [hb g _ (by simp [Value.ownBlock]) hgg rfl]
    exact hgg
theorem StepsO.ext {w : World} {B n k : Nat} {V : Value} {ss rs : List St} {tv : Nat → Value} (h : StepsO w B V n k ss tv) (he : ∀ j, j < k → ss.getD j default = rs.getD j default) : StepsO w B V n k rs tv := by
  obtain ⟨⟨cs, h1, h2⟩, h3, h4⟩ := h
  refine ⟨⟨cs, h1, fun j hj => ?_⟩, fun j hj => ?_, h4⟩
  · rw [← he j hj]; exact h2 j hj
  · rw [← he j hj]; exact h3 j hj
/-- What is no cells may change. -/
theorem StepsO.walks {w w' : World} {B n : Nat} {V : Value} {ss : List St} {tv : Nat → Value} {row : Option Nat} (h : StepsO w B V n n ss tv) (hg : w.grownBy w' row) (hr : ∀ r, row = some r → ∃ o : Obj, w.heap[r]? = some o ∧ o.isCells = false) : StepsO w' B V n n ss tv := by
  have key : ∀ (k : Nat) (o : Obj), w.heap[k]? = some o → o.isCells = true → w'.heap[k]? = w.heap[k]? := fun k o ho hc => hg.block k (Array.getElem?_eq_some_iff.1 ho).1 (fun e => by
    obtain ⟨o', h1, h2⟩ := hr k e.symm
    rw [ho] at h1
    cases h1
    rw [hc] at h2
    cases h2)
  obtain ⟨⟨cs, h1, h2⟩, h3, h4⟩ := h
  exact ⟨⟨cs, ownsRow_of h1 fun k o _ ho hc => key k o ho hc, h2⟩, fun j hj => ownsRow_of (h3 j hj) fun k o _ ho hc => key k o ho hc, h4⟩
theorem StepsO.shut {w w' : World} {B n m : Nat} {V : Value} {ss : List St} {tv : Nat → Value} (h : StepsO w B V n n ss tv) (hs : Shut m w w') : StepsO w' B V n n ss tv := by
  obtain ⟨⟨cs, h1, h2⟩, h3, h4⟩ := h
  exact ⟨⟨cs, ownsRow_of h1 fun k o _ ho hc => (hs.cells k o ho hc).trans ho.symm, h2⟩, fun j hj => ownsRow_of (h3 j hj) fun k o _ ho hc => (hs.cells k o ho hc).trans ho.symm, h4⟩
theorem getD_snoc {ss : List St} {S : St} {k : Nat} (h : ss.length = k) : (ss ++ [S]).getD k default = S ∧ ∀ j, j < k → ss.getD j default = (ss ++ [S]).getD j default := by
  subst h
  refine ⟨?_, fun j hj => ?_⟩
  · rw [List.getD_eq_getElem?_getD, List.getElem?_append_right (Nat.le_refl _)]
    simp
  · rw [List.getD_eq_getElem?_getD, List.getD_eq_getElem?_getD, List.getElem?_append_left hj]
/-- One step more, in a world above. -/
theorem StepsO.snoc {W WB : World} {B k b0 : Nat} {V : Value} {ss : List St} {tv : Nat → Value} (h : StepsO W B V k k ss tv) (hl : ss.length = k) (hb : Below W.heap.size W WB) {S : St} {t : Value} (ht : Row WB b0 2 t (ints S.taps)) (hB : B ≤ b0) (hlt : W.heap.size ≤ b0) :
    ∃ cs, WB.ownsRow B 36 4 V k cs ∧ ∀ v' w3, w3.ownsRow B 36 4 v' (k + 1) (cs ++ [.int .i64 S.kind, .int .i64 S.n, .int .i64 S.k, t]) → WB.grownBy w3 V.ownBlock → ∃ tv2, StepsO w3 B v' (k + 1) (k + 1) (ss ++ [S]) tv2 := by
  obtain ⟨e1, e2⟩ := getD_snoc (S := S) hl
  obtain ⟨⟨cs, h1, h2⟩, h3, h4⟩ := (h.below hb (Nat.le_refl _)).ext e2
  exact ⟨cs, h1, fun v' w3 ho hg => ⟨_, StepsO.push h1 h2 h3 h4 e1 ho hg ht hB (fun i hi a ea => by have := ((h.each i hi).lt a ea).2; omega)⟩⟩

set_option maxRecDepth 100000 in
theorem lines_any (T : ByteArray) (w : World) :
    Calls Tryd.prog 31 #[.string T] w fun e w' => e = .returned (.func (.func 67) #[] #[.pointer (some ⟨w.heap.size, 0, none⟩)]) ∧ w' = w.alloc (.cells #[.string T] 9) := by
  go_enter Tryd.func31, Tryd.ntmps31
  go_wp2
  go_ret
  exact ⟨rfl, rfl⟩

/-- What is read of a text: a plan of the call's own. -/
def ReadPlTo (t : List UInt8) (w : World) (e : Ending) (w' : World) : Prop := ∃ ss c V tv, ReadsP t ss c ∧ e = .returned (.tuple #[.agg #[V], .int .i64 c]) ∧ StepsO w' w.heap.size V ss.length ss.length ss tv ∧ Below w.heap.size w w'

/-- What the loop keeps: the steps that have been read. -/
def RpI (N : Nat) (ws : List (List UInt8)) (W0 : World) (k : Nat) (W : World) : Prop :=
  ∃ ss tv a cap, Boxed W (N + 2) 26 (.slice a k cap) ∧ StepsO W (N + 4) (.slice a k cap) k k ss tv ∧ ss.length = k ∧ (∀ j, j < k → ReadsSt (ws.getD j []) (some (ss.getD j default))) ∧ Below (N + 2) W0 W ∧ N + 4 ≤ W.heap.size
def RpX (N : Nat) (t : List UInt8) (W0 : World) (c : Code) (k : Nat) (W : World) : Prop :=
  c = .ret ∧ ReadsP t [] 5 ∧ Boxed W N 26 (.slice none 0 0) ∧ Boxed W (N + 1) 2 (.int .i64 5) ∧ Below N W0 W
theorem RpI.kept {N : Nat} {ws : List (List UInt8)} {W0 A A' : World} {k : Nat} {row : Option Nat} (h : RpI N ws W0 k A) (hg : A.grownBy A' row) (hr : ∀ r, row = some r → N + 4 ≤ r ∧ ∃ o : Obj, A.heap[r]? = some o ∧ o.isCells = false) : RpI N ws W0 k A' := by
  obtain ⟨ss, tv, a, cap, h1, h2, h3, h4, h5, h6⟩ := h
  exact ⟨ss, tv, a, cap, h1.kept hg (fun e => by have := (hr _ e.symm).1; omega), h2.walks hg (fun r e => (hr r e).2), h3, h4, h5.grown hg (by omega) (fun b e => by have := (hr b e).1; omega), Nat.le_trans h6 hg.size⟩
theorem RpX.kept {N : Nat} {t : List UInt8} {W0 A A' : World} {c : Code} {k : Nat} {row : Option Nat} (h : RpX N t W0 c k A) (hN : N ≤ W0.heap.size) (hg : A.grownBy A' row) (hr : ∀ r, row = some r → N + 4 ≤ r) : RpX N t W0 c k A' := by
  obtain ⟨h1, h2, h3, h4, h5⟩ := h
  exact ⟨h1, h2, h3.kept hg (fun e => by have := hr _ e.symm; omega), h4.kept hg (fun e => by have := hr _ e.symm; omega), h5.grown hg (Nat.le_trans hN h5.size) (fun k e => by have := hr _ e; omega)⟩
theorem RpI.moved {N : Nat} {ws : List (List UInt8)} {W0 A A' : World} {k : Nat} (h : RpI N ws W0 k A) (hm : MvAt (N + 3) A A') : RpI N ws W0 k A' := by
  obtain ⟨v, rfl⟩ := hm
  obtain ⟨ss, tv, a, cap, h1, h2, h3, h4, h5, h6⟩ := h
  exact ⟨ss, tv, a, cap, h1.kept (grownBy_setCell' _ _ _) (by simp), h2.other v (by omega), h3, h4, h5.setCell (p := ⟨N + 3, 0, none⟩) (by show N + 2 ≤ N + 3; omega) _, by simpa using h6⟩

theorem load_plan {w : World} {b : Nat} {v : Value} (h : Boxed w b 26 v) : (loadVar 26 ⟨b, 0, none⟩).run Tryd.prog w = .ok (.agg #[v]) w := by
  refine run_loadVar_mid _ _ _ _ [v] _ ?_ Tryd.underlying26 rfl infoPlan
  intro j u hu
  rcases j with _ | j <;> simp at hu <;> subst hu
  exact h.cell
/-- Two results in cells: a plan and a code. -/
theorem res_cell2P {fn : Func} {p q : Tmp} (h : fn.results = #[.cell p 26, .cell q 2]) (tmps : Array Value) (w : World) {a b : Nat} {v : Value} {c : Int} (ha : tmps.getD p undef = .pointer (some ⟨a, 0, none⟩)) (hb : tmps.getD q undef = .pointer (some ⟨b, 0, none⟩)) (hv : (loadVar 26 ⟨a, 0, none⟩).run Tryd.prog w = .ok (.agg #[v]) w) (hc : w.cell? ⟨b, 0, none⟩ = some (.int .i64 c)) :
    (results fn tmps).run Tryd.prog w = .ok (.tuple #[.agg #[v], .int .i64 c]) w := by
  have ha' : tmps[p]?.getD undef = .pointer (some ⟨a, 0, none⟩) := by simpa using ha
  have hb' : tmps[q]?.getD undef = .pointer (some ⟨b, 0, none⟩) := by simpa using hb
  have hl : (loadVar 2 ⟨b, 0, none⟩).run Tryd.prog w = .ok (.int .i64 c) w := by go_simp
  simp only [results, h]
  simp [Sem.run_bind, Result.andThen, ha', hb', asAddr, hv, hl]

set_option maxRecDepth 100000 in
set_option maxHeartbeats 8000000 in
theorem readPlan_impl (t : List UInt8) (ht : t.length ≤ 1048576) (w : World) (hG : GloS w) :
    Calls Tryd.prog 10 #[.string (strOf t)] w (ReadPlTo t w) := by
  by_cases hlong : 4000 < t.length
  · have hs : (strOf t).size = t.length := rfl
    have g1 : decide ((4000 : Int) < (t.length : Int)) = true := decide_eq_true (by omega)
    have g2 : decide (4000 < t.length) = true := decide_eq_true hlong
    have HRD : Hid (ReadsP t [] 2) := .inl ⟨hlong, rfl, rfl⟩
    obtain ⟨T, hT⟩ : ∃ T, strOf t = T := ⟨_, rfl⟩
    obtain ⟨TL, hTL⟩ : ∃ TL, t.length = TL := ⟨_, rfl⟩
    rw [hT, hTL] at hs
    rw [hTL] at g1 g2
    rw [hT]
    clear hT hTL hlong hG ht
    refine (callsIn_wide (n := 5)).1 ?_
    refine callsIn_of_wp_marks Tryd.func10 rfl trivial ?_ rfl
    simp only [Tryd.ntmps10, List.size_toArray, List.length_cons, List.length_nil, Nat.reduceAdd, Nat.reduceSub, Array.replicate_succ, Array.replicate_zero, List.push_toArray, List.append_toArray, List.nil_append, List.cons_append]
    gi_wp2
    have hb : Below w.heap.size w ((w.alloc (.cells #[.slice none 0 0] 26)).alloc (.cells #[.int .i64 2] 2)) := ((Below.refl _ _).alloc (Nat.le_refl _) _).alloc (by simp) _
    have n0 : Boxed ((w.alloc (.cells #[.slice none 0 0] 26)).alloc (.cells #[.int .i64 2] 2)) w.heap.size 26 (.slice none 0 0) := (Below.heap_alloc _ _ _ (by simp)).trans (World.alloc_heap_new w _)
    have n1 : Boxed ((w.alloc (.cells #[.slice none 0 0] 26)).alloc (.cells #[.int .i64 2] 2)) (w.heap.size + 1) 2 (.int .i64 2) := by
      have := World.alloc_heap_new (w.alloc (.cells #[.slice none 0 0] 26)) (.cells #[.int .i64 2] 2)
      rwa [World.size_alloc] at this
    refine leaves_marks _ _ (Marks.nil w.heap.size _) fun w' hs => ?_
    have q0 : Boxed w' w.heap.size 26 (.slice none 0 0) := hs.cells _ _ n0 rfl
    have q1 : Boxed w' (w.heap.size + 1) 2 (.int .i64 2) := hs.cells _ _ n1 rfl
    have HQ := Lib.hid (hs.below (Nat.le_refl _) hb)
    refine ⟨.tuple #[.agg #[.slice none 0 0], .int .i64 2], (res_cell2P rfl _ _ rfl rfl (load_plan q0) q1.cell), ?_⟩
    exact ⟨[], 2, .slice none 0 0, fun _ => undef, HRD.out, rfl, ⟨⟨[], ⟨rfl, .inl ⟨rfl, rfl⟩⟩, fun j hj => by simp at hj⟩, fun j hj => by simp at hj, fun i j _ hj => by simp at hj⟩, HQ.out⟩
  have HG := Lib.hid hG
  have HSHORT := Lib.hid (show t.length ≤ 4000 by omega)
  have hs : (strOf t).size = t.length := rfl
  have g1 : decide ((4000 : Int) < (t.length : Int)) = false := decide_eq_false (by omega)
  have g2 : decide (4000 < t.length) = false := decide_eq_false hlong
  have HLT := Lib.hid (fun n Bp W => lines_tells n Bp t (by omega) W)
  have HTRIM := Lib.hid (fun k W hk => @trim_line t (by omega) k hk W)
  have HRS := Lib.hid (fun (p : List UInt8) (hp : p.length ≤ 1048576) (W : World) (hW : GloS W) => readStep_impl p hp W hW)
  have HNE := Lib.hid (splitL_ne 10 t)
  have HBAD := Lib.hid (fun j => @pl_bad t (by omega) j)
  have HALL := Lib.hid (fun ss => @pl_all t (by omega) ss)
  have HWL := Lib.hid (show (splitL 10 t).length ≤ 4001 by have := split_len 10 t; omega)
  have HPL : Hid (∀ k, k < cntL (splitL 10 t) → ((splitL 10 t).getD k []).length ≤ 1048576) := fun k hk => by
    have := split_len_mem 10 (getD_mem (ws := splitL 10 t) (k := k) (by have := cnt_le (splitL 10 t); omega))
    omega
  obtain ⟨T, hT⟩ : ∃ T, strOf t = T := ⟨_, rfl⟩
  obtain ⟨TL, hTL⟩ : ∃ TL, t.length = TL := ⟨_, rfl⟩
  obtain ⟨ws, hws⟩ : ∃ ws, splitL 10 t = ws := ⟨_, rfl⟩
  rw [hT, hTL] at hs
  rw [hTL] at g1 g2
  simp only [hws] at HLT HTRIM HBAD HALL HPL HWL
  rw [hT]
  have HT := Lib.hid hT
  clear hG ht hlong hT hTL hws
  refine (callsIn_wide (n := 5)).1 ?_
  refine callsIn_of_wp_marks Tryd.func10 rfl trivial ?_ rfl
  simp only [Tryd.ntmps10, List.size_toArray, List.length_cons, List.length_nil, Nat.reduceAdd, Nat.reduceSub, Array.replicate_succ, Array.replicate_zero, List.push_toArray, List.append_toArray, List.nil_append, List.cons_append]
  gi_wp2_with (gi_at_call 31; refine (callsIn_wide.2 (lines_any _ _)).mono ?_; rintro e w1 ⟨rfl, rfl⟩)
  obtain ⟨W0, hW0⟩ : ∃ W0, ((((w.alloc (.cells #[.slice none 0 0] 26)).alloc (.cells #[.int .i64 0] 2)).alloc (.cells #[.slice none 0 0] 26)).alloc (.cells #[.string T] 9)) = W0 := ⟨_, rfl⟩
  obtain ⟨N, hN⟩ : ∃ N, w.heap.size = N := ⟨_, rfl⟩
  obtain ⟨hsz, k0, k1, k2, k3, hB0⟩ := laid4 w _ _ _ _ hN hW0
  rw [hW0, hN]
  simp only [Nat.add_assoc, Nat.reduceAdd]
  have hT : TellsM Fence.wide (5 - 1) Tryd.prog 67 #[.pointer (some ⟨N + 3, 0, none⟩)] (lnTold ws) (MvAt (N + 3)) (KpAt (N + 3)) W0 :=
    HLT.out _ _ W0 (by omega) (by rw [HT.out]; exact k3)
  have HI0 : Hid (RpI N ws W0 0 W0) := ⟨[], fun _ => undef, none, 0, k2, ⟨⟨[], ⟨rfl, .inl ⟨rfl, rfl⟩⟩, fun j hj => by omega⟩, fun j hj => by omega, fun i j _ hj => by omega⟩, rfl, fun j hj => by omega, Below.refl _ _, by omega⟩
  have HK0 : Hid (Boxed W0 N 26 (.slice none 0 0)) := k0
  have HK1 : Hid (Boxed W0 (N + 1) 2 (.int .i64 0)) := k1
  have HSZ := Lib.hid hsz
  have HN := Lib.hid hN
  have HB0 := Lib.hid hB0
  clear hW0 hN hsz k0 k1 k2 k3 hB0
  refine wpIn_range_moved (T := lnTold ws) (Mv := MvAt (N + 3)) (Kp := KpAt (N + 3)) rfl (by omega) rfl trivial (enters_of Tryd.func67 (by kernel_rfl) rfl)
    hT (Below.refl _ _) (fun {A B C} h k => (show C.heap[N + 3]? = A.heap[N + 3]? from Eq.trans k h)) (fun W l o o' hl _ _ _ => World.putObj_heap_other (by have := HSZ.out; omega)) (fun _ => rfl)
    (RpI N ws W0) (RpX N t W0)
    (fun s A A' row hs hg hr => hs.kept hg (fun r e => by have := (hr r e).1; have := HSZ.out; exact ⟨by omega, (hr r e).2⟩))
    (fun c s A A' row hs hg hr => hs.kept (by have := HSZ.out; omega) hg (fun r e => by have := (hr r e).1; have := HSZ.out; omega))
    (fun s A A' h hm => h.moved hm) (fun A A' hm k hk => by obtain ⟨v, rfl⟩ := hm; exact Below.heap_setCell _ _ _ k (by show k ≠ N + 3; have := HSZ.out; omega)) HI0.out
    (fun y => { tmps := #[.string T, undef, .pointer (some ⟨N, 0, none⟩), .pointer (some ⟨N + 1, 0, none⟩), .pointer (some ⟨N + 2, 0, none⟩), .string y, undef, undef, .string T, .int .i64 TL, .bool false, undef, .string T, .func (.func 67) #[] #[.pointer (some ⟨N + 3, 0, none⟩)], .string y, undef, undef, undef, undef, undef, undef, undef, undef, undef, undef, undef, undef, undef, undef, undef, undef, undef, undef, undef, undef, undef, undef], defers := [] })
    ?assign ?body ?done ?stop
  case assign =>
    rintro l y W K hK
    dsimp only [lnTold]
    gi_wp2
    exact hK
  case body =>
    rintro l k k' y W hI ⟨rfl, hk, rfl⟩
    obtain ⟨ss, tv, a, cap, h1, h2, h3, h4, h5, h6⟩ := hI
    have hlow : Below w.heap.size w W := by
      have l0 := HB0.out
      rw [HN.out] at l0 ⊢
      exact l0.trans (h5.mono (by omega))
    have TR := Lib.hid (HTRIM.out k W hk)
    have RS := Lib.hid (HRS.out (ws.getD k []) (HPL.out k hk) W (HG.out.below hlow))
    have b0 : Boxed W N 26 (.slice none 0 0) := (h5.block N (by omega)).trans HK0.out
    have b1 : Boxed W (N + 1) 2 (.int .i64 0) := (h5.block (N + 1) (by omega)).trans HK1.out
    have HW := Lib.hid hlow
    have H6 := Lib.hid h6
    have HKK := Lib.hid hk
    have HOU : Hid (∀ w3, Below W.heap.size W w3 →
        (Boxed w3 N 26 (.slice none 0 0) ∧ Boxed w3 (N + 1) 2 (.int .i64 0) ∧ Boxed w3 (N + 2) 26 (.slice a k cap)) ∧
        (ReadsP t [] 5 → KeepsFrom W0.heap.size W ((w3.setCell ⟨N, 0, none⟩ (.slice none 0 0)).setCell ⟨N + 1, 0, none⟩ (.int .i64 5)) ∧ RpX N t W0 .ret (k + 1) ((w3.setCell ⟨N, 0, none⟩ (.slice none 0 0)).setCell ⟨N + 1, 0, none⟩ (.int .i64 5)))) := fun w3 hb3 => by
      have x0 : Boxed w3 N 26 (.slice none 0 0) := (hb3.block N (by omega)).trans b0
      have x1 : Boxed w3 (N + 1) 2 (.int .i64 0) := (hb3.block (N + 1) (by omega)).trans b1
      have x2 : Boxed w3 (N + 2) 26 (.slice a k cap) := (hb3.block (N + 2) (by omega)).trans h1
      have kf : KeepsOthers W w3 := KeepsOthers.of_grownBy (grown_of_below hb3) (fun j o e => by cases e)
      refine ⟨⟨x0, x1, x2⟩, fun hrd => ⟨((kf.trans (KeepsOthers.setCell _ _ _)).trans (KeepsOthers.setCell _ _ _)).from _, rfl, hrd, ?_, ?_, ?_⟩⟩
      · exact (x0.set _).kept (grownBy_setCell' _ _ _) (by simp)
      · exact (x1.kept (grownBy_setCell' _ _ _) (by simp)).set _
      · exact ((show Below N W0 w3 from (h5.mono (by omega)).trans (hb3.mono (by omega))).setCell (p := ⟨N, 0, none⟩) (Nat.le_refl _) _).setCell (p := ⟨N + 1, 0, none⟩) (by show N ≤ N + 1; omega) _
    have HPUSH : Hid (∀ (S : St) (u : Value) (WB : World), ReadsSt (ws.getD k []) (some S) → Row WB W.heap.size 2 u (ints S.taps) → Below W.heap.size W WB →
        ∃ cs, WB.ownsRow (N + 4) 36 4 (.slice a k cap) k cs ∧ ∀ a' cap' w3, w3.ownsRow (N + 4) 36 4 (.slice a' (k + 1) cap') (k + 1) (cs ++ [.int .i64 S.kind, .int .i64 S.n, .int .i64 S.k, u]) → WB.grownBy w3 (Value.slice a k cap).ownBlock →
          (Boxed w3 (N + 2) 26 (.slice a k cap)) ∧ KeepsFrom W0.heap.size W (w3.setCell ⟨N + 2, 0, none⟩ (.slice a' (k + 1) cap')) ∧ KpAt (N + 3) W (w3.setCell ⟨N + 2, 0, none⟩ (.slice a' (k + 1) cap')) ∧ RpI N ws W0 (k + 1) (w3.setCell ⟨N + 2, 0, none⟩ (.slice a' (k + 1) cap'))) := fun S u WB hS hu hb => by
      obtain ⟨cs, c1, c2⟩ := h2.snoc h3 hb hu (by omega) (Nat.le_refl _)
      refine ⟨cs, c1, fun a' cap' w3 ho hg => ?_⟩
      obtain ⟨tv2, hO⟩ := c2 _ _ ho hg
      have hV : ∀ r, (Value.slice a k cap).ownBlock = some r → N + 4 ≤ r ∧ r < W.heap.size := fun r e => h2.lt r e
      have xB : Boxed WB (N + 2) 26 (.slice a k cap) := (hb.block (N + 2) (by omega)).trans h1
      have x3 : Boxed w3 (N + 2) 26 (.slice a k cap) := xB.kept hg (fun e => by have := hV _ e.symm; omega)
      have kf : KeepsOthers W WB := KeepsOthers.of_grownBy (grown_of_below hb) (fun j o e => by cases e)
      have kg : KeepsOthers WB w3 := KeepsOthers.of_grownBy hg (fun j o e ho' => by
        rcases c1.2 with ⟨e', -⟩ | ⟨g, cp, cur, e', -, hgg, -⟩
        · rw [e'] at e; cases e
        · rw [e'] at e
          simp only [Value.ownBlock, Option.some.injEq] at e
          subst e
          rw [hgg] at ho'
          cases ho'
          rfl)
      have lo : Below (N + 2) W0 w3 := (h5.trans (hb.mono (by omega))).grown hg (by have := hb.size; omega) (fun r e => by have := hV r e; omega)
      refine ⟨x3, ((kf.trans kg).trans (KeepsOthers.setCell _ _ _)).from _, ?_, ⟨_, tv2, a', cap', x3.set _, hO.other _ (by omega), by rw [List.length_append, h3]; rfl, fun j hj => ?_, lo.setCell (p := ⟨N + 2, 0, none⟩) (Nat.le_refl _) _, ?_⟩⟩
      · show _ = _
        rw [Below.heap_setCell _ _ _ (N + 3) (by show N + 3 ≠ N + 2; omega), hg.block (N + 3) (by have := hb.size; omega) (fun e => by have := hV _ e.symm; omega), hb.block (N + 3) (by omega)]
      · obtain ⟨e1, e2⟩ := getD_snoc (S := S) h3
        by_cases hj' : j < k
        · rw [← e2 j hj']; exact h4 j hj'
        · obtain rfl : j = k := by omega
          rw [e1]; exact hS
      · have h7 := hb.size
        have h8 := hg.size
        simp
        omega
    have hkb : k ≤ 4001 := by
      have q1 := cnt_le ws
      have q2 := HWL.out
      omega
    obtain ⟨i0, hi, hz0, hz1, hz2⟩ := info_parts' info_step
    clear h1 h2 h3 h4 hT HI0 b0 b1 h5 hlow hk
    gi_wp2_with (gi_at_call 32; refine (CallsIn.inRound l (callsIn_wide.2 TR.out)).mono ?_; rintro e w1 ⟨rfl, rfl⟩)
    refine (CallsIn.inRound l (callsIn_wide.2 RS.out)).mono ?_
    rintro e w2 ⟨r, v, tv', hr, rfl, ⟨rfl, hrow⟩, hb2⟩
    obtain ⟨ta, tc, rfl⟩ := hrow.form
    have hs2 := hb2.size
    cases r with
    | none =>
      have hb3 : Below w1.heap.size w1 (w2.alloc (.cells #[.int .i64 0, .int .i64 0, .int .i64 0, .slice ta 0 tc] 36)) := hb2.alloc hb2.size _
      obtain ⟨⟨x0, x1, -⟩, hfin⟩ := HOU.out _ hb3
      have HFIN := Lib.hid (hfin (HBAD.out k HKK.out hr))
      have c0 := x0.cell
      have f0 := x0.frozen
      have c1 := x1.cell
      have f1 := x1.frozen
      clear x0 x1 hfin hb3 hr hrow hb2
      dsimp only [stR, rdC]
      rw [ints_length, List.length_nil]
      gi_wp2
      exact HFIN.out
    | some S =>
      obtain ⟨K, hK⟩ : ∃ K, S.kind = K := ⟨_, rfl⟩
      obtain ⟨NN, hNN⟩ : ∃ n, S.n = n := ⟨_, rfl⟩
      obtain ⟨KK, hKK⟩ : ∃ n, S.k = n := ⟨_, rfl⟩
      obtain ⟨TT, hTT⟩ : ∃ n, (ints S.taps).length = n := ⟨_, rfl⟩
      dsimp only [stR, rdC] at hrow ⊢
      rw [hTT] at hrow
      rw [hK, hNN, hKK, hTT]
      have hb3 : Below w1.heap.size w1 (w2.alloc (.cells #[.int .i64 K, .int .i64 NN, .int .i64 KK, .slice ta TT tc] 36)) := hb2.alloc hb2.size _
      have hb4 : Below w1.heap.size w1 ((w2.alloc (.cells #[.int .i64 K, .int .i64 NN, .int .i64 KK, .slice ta TT tc] 36)).alloc (.cells #[.int .i64 K, .int .i64 NN, .int .i64 KK, .slice ta TT tc] 36)) := hb3.alloc hb3.size _
      obtain ⟨⟨-, -, x2⟩, -⟩ := HOU.out _ hb3
      have c2 := x2.cell
      have y0 : ∀ (j : Nat) (x : Value), ([.int .i64 K, .int .i64 NN, .int .i64 KK, .slice ta TT tc] : List Value)[j]? = some x → ((w2.alloc (.cells #[.int .i64 K, .int .i64 NN, .int .i64 KK, .slice ta TT tc] 36)).alloc (.cells #[.int .i64 K, .int .i64 NN, .int .i64 KK, .slice ta TT tc] 36)).cell? ((⟨w2.heap.size + 1, 0, none⟩ : Addr).add j) = some x := fun j x hx => by
        rw [show (⟨w2.heap.size + 1, 0, none⟩ : Addr).add j = ⟨w2.heap.size + 1, j, none⟩ by unfold Addr.add; split <;> simp_all]
        rcases j with _ | _ | _ | _ | j <;> simp at hx <;> subst hx <;> go_simp
      obtain ⟨WB, hWB⟩ : ∃ WB, (w2.alloc (.cells #[.int .i64 K, .int .i64 NN, .int .i64 KK, .slice ta TT tc] 36)).alloc (.cells #[.int .i64 K, .int .i64 NN, .int .i64 KK, .slice ta TT tc] 36) = WB := ⟨_, rfl⟩
      have hrowB : Row WB w1.heap.size 2 (.slice ta TT tc) (ints S.taps) := by rw [← hWB]; exact (hrow.alloc _).alloc _
      rw [hWB] at hb4
      simp only [hWB] at y0
      obtain ⟨cs, hown, hpush⟩ := HPUSH.out S _ WB hr hrowB hb4
      rw [hK, hNN, hKK] at hpush
      have HPU := Lib.hid hpush
      have HX0 := Lib.hid y0
      have H1 := Lib.hid hown
      have HONE : Hid (∀ x ∈ ([.int .i64 K, .int .i64 NN, .int .i64 KK, .slice ta TT tc] : List Value), x.oneCell' = true) := by
        intro x hx
        simp only [List.mem_cons, List.mem_nil_iff, or_false] at hx
        rcases hx with rfl | rfl | rfl | rfl <;> rfl
      have hszB : N + 4 ≤ WB.heap.size := by have := H6.out; have := hb4.size; omega
      have HWB := Lib.hid hWB
      clear hrow hb2 hr hrowB hb4 hpush y0 hown x2 hb3 hWB hK hNN hKK hTT hs2
      gi_wp2_with (gi_at_builtin; rw [HWB.out]; refine wpListIn_append_own _ rfl _ _ 24 rfl (N + 4) 36 i0 _ 4 48 Tryd.underlying24 hi hz0 hz1 hz2 rfl (by decide) _ k cs rfl H1.out ⟨w2.heap.size + 1, 0, none⟩ 1 1 [.int .i64 K, .int .i64 NN, .int .i64 KK, .slice ta TT tc] rfl rfl HX0.out HONE.out (by simp only [maxLen]; omega) (by omega) (by omega) ?_; intro v' w3 hown' hgrow _; obtain ⟨g', cap', rfl⟩ := ownsRow_succ hown'; obtain ⟨x3, hfin⟩ := HPU.out _ _ _ hown' hgrow; have e3 := x3.cell; have f3 := x3.frozen; have HFIN := Lib.hid hfin; clear hown' hgrow x3 hfin)
      exact HFIN.out
  case done =>
    rintro D W hD ⟨ss, tv, a, cap, h1, h2, h3, h4, h5, h6⟩ hD2
    have hwN := HN.out
    have hszN := HSZ.out
    have hlow : Below w.heap.size w W := by
      have l0 := HB0.out
      rw [hwN] at l0 ⊢
      exact l0.trans (h5.mono (by omega))
    have hG := HG.out.below hlow
    have hA := HALL.out ss h3 (fun j hj => h4 j (by omega))
    rw [← h3] at h1 h2
    have PT := Lib.hid (planText_impl h2 hG.tab hG.pow)
    have b0 : Boxed W N 26 (.slice none 0 0) := (h5.block N (by omega)).trans HK0.out
    have b1 : Boxed W (N + 1) 2 (.int .i64 0) := (h5.block (N + 1) (by omega)).trans HK1.out
    have hDW : D < W.heap.size := (Array.getElem?_eq_some_iff.1 hD2).1
    obtain ⟨L, hL⟩ : ∃ L, ss.length = L := ⟨_, rfl⟩
    rw [hL] at h1 PT
    have HFin : Hid (∀ w3, Below W.heap.size W w3 →
        (Boxed w3 N 26 (.slice none 0 0) ∧ Boxed w3 (N + 1) 2 (.int .i64 0) ∧ Boxed w3 (N + 2) 26 (.slice a L cap)) ∧
        ∀ p q : Value, Marks N ((w3.setCell ⟨N, 0, none⟩ p).setCell ⟨N + 1, 0, none⟩ q) [{ target := .collected D, args := #[] }] ∧
          ∀ w', Shut N ((w3.setCell ⟨N, 0, none⟩ p).setCell ⟨N + 1, 0, none⟩ q) w' → Boxed w' N 26 p ∧ w'.cell? ⟨N + 1, 0, none⟩ = some q ∧ Below w.heap.size w w' ∧ StepsO w' w.heap.size (.slice a L cap) L L ss tv) := fun w3 hb3 => by
      have x0 : Boxed w3 N 26 (.slice none 0 0) := (hb3.block N (by omega)).trans b0
      have x1 : Boxed w3 (N + 1) 2 (.int .i64 0) := (hb3.block (N + 1) (by omega)).trans b1
      have x2 : Boxed w3 (N + 2) 26 (.slice a L cap) := (hb3.block (N + 2) (by omega)).trans h1
      refine ⟨⟨x0, x1, x2⟩, fun p q => ⟨⟨[D], rfl, by simp, fun D' h => ?_⟩, fun w' hs => ?_⟩⟩
      · simp only [List.mem_singleton] at h
        subst h
        refine ⟨by omega, ?_⟩
        exact (KeepsOthers.setCell _ _ _).same D' _ ((KeepsOthers.setCell _ _ _).same D' _ ((hb3.block D' hDW).trans hD2) rfl) rfl
      · have y0 : Boxed ((w3.setCell ⟨N, 0, none⟩ p).setCell ⟨N + 1, 0, none⟩ q) N 26 p := (x0.set _).kept (grownBy_setCell' _ _ _) (by simp)
        have y1 : Boxed ((w3.setCell ⟨N, 0, none⟩ p).setCell ⟨N + 1, 0, none⟩ q) (N + 1) 2 q := (x1.kept (grownBy_setCell' _ _ _) (by simp)).set _
        have z0 : Boxed w' N 26 p := hs.cells _ _ y0 rfl
        have z1 : Boxed w' (N + 1) 2 q := hs.cells _ _ y1 rfl
        have low : Below w.heap.size w w3 := hlow.trans (hb3.mono hlow.size)
        have hO : StepsO ((w3.setCell ⟨N, 0, none⟩ p).setCell ⟨N + 1, 0, none⟩ q) (N + 4) (.slice a L cap) L L ss tv := (((hL ▸ h2).below hb3 (Nat.le_refl _)).other _ (by omega)).other _ (by omega)
        exact ⟨z0, z1.cell, hs.below (by omega) ((low.setCell (p := ⟨N, 0, none⟩) (by show w.heap.size ≤ N; omega) _).setCell (p := ⟨N + 1, 0, none⟩) (by show w.heap.size ≤ N + 1; omega) _), (hO.shut hs).base (by omega)⟩
    have c2 : W.cell? ⟨N + 2, 0, none⟩ = some (.slice a L cap) := h1.cell
    have HA := Lib.hid hA
    have HL := Lib.hid hL
    have hbq : ((strOf (plText ss)).toList == T.toList) = decide (plText ss = t) := by rw [← HT.out]; exact strOf_beq _ _
    obtain ⟨pt, hpt⟩ : ∃ pt, strOf (plText ss) = pt := ⟨_, rfl⟩
    rw [hpt] at PT hbq
    clear h1 h2 h3 h4 h5 h6 hG hA b0 b1 hD2 hDW hT HI0 hlow hpt hL
    gi_wp2_with fail
    refine (callsIn_wide.2 PT.out).mono ?_
    rintro e w3 ⟨rfl, hb3⟩
    obtain ⟨⟨x0, x1, x2⟩, hend⟩ := HFin.out w3 hb3
    have HEND := Lib.hid hend
    have c0 := x0.cell
    have f0 := x0.frozen
    have c1 := x1.cell
    have f1 := x1.frozen
    have c2 := x2.cell
    clear hend hb3 HFin x0 x1 x2 PT
    by_cases he : plText ss = t
    · have hq : (pt.toList == T.toList) = true := by rw [hbq]; exact decide_eq_true he
      have HRD := Lib.hid (HA.out.1 he)
      clear hbq he HA
      gi_wp2
      refine leaves_marks _ _ (HEND.out _ _).1 fun w' hs => ?_
      obtain ⟨q0, q1, q2, q3⟩ := (HEND.out _ _).2 w' hs
      have HQ := Lib.hid q2
      refine ⟨.tuple #[.agg #[.slice a L cap], .int .i64 0], (res_cell2P rfl _ _ rfl rfl (load_plan q0) q1), ?_⟩
      refine ⟨ss, 0, _, tv, HRD.out, rfl, ?_, HQ.out⟩
      rw [HL.out]
      exact q3
    · have hq : (pt.toList == T.toList) = false := by rw [hbq]; exact decide_eq_false he
      have HRD := Lib.hid (HA.out.2 he)
      clear hbq he HA
      gi_wp2
      refine leaves_marks _ _ (HEND.out _ _).1 fun w' hs => ?_
      obtain ⟨q0, q1, q2, q3⟩ := (HEND.out _ _).2 w' hs
      have HQ := Lib.hid q2
      refine ⟨.tuple #[.agg #[.slice none 0 0], .int .i64 5], (res_cell2P rfl _ _ rfl rfl (load_plan q0) q1), ?_⟩
      exact ⟨[], 5, .slice none 0 0, fun _ => undef, HRD.out, rfl, ⟨⟨[], ⟨rfl, .inl ⟨rfl, rfl⟩⟩, fun j hj => by simp at hj⟩, fun j hj => by simp at hj, fun i j _ hj => by simp at hj⟩, HQ.out⟩
  case stop =>
    rintro D c s W hD ⟨rfl, hrd, hb1, hb2, hlow⟩ hD2
    have hwN := HN.out
    have hszN := HSZ.out
    have HMK : Hid (Marks N W [{ target := .collected D, args := #[] }]) := ⟨[D], rfl, by simp, fun D' h => by
      simp only [List.mem_singleton] at h
      subst h
      exact ⟨by omega, hD2⟩⟩
    have HFin : Hid (∀ w', Shut N W w' → Boxed w' N 26 (.slice none 0 0) ∧ w'.cell? ⟨N + 1, 0, none⟩ = some (.int .i64 5) ∧ Below w.heap.size w w') := fun w' hs => by
      have z1 : Boxed w' N 26 (.slice none 0 0) := hs.cells _ _ hb1 rfl
      have z2 : Boxed w' (N + 1) 2 (.int .i64 5) := hs.cells _ _ hb2 rfl
      have low : Below w.heap.size w W := by
        rw [hwN]
        have l0 : Below N w W0 := by have := HB0.out; rwa [hwN] at this
        exact l0.trans hlow
      exact ⟨z1, z2.cell, hs.below (by omega) low⟩
    have HRD := Lib.hid hrd
    clear hb1 hb2 hlow hD2 hT HI0 hrd
    gi_wp2
    refine leaves_marks _ _ HMK.out fun w' hs => ?_
    obtain ⟨q1, q2, q3⟩ := HFin.out w' hs
    have HQ := Lib.hid q3
    refine ⟨.tuple #[.agg #[.slice none 0 0], .int .i64 5], (res_cell2P rfl _ _ rfl rfl (load_plan q1) q2), ?_⟩
    exact ⟨[], 5, .slice none 0 0, fun _ => undef, HRD.out, rfl, ⟨⟨[], ⟨rfl, .inl ⟨rfl, rfl⟩⟩, fun j hj => by simp at hj⟩, fun j hj => by simp at hj, fun i j _ hj => by simp at hj⟩, HQ.out⟩

end Go.Proofs.YtdefhmpmgcahpaaDoor
