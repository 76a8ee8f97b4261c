/-
  Several texts of this claim, one behind the other; each says what it holds.
-/
import Derived.Test.YtdefhmpmgcahpaaDoorMPlanTeL1
import Derived.Test.YtdefhmpmgcahpaaDoorDrsZ
import Derived.RangeFuncBox
import Derived.Test.YtdefhmpmgcahpaaDoorMPlanTeL4
/-
  Texts that are no step's and no plan's: pure.
-/
set_option linter.unusedVariables false
set_option linter.unusedSimpArgs false
namespace Go.Proofs.YtdefhmpmgcahpaaDoor
open Go.RowKit

theorem split_snoc (c : UInt8) : ∀ a : List UInt8, splitL c (a ++ [c]) = splitL c a ++ [[]]
  | [] => by simp [splitL]
  | b :: a => by
    have ih := split_snoc c a
    obtain ⟨h, ts, e⟩ := splitL_cons c a
    rw [e] at ih
    simp only [List.cons_append, splitL]
    split
    · rw [ih, e]; rfl
    · rw [ih, e]; rfl
theorem stWords_ne {s : St} (h : validSt s = true) : ∀ t ∈ stWords s, t ≠ [] := fun t ht => by
  unfold stWords at ht
  rcases List.mem_cons.1 ht with rfl | ht
  · obtain ⟨q, e, q1, q13⟩ := st_kind h
    rw [e]
    exact wordOf_ne q1 q13
  · obtain ⟨z, -, rfl⟩ := List.mem_map.1 ht
    unfold Lib.itoa
    split
    · simp
    · exact dec_ne _
theorem stText_ne {s : St} (h : validSt s = true) : stText s ≠ [] := fun e => by
  have h1 := stText_split h
  rw [e] at h1
  have h2 : ([] : List UInt8) ∈ stWords s := by rw [← h1]; exact List.mem_cons_self
  exact stWords_ne h _ h2 rfl
theorem reads_self {s : St} (h : validSt s = true) : ReadsSt (stText s) (some s) := ⟨h, rfl⟩
theorem reads_space {s : St} (h : validSt s = true) : ReadsSt (stText s ++ [32]) none := fun r hr e => by
  have h1 := stText_split hr
  rw [e, split_snoc] at h1
  have h2 : ([] : List UInt8) ∈ stWords r := by rw [← h1]; exact List.mem_append_right _ (List.mem_singleton.2 rfl)
  exact stWords_ne hr _ h2 rfl
theorem pl_len {ss : List St} (h : validPl ss = true) : (plText ss).length ≤ 1400 := by
  have h1 := pt_len (ss := ss) ss.length (Nat.le_refl _)
  rw [List.take_length] at h1
  have h2 := validPl_len8 h
  rw [plText_valid h]
  omega
theorem pl_reads {ss : List St} (h : validPl ss = true) : ReadsP (plText ss) ss 0 := .inr ⟨by have := pl_len h; omega, .inl ⟨rfl, h, rfl⟩⟩
theorem pl_empty {ss : List St} (h : validPl ss = true) (e : plText ss = []) : ss = [] := by
  rw [plText_valid h] at e
  have h1 := pt_split ss
  rw [e] at h1
  have h2 := congrArg List.length h1
  simp [splitL] at h2
  exact h2
/-- The text of a plan without its last newline. -/
theorem pl_short {ss : List St} (h : validPl ss = true) {t : List UInt8} (e : plText ss = t ++ [10]) : ReadsP t [] 5 := by
  have hl := pl_len h
  rw [e, List.length_append] at hl
  refine .inr ⟨by omega, .inr ⟨rfl, rfl, fun rs hv e2 => ?_⟩⟩
  rw [plText_valid h] at e
  rw [plText_valid hv] at e2
  have h1 := pt_split ss
  rw [e, split_snoc, ← e2, pt_split rs] at h1
  have h2 : ss.map stText = rs.map stText ++ [[]] := (List.append_cancel_right h1).symm
  have h3 : ([] : List UInt8) ∈ ss.map stText := by rw [h2]; exact List.mem_append_right _ (List.mem_singleton.2 rfl)
  obtain ⟨s, hs, es⟩ := List.mem_map.1 h3
  exact stText_ne (validPl_each h s hs) es
theorem pl_last {ss : List St} (h : validPl ss = true) (hne : plText ss ≠ []) : ∃ t, plText ss = t ++ [10] := by
  rw [plText_valid h] at hne ⊢
  rcases List.eq_nil_or_concat ss with rfl | ⟨rs, s, rfl⟩
  · exact absurd rfl hne
  · refine ⟨ptGo [] rs ++ stText s, ?_⟩
    unfold ptGo
    rw [List.concat_eq_append, List.foldl_append]
    simp

end Go.Proofs.YtdefhmpmgcahpaaDoor
/-
  A plan that is drawn: l07Plan, A2Plan.
-/
set_option linter.unusedVariables false
set_option linter.unusedSimpArgs false
namespace Go.Proofs.YtdefhmpmgcahpaaDoor
open Go.RowKit Flt

/-- A step drawn among two kinds. -/
theorem two_kinds (q : Nat) (h : q < 2) : [(11 : Int), 12].getD q 0 = 11 ∨ [(11 : Int), 12].getD q 0 = 12 := by
  rcases q with _ | _ | q
  · exact .inl rfl
  · exact .inr rfl
  · omega
theorem valid_two {z : Int} (h : z = 11 ∨ z = 12) : validSt ⟨z, 0, 0, []⟩ = true := by
  rcases h with rfl | rfl <;> decide

/-- While a plan is drawn: the source at j, the place of the result (R) still empty, the plan's place (P) with the steps that have been drawn. -/
structure DP (w0 w : World) (B R P : Nat) (a : Option Addr) (len cap : Nat) (j : Int) (V : Value) (ss : List St) (tv : Nat → Value) (W : World) : Prop where
  src : Src w0 B a len cap j W
  grown : w.grownBy W (some B)
  r : Boxed W R 26 (.slice none 0 0)
  p : Boxed W P 26 V
  steps : StepsO W (P + 1) V ss.length ss.length ss tv
  valid : ∀ s ∈ ss, validSt s = true
  hB : B < w.heap.size
  hR : R = w.heap.size
  hP : P = R + 1
  hW : P < W.heap.size

section
variable {w0 w W W' : World} {B R P : Nat} {a : Option Addr} {len cap : Nat} {j j' : Int} {V V' : Value} {ss : List St} {tv tv' : Nat → Value}
theorem DP.picked (h : DP w0 w B R P a len cap j V ss tv W) (hs : Src w0 B a len cap j' W') (hg : W.grownBy W' (some B)) : DP w0 w B R P a len cap j' V ss tv W' := by
  obtain ⟨src, grown, r, p, steps, valid, hB, hR, hP, hW⟩ := h
  have n1 : B < P + 1 := by omega
  have key : ∀ (u : Value) (e : TypeId) (sz n : Nat) (cs : List Value), W.ownsRow (P + 1) e sz u n cs → W'.ownsRow (P + 1) e sz u n cs := fun u e sz n cs ho => ownsRow_of ho fun k o hk _ _ => hg.block k (by have := (ownsRow_lt ho k hk).2; omega) (by have := (ownsRow_lt ho k hk).1; simp; omega)
  obtain ⟨⟨cs, h1, h2⟩, h3, h4⟩ := steps
  exact ⟨hs, grown_trans grown hg, r.kept hg (by simp; omega), p.kept hg (by simp; omega), ⟨⟨cs, key _ _ _ _ _ h1, h2⟩, fun i hi => key _ _ _ _ _ (h3 i hi), h4⟩, valid, hB, hR, hP, Nat.lt_of_lt_of_le hW hg.size⟩
theorem DP.drew (h : DP w0 w B R P a len cap j V ss tv W) : DP w0 w B R P a len cap j V ss tv W.drew := h.picked (h.src.draws 1) ⟨rfl, rfl, rfl, Nat.le_refl _, fun _ _ _ => rfl⟩
theorem DP.alloc (h : DP w0 w B R P a len cap j V ss tv W) (o : Obj) : DP w0 w B R P a len cap j V ss tv (W.alloc o) := h.picked (h.src.alloc o) (World.grownBy_alloc W o (some B))
/-- A step more has been appended and stored. -/
theorem DP.push (h : DP w0 w B R P a len cap j V ss tv W) {S : St} {t : Value} {b0 : Nat} {WB : World} (hg0 : W.grownBy WB (some B)) (hs0 : Src w0 B a len cap j' WB) (ht : Row WB b0 2 t (ints S.taps)) (hb0 : W.heap.size ≤ b0) (hv : validSt S = true) :
    ∃ cs, WB.ownsRow (P + 1) 36 4 V ss.length cs ∧ ∀ a' c' w3, w3.ownsRow (P + 1) 36 4 (.slice a' (ss.length + 1) c') (ss.length + 1) (cs ++ [.int .i64 S.kind, .int .i64 S.n, .int .i64 S.k, t]) → WB.grownBy w3 V.ownBlock →
      Boxed w3 P 26 V ∧ ∃ tv2, DP w0 w B R P a len cap j' (.slice a' (ss.length + 1) c') (ss ++ [S]) tv2 (w3.setCell ⟨P, 0, none⟩ (.slice a' (ss.length + 1) c')) := by
  have h' := h.picked hs0 hg0
  have hW := h.hW
  obtain ⟨src, grown, r, p, steps, valid, hB, hR, hP, hW'⟩ := h'
  obtain ⟨e1, e2⟩ := getD_snoc (S := S) (rfl : ss.length = ss.length)
  obtain ⟨⟨cs, h1, h2⟩, h3, h4⟩ := steps.ext e2
  refine ⟨cs, h1, fun a' c' w3 ho hg => ?_⟩
  have hO := StepsO.push h1 h2 h3 h4 e1 ho hg ht (by omega) (fun i hi b e => by have := ((h.steps.each i hi).lt b e).2; omega)
  have hV : ∀ k, V.ownBlock = some k → P + 1 ≤ k ∧ k < WB.heap.size := fun k e => ownsRow_lt h1 k e
  have p3 : Boxed w3 P 26 V := p.kept hg (fun e => by have := hV _ e.symm; omega)
  have r3 : Boxed w3 R 26 (.slice none 0 0) := r.kept hg (fun e => by have := hV _ e.symm; omega)
  have s3 : Src w0 B a len cap j' w3 := src.other hg (fun e => by have := hV _ e; omega) (fun k e => by have := hV _ e; have := src.new; omega)
  have g3 : w.grownBy w3 (some B) := ⟨hg.os.trans grown.os, hg.tape.trans grown.tape, hg.output.trans grown.output, Nat.le_trans grown.size hg.size, fun k hk hn => (hg.block k (Nat.lt_of_lt_of_le hk grown.size) (fun e => by have := hV _ e.symm; omega)).trans (grown.block k hk hn)⟩
  have gs : w3.grownBy (w3.setCell ⟨P, 0, none⟩ (.slice a' (ss.length + 1) c')) (some P) := grownBy_at _ _ _ _
  refine ⟨p3, (fun i => if i = ss.length then t else tv i), s3.other gs (by simp; omega) (fun k e => by cases e; have := s3.new; omega), grownBy_far (by omega) g3, r3.kept gs (by simp; omega), p3.set _, ?_, fun s hs => ?_, hB, hR, hP, by have := hg.size; simp; omega⟩
  · rw [List.length_append]
    exact hO.other _ (by omega)
  · rcases List.mem_append.1 hs with hs | hs
    · exact valid s hs
    · simp at hs
      subst hs
      exact hv
end

theorem cells_four (w : World) (e : TypeId) (v0 v1 v2 v3 : Value) : ∀ (j : Nat) (u : Value), ([v0, v1, v2, v3] : List Value)[j]? = some u → (w.alloc (.cells #[v0, v1, v2, v3] e)).cell? ((⟨w.heap.size, 0, none⟩ : Addr).add j) = some u := fun j u hu => by
  rw [show (⟨w.heap.size, 0, none⟩ : Addr).add j = ⟨w.heap.size, j, none⟩ by unfold Addr.add; split <;> simp_all]
  rcases j with _ | _ | _ | _ | j <;> simp at hu <;> subst hu <;> go_simp
theorem one_four (a b c : Int) (x : Option Addr) (n m : Nat) : ∀ u ∈ ([.int .i64 a, .int .i64 b, .int .i64 c, .slice x n m] : List Value), u.oneCell' = true := by
  intro u hu
  simp only [List.mem_cons, List.mem_nil_iff, or_false] at hu
  rcases hu with rfl | rfl | rfl | rfl <;> rfl

theorem drawn_plan {ss : List St} (h : ∀ s ∈ ss, validSt s = true) (h8 : ss.length ≤ 8) : validPl ss = true := by
  simp only [validPl, Bool.and_eq_true, decide_eq_true_eq, List.all_eq_true]
  exact ⟨h8, h⟩
theorem load_planD {w : World} {b : Nat} {v : Value} (h : w.cell? ⟨b, 0, none⟩ = some v) : (loadVar 26 ⟨b, 0, none⟩).run Tryd.prog w = .ok (.agg #[v]) w := by
  refine run_loadVar_mid _ _ _ _ [v] _ ?_ Tryd.underlying26 rfl infoPlan
  intro j u hu
  rcases j with _ | j <;> simp at hu <;> subst hu
  exact h

/-- The first steps of a row. -/
theorem StepsO.cut {w : World} {B n m c : Nat} {g : Nat} {ss : List St} {tv : Nat → Value} (h : StepsO w B (.slice (some ⟨g, 0, none⟩) n c) n n ss tv) (hm : m ≤ n) : StepsO w B (.slice (some ⟨g, 0, none⟩) m c) m m (ss.take m) tv := by
  obtain ⟨⟨cs, h1, h2⟩, h3, h4⟩ := h
  have hg : ∀ j, j < m → (ss.take m).getD j default = ss.getD j default := fun j hj => by
    rw [List.getD_eq_getElem?_getD, List.getD_eq_getElem?_getD, List.getElem?_take_of_lt hj]
  have hl : cs.length = n * 4 := h1.1
  refine ⟨⟨cs.take (m * 4), ⟨by rw [List.length_take, hl]; omega, ?_⟩, fun j hj => ?_⟩, fun j hj => ?_, fun i j hij hj => h4 i j hij (by omega)⟩
  · rcases h1.2 with ⟨e, -⟩ | ⟨g', cap, cur, e, hb, hgg, hnc, hcm, hs, ht⟩
    · cases e
    · simp only [Value.slice.injEq, Option.some.injEq, Addr.mk.injEq, and_true, true_and] at e
      obtain ⟨rfl, rfl⟩ := e
      refine .inr ⟨g, c, cur, rfl, hb, hgg, by omega, hcm, hs, ?_⟩
      rw [← ht, List.take_take]
      congr 1
      omega
  · rw [hg j hj]
    obtain ⟨q0, q1, q2, q3⟩ := h2 j (by omega)
    exact ⟨(List.getElem?_take_of_lt (by omega)).trans q0, (List.getElem?_take_of_lt (by omega)).trans q1, (List.getElem?_take_of_lt (by omega)).trans q2, (List.getElem?_take_of_lt (by omega)).trans q3⟩
  · rw [hg j hj]
    exact h3 j (by omega)

/-- A valid plan has been drawn. -/
def DrawnPl (w : World) (e : Ending) (w' : World) : Prop := ∃ ss V tv, validPl ss = true ∧ e = .returned (.agg #[V]) ∧ StepsO w' w.heap.size V ss.length ss.length ss tv ∧ Below w.heap.size w w'

set_option maxRecDepth 100000 in
set_option maxHeartbeats 8000000 in
theorem l07Plan_any (w0 : World) (B : Nat) (a : Option Addr) (len cap : Nat) (hr : Bytes w0 a len cap) (w : World) (hB : B < w.heap.size) (h : Src w0 B a len cap 0 w) :
    Calls Tryd.prog 29 #[.pointer (some ⟨B, 0, none⟩), .int .i64 6] w fun e w' => ∃ ss V tv, validPl ss = true ∧ e = .returned (.agg #[V]) ∧ StepsO w' w.heap.size V ss.length ss.length ss tv ∧ Below w0.heap.size w0 w' := by
  obtain ⟨i0, hi0, hz0, hz1, hz2⟩ := info_parts' info_step
  have HBY := Lib.hid hr
  obtain ⟨W, hW⟩ : ∃ W, (w.alloc (.cells #[.slice none 0 0] 26)).alloc (.cells #[.slice none 0 0] 26) = W := ⟨_, rfl⟩
  have PK := Lib.hid (pick_any w0 B a len cap hr 0 (by omega) 7 (by omega) (by omega) W (by rw [← hW]; exact (h.alloc _).alloc _))
  have hD0 : ∀ j w1, Src w0 B a len cap j w1 → W.grownBy w1 (some B) → DP w0 w B w.heap.size (w.heap.size + 1) a len cap j (.slice none 0 0) [] (fun _ => undef) w1 := fun j w1 hs hg => by
    have n0 : Boxed W w.heap.size 26 (.slice none 0 0) := by rw [← hW]; exact (Below.heap_alloc _ _ _ (by simp)).trans (World.alloc_heap_new w _)
    have n1 : Boxed W (w.heap.size + 1) 26 (.slice none 0 0) := by
      have := World.alloc_heap_new (w.alloc (.cells #[.slice none 0 0] 26)) (.cells #[.slice none 0 0] 26)
      rw [World.size_alloc, hW] at this
      exact this
    have gW : w.grownBy W (some B) := by rw [← hW]; exact grown_trans (World.grownBy_alloc _ _ _) (World.grownBy_alloc _ _ _)
    have hz : W.heap.size = w.heap.size + 2 := by rw [← hW]; simp
    exact ⟨hs, grown_trans gW hg, n0.kept hg (by simp; omega), n1.kept hg (by simp; omega), ⟨⟨[], ⟨rfl, .inl ⟨rfl, rfl⟩⟩, fun j hj => by simp at hj⟩, fun j hj => by simp at hj, fun i j _ hj => by simp at hj⟩, (fun s hs => by cases hs), hB, rfl, rfl, by have := hg.size; omega⟩
  have HD0 := Lib.hid hD0
  have HW := Lib.hid hW
  clear hD0 hW h hr hB
  go_enter Tryd.func29, Tryd.ntmps29
  go_wp2_with fail
  rw [HW.out]
  refine PK.out.mono ?_
  rintro e w1 ⟨k0, j0, p0, p1, rfl, p2, p3, hs, hg⟩
  obtain ⟨m0, rfl⟩ : ∃ m0 : Nat, k0 = m0 := ⟨k0.toNat, by omega⟩
  have hD1 := Lib.hid (HD0.out j0 w1 hs hg)
  have HM0 : Hid (m0 ≤ 6 ∧ 0 ≤ j0 ∧ j0 ≤ 2) := ⟨by omega, by omega, by omega⟩
  obtain ⟨R, hR⟩ : ∃ R, w.heap.size = R := ⟨_, rfl⟩
  obtain ⟨P, hP⟩ : ∃ P, R + 1 = P := ⟨_, rfl⟩
  rw [hR, hP] at hD1
  have HRR := Lib.hid hR
  have HPP := Lib.hid hP
  have hRP : ¬ R = P := by omega
  have hPR : ¬ P = R := by omega
  clear hs hg p0 p1 p2 p3 PK HD0 hR hP
  rw [HRR.out]
  go_wp2_with fail
  rw [HPP.out]
  go_loopw [6] (fun k wr => ∃ (m : Nat) (ss : List St) (tv : Nat → Value) (j : Int) (va : Option Addr) (vc : Nat), k = .int .i64 m ∧ m ≤ 6 ∧ ss.length + 2 * m ≤ 12 ∧ 0 ≤ j ∧ j + 100 * (m : Int) ≤ 1000 ∧ DP w0 w B R P a len cap j (.slice va ss.length vc) ss tv wr) (fun k _ => (intOf k).toNat)
  case atStart => have hv := HM0.out; exact ⟨m0, [], _, j0, none, 0, rfl, by omega, by simp; omega, by omega, by omega, hD1.out⟩
  case round =>
    clear hD1 HM0
    obtain ⟨m, ss, tv, j, va, vc, rfl, hm, hl, hj, hjm, hD⟩ := hrel
    have HD := Lib.hid hD
    by_cases hlt : 0 < m
    · have g1 : decide ((0 : Int) < (m : Int)) = true := decide_eq_true (by omega)
      obtain ⟨L, hL⟩ : ∃ L, ss.length = L := ⟨_, rfl⟩
      have HDd := Lib.hid hD.drew
      have hgd : wr.grownBy wr.drew (some B) := ⟨rfl, rfl, rfl, Nat.le_refl _, fun _ _ _ => rfl⟩
      have DRW := Lib.hid (drawn_any w0 B a len cap HBY.out j (by omega) wr.drew (Nat.lt_of_lt_of_le hD.hB hD.grown.size) HDd.out.src)
      have HPUSH : Hid (∀ (S : St) (u : Value) (j4 : Int) (w4 : World) (o : Obj), validSt S = true → Row w4 wr.drew.heap.size 2 u (ints S.taps) → Src w0 B a len cap j4 w4 → wr.drew.grownBy w4 (some B) →
          (DP w0 w B R P a len cap j4 (.slice va ss.length vc) ss tv (w4.alloc o)) ∧ P + 1 ≤ (w4.alloc o).heap.size ∧ ∃ cs, (w4.alloc o).ownsRow (P + 1) 36 4 (.slice va L vc) L cs ∧ ∀ a' c' w3, w3.ownsRow (P + 1) 36 4 (.slice a' (L + 1) c') (L + 1) (cs ++ [.int .i64 S.kind, .int .i64 S.n, .int .i64 S.k, u]) → (w4.alloc o).grownBy w3 (Value.slice va L vc).ownBlock →
            Boxed w3 P 26 (.slice va ss.length vc) ∧ ∃ ss' tv2, ss'.length = L + 1 ∧ DP w0 w B R P a len cap j4 (.slice a' ss'.length c') ss' tv2 (w3.setCell ⟨P, 0, none⟩ (.slice a' (L + 1) c'))) := fun S u j4 w4 o hv hrw hs4 hg4 => by
        have q := hD.push (grown_trans (grown_trans hgd hg4) (World.grownBy_alloc _ o (some B))) (hs4.alloc o) (hrw.alloc o) (Nat.le_refl _) hv
        have qa := (HDd.out.picked hs4 hg4).alloc o
        subst hL
        obtain ⟨cs, c1, c2⟩ := q
        refine ⟨qa, qa.hW, cs, c1, fun a' c' w3 ho hg => ?_⟩
        obtain ⟨p3, tv2, hd⟩ := c2 a' c' w3 ho hg
        have hl : (ss ++ [S]).length = ss.length + 1 := by rw [List.length_append]; rfl
        exact ⟨p3, ss ++ [S], tv2, hl, by rw [hl]; exact hd⟩
      have HLL := Lib.hid hL
      have hs63 : L + 1 ≤ maxLen := by simp only [maxLen]; omega
      have hsby : (L + 1) * 48 ≤ 140737488355328 := by omega
      have HJM : Hid (m ≤ 6 ∧ L + 2 * m ≤ 12 ∧ 0 ≤ j ∧ j + 100 * (m : Int) ≤ 1000 ∧ 0 < m) := ⟨hm, by omega, hj, hjm, hlt⟩
      have c0 : wr.cell? ⟨P, 0, none⟩ = some (.slice va L vc) := by rw [← hL]; exact hD.p.cell
      have cf := hD.p.frozen
      have c0d : wr.drew.cell? ⟨P, 0, none⟩ = some (.slice va L vc) := c0
      have cfd : wr.drew.frozen? ⟨P, 0, none⟩ = false := cf
      clear hD hL hm hl hj hjm hgd HD
      go_upto_region 5 with fail
      go_cut [] from 16 to 22 (fun wx => ∃ (ss' : List St) (tv' : Nat → Value) (j' : Int) (va' : Option Addr) (vc' : Nat), ss'.length = L + 1 ∧ j ≤ j' ∧ j' ≤ j + 12 ∧ DP w0 w B R P a len cap j' (.slice va' ss'.length vc') ss' tv' wx)
      case first =>
        go_wp2_with fail
        go_region_law (first
          | (go_simp; go_at_call 64; refine DRW.out.mono ?_; rintro e w4 ⟨S, v, t, j4, hv, rfl, ⟨rfl, hrow⟩, p2, p3, hs4, hg4⟩; obtain ⟨ta, tc, rfl⟩ := hrow.form; obtain ⟨T, hT⟩ : ∃ T, (ints S.taps).length = T := ⟨_, rfl⟩; rw [hT] at hrow ⊢; have HPU := Lib.hid (fun o => HPUSH.out S (.slice ta T tc) j4 w4 o hv hrow hs4 hg4); have hD5 := Lib.hid (HDd.out.picked hs4 hg4); have HJ4 := Lib.hid (And.intro p2 p3); have x0 : w4.cell? ⟨P, 0, none⟩ = some (.slice va L vc) := (by rw [← HLL.out]; exact hD5.out.p.cell); have xf := hD5.out.p.frozen; have x0a : ∀ o : Obj, (w4.alloc o).cell? ⟨P, 0, none⟩ = some (.slice va L vc) := (fun o => by rw [← HLL.out]; exact (hD5.out.alloc o).p.cell); have xfa := (fun o : Obj => (hD5.out.alloc o).p.frozen); clear hrow hs4 hg4 hv p2 p3 hT)
          | (obtain ⟨-, qz, cs, c1, c2⟩ := HPU.out (.cells #[.int .i64 S.kind, .int .i64 S.n, .int .i64 S.k, .slice ta T tc] 36); refine step_append_lies _ rfl (.tmp 17) (.tmp 20) 24 rfl (P + 1) 36 i0 _ 4 48 Tryd.underlying24 hi0 hz0 hz1 hz2 rfl (by decide) (.slice va L vc) L cs rfl c1 ⟨_, 0, none⟩ 1 1 [.int .i64 S.kind, .int .i64 S.n, .int .i64 S.k, .slice ta T tc] rfl rfl (cells_four _ _ _ _ _ _) (one_four _ _ _ _ _ _) (by decide) hs63 hsby qz _ rfl ?_; intro g' cap' w5 hown hgrow hor hlt2; obtain ⟨q1, q2⟩ := c2 _ _ w5 hown hgrow; have z0 : w5.cell? ⟨P, 0, none⟩ = some (.slice va L vc) := (by rw [← HLL.out]; exact q1.cell); have zf := q1.frozen; have HQ2 := Lib.hid q2; clear hown hgrow hor hlt2 q1 q2 c1 c2 qz)
          | (trace_state; fail))
        all_goals
          go_wp2_with fail
          go_meet
          obtain ⟨ss', tv2, q1, q2⟩ := HQ2.out
          have hv := HJ4.out
          exact ⟨ss', tv2, j4, _, _, q1, by omega, by omega, by rw [q1] at q2 ⊢; exact q2⟩
      case rest =>
        obtain ⟨ss', tv', j', va', vc', hl', q1, q2, hD'⟩ := hcut
        have HJ5 : Hid (j ≤ j' ∧ j' ≤ j + 12) := ⟨q1, q2⟩
        have HL5 : Hid (ss'.length = L + 1) := hl'
        have HD5 := Lib.hid hD'
        have ON := Lib.hid (one_any w0 B a len cap HBY.out j' (by have := HJM.out; omega) 4 (by omega) (by omega) wc hD'.src)
        obtain ⟨M, hM⟩ : ∃ M, ss'.length = M := ⟨_, rfl⟩
        have HMM := Lib.hid hM
        have ewm : IntKind.i64.wrap ((m : Int) - 1) = ((m - 1 : Nat) : Int) := by have hv := HJM.out; rw [IntWalk.i64_in _ (by omega)]; omega
        clear hl' q1 q2 hD' c0 cf c0d cfd DRW HPUSH HDd hs63 hsby hM
        go_wp2_with fail
        refine ON.out.mono ?_
        rintro e w5 ⟨b, j5, rfl, p2, p3, hs5, hg5⟩
        have HD6 := Lib.hid (HD5.out.picked hs5 hg5)
        have c2 : w5.cell? ⟨P, 0, none⟩ = some (.slice va' M vc') := by rw [← HMM.out]; exact HD6.out.p.cell
        have c2f := HD6.out.p.frozen
        have HJ6 : Hid (j' ≤ j5 ∧ j5 ≤ j' + 2) := ⟨p2, p3⟩
        have hM12 : M ≤ 12 := by have := HJM.out; have := HL5.out; have := HMM.out; omega
        have hMi : (M : Int) ≤ 9223372036854775807 := by omega
        clear hs5 hg5 p2 p3 ON HD5
        by_cases hc : b = true ∧ M < 8
        · obtain ⟨rfl, h8⟩ := hc
          have g8 : decide ((M : Int) < 8) = true := decide_eq_true (by omega)
          have g8' : decide (M < 8) = true := decide_eq_true h8
          have HDd := Lib.hid HD6.out.drew
          have hgd : w5.grownBy w5.drew (some B) := ⟨rfl, rfl, rfl, Nat.le_refl _, fun _ _ _ => rfl⟩
          have hgl : w5.grownBy (w5.alloc (.cells #[.int .i64 11, .int .i64 12] 2)).drew (some B) := grown_trans (World.grownBy_alloc w5 _ (some B)) ⟨rfl, rfl, rfl, Nat.le_refl _, fun _ _ _ => rfl⟩
          have AM := Lib.hid (among_any w0 B a len cap HBY.out j5 (by have := HJM.out; have := HJ5.out; have := HJ6.out; omega) w5.heap.size [11, 12] 2 rfl (by omega) (by omega) ((w5.alloc (.cells #[.int .i64 11, .int .i64 12] 2)).drew) (by have h1 := HD6.out.hB; have h2 := HD6.out.grown.size; show w5.heap.size ≠ B; omega) (by simp) (fun j hj => by rcases j with _ | _ | j <;> first | omega | go_simp) (HD6.out.alloc _).drew.src)
          have HPUSH : Hid (∀ (z : Int) (j4 : Int) (w4 : World) (o : Obj), (z = 11 ∨ z = 12) → Src w0 B a len cap j4 w4 → (w5.alloc (.cells #[.int .i64 11, .int .i64 12] 2)).drew.grownBy w4 (some B) →
              (DP w0 w B R P a len cap j4 (.slice va' ss'.length vc') ss' tv' (w4.alloc o)) ∧ P + 1 ≤ (w4.alloc o).heap.size ∧ ∃ cs, (w4.alloc o).ownsRow (P + 1) 36 4 (.slice va' M vc') M cs ∧ ∀ a' c' w3, w3.ownsRow (P + 1) 36 4 (.slice a' (M + 1) c') (M + 1) (cs ++ [.int .i64 z, .int .i64 0, .int .i64 0, .slice none 0 0]) → (w4.alloc o).grownBy w3 (Value.slice va' M vc').ownBlock →
                Boxed w3 P 26 (.slice va' ss'.length vc') ∧ ∃ ss2 tv2, ss2.length = M + 1 ∧ DP w0 w B R P a len cap j4 (.slice a' ss2.length c') ss2 tv2 (w3.setCell ⟨P, 0, none⟩ (.slice a' (M + 1) c'))) := fun z j4 w4 o hz hs4 hg4 => by
            have hrw : Row (w4.alloc o) w5.heap.size 2 (.slice none 0 0) (ints (⟨z, 0, 0, []⟩ : St).taps) := ⟨rfl, .inl ⟨rfl, rfl⟩⟩
            have q := HD6.out.push (S := ⟨z, 0, 0, []⟩) (grown_trans (grown_trans hgl hg4) (World.grownBy_alloc _ o (some B))) (hs4.alloc o) hrw (Nat.le_refl _) (valid_two hz)
            have qa := ((HD6.out.alloc _).drew.picked hs4 hg4).alloc o
            have hM := HMM.out
            subst hM
            obtain ⟨cs, c1, c2⟩ := q
            refine ⟨qa, qa.hW, cs, c1, fun a' c' w3 ho hg => ?_⟩
            obtain ⟨p3, tv2, hd⟩ := c2 a' c' w3 ho hg
            have hl : (ss' ++ [(⟨z, 0, 0, []⟩ : St)]).length = ss'.length + 1 := by rw [List.length_append]; rfl
            exact ⟨p3, _, tv2, hl, by rw [hl]; exact hd⟩
          have hs63 : M + 1 ≤ maxLen := by simp only [maxLen]; omega
          have hsby : (M + 1) * 48 ≤ 140737488355328 := by omega
          have c2d : w5.drew.cell? ⟨P, 0, none⟩ = some (.slice va' M vc') := c2
          have c2fd : w5.drew.frozen? ⟨P, 0, none⟩ = false := c2f
          have c2a : ∀ o : Obj, (w5.alloc o).cell? ⟨P, 0, none⟩ = some (.slice va' M vc') := fun o => by rw [← HMM.out]; exact (HD6.out.alloc o).p.cell
          have c2fa := fun o : Obj => (HD6.out.alloc o).p.frozen
          clear hgd hgl
          go_upto_region 7 with fail
          go_region_law (first
              | (go_simp; go_at_call 66; refine AM.out.mono ?_; rintro e w7 ⟨q, j7, hq, rfl, p2, p3, hs7, hg7⟩; have hz := two_kinds q hq; generalize [(11 : Int), 12].getD q 0 = z at hz ⊢; have HPU := Lib.hid (fun o => HPUSH.out z j7 w7 o hz hs7 hg7); have hD7 := Lib.hid ((HD6.out.alloc _).drew.picked hs7 hg7); have HJ7 := Lib.hid (And.intro p2 p3); have x0 : w7.cell? ⟨P, 0, none⟩ = some (.slice va' M vc') := (by rw [← HMM.out]; exact hD7.out.p.cell); have xf := hD7.out.p.frozen; have x0a : ∀ o : Obj, (w7.alloc o).cell? ⟨P, 0, none⟩ = some (.slice va' M vc') := (fun o => by rw [← HMM.out]; exact (hD7.out.alloc o).p.cell); have xfa := (fun o : Obj => (hD7.out.alloc o).p.frozen); clear hs7 hg7 hq hz p2 p3)
              | (obtain ⟨-, qz, cs, c1, c2'⟩ := HPU.out (.cells #[.int .i64 z, .int .i64 0, .int .i64 0, .slice none 0 0] 36); refine step_append_lies _ rfl (.tmp 32) (.tmp 37) 24 rfl (P + 1) 36 i0 _ 4 48 Tryd.underlying24 hi0 hz0 hz1 hz2 rfl (by decide) (.slice va' M vc') M cs rfl c1 ⟨_, 0, none⟩ 1 1 [.int .i64 z, .int .i64 0, .int .i64 0, .slice none 0 0] rfl rfl (cells_four _ _ _ _ _ _) (one_four _ _ _ _ _ _) (by decide) hs63 hsby qz _ rfl ?_; intro g' cap' w9 hown hgrow hor hlt2; obtain ⟨q1, q2⟩ := c2' _ _ w9 hown hgrow; have z0 : w9.cell? ⟨P, 0, none⟩ = some (.slice va' M vc') := (by rw [← HMM.out]; exact q1.cell); have zf := q1.frozen; have HQ2 := Lib.hid q2; clear hown hgrow hor hlt2 q1 q2 c1 c2' qz)
              | (trace_state; fail))
          all_goals
            obtain ⟨ss2, tv2, q1, q2⟩ := HQ2.out
            rw [← q1] at q2
            have HF : Hid (m - 1 ≤ 6 ∧ ss2.length + 2 * (m - 1) ≤ 12 ∧ 0 ≤ j7 ∧ j7 + 100 * ((m - 1 : Nat) : Int) ≤ 1000) := by
              have h1 := HJM.out
              have h2 := HJ5.out
              have h3 := HJ6.out
              have h4 := HL5.out
              have h5 := HMM.out
              have h6 := HJ7.out
              exact ⟨by omega, by omega, by omega, by omega⟩
            have HD2 := Lib.hid q2
            have HQ1 := Lib.hid q1
            clear q1 q2 c2 c2f c2d c2fd c2a c2fa HPUSH AM HDd x0 xf x0a xfa z0 zf HPU HQ2
            go_wp2
            go_roundw
            case rel => rw [← HQ1.out]; exact ⟨m - 1, ss2, tv2, j7, _, _, rfl, HF.out.1, HF.out.2.1, HF.out.2.2.1, HF.out.2.2.2, HD2.out⟩
            case measure => have := HJM.out; simp [intOf]; omega
        · have HF : Hid (m - 1 ≤ 6 ∧ ss'.length + 2 * (m - 1) ≤ 12 ∧ 0 ≤ j5 ∧ j5 + 100 * ((m - 1 : Nat) : Int) ≤ 1000 ∧ DP w0 w B R P a len cap j5 (.slice va' ss'.length vc') ss' tv' w5) := by
            have h1 := HJM.out
            have h2 := HJ5.out
            have h3 := HJ6.out
            have h4 := HL5.out
            exact ⟨by omega, by omega, by omega, by omega, HD6.out⟩
          clear HD6
          cases b
          · go_wp2
            go_roundw
            case rel => exact ⟨m - 1, ss', tv', j5, va', vc', rfl, HF.out⟩
            case measure => have := HJM.out; simp [intOf]; omega
          · have g8 : decide ((M : Int) < 8) = false := decide_eq_false (fun h => hc ⟨rfl, by omega⟩)
            have g8' : decide (M < 8) = false := decide_eq_false (fun h => hc ⟨rfl, h⟩)
            go_wp2
            go_roundw
            case rel => exact ⟨m - 1, ss', tv', j5, va', vc', rfl, HF.out⟩
            case measure => have := HJM.out; simp [intOf]; omega
    · obtain rfl : m = 0 := by omega
      have hR := hD.hR
      have hP := hD.hP
      have HRP : Hid (w.heap.size = R ∧ P = R + 1) := ⟨hR.symm, hP⟩
      have HB2 := Lib.hid hD.src.below
      have hn0 := hD.src.new
      have hBw := hD.hB
      have HNB : Hid (w0.heap.size ≤ R) := by show _ ≤ _; omega
      obtain ⟨M, hM⟩ : ∃ M, ss.length = M := ⟨_, rfl⟩
      have p0 : wr.cell? ⟨P, 0, none⟩ = some (.slice va M vc) := by rw [← hM]; exact hD.p.cell
      have pf := hD.p.frozen
      have r0 := hD.r.cell
      have rf := hD.r.frozen
      have HS := Lib.hid hD.steps
      have HV := Lib.hid hD.valid
      have HMM := Lib.hid hM
      have hM12 : M ≤ 12 := by omega
      have hMi : (M : Int) ≤ 9223372036854775807 := by omega
      have g0 : decide ((0 : Int) < ((0 : Nat) : Int)) = false := by decide
      by_cases h8 : 8 < M
      · obtain ⟨g, cp, -, -, e, hc1, hc2, -⟩ := hD.steps.at (j := 0) (by omega) (Nat.le_refl _)
        simp only [Value.slice.injEq] at e
        obtain ⟨rfl, -, rfl⟩ := e
        have g8 : decide ((8 : Int) < (M : Int)) = true := decide_eq_true (by omega)
        have g8' : decide (8 < M) = true := decide_eq_true h8
        have hv8 : (8 : Int) ≤ (vc : Int) := by omega
        have hv8' : 8 ≤ vc := by omega
        have hvm : (vc : Int) ≤ 9223372036854775807 := by unfold maxLen at hc2; omega
        have hM8 : (8 : Int) ≤ (M : Int) := by omega
        have hM8' : 8 ≤ M := by omega
        have HM8 : Hid (8 ≤ M) := hM8'
        clear hD HD hR hP hn0 hBw hM hl hj hjm hc1 hc2 h8
        go_wp2
        (try simp only [Exit.inBlock, Exit.then])
        refine bodyPost_ret (res_cell1' rfl _ _ _ rfl (load_planD (v := .slice (some ⟨g, 0, none⟩) 8 vc) (by go_simp))) rfl ?_
        have h1 := HRP.out
        have h2 := HNB.out
        have hS := HS.out
        rw [HMM.out] at hS
        have hl8 : (ss.take 8).length = 8 := by rw [List.length_take, HMM.out]; have := HM8.out; omega
        refine ⟨ss.take 8, _, tv, drawn_plan (fun s hs => HV.out s (List.mem_of_mem_take hs)) (by omega), rfl, ?_, (HB2.out.setCell (p := ⟨P, 0, none⟩) (by show _ ≤ P; omega) _).setCell (p := ⟨R, 0, none⟩) h2 _⟩
        rw [hl8]
        exact (((hS.cut HM8.out).other _ (by omega)).other _ (by omega)).base (by omega)
      · have g8 : decide ((8 : Int) < (M : Int)) = false := decide_eq_false (by omega)
        have g8' : decide (8 < M) = false := decide_eq_false h8
        have HM8 : Hid (M ≤ 8) := by show _ ≤ _; omega
        clear hD HD hR hP hn0 hBw hM hl hj hjm h8
        go_wp2
        (try simp only [Exit.inBlock, Exit.then])
        refine bodyPost_ret (res_cell1' rfl _ _ _ rfl (load_planD (v := .slice va M vc) (by go_simp))) rfl ?_
        have h1 := HRP.out
        have h2 := HNB.out
        have hS := HS.out
        rw [HMM.out] at hS
        refine ⟨ss, _, tv, drawn_plan HV.out (by rw [HMM.out]; exact HM8.out), rfl, ?_, HB2.out.setCell (p := ⟨R, 0, none⟩) h2 _⟩
        rw [HMM.out]
        exact (hS.other _ (by omega)).base (by omega)

end Go.Proofs.YtdefhmpmgcahpaaDoor
/-
  A2Plan.
-/
set_option linter.unusedVariables false
set_option linter.unusedSimpArgs false
namespace Go.Proofs.YtdefhmpmgcahpaaDoor
open Go.RowKit Flt

set_option maxRecDepth 100000 in
set_option maxHeartbeats 4000000 in
theorem a2Plan_any (a : Option Addr) (len cap : Nat) (zs : List Int) (w : World) (hr : IsRow .u8 w a len cap zs) :
    Calls Tryd.prog 8 #[.slice a len cap, .int .i64 6] w (DrawnPl w) := by
  have b0 : Below w.heap.size w (w.alloc (.cells #[.slice none 0 0] 26)) := (Below.refl _ _).alloc (Nat.le_refl _) _
  obtain ⟨W, hW⟩ : ∃ W, W = w.alloc (.cells #[.slice none 0 0] 26) := ⟨_, rfl⟩
  have hsz : W.heap.size = w.heap.size + 1 := by rw [hW]; simp
  have r0 : W.cell? ⟨w.heap.size, 0, none⟩ = some (.slice none 0 0) := by rw [hW]; go_simp
  have rf : W.frozen? ⟨w.heap.size, 0, none⟩ = false := by rw [hW]; go_simp
  rw [← hW] at b0
  have PL := Lib.hid (l07Plan_any W W.heap.size a len cap ⟨zs, isRow_below hr b0⟩ (W.alloc (.cells #[.slice a len cap, .int .i64 0, .int .u64 0] 108)) (by simp) src_new)
  have HW := Lib.hid hW.symm
  have HB := Lib.hid b0
  have HSZ := Lib.hid hsz
  have hlt : w.heap.size < W.heap.size := by omega
  have HC : Hid (∀ w', Below W.heap.size W w' → w'.cell? ⟨w.heap.size, 0, none⟩ = some (.slice none 0 0) ∧ w'.frozen? ⟨w.heap.size, 0, none⟩ = false) := fun w' hb => ⟨(hb.cell (by exact hlt)).trans r0, (hb.frozen (by exact hlt)).trans rf⟩
  clear hr hW b0 hsz r0 rf hlt
  go_enter Tryd.func8, Tryd.ntmps8
  go_wp2_with (first | (go_at_call 30; go_in) | fail)
  rw [HW.out, ← HSZ.out]
  refine PL.out.mono ?_
  rintro e w1 ⟨ss, V, tv, hv, rfl, hS, hb⟩
  obtain ⟨va, vc, rfl⟩ := hS.form
  obtain ⟨c0, f0⟩ := HC.out w1 hb
  have HS := Lib.hid hS
  have HV := Lib.hid hv
  have HBB := Lib.hid (below_step' HB.out hb HB.out.size)
  clear hS hv hb PL
  go_wp2
  (try simp only [Exit.inBlock, Exit.then])
  refine bodyPost_ret (res_cell1' rfl _ _ _ rfl (load_planD (v := .slice va ss.length vc) (by go_simp))) rfl ?_
  have hz := HSZ.out
  refine ⟨ss, _, tv, HV.out, rfl, (StepsO.other (StepsO.base HS.out (show W.heap.size ≤ _ by simp)) _ (by omega)).base (by omega), HBB.out.setCell (p := ⟨w.heap.size, 0, none⟩) (Nat.le_refl _) _⟩

end Go.Proofs.YtdefhmpmgcahpaaDoor
