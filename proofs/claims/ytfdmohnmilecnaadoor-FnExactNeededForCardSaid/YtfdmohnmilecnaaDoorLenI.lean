import Derived.Test.YtfdmohnmilecnaaDoorLenP
/-
  planForLength, LengthAfter of the program.
-/
set_option linter.unusedVariables false
set_option linter.unusedSimpArgs false
namespace Go.Proofs.YtfdmohnmilecnaaDoor
open Go.RowKit

/-- What planForLength returns. -/
def PlanFor (ss : List St) (tv : Nat → Value) (D : Int) (w : World) (e : Ending) (w' : World) : Prop :=
  ∃ V, e = .returned (.tuple #[.agg #[V], .int .i64 D]) ∧ (D = 0 → Row w' w.heap.size 109 V (ifVs ss tv ss.length)) ∧ (∃ a l c, V = .slice a l c) ∧ Below w.heap.size w w'

set_option maxRecDepth 100000 in
set_option maxHeartbeats 4000000 in
theorem planForLength_any {w : World} {B : Nat} {V : Value} {ss : List St} {tv : Nat → Value} (h : StepsO w B V ss.length ss.length ss tv) (ht : Tab w) (n : Int) :
    Calls Tryd.prog 82 #[.agg #[V], .int .i64 n] w (PlanFor ss tv (cntCode ss n) w) := by
  obtain ⟨a, cap, rfl⟩ := h.form
  have hb : Below w.heap.size w ((w.alloc (.cells #[.slice a ss.length cap] 43)).alloc (.cells #[.slice none 0 0] 102)) := ((Below.refl _ _).alloc (Nat.le_refl _) _).alloc (by simp) _
  obtain ⟨W, hW⟩ : ∃ W, W = (w.alloc (.cells #[.slice a ss.length cap] 43)).alloc (.cells #[.slice none 0 0] 102) := ⟨_, rfl⟩
  have hs : W.heap.size = w.heap.size + 1 + 1 := by rw [hW]; simp
  have b1 : W.cell? ⟨w.heap.size + 1, 0, none⟩ = some (.slice none 0 0) := by rw [hW]; go_simp
  have f1 : W.frozen? ⟨w.heap.size + 1, 0, none⟩ = false := by rw [hW]; go_simp
  rw [← hW] at hb
  have PO := Lib.hid (planOf_any (h.below hb (Nat.le_refl _)) (ht.below hb))
  have HB := Lib.hid hb
  have HW := Lib.hid hW.symm
  have hcc : cntCode ss n = if validPl ss then (if inZ n 0 1000000 then 0 else 2) else 1 := rfl
  obtain ⟨D, hD⟩ : ∃ D, cntCode ss n = D := ⟨_, rfl⟩
  rw [hD] at hcc ⊢
  have k1 : w.heap.size + 1 < W.heap.size := by omega
  unfold PlanTo at PO
  obtain ⟨A, hA⟩ : ∃ A, validPl ss = A := ⟨_, rfl⟩
  rw [hA] at PO hcc
  obtain ⟨E, hE⟩ : ∃ A, inZ n 0 1000000 = A := ⟨_, rfl⟩
  have HE := Lib.hid hE
  rw [hE] at hcc
  have HCC := Lib.hid hcc
  clear h ht hb hW hA hE hD hcc
  go_enter Tryd.func82, Tryd.ntmps82
  go_wp2_with fail
  rw [HW.out]
  with_reducible refine PO.out.mono ?_
  rintro e w1 ⟨V', rfl, hV, hb1⟩
  rw [← hb1.cell (by exact k1)] at b1
  rw [← hb1.frozen (by exact k1)] at f1
  have HB1 := Lib.hid (below_step' HB.out hb1 HB.out.size)
  have k2 : w.heap.size + 1 < w1.heap.size := Nat.lt_of_lt_of_le k1 hb1.size
  have HV := Lib.hid hV
  have hWs := hb1.size
  clear hb1 PO HW
  cases A
  · have e : V' = .slice none 0 0 := by have := HV.out; simpa using this
    subst e
    have e : D = 1 := by rw [HCC.out]; rfl
    subst e
    simp only [Bool.false_eq_true, if_false]
    clear hV
    go_wp2
    (try simp only [Exit.inBlock, Exit.then])
    refine bodyPost_ret (res_cell_tmp rfl _ _ _ rfl (run_loadVar_mid _ _ _ _ [.slice none 0 0] _ ?_ Tryd.underlying102 rfl infoPl)) rfl ?_
    · intro j v hv
      rcases j with _ | j <;> simp at hv <;> subst hv <;> go_simp
    · refine ⟨_, rfl, (fun h => by cases h), ⟨_, _, _, rfl⟩, ?_⟩
      refine ((HB1.out.setCell ?_ _).alloc ?_ _) <;> first | (simp only []; omega) | (simp; omega)
  · have hR : Row w1 W.heap.size 109 V' (ifVs ss tv ss.length) := by have := HV.out; simpa using this
    simp only [if_true]
    have HR := Lib.hid (hR.base' (B := w.heap.size) HB.out.size)
    have HRL : Hid (∀ b, V'.ownBlock = some b → w.heap.size + 1 < b ∧ b < w1.heap.size) := fun b e => by
      have := hR.lt b e
      omega
    obtain ⟨a', c', rfl⟩ := hR.form
    rw [ifVs_length] at HR HRL ⊢
    obtain ⟨L', hL'⟩ : ∃ L, ss.length = L := ⟨_, rfl⟩
    rw [hL'] at HR HRL
    clear hR HV hV hs
    cases E
    · have e : D = 2 := by rw [HCC.out]; rfl
      subst e
      have hne : ¬ (0 ≤ n ∧ n ≤ 1000000) := fun h => by have := HE.out; rw [inZ_t h] at this; cases this
      by_cases hneg : n < 0
      · have g1 : decide (n < 0) = true := decide_eq_true hneg
        clear hne hneg
        go_wp2
        (try simp only [Exit.inBlock, Exit.then])
        refine bodyPost_ret (res_cell_tmp rfl _ _ _ rfl (run_loadVar_mid _ _ _ _ [.slice none 0 0] _ ?_ Tryd.underlying102 rfl infoPl)) rfl ?_
        · intro j v hv
          rcases j with _ | j <;> simp at hv <;> subst hv <;> go_simp
        · refine ⟨_, rfl, (fun h => by cases h), ⟨_, _, _, rfl⟩, ?_⟩
          refine ((HB1.out.setCell ?_ _).alloc ?_ _) <;> first | (simp only []; omega) | (simp; omega)
      · have g1 : decide (n < 0) = false := decide_eq_false hneg
        have g2 : decide (1000000 < n) = true := decide_eq_true (by omega)
        clear hne hneg
        go_wp2
        (try simp only [Exit.inBlock, Exit.then])
        refine bodyPost_ret (res_cell_tmp rfl _ _ _ rfl (run_loadVar_mid _ _ _ _ [.slice none 0 0] _ ?_ Tryd.underlying102 rfl infoPl)) rfl ?_
        · intro j v hv
          rcases j with _ | j <;> simp at hv <;> subst hv <;> go_simp
        · refine ⟨_, rfl, (fun h => by cases h), ⟨_, _, _, rfl⟩, ?_⟩
          refine ((HB1.out.setCell ?_ _).alloc ?_ _) <;> first | (simp only []; omega) | (simp; omega)
    · have e : D = 0 := by rw [HCC.out]; rfl
      subst e
      have hin := inZ_iff.1 HE.out
      have g1 : decide (n < 0) = false := decide_eq_false (by omega)
      have g2 : decide (1000000 < n) = false := decide_eq_false (by omega)
      clear hin
      go_wp2
      (try simp only [Exit.inBlock, Exit.then])
      refine bodyPost_ret (res_cell_tmp rfl _ _ _ rfl (run_loadVar_mid _ _ _ _ [.slice a' L' c'] _ ?_ Tryd.underlying102 rfl infoPl)) rfl ?_
      · intro j v hv
        rcases j with _ | j <;> simp at hv <;> subst hv <;> go_simp
      · refine ⟨_, rfl, fun _ => ?_, ⟨_, _, _, rfl⟩, ?_⟩
        · rw [hL']
          exact (HR.out.other _ (fun e => by have := HRL.out _ e; omega)).alloc _
        · refine ((HB1.out.setCell ?_ _).alloc ?_ _) <;> first | (simp only []; omega) | (simp; omega)

set_option maxRecDepth 100000 in
set_option maxHeartbeats 4000000 in
theorem lengthAfter_impl {w : World} {B : Nat} {V : Value} {ss : List St} {tv : Nat → Value} (h : StepsO w B V ss.length ss.length ss tv) (ht : Tab w) (n : Int) :
    Calls Tryd.prog 41 #[.agg #[V], .int .i64 n] w fun e w' => e = .returned (.tuple #[.int .i64 (lenR ss n).1, .int .i64 (lenR ss n).2]) ∧ Below w.heap.size w w' := by
  obtain ⟨a, cap, rfl⟩ := h.form
  have hb : Below w.heap.size w (w.alloc (.cells #[.slice a ss.length cap] 43)) := (Below.refl _ _).alloc (Nat.le_refl _) _
  have PF := planForLength_any (h.below hb (Nat.le_refl _)) (ht.below hb) n
  have HB := Lib.hid hb
  have HSB := Lib.hid (fun (hv : cntCode ss n = 0) => validPl_st (cntCode_zero hv).1)
  have HN := Lib.hid (fun (hv : cntCode ss n = 0) => (cntCode_zero hv).2)
  obtain ⟨R, hR⟩ : ∃ R, lenR ss n = R := ⟨_, rfl⟩
  rw [hR]
  unfold lenR at hR
  obtain ⟨D, hD⟩ : ∃ D, cntCode ss n = D := ⟨_, rfl⟩
  rw [hD] at PF HSB HN hR
  have PF := Lib.hid PF
  have HR0 := Lib.hid hR
  clear h ht hb hD hR
  go_enter Tryd.func41, Tryd.ntmps41
  go_wp2_with fail
  with_reducible refine PF.out.mono ?_
  rintro e w1 ⟨V', rfl, hV, ⟨a', l', c', rfl⟩, hb1⟩
  have HB1 := Lib.hid (below_step' HB.out hb1 HB.out.size)
  have HV := Lib.hid hV
  clear hb1 PF hV
  by_cases hD0 : D = 0
  · subst hD0
    have hR1 := HV.out rfl
    have hb2 : Below w1.heap.size w1 (w1.alloc (.cells #[.slice a' l' c'] 102)) := (Below.refl _ _).alloc (Nat.le_refl _) _
    have LC := lengthAfter_chain (hR1.below hb2 (fun k e => (hR1.lt k e).2)) (HSB.out rfl) n (HN.out rfl)
    have e : lenGo ss n = R := HR0.out
    rw [e] at LC
    have LC := Lib.hid LC
    have HB2 := Lib.hid (below_step' HB1.out hb2 HB1.out.size)
    clear hR1 hb2 HV HR0 HSB HN e
    go_wp2_with fail
    with_reducible refine LC.out.mono ?_
    rintro e w2 ⟨rfl, hb3⟩
    have HB3 := Lib.hid (below_step' HB2.out hb3 HB2.out.size)
    clear hb3
    go_wp2
    go_ret2
    exact ⟨rfl, HB3.out⟩
  · have e : R = (0, D) := by rw [← HR0.out, if_neg hD0]
    subst e
    have hDb : (D == 0) = false := by simpa using hD0
    clear HV HSB HN
    go_wp2
    go_ret2
    exact ⟨rfl, HB1.out.alloc HB1.out.size _⟩

end Go.Proofs.YtfdmohnmilecnaaDoor
