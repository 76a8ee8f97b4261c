import Derived.Test.YtfdmohnmilecnaaDoorTxI
import Derived.Test.YtfdmohnmilecnaaDoorVpl
/-
  PlanText of both.
-/
set_option linter.unusedVariables false
set_option linter.unusedSimpArgs false
namespace Go.Proofs.YtfdmohnmilecnaaDoor
open Go.RowKit

/-- Steps are written behind a text, each with a newline. -/
def ptGo (t : List UInt8) (ss : List St) : List UInt8 := ss.foldl (fun t s => t ++ (stText s ++ [10])) t
/-- The text of a plan; nothing of one that is not valid. -/
def plText (ss : List St) : List UInt8 := if validPl ss then ptGo [] ss else []

theorem pt_take {t : List UInt8} {ss : List St} {k : Nat} (h : k < ss.length) : ptGo t (ss.take (k + 1)) = ptGo t (ss.take k) ++ (stText (ss.getD k default) ++ [10]) := by
  unfold ptGo
  rw [List.take_add_one, List.getElem?_eq_getElem h, List.getD_eq_getElem?_getD, List.getElem?_eq_getElem h, List.foldl_append]
  rfl
theorem st_len (s : St) : (stText s).length ≤ 174 := by
  unfold stText
  by_cases hv : validSt s = true
  · rw [if_pos hv]
    obtain ⟨k1, k2⟩ := valid_kind hv
    obtain ⟨h1, h2⟩ := valid_nums hv
    have := tx_len (word_len (show s.kind.toNat < 14 by omega)) h2 _ (Nat.le_refl _)
    rw [List.take_length] at this
    omega
  · rw [if_neg hv]
    simp
theorem pt_len {ss : List St} : ∀ k, k ≤ ss.length → (ptGo [] (ss.take k)).length ≤ 175 * k
  | 0, _ => by simp [ptGo]
  | k + 1, h => by
    rw [pt_take (by omega)]
    have h1 := pt_len (ss := ss) k (by omega)
    have h2 := st_len (ss.getD k default)
    rw [List.length_append, List.length_append, List.length_singleton]
    omega

theorem validPl_len8 {ss : List St} (h : validPl ss = true) : ss.length ≤ 8 := by
  simp only [validPl, Bool.and_eq_true, decide_eq_true_eq] at h
  exact h.1

/-- What a round of either loop adds. -/
theorem pt_round {ss : List St} {j : Nat} (h : j < ss.length) (h8 : ss.length ≤ 8) :
    ∃ T S E1 E2 : ByteArray, strOf (ptGo [] (ss.take j)) = T ∧ strOf (stText (ss.getD j default)) = S ∧ strOf (ptGo [] (ss.take (j + 1))) = E2 ∧
      (∀ w : World, (Op.stringOp .add S ⟨#[10]⟩).run Tryd.prog w = .ok (.string E1) w) ∧ (∀ w : World, (Op.stringOp .add T E1).run Tryd.prog w = .ok (.string E2) w) := by
  have h1 := pt_len (ss := ss) j (by omega)
  have h2 := st_len (ss.getD j default)
  refine ⟨_, _, strOf (stText (ss.getD j default) ++ [10]), _, rfl, rfl, rfl, fun w => str_add _ [10] (by rw [List.length_singleton]; omega) w, fun w => ?_⟩
  rw [pt_take h]
  exact str_add _ _ (by rw [List.length_append, List.length_singleton]; omega) w

set_option maxRecDepth 100000 in
set_option maxHeartbeats 4000000 in
theorem planText_spec {w : World} {B : Nat} {V : Value} {ss : List St} {tv : Nat → Value} (h : StepsO w B V ss.length ss.length ss tv) :
    Calls Tryd.prog 30 #[.agg #[V]] w fun e w' => e = .returned (.string (strOf (plText ss))) ∧ Below w.heap.size w w' := by
  obtain ⟨a, cap, rfl⟩ := h.form
  have hb0 : Below w.heap.size w (w.alloc (.cells #[.slice a ss.length cap] 43)) := (Below.refl _ _).alloc (Nat.le_refl _) _
  obtain ⟨W, hW⟩ : ∃ W, W = w.alloc (.cells #[.slice a ss.length cap] 43) := ⟨_, rfl⟩
  have hlt : w.heap.size < W.heap.size := by rw [hW]; simp
  have p0 : W.cell? ⟨w.heap.size, 0, none⟩ = some (.slice a ss.length cap) := by rw [hW]; go_simp
  rw [← hW] at hb0
  have h1 := h.below hb0 (Nat.le_refl _)
  have HA := Lib.hid (fun j (hj : j < ss.length) => h1.at hj (Nat.le_refl _))
  have C := l07Ok_any h1 p0
  have HW := Lib.hid hW.symm
  have HB0 := Lib.hid hb0
  obtain ⟨R, hR⟩ : ∃ R, plText ss = R := ⟨_, rfl⟩
  rw [hR]
  unfold plText at hR
  have HL8 := Lib.hid (fun (hv : validPl ss = true) => validPl_len8 hv)
  obtain ⟨b, hbv⟩ : ∃ b, validPl ss = b := ⟨_, rfl⟩
  rw [hbv] at C hR HL8
  have C := Lib.hid C
  have HR := Lib.hid hR
  clear h hb0 hW h1 hR hbv
  go_enter Tryd.func30, Tryd.ntmps30
  go_wp2_with fail
  rw [HW.out]
  with_reducible refine C.out.mono ?_
  rintro e w1 ⟨rfl, hb1⟩
  have p1 : w1.cell? ⟨w.heap.size, 0, none⟩ = some (.slice a ss.length cap) := (hb1.cell hlt).trans p0
  have HB1 := Lib.hid hb1
  clear hb1 C HW
  cases b
  · have e : R = [] := by rw [← HR.out]; rfl
    subst e
    go_wp2
    go_ret
    exact ⟨rfl, below_step' HB0.out HB1.out HB0.out.size⟩
  have h8 := HL8.out rfl
  have HROUND := Lib.hid (fun j (hj : j < ss.length) => pt_round hj h8)
  have HEND : Hid (ptGo [] (ss.take ss.length) = R) := by rw [List.take_length]; exact HR.out
  have HST : Hid (Value.string ⟨#[]⟩ = .string (strOf (ptGo [] (ss.take 0)))) := by rw [List.take_zero]; rfl
  obtain ⟨L, hL⟩ : ∃ L, ss.length = L := ⟨_, rfl⟩
  rw [hL] at HA p0 p1 h8 HROUND HEND
  clear HR HL8 hL p0
  go_wp2
  go_loopw [3, 4] (fun y i wr => ∃ j : Nat, i = .int .i64 j ∧ y = .string (strOf (ptGo [] (ss.take j))) ∧ j ≤ L ∧ Below W.heap.size W wr) (fun _ i _ => L - (intOf i).toNat)
  case atStart => exact ⟨0, rfl, HST.out, Nat.zero_le _, HB1.out⟩
  case round =>
    obtain ⟨j, rfl, rfl, hj, hB⟩ := hrel
    have HB := Lib.hid hB
    have p2 : wr.cell? ⟨w.heap.size, 0, none⟩ = some (.slice a L cap) := (hB.cell hlt).trans (by have := HB1.out.cell (p := ⟨w.heap.size, 0, none⟩) hlt; rw [← this]; exact p1)
    clear hB p1
    by_cases hjl : j < L
    · obtain ⟨g, cp, ta, tc, e, -, -, hgw, -, c0, c1, c2, c3, hr⟩ := HA.out j hjl
      simp only [Value.slice.injEq] at e
      obtain ⟨rfl, -, rfl⟩ := e
      obtain ⟨T, S, E1, E2, hT, hS, hE, a1, a2⟩ := HROUND.out j hjl
      have hr2 := hr.below HB.out (fun k e => (hr.lt k e).2)
      have SP := stepText_spec (s := ss.getD j default) ⟨rfl, hr2⟩
      obtain ⟨c0, c1, c2, c3⟩ := StepAt.below ⟨c0, c1, c2, c3⟩ HB.out
      rw [hS] at SP
      rw [hT]
      have HE := Lib.hid hE
      obtain ⟨Q, hQ⟩ : ∃ Q, ss.getD j default = Q := ⟨_, rfl⟩
      rw [hQ] at SP c0 c1 c2 c3
      have SP := Lib.hid SP
      have HJL := Lib.hid hjl
      clear hr hr2 hT hS hE hQ
      go_wp2_with fail
      with_reducible refine SP.out.mono ?_
      rintro e w2 ⟨rfl, hb2⟩
      have HB2 := Lib.hid (below_step' HB.out hb2 HB.out.size)
      clear hb2 c0 c1 c2 c3
      go_wp2
      go_roundw
      case rel => exact ⟨j + 1, by go_num, by rw [HE.out], HJL.out, HB2.out⟩
      case measure => have := HJL.out; simp [intOf]; omega
    · obtain rfl : j = L := by omega
      rw [HEND.out]
      go_wp2
      go_ret
      exact ⟨rfl, below_step' HB0.out HB.out HB0.out.size⟩

set_option maxRecDepth 100000 in
set_option maxHeartbeats 4000000 in
theorem planText_impl {w : World} {B : Nat} {V : Value} {ss : List St} {tv : Nat → Value} (h : StepsO w B V ss.length ss.length ss tv) (ht : Tab w) (hp : Pow10 w) :
    Calls Tryd.prog 31 #[.agg #[V]] w fun e w' => e = .returned (.string (strOf (plText ss))) ∧ Below w.heap.size w w' := by
  obtain ⟨a, cap, rfl⟩ := h.form
  have hb0 : Below w.heap.size w (w.alloc (.cells #[.slice a ss.length cap] 43)) := (Below.refl _ _).alloc (Nat.le_refl _) _
  obtain ⟨W, hW⟩ : ∃ W, W = w.alloc (.cells #[.slice a ss.length cap] 43) := ⟨_, rfl⟩
  have hlt : w.heap.size < W.heap.size := by rw [hW]; simp
  have p0 : W.cell? ⟨w.heap.size, 0, none⟩ = some (.slice a ss.length cap) := by rw [hW]; go_simp
  rw [← hW] at hb0
  have h1 := h.below hb0 (Nat.le_refl _)
  have HA := Lib.hid (fun j (hj : j < ss.length) => h1.at hj (Nat.le_refl _))
  have C := validPlan_impl h1 (ht.below hb0)
  have TB := Lib.hid (fun (W' : World) (hb : Below W.heap.size W W') => And.intro ((ht.below hb0).below hb) ((hp.below hb0).below hb))
  have HW := Lib.hid hW.symm
  have HB0 := Lib.hid hb0
  obtain ⟨R, hR⟩ : ∃ R, plText ss = R := ⟨_, rfl⟩
  rw [hR]
  unfold plText at hR
  have HL8 := Lib.hid (fun (hv : validPl ss = true) => validPl_len8 hv)
  obtain ⟨b, hbv⟩ : ∃ b, validPl ss = b := ⟨_, rfl⟩
  rw [hbv] at C hR HL8
  have C := Lib.hid C
  have HR := Lib.hid hR
  clear h hb0 hW h1 hR hbv ht hp
  go_enter Tryd.func31, Tryd.ntmps31
  go_wp2_with fail
  rw [HW.out]
  with_reducible refine C.out.mono ?_
  rintro e w1 ⟨rfl, hb1⟩
  have p1 : w1.cell? ⟨w.heap.size, 0, none⟩ = some (.slice a ss.length cap) := (hb1.cell hlt).trans p0
  have HB1 := Lib.hid hb1
  clear hb1 C HW
  cases b
  · have e : R = [] := by rw [← HR.out]; rfl
    subst e
    go_wp2
    go_ret
    exact ⟨rfl, below_step' HB0.out HB1.out HB0.out.size⟩
  have h8 := HL8.out rfl
  have HROUND := Lib.hid (fun j (hj : j < ss.length) => pt_round hj h8)
  have HEND : Hid (ptGo [] (ss.take ss.length) = R) := by rw [List.take_length]; exact HR.out
  have HST : Hid (Value.string ⟨#[]⟩ = .string (strOf (ptGo [] (ss.take 0)))) := by rw [List.take_zero]; rfl
  obtain ⟨L, hL⟩ : ∃ L, ss.length = L := ⟨_, rfl⟩
  rw [hL] at HA p0 p1 h8 HROUND HEND
  clear HR HL8 hL p0
  go_wp2
  go_loopw [3, 12] (fun y i wr => ∃ j : Nat, i = .int .i64 j ∧ y = .string (strOf (ptGo [] (ss.take j))) ∧ j ≤ L ∧ Below W.heap.size W wr) (fun _ i _ => L - (intOf i).toNat)
  case atStart => exact ⟨0, rfl, HST.out, Nat.zero_le _, HB1.out⟩
  case round =>
    obtain ⟨j, rfl, rfl, hj, hB⟩ := hrel
    have HB := Lib.hid hB
    clear hB p1
    by_cases hjl : j < L
    · obtain ⟨g, cp, ta, tc, e, -, -, hgw, -, c0, c1, c2, c3, hr⟩ := HA.out j hjl
      simp only [Value.slice.injEq] at e
      obtain ⟨rfl, -, rfl⟩ := e
      obtain ⟨T, S, E1, E2, hT, hS, hE, a1, a2⟩ := HROUND.out j hjl
      have HRE := Lib.hid (fun (w' : World) (hb : Below W.heap.size W w') => hr.reads.keep hb)
      obtain ⟨c0, c1, c2, c3⟩ := StepAt.below ⟨c0, c1, c2, c3⟩ HB.out
      rw [hT]
      have HE := Lib.hid hE
      obtain ⟨Q, hQ⟩ : ∃ Q, ss.getD j default = Q := ⟨_, rfl⟩
      rw [hQ] at c0 c1 c2 c3 HRE hS
      have hb3 : Below W.heap.size W (wr.alloc (.cells #[.int .i64 Q.kind, .int .i64 Q.n, .int .i64 Q.k, .slice ta Q.taps.length tc] 27)) := HB.out.alloc HB.out.size _
      have SP := stepText_impl Q ta tc _ (TB.out _ hb3).1 (TB.out _ hb3).2 (HRE.out _ hb3)
      rw [hS] at SP
      have SP := Lib.hid SP
      have HB3 := Lib.hid hb3
      have HJL := Lib.hid hjl
      clear hr hT hS hE hQ hb3
      go_wp2_with fail
      with_reducible refine SP.out.mono ?_
      rintro e w2 ⟨rfl, hb2⟩
      have HB2 := Lib.hid (below_step' HB3.out hb2 HB3.out.size)
      clear hb2 c0 c1 c2 c3
      go_wp2
      go_roundw
      case rel => exact ⟨j + 1, by go_num, by rw [HE.out], HJL.out, HB2.out⟩
      case measure => have := HJL.out; simp [intOf]; omega
    · obtain rfl : j = L := by omega
      rw [HEND.out]
      go_wp2
      go_ret
      exact ⟨rfl, below_step' HB0.out HB.out HB0.out.size⟩

end Go.Proofs.YtfdmohnmilecnaaDoor
