import Derived.Test.YtfdmohnmilecnaaSamQ
import Derived.Deep.RegionHeld3
/-
  The law of SamePlan.
-/
set_option linter.unusedVariables false
set_option linter.unusedSimpArgs false
namespace Go.Proofs.Ytfdmohnmilecnaa
open Go.RowKit

set_option maxRecDepth 100000 in
set_option maxHeartbeats 8000000 in
theorem exactSamePlan_law (v : Value) (ss : List St) (v' : Value) (rs : List St) (w : World) (h : PlanIn w v ss) (h' : PlanIn w v' rs) :
    Calls Try.prog 3 #[v, v'] w fun e w' => e = .returned (.bool true) ∧ Below w.heap.size w w' := by
  obtain ⟨sv, rfl, -⟩ := id h
  obtain ⟨sv', rfl, -⟩ := id h'
  obtain ⟨W0, hW0⟩ : ∃ W0, W0 = (w.alloc (.cells #[sv] 24)).alloc (.cells #[sv'] 24) := ⟨_, rfl⟩
  have hb0 : Below w.heap.size w W0 := by rw [hW0]; exact ((Below.refl _ _).alloc (Nat.le_refl _) _).alloc (by simp) _
  have hsz : W0.heap.size = w.heap.size + 1 + 1 := by rw [hW0]; simp
  have hlt : w.heap.size < W0.heap.size := by omega
  have hlt' : w.heap.size + 1 < W0.heap.size := by omega
  have c0 : W0.cell? ⟨w.heap.size, 0, none⟩ = some sv := by rw [hW0]; go_simp
  have c1 : W0.cell? ⟨w.heap.size + 1, 0, none⟩ = some sv' := by rw [hW0]; go_simp
  have HW0 := Lib.hid hW0.symm
  have HC : Hid (∀ W, Below W0.heap.size W0 W → W.cell? ⟨w.heap.size, 0, none⟩ = some sv ∧ W.cell? ⟨w.heap.size + 1, 0, none⟩ = some sv') := fun W hb => ⟨(hb.cell hlt).trans c0, (hb.cell hlt').trans c1⟩
  have SZ := szPlan_any (h.below hb0) 1048576 (Nat.le_refl _)
  simp only [Int.cast_ofNat_Int] at SZ
  have SZ := Lib.hid SZ
  have SZ' := Lib.hid (fun (W : World) (hb : Below W0.heap.size W0 W) (m : Nat) (hm : m ≤ 1048576) => szPlan_any (h'.below (below_step' hb0 hb hb0.size)) m hm)
  have TO := Lib.hid (fun (W : World) (hb : Below W0.heap.size W0 W) (hl : ss.length ≤ 1048576 ∧ ∀ j, j < ss.length → (ss.getD j default).taps.length ≤ 1048576) => toPlan_any (h.below (below_step' hb0 hb hb0.size)) hl.1 hl.2)
  have TO' := Lib.hid (fun (W : World) (hb : Below W0.heap.size W0 W) (hl : rs.length ≤ 1048576 ∧ ∀ j, j < rs.length → (rs.getD j default).taps.length ≤ 1048576) => toPlan_any (h'.below (below_step' hb0 hb hb0.size)) hl.1 hl.2)
  have HB0 := Lib.hid hb0
  clear h h' hb0 hW0
  go_enter Try.func3, Try.ntmps3
  go_wp2_with fail
  rw [HW0.out]
  with_reducible refine SZ.out.mono ?_
  rintro e w1 ⟨r, rfl, hr, hb1⟩
  have HB1 := Lib.hid hb1
  obtain ⟨d0, d1⟩ := HC.out w1 hb1
  clear hb1 c0 c1 SZ
  rcases hr with rfl | ⟨r0, rl, hl⟩
  · go_wp2
    go_ret
    exact ⟨rfl, below_step' HB0.out HB1.out HB0.out.size⟩
  obtain ⟨m, rfl⟩ : ∃ m : Nat, r = m := ⟨r.toNat, by omega⟩
  have g : ¬ (m : Int) < 0 := by omega
  have g' : decide ((m : Int) < 0) = false := decide_eq_false g
  have S2 := Lib.hid (SZ'.out w1 HB1.out m (by omega))
  clear SZ'
  go_wp2_with fail
  with_reducible refine S2.out.mono ?_
  rintro e w2 ⟨r', rfl, hr', hb2⟩
  have HB2 := Lib.hid (below_step' HB1.out hb2 HB1.out.size)
  obtain ⟨d0, d1⟩ := HC.out w2 HB2.out
  clear hb2 S2
  rcases hr' with rfl | ⟨r0', rl', hl'⟩
  · go_wp2
    go_ret
    exact ⟨rfl, below_step' HB0.out HB2.out HB0.out.size⟩
  have g2 : ¬ r' < 0 := by omega
  have g2' : decide (r' < 0) = false := decide_eq_false g2
  have TP := Lib.hid (fun W hb => TO.out W hb hl)
  have TQ := Lib.hid (fun W hb => TO'.out W hb hl')
  obtain ⟨R, hR⟩ : ∃ R, samePl ss rs = R := ⟨_, rfl⟩
  have HD : Hid (Below W0.heap.size W0 w2.drew) := below_draws HB2.out 1
  clear TO TO'
  go_wp2_with fail
  go_region_held3 (fun w' => w'.cell? ⟨w.heap.size, 0, none⟩ = some sv ∧ w'.cell? ⟨w.heap.size + 1, 0, none⟩ = some sv')
    (first
      | exact ⟨d0, d1⟩
      | exact HC.out _ HP2.out
      | exact HC.out _ HQ2.out
      | exact HC.out _ HP1.out
      | exact HC.out _ HQ1.out
      | exact HC.out _ HS.out
      | go_keep)
    (first
      | (go_at_call 6; first
          | ((with_reducible show Calls _ _ #[.agg #[sv]] _ _); refine (TP.out wq HQ1.out).mono ?_; rintro e wp ⟨VP, tP, rfl, hOP, hbp⟩; have HP2 : Hid (Below W0.heap.size W0 wp) := below_step' HQ1.out hbp HQ1.out.size; have HOP := Lib.hid hOP; have HOQ2 := Lib.hid (HOQ.out.below hbp (Nat.le_refl _)); clear hbp hOP)
          | ((with_reducible show Calls _ _ #[.agg #[sv']] _ _); refine (TQ.out wp HP1.out).mono ?_; rintro e wq ⟨VQ, tQ, rfl, hOQ, hbq⟩; have HQ2 : Hid (Below W0.heap.size W0 wq) := below_step' HP1.out hbq HP1.out.size; have HOQ := Lib.hid hOQ; have HOP2 := Lib.hid (HOP.out.below hbq (Nat.le_refl _)); clear hbq hOQ)
          | ((with_reducible show Calls _ _ #[.agg #[sv]] _ _); refine (TP.out w2.drew HD.out).mono ?_; rintro e wp ⟨VP, tP, rfl, hOP, hbp⟩; have HP1 : Hid (Below W0.heap.size W0 wp) := below_step' HD.out hbp HD.out.size; have HOP := Lib.hid hOP; clear hbp hOP)
          | ((with_reducible show Calls _ _ #[.agg #[sv']] _ _); refine (TQ.out w2.drew HD.out).mono ?_; rintro e wq ⟨VQ, tQ, rfl, hOQ, hbq⟩; have HQ1 : Hid (Below W0.heap.size W0 wq) := below_step' HD.out hbq HD.out.size; have HOQ := Lib.hid hOQ; clear hbq hOQ))
      | (go_at_call 5; first
          | ((with_reducible refine (samePlan_spec HOP.out HOQ2.out).mono ?_); rw [hR]; rintro e w4 ⟨rfl, hb4⟩; have HS : Hid (Below W0.heap.size W0 w4) := below_step' HP2.out hb4 HP2.out.size; clear hb4)
          | ((with_reducible refine (samePlan_spec HOP2.out HOQ.out).mono ?_); rw [hR]; rintro e w4 ⟨rfl, hb4⟩; have HS : Hid (Below W0.heap.size W0 w4) := below_step' HQ2.out hb4 HQ2.out.size; clear hb4)))
  all_goals
    obtain ⟨d0, d1⟩ := HC.out w4 HS.out
    go_wp2_with fail
    with_reducible refine (TP.out w4 HS.out).mono ?_
    rintro e w5 ⟨V5, t5, rfl, hO5, hb5⟩
    obtain ⟨a5, c5, rfl⟩ := hO5.form
    have HB5 := Lib.hid (below_step' HS.out hb5 HS.out.size)
    have hb5a : Below w5.heap.size w5 (w5.alloc (.cells #[.slice a5 ss.length c5] 29)) := (Below.refl _ _).alloc (Nat.le_refl _) _
    obtain ⟨W6, hW6⟩ : ∃ W6, W6 = w5.alloc (.cells #[.slice a5 ss.length c5] 29) := ⟨_, rfl⟩
    have hlt6 : w5.heap.size < W6.heap.size := by rw [hW6]; simp
    have e0 : W6.cell? ⟨w5.heap.size, 0, none⟩ = some (.slice a5 ss.length c5) := by rw [hW6]; go_simp
    rw [← hW6] at hb5a
    have HB6 := Lib.hid (below_step' HB5.out hb5a HB5.out.size)
    have HO6 := Lib.hid (hO5.below hb5a (Nat.le_refl _))
    have HW6 := Lib.hid hW6.symm
    have k1 : (w5.alloc (.cells #[.slice a5 ss.length c5] 29)).cell? ⟨w.heap.size + 1, 0, none⟩ = some sv' := by rw [HW6.out]; exact (HC.out W6 HB6.out).2
    have hs5 := HB5.out.size
    clear hb5 hO5 hb5a hW6 d0 d1
    go_wp2_with fail
    rw [HW6.out]
    clear k1
    go_wp2_with fail
    with_reducible refine (TQ.out W6 HB6.out).mono ?_
    rintro e w7 ⟨V7, t7, rfl, hO7, hb7⟩
    obtain ⟨a7, c7, rfl⟩ := hO7.form
    have HB7 := Lib.hid (below_step' HB6.out hb7 HB6.out.size)
    have hb7a : Below w7.heap.size w7 (w7.alloc (.cells #[.slice a7 rs.length c7] 29)) := (Below.refl _ _).alloc (Nat.le_refl _) _
    obtain ⟨W8, hW8⟩ : ∃ W8, W8 = w7.alloc (.cells #[.slice a7 rs.length c7] 29) := ⟨_, rfl⟩
    have hlt8 : w7.heap.size < W8.heap.size := by rw [hW8]; simp
    have e1 : W8.cell? ⟨w7.heap.size, 0, none⟩ = some (.slice a7 rs.length c7) := by rw [hW8]; go_simp
    rw [← hW8] at hb7a
    have hb68 := below_step' hb7 hb7a hb7.size
    have hs7 := hb7.size
    have ne7 : ¬ w5.heap.size = w7.heap.size := by omega
    have e07 : w7.cell? ⟨w5.heap.size, 0, none⟩ = some (.slice a5 ss.length c5) := (hb7.cell hlt6).trans e0
    rw [← hb68.cell hlt6] at e0
    have k1 : (w7.alloc (.cells #[.slice a7 rs.length c7] 29)).cell? ⟨w5.heap.size, 0, none⟩ = some (.slice a5 ss.length c5) := by rw [← hW8]; exact e0
    have k2 : (w7.alloc (.cells #[.slice a7 rs.length c7] 29)).cell? ⟨w7.heap.size, 0, none⟩ = some (.slice a7 rs.length c7) := by rw [← hW8]; exact e1
    have hlt68 : w5.heap.size < W8.heap.size := Nat.lt_of_lt_of_le hlt6 hb68.size
    have HB8 := Lib.hid (below_step' HB7.out hb7a HB7.out.size)
    have HO8 := Lib.hid (HO6.out.below hb68 (Nat.le_refl _))
    have HO8' := Lib.hid (hO7.below hb7a (Nat.le_refl _))
    have HW8 := Lib.hid hW8.symm
    have IM := samePlan_impl HO8.out HO8'.out
    rw [hR] at IM
    have IM := Lib.hid IM
    clear hb7 hO7 hb7a hW8 hb68
    go_wp2_with fail
    rw [HW8.out]
    clear k1 k2
    go_wp2_with fail
    with_reducible refine IM.out.mono ?_
    rintro e w9 ⟨rfl, hb9⟩
    have HB9 := Lib.hid (below_step' HB8.out hb9 HB8.out.size)
    have HO9 := Lib.hid (HO8.out.below hb9 (Nat.le_refl _))
    have HO9' := Lib.hid (HO8'.out.below hb9 (Nat.le_refl _))
    rw [← hb9.cell hlt68] at e0
    rw [← hb9.cell hlt8] at e1
    have hl9 : w5.heap.size < w9.heap.size := Nat.lt_of_lt_of_le hlt68 hb9.size
    have hl9' : w7.heap.size < w9.heap.size := Nat.lt_of_lt_of_le hlt8 hb9.size
    have HE : Hid (∀ W, Below w9.heap.size w9 W → W.cell? ⟨w.heap.size, 0, none⟩ = some sv ∧ W.cell? ⟨w.heap.size + 1, 0, none⟩ = some sv' ∧ W.cell? ⟨w5.heap.size, 0, none⟩ = some (.slice a5 ss.length c5) ∧ W.cell? ⟨w7.heap.size, 0, none⟩ = some (.slice a7 rs.length c7)) := fun W hb => by
      obtain ⟨q0, q1⟩ := HC.out W (below_step' HB9.out hb HB9.out.size)
      exact ⟨q0, q1, (hb.cell hl9).trans e0, (hb.cell hl9').trans e1⟩
    obtain ⟨d0, d1, -, -⟩ := HE.out w9 (Below.refl _ _)
    have HDa : Hid (Below w9.heap.size w9 w9.drew) := below_draws (Below.refl _ _) 1
    have T10 := Lib.hid (TP.out w9.drew (below_step' HB9.out HDa.out HB9.out.size))
    clear hb9 IM
    go_wp2_with fail
    go_region_held3 (fun w' => w'.cell? ⟨w.heap.size, 0, none⟩ = some sv ∧ w'.cell? ⟨w.heap.size + 1, 0, none⟩ = some sv' ∧ w'.cell? ⟨w5.heap.size, 0, none⟩ = some (.slice a5 ss.length c5) ∧ w'.cell? ⟨w7.heap.size, 0, none⟩ = some (.slice a7 rs.length c7))
      (first
        | exact ⟨d0, d1, e0, e1⟩
        | exact HE.out _ HB10.out
        | exact HE.out _ HB11.out
        | go_keep)
      (first
        | (go_at_call 6; refine T10.out.mono ?_; rintro e w10 ⟨V10, t10, rfl, hO10, hb10⟩; have HO10 := Lib.hid hO10; have HB10 : Hid (Below w9.heap.size w9 w10) := below_step' HDa.out hb10 (Nat.le_refl _); have HO9a := Lib.hid (HO9.out.below HB10.out (Nat.le_refl _)); clear hb10 hO10)
        | (go_at_call 8; refine (eqPlan_any HO9a.out HO10.out).mono ?_; rintro e w11 ⟨rfl, hb11⟩; have HB11 : Hid (Below w9.heap.size w9 w11) := below_step' HB10.out hb11 HB10.out.size; clear hb11))
    all_goals
      obtain ⟨d0, d1, e0, e1⟩ := HE.out w11 HB11.out
      have HDb : Hid (Below w9.heap.size w9 w11.drew) := below_draws HB11.out 1
      have T12 := Lib.hid (TQ.out w11.drew (below_step' HB9.out HDb.out HB9.out.size))
      go_wp2_with fail
      go_region_held3 (fun w' => w'.cell? ⟨w.heap.size, 0, none⟩ = some sv ∧ w'.cell? ⟨w.heap.size + 1, 0, none⟩ = some sv' ∧ w'.cell? ⟨w5.heap.size, 0, none⟩ = some (.slice a5 ss.length c5) ∧ w'.cell? ⟨w7.heap.size, 0, none⟩ = some (.slice a7 rs.length c7))
        (first
          | exact ⟨d0, d1, e0, e1⟩
          | exact HE.out _ HB12.out
          | exact HE.out _ HB13.out
          | go_keep)
        (first
          | (go_at_call 6; refine T12.out.mono ?_; rintro e w12 ⟨V12, t12, rfl, hO12, hb12⟩; have HO12 := Lib.hid hO12; have HB12 : Hid (Below w9.heap.size w9 w12) := below_step' HDb.out hb12 HDb.out.size; have HO9b := Lib.hid (HO9'.out.below HB12.out (Nat.le_refl _)); clear hb12 hO12)
          | (go_at_call 8; refine (eqPlan_any HO9b.out HO12.out).mono ?_; rintro e w13 ⟨rfl, hb13⟩; have HB13 : Hid (Below w9.heap.size w9 w13) := below_step' HB12.out hb13 HB12.out.size; clear hb13))
      all_goals
        go_wp2
        go_ret
        exact ⟨rfl, below_step' HB0.out (below_step' HB9.out HB13.out HB9.out.size) HB0.out.size⟩

end Go.Proofs.Ytfdmohnmilecnaa
