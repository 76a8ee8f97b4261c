import Derived.Test.YtfdmohnmilecnaaDoorTxP
import Derived.Test.YtfdmohnmilecnaaDoorLaidT
import Derived.Test.YtfdmohnmilecnaaDoorLawP
/-
  The law of PlanText (written by genlawp.py).
-/
set_option linter.unusedVariables false
set_option linter.unusedSimpArgs false
namespace Go.Proofs.YtfdmohnmilecnaaDoor
open Go.RowKit

set_option maxRecDepth 100000 in
set_option maxHeartbeats 8000000 in
theorem exactPlanText_law (v : Value) (ss : List St) (w : World) (h : PlanIn w v ss) (hl4 : Tab w ∧ Pow10 w) :
    Calls Tryd.prog 7 #[v] w fun e w' => e = .returned (.bool true) ∧ Below w.heap.size w w' := by
  obtain ⟨sv, rfl, hI⟩ := id h
  have hb0 : Below w.heap.size w (w.alloc (.cells #[sv] 38)) := (Below.refl _ _).alloc (Nat.le_refl _) _
  obtain ⟨W0, hW0⟩ : ∃ W0, W0 = w.alloc (.cells #[sv] 38) := ⟨_, rfl⟩
  have hlt : w.heap.size < W0.heap.size := by rw [hW0]; simp
  have c0 : W0.cell? ⟨w.heap.size, 0, none⟩ = some sv := by rw [hW0]; go_simp
  rw [← hW0] at hb0
  have HW0 := Lib.hid hW0.symm
  have HC : Hid (∀ W, Below W0.heap.size W0 W → W.cell? ⟨w.heap.size, 0, none⟩ = some sv) := fun W hb => (hb.cell hlt).trans c0
  have SZ := szPlan_any (h.below hb0) 1048576 (Nat.le_refl _)
  simp only [Int.cast_ofNat_Int] at SZ
  have SZ := Lib.hid SZ
  have TO := Lib.hid (fun (W : World) (hb : Below W0.heap.size W0 W) (hl : ss.length ≤ 1048576 ∧ ∀ j, j < ss.length → (ss.getD j default).taps.length ≤ 1048576) => toPlan_any (h.below (below_step' hb0 hb hb0.size)) hl.1 hl.2)
  have TA := Lib.hid (fun (W : World) (hb : Below W0.heap.size W0 W) => And.intro (hl4.1.below (below_step' hb0 hb hb0.size)) (hl4.2.below (below_step' hb0 hb hb0.size)))
  have HB0 := Lib.hid hb0
  clear h hI hl4 hb0 hW0
  go_enter Tryd.func7, Tryd.ntmps7
  go_wp2_with fail
  rw [HW0.out]
  with_reducible refine SZ.out.mono ?_
  rintro e w1 ⟨r, rfl, hr, hb1⟩
  have HB1 := Lib.hid hb1
  have d0 := HC.out w1 hb1
  clear hb1 c0 SZ
  rcases hr with rfl | ⟨r0, rl, hl⟩
  · go_wp2
    go_ret
    exact ⟨rfl, below_step' HB0.out HB1.out HB0.out.size⟩
  · have g : ¬ r < 0 := by omega
    have g' : decide (r < 0) = false := decide_eq_false g
    go_wp2_with fail
    refine (TO.out w1 HB1.out hl).mono ?_
    rintro e w2 ⟨V2, t2, rfl, hO2, hb2⟩
    have SP := Lib.hid (planText_spec hO2)
    have HB2 := Lib.hid (below_step' HB1.out hb2 HB1.out.size)
    have d0 := HC.out w2 HB2.out
    obtain ⟨B, hB⟩ : ∃ x, strOf (plText ss) = x := ⟨_, rfl⟩
    rw [hB] at SP
    clear hb2 hO2
    go_wp2_with fail
    refine SP.out.mono ?_
    rintro e w3 ⟨rfl, hb3⟩
    have HB3 := Lib.hid (below_step' HB2.out hb3 HB2.out.size)
    have d0 := HC.out w3 HB3.out
    clear hb3 SP
    go_wp2_with fail
    refine (TO.out w3 HB3.out hl).mono ?_
    rintro e w4 ⟨V4, t4, rfl, hO4, hb4⟩
    obtain ⟨a4, c4, rfl⟩ := hO4.form
    have HB4 := Lib.hid (below_step' HB3.out hb4 HB3.out.size)
    have hb4a : Below w4.heap.size w4 (w4.alloc (.cells #[(.slice a4 ss.length c4)] 43)) := (Below.refl _ _).alloc (Nat.le_refl _) _
    obtain ⟨W5, hW5⟩ : ∃ W5, W5 = w4.alloc (.cells #[(.slice a4 ss.length c4)] 43) := ⟨_, rfl⟩
    have hlt5 : w4.heap.size < W5.heap.size := by rw [hW5]; simp
    have e0 : W5.cell? ⟨w4.heap.size, 0, none⟩ = some (.slice a4 ss.length c4) := by rw [hW5]; go_simp
    rw [← hW5] at hb4a
    have HB5 := Lib.hid (below_step' HB4.out hb4a HB4.out.size)
    have hO5 := hO4.below hb4a (Nat.le_refl _)
    have IM := Lib.hid (planText_impl hO5 (TA.out W5 HB5.out).1 (TA.out W5 HB5.out).2)
    have HO5 := Lib.hid hO5
    have HW5 := Lib.hid hW5.symm
    rw [hB] at IM
    clear hb4 hO4 hO5 hb4a hW5 d0
    go_wp2_with fail
    rw [HW5.out]
    with_reducible refine IM.out.mono ?_
    rintro e w6 ⟨rfl, hb6⟩
    have HB6 := Lib.hid (below_step' HB5.out hb6 HB5.out.size)
    have HO6 := Lib.hid (HO5.out.below hb6 (Nat.le_refl _))
    rw [← hb6.cell hlt5] at e0
    have hlt6 : w4.heap.size < w6.heap.size := Nat.lt_of_lt_of_le hlt5 hb6.size
    clear hb6 IM
    have HE : Hid (∀ W, Below w6.heap.size w6 W → W.cell? ⟨w.heap.size, 0, none⟩ = some sv ∧ W.cell? ⟨w4.heap.size, 0, none⟩ = some (.slice a4 ss.length c4)) := fun W hb => ⟨HC.out W (below_step' HB6.out hb HB6.out.size), (hb.cell hlt6).trans e0⟩
    obtain ⟨d0, -⟩ := HE.out w6 (Below.refl _ _)
    have HD : Hid (Below w6.heap.size w6 w6.drew) := below_draws (Below.refl _ _) 1
    have T7 := Lib.hid (TO.out w6.drew (below_step' HB6.out HD.out HB6.out.size) hl)
    go_wp2_with fail
    go_region_held3 (fun w' => w'.cell? ⟨w.heap.size, 0, none⟩ = some sv ∧ w'.cell? ⟨w4.heap.size, 0, none⟩ = some (.slice a4 ss.length c4))
      (first
        | exact ⟨d0, e0⟩
        | exact HE.out _ HB7.out
        | exact HE.out _ HB8.out
        | go_keep)
      (first
        | (go_at_call 27; refine T7.out.mono ?_; rintro e w7 ⟨V7, t7, rfl, hO7, hb7⟩; have HO7 := Lib.hid hO7; have HB7 : Hid (Below w6.heap.size w6 w7) := below_step' HD.out hb7 (Nat.le_refl _); have HO6' := Lib.hid (HO6.out.below HB7.out (Nat.le_refl _)); clear hb7 hO7)
        | (go_at_call 29; refine (eqPlan_any HO6'.out HO7.out).mono ?_; rintro e w8 ⟨rfl, hb8⟩; have HB8 : Hid (Below w6.heap.size w6 w8) := below_step' HB7.out hb8 HB7.out.size; clear hb8))
    all_goals
      go_wp2
      go_ret
      exact ⟨rfl, below_step' HB0.out (below_step' HB6.out HB8.out HB6.out.size) HB0.out.size⟩

end Go.Proofs.YtfdmohnmilecnaaDoor
