import Derived.Test.YtfdmohnmilecnaaDoorLaidT
/-
  The law of StepText.
-/
set_option linter.unusedVariables false
set_option linter.unusedSimpArgs false
namespace Go.Proofs.YtfdmohnmilecnaaDoor
open Go.RowKit

set_option maxRecDepth 100000 in
set_option maxHeartbeats 8000000 in
theorem exactStepText_law (v : Value) (s : St) (w : World) (h : StepIn w v s) (hl4 : Tab w ∧ Pow10 w) :
    Calls Tryd.prog 4 #[v] w fun e w' => e = .returned (.bool true) ∧ Below w.heap.size w w' := by
  obtain ⟨ht, hp⟩ := hl4
  obtain ⟨tv, rfl, hI⟩ := id h
  obtain ⟨a, cap, rfl, hlen⟩ := hI.form
  have hb0 : Below w.heap.size w (w.alloc (.cells #[.int .i64 s.kind, .int .i64 s.n, .int .i64 s.k, .slice a s.taps.length cap] 24)) := (Below.refl _ _).alloc (Nat.le_refl _) _
  obtain ⟨W0, hW0⟩ : ∃ W0, W0 = w.alloc (.cells #[.int .i64 s.kind, .int .i64 s.n, .int .i64 s.k, .slice a s.taps.length cap] 24) := ⟨_, rfl⟩
  have hlt : w.heap.size < W0.heap.size := by rw [hW0]; simp
  have c0 : W0.cell? ⟨w.heap.size, 0, none⟩ = some (.int .i64 s.kind) := by rw [hW0]; go_simp
  have c1 : W0.cell? ⟨w.heap.size, 1, none⟩ = some (.int .i64 s.n) := by rw [hW0]; go_simp
  have c2 : W0.cell? ⟨w.heap.size, 2, none⟩ = some (.int .i64 s.k) := by rw [hW0]; go_simp
  have c3 : W0.cell? ⟨w.heap.size, 3, none⟩ = some (.slice a s.taps.length cap) := by rw [hW0]; go_simp
  rw [← hW0] at hb0
  have HW0 := Lib.hid hW0.symm
  have HC : Hid (∀ W, Below W0.heap.size W0 W → W.cell? ⟨w.heap.size, 0, none⟩ = some (.int .i64 s.kind) ∧ W.cell? ⟨w.heap.size, 1, none⟩ = some (.int .i64 s.n) ∧ W.cell? ⟨w.heap.size, 2, none⟩ = some (.int .i64 s.k) ∧ W.cell? ⟨w.heap.size, 3, none⟩ = some (.slice a s.taps.length cap)) := fun W hb => by
    rw [hb.cell hlt, hb.cell hlt, hb.cell hlt, hb.cell hlt]
    exact ⟨c0, c1, c2, c3⟩
  have SZ := szStep_any (h.below hb0) 1048576 (Nat.le_refl _)
  simp only [Int.cast_ofNat_Int] at SZ
  have SZ := Lib.hid SZ
  have TO := Lib.hid (fun (W : World) (hb : Below W0.heap.size W0 W) (hl : s.taps.length ≤ 1048576) => toStep_any (h.below (below_step' hb0 hb hb0.size)) hl)
  have TP := Lib.hid (fun (W : World) (hb : Below W0.heap.size W0 W) => hp.below (below_step' hb0 hb hb0.size))
  have TA := Lib.hid (fun (W : World) (hb : Below W0.heap.size W0 W) => ht.below (below_step' hb0 hb hb0.size))
  have HB0 := Lib.hid hb0
  clear h hI ht hp hb0 hlen hW0
  go_enter Tryd.func4, Tryd.ntmps4
  go_wp2_with fail
  rw [HW0.out]
  with_reducible refine SZ.out.mono ?_
  rintro e w1 ⟨r, rfl, hr, hb1⟩
  have HB1 := Lib.hid hb1
  obtain ⟨d0, d1, d2, d3⟩ := HC.out w1 hb1
  clear hb1 c0 c1 c2 c3 SZ
  rcases hr with rfl | ⟨r0, rl, hl⟩
  · go_wp2
    go_ret
    exact ⟨rfl, below_step' HB0.out HB1.out HB0.out.size⟩
  · have g : ¬ r < 0 := by omega
    have g' : decide (r < 0) = false := decide_eq_false g
    go_wp2_with fail
    refine (TO.out w1 HB1.out hl).mono ?_
    rintro e w2 ⟨u, t2, rfl, hO2, hb2⟩
    have SP := Lib.hid (stepText_spec hO2)
    have HB2 := Lib.hid (below_step' HB1.out hb2 HB1.out.size)
    obtain ⟨d0, d1, d2, d3⟩ := HC.out w2 HB2.out
    clear hb2 hO2
    go_wp2_with fail
    refine SP.out.mono ?_
    rintro e w3 ⟨rfl, hb3⟩
    have HB3 := Lib.hid (below_step' HB2.out hb3 HB2.out.size)
    obtain ⟨d0, d1, d2, d3⟩ := HC.out w3 HB3.out
    clear hb3
    go_wp2_with fail
    refine (TO.out w3 HB3.out hl).mono ?_
    rintro e w4 ⟨u, t4, rfl, ⟨rfl, hr4⟩, hb4⟩
    have HB4 := Lib.hid (below_step' HB3.out hb4 HB3.out.size)
    obtain ⟨a4, c4, rfl⟩ := hr4.form
    rw [ints_length] at hr4 ⊢
    have hb4a : Below w4.heap.size w4 (w4.alloc (.cells #[.int .i64 s.kind, .int .i64 s.n, .int .i64 s.k, .slice a4 s.taps.length c4] 27)) := (Below.refl _ _).alloc (Nat.le_refl _) _
    obtain ⟨W5, hW5⟩ : ∃ W5, W5 = w4.alloc (.cells #[.int .i64 s.kind, .int .i64 s.n, .int .i64 s.k, .slice a4 s.taps.length c4] 27) := ⟨_, rfl⟩
    have hlt5 : w4.heap.size < W5.heap.size := by rw [hW5]; simp
    have e0 : W5.cell? ⟨w4.heap.size, 0, none⟩ = some (.int .i64 s.kind) := by rw [hW5]; go_simp
    have e1 : W5.cell? ⟨w4.heap.size, 1, none⟩ = some (.int .i64 s.n) := by rw [hW5]; go_simp
    have e2 : W5.cell? ⟨w4.heap.size, 2, none⟩ = some (.int .i64 s.k) := by rw [hW5]; go_simp
    have e3 : W5.cell? ⟨w4.heap.size, 3, none⟩ = some (.slice a4 s.taps.length c4) := by rw [hW5]; go_simp
    rw [← hW5] at hb4a
    have HB5 := Lib.hid (below_step' HB4.out hb4a HB4.out.size)
    have HR5 := Lib.hid (hr4.reads.keep hb4a)
    have IM := Lib.hid (stepText_impl s a4 c4 W5 (TA.out W5 HB5.out) (TP.out W5 HB5.out) HR5.out)
    have HW5 := Lib.hid hW5.symm
    obtain ⟨B, hB⟩ : ∃ B, strOf (stText s) = B := ⟨_, rfl⟩
    rw [hB] at IM ⊢
    clear hb4 hr4 hb4a hW5 hB d0 d1 d2 d3
    go_wp2_with fail
    rw [HW5.out]
    with_reducible refine IM.out.mono ?_
    rintro e w6 ⟨rfl, hb6⟩
    have HB6 := Lib.hid (below_step' HB5.out hb6 HB5.out.size)
    have HR6 := Lib.hid (HR5.out.keep hb6)
    rw [← hb6.cell hlt5] at e0 e1 e2 e3
    have hlt6 : w4.heap.size < w6.heap.size := Nat.lt_of_lt_of_le hlt5 hb6.size
    clear hb6 IM
    have HE : Hid (∀ W, Below w6.heap.size w6 W → W.cell? ⟨w.heap.size, 0, none⟩ = some (.int .i64 s.kind) ∧ W.cell? ⟨w.heap.size, 1, none⟩ = some (.int .i64 s.n) ∧ W.cell? ⟨w.heap.size, 2, none⟩ = some (.int .i64 s.k) ∧ W.cell? ⟨w.heap.size, 3, none⟩ = some (.slice a s.taps.length cap) ∧ W.cell? ⟨w4.heap.size, 0, none⟩ = some (.int .i64 s.kind) ∧ W.cell? ⟨w4.heap.size, 1, none⟩ = some (.int .i64 s.n) ∧ W.cell? ⟨w4.heap.size, 2, none⟩ = some (.int .i64 s.k) ∧ W.cell? ⟨w4.heap.size, 3, none⟩ = some (.slice a4 s.taps.length c4)) := fun W hb => by
      obtain ⟨q0, q1, q2, q3⟩ := HC.out W (below_step' HB6.out hb HB6.out.size)
      exact ⟨q0, q1, q2, q3, (hb.cell hlt6).trans e0, (hb.cell hlt6).trans e1, (hb.cell hlt6).trans e2, (hb.cell hlt6).trans e3⟩
    obtain ⟨d0, d1, d2, d3, -⟩ := HE.out w6 (Below.refl _ _)
    have HD : Hid (Below w6.heap.size w6 w6.drew) := below_draws (Below.refl _ _) 1
    have T7 := Lib.hid (TO.out w6.drew (below_step' HB6.out HD.out HB6.out.size) hl)
    go_wp2_with fail
    go_region_held3 (fun w' => w'.cell? ⟨w.heap.size, 0, none⟩ = some (.int .i64 s.kind) ∧ w'.cell? ⟨w.heap.size, 1, none⟩ = some (.int .i64 s.n) ∧ w'.cell? ⟨w.heap.size, 2, none⟩ = some (.int .i64 s.k) ∧ w'.cell? ⟨w.heap.size, 3, none⟩ = some (.slice a s.taps.length cap) ∧ w'.cell? ⟨w4.heap.size, 0, none⟩ = some (.int .i64 s.kind) ∧ w'.cell? ⟨w4.heap.size, 1, none⟩ = some (.int .i64 s.n) ∧ w'.cell? ⟨w4.heap.size, 2, none⟩ = some (.int .i64 s.k) ∧ w'.cell? ⟨w4.heap.size, 3, none⟩ = some (.slice a4 s.taps.length c4))
      (first
        | exact ⟨d0, d1, d2, d3, e0, e1, e2, e3⟩
        | exact HE.out _ HB7.out
        | exact HE.out _ HB8.out
        | go_keep)
      (first
        | (go_at_call 16; refine T7.out.mono ?_; rintro e w7 ⟨u, t7, rfl, ⟨rfl, hr7⟩, hb7⟩; obtain ⟨a7, c7, rfl⟩ := hr7.form; rw [ints_length] at hr7 ⊢; have HR7 := Lib.hid hr7; have HB7 : Hid (Below w6.heap.size w6 w7) := below_step' HD.out hb7 (Nat.le_refl _); clear hb7 hr7)
        | (go_at_call 18; refine (eqStep_any s _ _ _ _ _ (HR6.out.keep HB7.out) HR7.out.reads).mono ?_; rintro e w8 ⟨rfl, hb8⟩; have HB8 : Hid (Below w6.heap.size w6 w8) := below_step' HB7.out hb8 HB7.out.size; clear hb8))
    all_goals
      go_wp2
      go_ret
      exact ⟨rfl, below_step' HB0.out (below_step' HB6.out HB8.out HB6.out.size) HB0.out.size⟩

end Go.Proofs.YtfdmohnmilecnaaDoor
