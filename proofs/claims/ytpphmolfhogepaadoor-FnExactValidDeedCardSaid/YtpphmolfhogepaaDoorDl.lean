import Derived.Test.YtpphmolfhogepaaDoorDi
import Derived.Deep.RegionHeld3
/-
  Copies of deeds; the law of ValidDeed.
-/
set_option linter.unusedVariables false
set_option linter.unusedSimpArgs false
namespace Go.Proofs.YtpphmolfhogepaaDoor
open Go.RowKit

theorem infoDeed : (Tryd.prog.info? 25).map (·.size) = some 4 := by kernel_rfl

set_option maxRecDepth 100000 in
set_option maxHeartbeats 4000000 in
theorem toDeed_any (d : Dd) (w : World) :
    Calls Tryd.prog 7 #[ddV d] w fun e w' => e = .returned (ddV d) ∧ Below w.heap.size w w' := by
  obtain ⟨kd, a, b, c⟩ := d
  unfold ddV
  simp only
  go_enter Tryd.func7, Tryd.ntmps7
  go_wp2
  (try simp only [Exit.inBlock, Exit.then])
  refine bodyPost_ret (res_cell1' rfl _ _ _ rfl (run_loadVar_mid _ _ _ _ [.int .i64 kd, .int .i64 a, .int .i64 b, .int .i64 c] _ ?_ Tryd.underlying25 rfl infoDeed)) rfl ?_
  · intro j v hv
    rcases j with _ | _ | _ | _ | j <;> simp at hv <;> subst hv <;> go_simp
  · refine ⟨rfl, ?_⟩
    first
      | exact (((Below.refl _ _).alloc (Nat.le_refl _) _).alloc (by simp) _).alloc (by simp; omega) _
      | (trace_state; fail)

set_option maxRecDepth 100000 in
set_option maxHeartbeats 4000000 in
theorem exactValidDeed_law (v : Value) (d : Dd) (w : World) (h : DeedIn w v d) (ht : Tab9 w) :
    Calls Tryd.prog 3 #[v] w fun e w' => e = .returned (.bool true) ∧ Below w.heap.size w w' := by
  subst h
  have TO := Lib.hid (toDeed_any d)
  have SP := validDeed_spec d
  have IM := fun (W : World) (hb : Below w.heap.size w W) => validDeed_impl d W (ht.below hb)
  obtain ⟨p, hp⟩ : ∃ p, validDd d = p := ⟨_, rfl⟩
  rw [hp] at SP IM
  have SP := Lib.hid SP
  have IM := Lib.hid IM
  obtain ⟨kd, a, b, c⟩ := d
  unfold ddV at TO SP IM ⊢
  simp only at TO SP IM ⊢
  have hb0 : Below w.heap.size w (w.alloc (.cells #[.int .i64 kd, .int .i64 a, .int .i64 b, .int .i64 c] 23)) := (Below.refl _ _).alloc (Nat.le_refl _) _
  obtain ⟨W, hW⟩ : ∃ W, W = w.alloc (.cells #[.int .i64 kd, .int .i64 a, .int .i64 b, .int .i64 c] 23) := ⟨_, rfl⟩
  have hlt : w.heap.size < W.heap.size := by rw [hW]; simp
  have c0 : W.cell? ⟨w.heap.size, 0, none⟩ = some (.int .i64 kd) := by rw [hW]; go_simp
  have c1 : W.cell? ⟨w.heap.size, 1, none⟩ = some (.int .i64 a) := by rw [hW]; go_simp
  have c2 : W.cell? ⟨w.heap.size, 2, none⟩ = some (.int .i64 b) := by rw [hW]; go_simp
  have c3 : W.cell? ⟨w.heap.size, 3, none⟩ = some (.int .i64 c) := by rw [hW]; go_simp
  rw [← hW] at hb0
  have HC : Hid (∀ w', Below W.heap.size W w' → w'.cell? ⟨w.heap.size, 0, none⟩ = some (.int .i64 kd) ∧ w'.cell? ⟨w.heap.size, 1, none⟩ = some (.int .i64 a) ∧ w'.cell? ⟨w.heap.size, 2, none⟩ = some (.int .i64 b) ∧ w'.cell? ⟨w.heap.size, 3, none⟩ = some (.int .i64 c)) := fun w' hb => by
    rw [hb.cell hlt, hb.cell hlt, hb.cell hlt, hb.cell hlt]
    exact ⟨c0, c1, c2, c3⟩
  have HW := Lib.hid hW.symm
  have HB0 := Lib.hid hb0
  clear hW hb0 ht hp
  go_enter Tryd.func3, Tryd.ntmps3
  go_wp2_with fail
  rw [HW.out]
  go_wp2_with fail
  with_reducible refine (TO.out _).mono ?_
  rintro e w1 ⟨rfl, hb1⟩
  have HB1 := Lib.hid hb1
  clear hb1 c0 c1 c2 c3
  go_wp2_with fail
  with_reducible refine (SP.out _).mono ?_
  rintro e w2 ⟨rfl, hb2⟩
  have HB2 := Lib.hid (below_step' HB1.out hb2 HB1.out.size)
  obtain ⟨d0, d1, d2, d3⟩ := HC.out w2 HB2.out
  clear hb2 HB1
  go_wp2_with fail
  with_reducible refine (TO.out _).mono ?_
  rintro e w3 ⟨rfl, hb3⟩
  have HB3 := Lib.hid (below_step' HB2.out hb3 HB2.out.size)
  clear hb3 HB2 d0 d1 d2 d3
  go_wp2_with fail
  with_reducible refine (IM.out _ (below_step' HB0.out HB3.out HB0.out.size)).mono ?_
  rintro e w4 ⟨rfl, hb4⟩
  have HB4 := Lib.hid (below_step' HB3.out hb4 HB3.out.size)
  clear hb4
  cases p
  all_goals
    go_wp2
    go_ret
    exact ⟨rfl, below_step' HB0.out HB4.out HB0.out.size⟩

end Go.Proofs.YtpphmolfhogepaaDoor
