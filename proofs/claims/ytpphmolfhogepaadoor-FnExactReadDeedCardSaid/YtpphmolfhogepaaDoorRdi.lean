import Derived.Test.YtpphmolfhogepaaDoorScf
import Derived.Test.YtpphmolfhogepaaDoorRdo
/-
  ReadDeed of the program; equal deeds.
-/
set_option linter.unusedVariables false
set_option linter.unusedSimpArgs false
namespace Go.Proofs.YtpphmolfhogepaaDoor
open Go.RowKit

theorem rV_form (r : Option Dd) : ∃ z0 z1 z2 z3 : Int, rV r = .agg #[.int .i64 z0, .int .i64 z1, .int .i64 z2, .int .i64 z3] := by
  cases r with
  | none => exact ⟨0, 0, 0, 0, rfl⟩
  | some d => exact ⟨d.kind, d.a, d.b, d.c, rfl⟩

set_option maxRecDepth 100000 in
set_option maxHeartbeats 4000000 in
theorem readDeed_impl (t : List UInt8) (ht : t.length ≤ 1048576) (w : World) (hG : Glo w) :
    Calls Tryd.prog 12 #[.string (strOf t)] w (ReadTo t w) := by
  have hb0 : Below w.heap.size w (w.alloc (.cells #[.int .i64 0, .int .i64 0, .int .i64 0, .int .i64 0] 25)) := (Below.refl _ _).alloc (Nat.le_refl _) _
  obtain ⟨W, hW⟩ : ∃ W, W = w.alloc (.cells #[.int .i64 0, .int .i64 0, .int .i64 0, .int .i64 0] 25) := ⟨_, rfl⟩
  have hlt : w.heap.size < W.heap.size := by rw [hW]; simp
  have r0 : W.cell? ⟨w.heap.size, 0, none⟩ = some (.int .i64 0) := by rw [hW]; go_simp
  have r1 : W.cell? ⟨w.heap.size, 1, none⟩ = some (.int .i64 0) := by rw [hW]; go_simp
  have r2 : W.cell? ⟨w.heap.size, 2, none⟩ = some (.int .i64 0) := by rw [hW]; go_simp
  have r3 : W.cell? ⟨w.heap.size, 3, none⟩ = some (.int .i64 0) := by rw [hW]; go_simp
  have rf : ∀ j, W.frozen? ⟨w.heap.size, j, none⟩ = false := fun j => by rw [hW]; go_simp
  rw [← hW] at hb0
  have SC := Lib.hid (scanned_any t ht W (hG.below hb0))
  have HW := Lib.hid hW.symm
  have HB0 := Lib.hid hb0
  clear hW hb0
  go_enter Tryd.func12, Tryd.ntmps12
  go_wp2_with fail
  rw [HW.out]
  refine SC.out.mono ?_
  rintro e w1 ⟨r, hr, rfl, hb1⟩
  have HR := Lib.hid hr
  have x0 : w1.cell? ⟨w.heap.size, 0, none⟩ = some (.int .i64 0) := (hb1.cell hlt).trans r0
  have x1 : w1.cell? ⟨w.heap.size, 1, none⟩ = some (.int .i64 0) := (hb1.cell hlt).trans r1
  have x2 : w1.cell? ⟨w.heap.size, 2, none⟩ = some (.int .i64 0) := (hb1.cell hlt).trans r2
  have x3 : w1.cell? ⟨w.heap.size, 3, none⟩ = some (.int .i64 0) := (hb1.cell hlt).trans r3
  have f0 : w1.frozen? ⟨w.heap.size, 0, none⟩ = false := (hb1.frozen hlt).trans (rf 0)
  have f1 : w1.frozen? ⟨w.heap.size, 1, none⟩ = false := (hb1.frozen hlt).trans (rf 1)
  have f2 : w1.frozen? ⟨w.heap.size, 2, none⟩ = false := (hb1.frozen hlt).trans (rf 2)
  have f3 : w1.frozen? ⟨w.heap.size, 3, none⟩ = false := (hb1.frozen hlt).trans (rf 3)
  have hz : Hid (Has4 w1 w.heap.size (.int .i64 0) (.int .i64 0) (.int .i64 0) (.int .i64 0)) := ⟨x0, x1, x2, x3⟩
  have HBZ : Hid (Below w.heap.size w w1) := below_step' HB0.out hb1 HB0.out.size
  obtain ⟨z0, z1, z2, z3, hv⟩ := rV_form r
  have HV : Hid (rV r = .agg #[.int .i64 z0, .int .i64 z1, .int .i64 z2, .int .i64 z3]) := hv
  rw [hv]
  obtain ⟨rc, hrc⟩ : ∃ c, rC r = c := ⟨_, rfl⟩
  have HRC : Hid (rC r = rc) := hrc
  rw [hrc]
  clear hr hb1 r0 r1 r2 r3 rf hv hrc SC
  go_wp2
  (try simp only [Exit.inBlock, Exit.then])
  refine bodyPost_ret (res_cell_tmp9 rfl _ _ _ rfl (load4 (hz.out.set _ _ _ _).c0 (hz.out.set _ _ _ _).c1 (hz.out.set _ _ _ _).c2 (hz.out.set _ _ _ _).c3)) rfl ?_
  exact ⟨r, HR.out, by rw [HV.out, HRC.out]; rfl, st4_below HBZ.out _ _ _ _⟩

set_option maxRecDepth 100000 in
set_option maxHeartbeats 4000000 in
theorem eqDeed_any (z0 z1 z2 z3 : Int) (w : World) :
    Calls Tryd.prog 13 #[.agg #[.int .i64 z0, .int .i64 z1, .int .i64 z2, .int .i64 z3], .agg #[.int .i64 z0, .int .i64 z1, .int .i64 z2, .int .i64 z3]] w fun e w' => e = .returned (.bool true) ∧ Below w.heap.size w w' := by
  go_enter Tryd.func13, Tryd.ntmps13
  go_wp2
  go_ret
  exact ⟨rfl, ((Below.refl _ _).alloc (Nat.le_refl _) _).alloc (by simp) _⟩

end Go.Proofs.YtpphmolfhogepaaDoor
