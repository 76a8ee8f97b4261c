import Derived.Test.YtpphmolfhogepaaDoorDtI
import Derived.Test.YtpphmolfhogepaaDoorDl
import Derived.Test.YtpphmolfhogepaaDoorDlv
import Derived.Lib.LaidTab
import Derived.Stop.LaidErr
/-
  The law of DeedText.
-/
set_option linter.unusedVariables false
set_option linter.unusedSimpArgs false
namespace Go.Proofs.YtpphmolfhogepaaDoor
open Go.ChangeShapes Go.WideShapes Go.ChangeAt Go.RowKit

set_option maxRecDepth 100000 in
theorem pow_data : (Rows.laid_internal_strconv_uint64pow10 : DataW Unit) = Lib.tabData .u64 Lib.pow10Tab := by rfl

set_option maxRecDepth 100000 in
theorem of_laid4 {W : World} (h : laidMetH Tryd.prog [("math/bits.deBruijn32tab", Rows.laid_math_bits_deBruijn32tab), ("math/bits.deBruijn64tab", Rows.laid_math_bits_deBruijn64tab), ("internal/strconv.uint64pow10", Rows.laid_internal_strconv_uint64pow10), ("loop.example/g01155/impl.deedForms", Rows.laid_loop_example_g01155_impl_deedForms)] W) : Tab9 W ∧ Pow10 W := by
  rw [MakeChecks.laidMetH_plain _ _ _ (by kernel_rfl)] at h
  have h3 := h.tail.tail
  refine ⟨of_laid (by rw [MakeChecks.laidMetH_plain _ _ _ (by kernel_rfl)]; exact h3.tail), ?_⟩
  rw [pow_data] at h3
  exact Lib.tabIs_of_head (g := 1) (t := 75) (e := 65) (n := 20) (by kernel_rfl) (by kernel_rfl) Tryd.underlying75 Tryd.underlying65 (by kernel_rfl) (by kernel_rfl) h3

set_option maxRecDepth 100000 in
set_option maxHeartbeats 4000000 in
theorem exactDeedText_law (v : Value) (d : Dd) (w : World) (h : DeedIn w v d) (ht : Tab9 w ∧ Pow10 w) :
    Calls Tryd.prog 4 #[v] w fun e w' => e = .returned (.bool true) ∧ Below w.heap.size w w' := by
  subst h
  have TO := Lib.hid (toDeed_any d)
  have SP := deedText_spec d
  have IM := fun (W : World) (hb : Below w.heap.size w W) => deedText_impl d W (ht.1.below hb) (ht.2.below hb)
  generalize strOf (ddText d) = p at SP IM
  have SP := Lib.hid SP
  have IM := Lib.hid IM
  obtain ⟨kd, a, b, c⟩ := d
  unfold ddV at TO SP IM ⊢
  simp only at TO SP IM ⊢
  have hb0 : Below w.heap.size w (w.alloc (.cells #[.int .i64 kd, .int .i64 a, .int .i64 b, .int .i64 c] 23)) := (Below.refl _ _).alloc (Nat.le_refl _) _
  obtain ⟨W, hW⟩ : ∃ W, W = w.alloc (.cells #[.int .i64 kd, .int .i64 a, .int .i64 b, .int .i64 c] 23) := ⟨_, rfl⟩
  have hlt : w.heap.size < W.heap.size := by rw [hW]; simp
  have c0 : W.cell? ⟨w.heap.size, 0, none⟩ = some (.int .i64 kd) := by rw [hW]; go_simp
  have c1 : W.cell? ⟨w.heap.size, 1, none⟩ = some (.int .i64 a) := by rw [hW]; go_simp
  have c2 : W.cell? ⟨w.heap.size, 2, none⟩ = some (.int .i64 b) := by rw [hW]; go_simp
  have c3 : W.cell? ⟨w.heap.size, 3, none⟩ = some (.int .i64 c) := by rw [hW]; go_simp
  rw [← hW] at hb0
  have HC : Hid (∀ w', Below W.heap.size W w' → w'.cell? ⟨w.heap.size, 0, none⟩ = some (.int .i64 kd) ∧ w'.cell? ⟨w.heap.size, 1, none⟩ = some (.int .i64 a) ∧ w'.cell? ⟨w.heap.size, 2, none⟩ = some (.int .i64 b) ∧ w'.cell? ⟨w.heap.size, 3, none⟩ = some (.int .i64 c)) := fun w' hb => by
    rw [hb.cell hlt, hb.cell hlt, hb.cell hlt, hb.cell hlt]
    exact ⟨c0, c1, c2, c3⟩
  have HW := Lib.hid hW.symm
  have HB0 := Lib.hid hb0
  clear hW hb0 ht
  go_enter Tryd.func4, Tryd.ntmps4
  go_wp2_with fail
  rw [HW.out]
  go_wp2_with fail
  with_reducible refine (TO.out _).mono ?_
  rintro e w1 ⟨rfl, hb1⟩
  have HB1 := Lib.hid hb1
  clear hb1 c0 c1 c2 c3
  go_wp2_with fail
  with_reducible refine (SP.out _).mono ?_
  rintro e w2 ⟨rfl, hb2⟩
  have HB2 := Lib.hid (below_step' HB1.out hb2 HB1.out.size)
  obtain ⟨d0, d1, d2, d3⟩ := HC.out w2 HB2.out
  clear hb2 HB1
  go_wp2_with fail
  with_reducible refine (TO.out _).mono ?_
  rintro e w3 ⟨rfl, hb3⟩
  have HB3 := Lib.hid (below_step' HB2.out hb3 HB2.out.size)
  clear hb3 HB2 d0 d1 d2 d3
  go_wp2_with fail
  with_reducible refine (IM.out _ (below_step' HB0.out HB3.out HB0.out.size)).mono ?_
  rintro e w4 ⟨rfl, hb4⟩
  have HB4 := Lib.hid (below_step' HB3.out hb4 HB3.out.size)
  clear hb4
  go_wp2
  go_ret
  exact ⟨rfl, below_step' HB0.out HB4.out HB0.out.size⟩

end Go.Proofs.YtpphmolfhogepaaDoor
