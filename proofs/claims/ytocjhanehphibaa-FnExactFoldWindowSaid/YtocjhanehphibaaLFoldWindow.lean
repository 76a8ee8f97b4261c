import Derived.Test.YtocjhanehphibaaFwS
import Derived.Test.YtocjhanehphibaaThree
/-
  The walk of the law on FoldWindow (written by genlaw.py).
-/
set_option linter.unusedVariables false
set_option linter.unusedSimpArgs false
namespace Go.Proofs.Ytocjhanehphibaa
open Go.RowKit Flt

set_option maxRecDepth 100000 in
set_option maxHeartbeats 16000000 in
theorem exactFoldWindow_walk (a0 : Int) (w : World) (n : Nat) (z : Nat → Option Nat) (c : Int) (hn : n ≤ 100000000)
    (S : ∀ W, Calls Try.prog 28 #[.int .i64 a0] W (FloatsTo n z c W))
    (I : ∀ W, Calls Try.prog 29 #[.int .i64 a0] W (FloatsTo n z c W)) :
    Calls Try.prog 5 #[.int .i64 a0] w fun e w' => e = .returned (.bool true) ∧ Below w.heap.size w w' := by
  have HS := Lib.hid S
  have HI := Lib.hid I
  clear S I
  go_enter Try.func5, Try.ntmps5
  go_wp2_with fail
  refine (HS.out w).mono ?_
  rintro e w3 ⟨v1, f0, rfl, hv1, hn0, hd0, hb3⟩
  have HB3 := Lib.hid hb3
  have HV1 := Lib.hid hv1
  have HN0 := Lib.hid hn0
  have HD0 := Lib.hid hd0
  have low1 : ∀ b, v1.ownBlock = some b → b < w3.heap.size := fun b e => (hv1.lt b e).2
  clear hb3 hv1 hn0 hd0 HS
  go_wp2_with fail
  refine (HI.out w3).mono ?_
  rintro e w6 ⟨u1, f1, rfl, hu1, hn1, hd1, hb6⟩
  have HB6 := Lib.hid (HB3.out.trans (hb6.mono HB3.out.size))
  have HF6 : Hid (Three w6 55 55 w.heap.size w3.heap.size w3.heap.size v1 (.slice none 0 0) u1 (flts f0) [] (flts f1)) := ⟨HV1.out.below hb6 (fun k e => (HV1.out.lt k e).2), World.ownsRow_nil _ _ _ _, hu1, low1, (fun b e => by cases e), Nat.le_refl _⟩
  have Hf0 : Hid (∀ x ∈ f0, x < 18446744073709551616) := all_lt (z := z) fun i hi => HD0.out i (by have := HN0.out; omega)
  have Hf1 : Hid (∀ x ∈ f1, x < 18446744073709551616) := all_lt (z := z) fun i hi => hd1 i (by omega)
  have HSF : Hid (f1.length = f0.length ∧ ∀ j, j < f1.length → cn .f64 (f1.getD j 0) = cn .f64 (f0.getD j 0)) := ⟨by have := HN0.out; omega, fun j hj => ((hd1 j (by omega)).cn).trans (HD0.out j (by omega)).cn.symm⟩
  have hzw : w.heap.size ≤ w3.heap.size := HB3.out.size
  have HN1 := Lib.hid hn1
  clear hb6 hu1 hn1 hd1 low1 HV1 HB3
  go_wp2_with fail
  refine (eqFloat64_any (ReadsF.of_row HF6.out.ru Hf1.out) (ReadsF.of_row HF6.out.rv Hf0.out) HSF.out.1 HSF.out.2).mono ?_
  rintro e w' ⟨rfl, n1, rfl⟩
  have HF14 := Lib.hid (HF6.out.draws n1)
  have HB14 := Lib.hid (below_draws HB6.out n1)
  clear HF6 HB6
  generalize w6.drewN n1 = w14 at *
  obtain ⟨L, hL⟩ : ∃ L, f1.length = L := ⟨_, rfl⟩
  have ef : (flts f1).length = L := by rw [flts_length, hL]
  have hL256 : L ≤ 100000000 := by have := HN1.out; omega
  go_wp2_with fail
  refine (markFloat64_any (m := 1) HF14.out.ru (by omega) (by omega)).mono ?_
  rintro e w15 ⟨rfl, hr15, hg15⟩
  rw [ef] at hr15 ⊢
  have HB15 : Hid (Below w.heap.size w w15) := HB14.out.grown hg15 HB14.out.size (fun b e => by have := (HF14.out.ru.lt b e).1; omega)
  have HF15 := Lib.hid (HF14.out.markU hg15 hr15)
  clear hr15 hg15 HB14 HF14 ef
  obtain ⟨M2, hM2⟩ : ∃ M2, 1 + L = M2 := ⟨_, rfl⟩
  rw [hM2]
  have hM2p : ¬ ((M2 : Int) < 0) := by omega
  have C1 := Lib.hid (fun (W : World) (c : List Value) (h : Three W 55 55 w.heap.size w3.heap.size w3.heap.size v1 (.slice none 0 0) u1 (flts f0) c (fmarks 1 L)) => heldFloat64_any (m := 1) (n := L) h.ru.reads (by omega) (by omega))
  rw [hM2] at C1
  clear hM2 hL
  go_wp2_with fail
  refine (C1.out _ _ HF15.out).mono ?_
  rintro e w' ⟨rfl, rfl⟩
  go_wp2_with fail
  refine (HI.out w').mono ?_
  rintro e w19 ⟨t1, f2, rfl, ht1, hn2, hd2, hb19⟩
  have HB19 := Lib.hid (HB15.out.trans (hb19.mono HB15.out.size))
  have HF19 := Lib.hid (HF15.out.below hb19)
  have HT1 : Hid (ReadsF w19 t1 f2) := ReadsF.of_row ht1 (all_lt (z := z) fun i hi => hd2 i (by omega))
  have HSF2 : Hid (f2.length = f0.length ∧ ∀ j, j < f2.length → cn .f64 (f2.getD j 0) = cn .f64 (f0.getD j 0)) := ⟨by have := HN0.out; omega, fun j hj => ((hd2 j (by omega)).cn).trans (HD0.out j (by omega)).cn.symm⟩
  clear hb19 ht1 hn2 hd2 HB15 HF15 HD0 HI
  go_wp2_with fail
  refine (eqFloat64_any HT1.out (ReadsF.of_row HF19.out.rv Hf0.out) HSF2.out.1 HSF2.out.2).mono ?_
  rintro e w20 ⟨rfl, n7, rfl⟩
  have HF20 := Lib.hid (HF19.out.draws n7)
  have HB20 := Lib.hid (below_draws HB19.out n7)
  clear HF19 HB19 HT1 HSF2
  generalize w19.drewN n7 = w20 at *
  go_wp2_with fail
  refine (C1.out _ _ HF20.out).mono ?_
  rintro e w' ⟨rfl, rfl⟩
  go_wp2
  go_ret
  exact ⟨rfl, HB20.out⟩

theorem exactFoldWindow_law (a0 : Int) (w : World) (ha0 : (Lit.int .i64 a0).wf = true) :
    Calls Try.prog 5 #[.int .i64 a0] w fun e w' => e = .returned (.bool true) ∧ Below w.heap.size w w' :=
  exactFoldWindow_walk a0 w (foN a0) (foO a0.toNat) (foK a0) (foN_le _) (fun W => foldWindow_spec a0 W) (fun W => foldWindow_impl a0 W)

end Go.Proofs.Ytocjhanehphibaa
