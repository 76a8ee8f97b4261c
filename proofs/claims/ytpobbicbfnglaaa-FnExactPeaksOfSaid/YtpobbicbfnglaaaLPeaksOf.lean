import Derived.Test.YtpobbicbfnglaaaSpL
/-
  The walk of the law on PeaksOf.
-/
set_option linter.unusedVariables false
set_option linter.unusedSimpArgs false
namespace Go.Proofs.Ytpobbicbfnglaaa
open Go.RowKit Flt

set_option maxRecDepth 100000 in
set_option maxHeartbeats 16000000 in
theorem exactPeaksOf_law (a0 : Option Addr) (len0 cap0 : Nat) (z0 : List Nat) (a1 : Nat) (w : World) (h0 : IsRowF w a0 len0 cap0 z0) (ha1 : (Lit.float .f64 a1).wf = true) :
    Calls Try.prog 4 #[.slice a0 len0 cap0, .float .f64 a1] w fun e w' => e = .returned (.bool true) ∧ Below w.heap.size w w' := by
  obtain ⟨e0, q0, m0⟩ := h0.1.facts'
  have hl1 : a1 < 18446744073709551616 := by simpa [Lit.wf] using ha1
  by_cases hl0 : len0 ≤ 1048576
  · have T0 : Hid (∀ W, Below w.heap.size w W → Calls Try.prog 14 #[.slice a0 len0 cap0] W fun e w' => ∃ u, e = .returned u ∧ Row w' W.heap.size 29 u (flts z0) ∧ W.grownBy w' none) := fun W hb =>
      toFloat64_any (h0.below hb) (fun x L cap e hL => by
        simp only [Value.slice.injEq] at e
        exact Nat.lt_of_lt_of_le (h0.2 x e.1 (by omega)) hb.size) (by omega)
    have Q0 := Lib.hid q0
    have hz0 : z0.length ≤ 1048576 := by omega
    have HS := Lib.hid (fun v W hv => peaks_spec z0 q0 a1 _ (IsF.self hl1) v W hv)
    have HI := Lib.hid (fun v W hv => peaks_impl z0 q0 a1 _ (IsF.self hl1) v W hv)
    obtain ⟨zs, hzs⟩ : ∃ zs, pksR z0 (cn .f64 a1) = zs := ⟨_, rfl⟩
    have hzl : zs.length ≤ 1048576 := by
      rw [← hzs]
      unfold pksR
      split
      · have := pks_len z0 (cn .f64 a1) z0.length; omega
      · simp
    rw [hzs] at HS HI
    obtain ⟨c, hc⟩ : ∃ c, ringK z0.length = c := ⟨_, rfl⟩
    rw [hc] at HS HI
    clear h0 e0 q0 m0 ha1 hl1 hzs hc
    go_enter Try.func4, Try.ntmps4
    go_wp2_with fail
    refine (T0.out w (Below.refl _ _)).mono ?_
    rintro e w2 ⟨p0, rfl, hp0, hg1⟩
    have HB2 := Lib.hid (show Below w.heap.size w w2 from (Below.refl _ _).grown hg1 (Nat.le_refl _) (by simp))
    have HP0 := Lib.hid hp0
    clear hg1 hp0
    go_wp2_with fail
    refine (HS.out p0 w2 HP0.out.reads).mono ?_
    rintro e w3 ⟨v1, rfl, hv1, hb3⟩
    have HB3 := Lib.hid (HB2.out.trans (hb3.mono HB2.out.size))
    have HV1 := Lib.hid hv1
    clear hb3 hv1 HP0 HS
    go_wp2_with fail
    refine (T0.out w3 HB3.out).mono ?_
    rintro e w5 ⟨y0, rfl, hy0, hg4⟩
    have b4 : Below w3.heap.size w3 w5 := (Below.refl _ _).grown hg4 (Nat.le_refl _) (by simp)
    have HB5 := Lib.hid (HB3.out.trans (b4.mono HB3.out.size))
    have HV1' := Lib.hid (HV1.out.below b4 (fun k e => (HV1.out.lt k e).2))
    have HY0 := Lib.hid hy0
    have hz34 := b4.size
    have hzw3 : w.heap.size ≤ w3.heap.size := HB3.out.size
    have low1 : ∀ b, v1.ownBlock = some b → b < w3.heap.size := fun b e => (HV1.out.lt b e).2
    have low2 : ∀ b, y0.ownBlock = some b → b < w5.heap.size := fun b e => (HY0.out.lt b e).2
    clear b4 hg4 hy0 HV1 HB3
    go_wp2_with fail
    refine (HI.out y0 w5 HY0.out.reads).mono ?_
    rintro e w6 ⟨u1, rfl, hu1, hb6⟩
    have HB6 := Lib.hid (HB5.out.trans (hb6.mono HB5.out.size))
    have HF6 : Hid (Three w6 2 29 w2.heap.size w3.heap.size w5.heap.size v1 y0 u1 (ints zs) (flts z0) (ints zs)) := ⟨HV1'.out.below hb6 (fun k e => (HV1'.out.lt k e).2), HY0.out.below hb6 (fun k e => (HY0.out.lt k e).2), hu1, low1, low2, hz34⟩
    have hzw : w.heap.size ≤ w5.heap.size := HB5.out.size
    clear hb6 hu1 low1 low2 HV1' HY0 HB5 HB2
    go_wp2_with fail
    refine (eqInt64_any HF6.out.ru.reads HF6.out.rv.reads).mono ?_
    rintro e w' ⟨rfl, n1, rfl⟩
    have HF7 := Lib.hid (HF6.out.draws n1)
    have HB7 := Lib.hid (below_draws HB6.out n1)
    clear HF6 HB6
    generalize w6.drewN n1 = w7 at *
    go_wp2_with fail
    refine (T0.out w7 HB7.out).mono ?_
    rintro e w8 ⟨p2, rfl, hp2, hg8⟩
    have b8 : Below w7.heap.size w7 w8 := (Below.refl _ _).grown hg8 (Nat.le_refl _) (by simp)
    have HB8 := Lib.hid (HB7.out.trans (b8.mono HB7.out.size))
    have HF8 := Lib.hid (HF7.out.below b8)
    have HP2 := Lib.hid (ReadsF.of_row hp2 Q0.out)
    clear b8 hg8 hp2 HB7 HF7
    go_wp2_with fail
    refine (eqFloat64_any (ReadsF.of_row HF8.out.ry Q0.out) HP2.out rfl (fun j hj => rfl)).mono ?_
    rintro e w' ⟨rfl, n3, rfl⟩
    have HB11 := Lib.hid (below_draws HB8.out n3)
    have HF11 := Lib.hid (HF8.out.draws n3)
    clear HB8 HF8 HP2
    generalize w8.drewN n3 = w11 at *
    obtain ⟨L0, hL0⟩ : ∃ L0, z0.length = L0 := ⟨_, rfl⟩
    have e0 : (flts z0).length = L0 := by rw [flts_length, hL0]
    go_wp2_with fail
    refine (markFloat64_any (m := 1) HF11.out.ry (by omega) (by omega)).mono ?_
    rintro e w13 ⟨rfl, hm0, hg12⟩
    have HB13 : Hid (Below w.heap.size w w13) := HB11.out.grown hg12 HB11.out.size (fun b e => by have := (HF11.out.ry.lt b e).1; omega)
    have HF13 := Lib.hid (HF11.out.markY hg12 hm0)
    rw [e0]
    clear hm0 hg12 HB11 HF11 e0
    obtain ⟨M1, hM1⟩ : ∃ M1, 1 + L0 = M1 := ⟨_, rfl⟩
    rw [hM1]
    have hM1p : ¬ ((M1 : Int) < 0) := by omega
    go_wp2_with fail
    refine (eqInt64_any HF13.out.ru.reads HF13.out.rv.reads).mono ?_
    rintro e w' ⟨rfl, n5, rfl⟩
    have HF14 := Lib.hid (HF13.out.draws n5)
    have HB14 := Lib.hid (below_draws HB13.out n5)
    clear HF13 HB13 hM1p
    generalize w13.drewN n5 = w14 at *
    obtain ⟨L, hL⟩ : ∃ L, zs.length = L := ⟨_, rfl⟩
    have ef : (ints zs).length = L := by rw [ints_length, hL]
    go_wp2_with fail
    refine (markInt64_any (m := 1) HF14.out.ru (by omega) (by omega)).mono ?_
    rintro e w15 ⟨rfl, hr15, hg15⟩
    rw [ef] at hr15 ⊢
    have HB15 : Hid (Below w.heap.size w w15) := HB14.out.grown hg15 HB14.out.size (fun b e => by have := (HF14.out.ru.lt b e).1; omega)
    have HF15 := Lib.hid (HF14.out.markU hg15 hr15)
    clear hr15 hg15 HB14 HF14 ef
    obtain ⟨M2, hM2⟩ : ∃ M2, 1 + L = M2 := ⟨_, rfl⟩
    rw [hM2]
    have hM2p : ¬ ((M2 : Int) < 0) := by omega
    have C1 := Lib.hid (fun (W : World) (c : List Value) (h : Three W 2 29 w2.heap.size w3.heap.size w5.heap.size v1 y0 u1 (ints zs) c (ints (marks 1 L))) => heldInt64_any (m := 1) (n := L) h.ru.reads (by omega) (by omega))
    rw [hM2] at C1
    have hzsL : zs.length ≤ 1048576 := by omega
    clear hM2 hL
    go_wp2_with fail
    refine (C1.out _ _ HF15.out).mono ?_
    rintro e w' ⟨rfl, rfl⟩
    go_wp2_with fail
    refine (T0.out w' HB15.out).mono ?_
    rintro e w18 ⟨p4, rfl, hp4, hg17⟩
    have b17 : Below w'.heap.size w' w18 := (Below.refl _ _).grown hg17 (Nat.le_refl _) (by simp)
    have HB18 := Lib.hid (HB15.out.trans (b17.mono HB15.out.size))
    have HF18 := Lib.hid (HF15.out.below b17)
    have HP4 := Lib.hid hp4
    clear b17 hg17 hp4 HB15 HF15
    go_wp2_with fail
    refine (HI.out p4 w18 HP4.out.reads).mono ?_
    rintro e w19 ⟨t1, rfl, ht1, hb19⟩
    have HB19 := Lib.hid (HB18.out.trans (hb19.mono HB18.out.size))
    have HF19 := Lib.hid (HF18.out.below hb19)
    have HT1 := Lib.hid ht1.reads
    clear hb19 ht1 HB18 HF18 HP4
    go_wp2_with fail
    refine (eqInt64_any HT1.out HF19.out.rv.reads).mono ?_
    rintro e w20 ⟨rfl, n7, rfl⟩
    have HF20 := Lib.hid (HF19.out.draws n7)
    have HB20 := Lib.hid (below_draws HB19.out n7)
    clear HF19 HB19 HT1
    generalize w19.drewN n7 = w20 at *
    go_wp2_with fail
    refine (C1.out _ _ HF20.out).mono ?_
    rintro e w' ⟨rfl, rfl⟩
    go_wp2
    go_ret
    exact ⟨rfl, HB20.out⟩
  · have hg : 1048576 < len0 := by omega
    clear hl0 h0 q0 e0 ha1 hl1
    go_enter Try.func4, Try.ntmps4
    go_wp2
    go_ret
    exact ⟨rfl, Below.refl _ _⟩

end Go.Proofs.Ytpobbicbfnglaaa
