import Derived.Test.YthinoegcijalpaaLawReal
/-
  The walk of the law on RealTransform.
-/
set_option linter.unusedVariables false
set_option linter.unusedSimpArgs false
namespace Go.Proofs.Ythinoegcijalpaa
open Go.RowKit Flt Turn Fast

def zeros (n : Nat) : List Nat := List.replicate n 0
theorem flts_zeros (n : Nat) : flts (zeros n) = List.replicate n (.float .f64 0) := by simp [flts, zeros]
theorem zeros_wf (n : Nat) : ∀ z ∈ zeros n, z < 18446744073709551616 := fun z hz => by rw [List.eq_of_mem_replicate hz]; omega

/-- The ways in which RealPair ends for a signal and zeros. -/
def Ways (xs : List Nat) (n : Nat) (c : Int) (f s : List C) : Prop :=
  ((256 < n ∨ 256 < n) ∧ c = 3 ∧ f = [] ∧ s = []) ∨ (¬ (256 < n ∨ 256 < n) ∧ n ≠ n ∧ c = 2 ∧ f = [] ∧ s = []) ∨ (¬ (256 < n ∨ 256 < n) ∧ n = n ∧ c = 0 ∧ PairG xs (zeros n) n f s)

/-- What RealTransform returns. -/
def RealTR (xs : List Nat) (n : Nat) (w : World) (e : Ending) (w' : World) : Prop :=
  ∃ u f s c, e = .returned (.tuple #[u, .int .i64 c]) ∧ Row w' w.heap.size 34 u (cvals f) ∧ Below w.heap.size w w' ∧
    Ways xs n c f s

set_option maxRecDepth 100000 in
set_option maxHeartbeats 4000000 in
theorem realT_spec (xs : List Nat) (v : Value) (w : World) (hx : ∀ z ∈ xs, z < 18446744073709551616) (hl : xs.length ≤ 1048576) (h : Reads w v (flts xs)) :
    Calls Try.prog 13 #[v] w (RealTR xs xs.length w) := by
  obtain ⟨i0, hi, hz0, hz1, hz2⟩ := info_parts info_f64
  obtain ⟨a, cap, rfl⟩ := h.form'
  simp only [flts_length] at *
  have P := Lib.hid (fun (v1 : Value) (W : World) (hb : Below w.heap.size w W) (h1 : Reads W v1 (flts (zeros xs.length))) => pair_spec xs (zeros xs.length) (.slice a xs.length cap) v1 W hx (zeros_wf _) (h.below hb) h1)
  have HZL : Hid ((zeros xs.length).length = xs.length) := List.length_replicate ..
  clear h hx
  obtain ⟨n, hn⟩ : ∃ n, xs.length = n := ⟨_, rfl⟩
  rw [hn] at P HZL hl ⊢
  have HN := Lib.hid hn
  clear hn
  go_enter Try.func13, Try.ntmps13
  go_wp2_with (at_make; refine wpList_make_full _ rfl _ _ 22 rfl w.heap.size 35 i0 (.float .f64 0) 1 Try.underlying22 hi hz0 hz1 .i64 .i64 _ _ n rfl rfl rfl rfl (by rw [hz2]; omega) (by simp only [maxLen]; omega) (Nat.le_refl _) ?_)
  intro w1 hown hg1
  rw [toList_madeCells_one] at hown
  have hr : Row w1 w.heap.size 35 (.slice (some ⟨w.heap.size, 0, none⟩) n n) (flts (zeros n)) := by
    rw [flts_zeros]
    show w1.ownsRow _ _ _ _ _ _
    simpa using hown
  have hb1 : Below w.heap.size w w1 := (Below.refl _ _).grown hg1 (Nat.le_refl _) (fun b e => by cases e)
  have PP := Lib.hid (P.out _ w1 hb1 hr.reads)
  have HB1 := Lib.hid hb1
  clear hr hb1 hown hg1 hi hz0 hz1 hz2 P
  go_wp2_with fail
  refine PP.out.mono ?_
  rintro e w2 ⟨u1, u2, f, s, c, rfl, h1, -, -, hb, hD⟩
  rw [HZL.out, HN.out] at hD
  have hD : Ways xs n c f s := hD
  have HR := Lib.hid (h1.base HB1.out.size)
  have HBB := Lib.hid (HB1.out.trans (hb.mono HB1.out.size))
  have HD := Lib.hid hD
  clear h1 hb hD PP
  go_wp2
  go_ret2
  exact ⟨u1, f, s, c, rfl, HR.out, HBB.out, HD.out⟩

set_option maxRecDepth 100000 in
set_option maxHeartbeats 4000000 in
theorem realT_impl (xs : List Nat) (v : Value) (w : World) (hx : ∀ z ∈ xs, z < 18446744073709551616) (hl : xs.length ≤ 1048576) (h : Reads w v (flts xs)) :
    Calls Try.prog 14 #[v] w (RealTR xs xs.length w) := by
  obtain ⟨i0, hi, hz0, hz1, hz2⟩ := info_parts info_f64
  obtain ⟨a, cap, rfl⟩ := h.form'
  simp only [flts_length] at *
  have P := Lib.hid (fun (v1 : Value) (W : World) (hb : Below w.heap.size w W) (h1 : Reads W v1 (flts (zeros xs.length))) => pair_impl xs (zeros xs.length) (.slice a xs.length cap) v1 W hx (zeros_wf _) (h.below hb) h1)
  have HZL : Hid ((zeros xs.length).length = xs.length) := List.length_replicate ..
  clear h hx
  obtain ⟨n, hn⟩ : ∃ n, xs.length = n := ⟨_, rfl⟩
  rw [hn] at P HZL hl ⊢
  have HN := Lib.hid hn
  clear hn
  go_enter Try.func14, Try.ntmps14
  go_wp2_with (at_make; refine wpList_make_full _ rfl _ _ 22 rfl w.heap.size 35 i0 (.float .f64 0) 1 Try.underlying22 hi hz0 hz1 .i64 .i64 _ _ n rfl rfl rfl rfl (by rw [hz2]; omega) (by simp only [maxLen]; omega) (Nat.le_refl _) ?_)
  intro w1 hown hg1
  rw [toList_madeCells_one] at hown
  have hr : Row w1 w.heap.size 35 (.slice (some ⟨w.heap.size, 0, none⟩) n n) (flts (zeros n)) := by
    rw [flts_zeros]
    show w1.ownsRow _ _ _ _ _ _
    simpa using hown
  have hb1 : Below w.heap.size w w1 := (Below.refl _ _).grown hg1 (Nat.le_refl _) (fun b e => by cases e)
  have PP := Lib.hid (P.out _ w1 hb1 hr.reads)
  have HB1 := Lib.hid hb1
  clear hr hb1 hown hg1 hi hz0 hz1 hz2 P
  go_wp2_with fail
  refine PP.out.mono ?_
  rintro e w2 ⟨u1, u2, f, s, c, rfl, h1, -, -, hb, hD⟩
  rw [HZL.out, HN.out] at hD
  have hD : Ways xs n c f s := hD
  have HR := Lib.hid (h1.base HB1.out.size)
  have HBB := Lib.hid (HB1.out.trans (hb.mono HB1.out.size))
  have HD := Lib.hid hD
  clear h1 hb hD PP
  go_wp2
  go_ret2
  exact ⟨u1, f, s, c, rfl, HR.out, HBB.out, HD.out⟩

set_option maxRecDepth 100000 in
set_option maxHeartbeats 16000000 in
theorem exactRealT_law (a0 : Option Addr) (len0 cap0 : Nat) (z0 : List Nat) (w : World) (h0 : IsRowF w a0 len0 cap0 z0) :
    Calls Try.prog 4 #[.slice a0 len0 cap0] w fun e w' => e = .returned (.bool true) ∧ Below w.heap.size w w' := by
  obtain ⟨e0, q0, m0⟩ := h0.1.facts
  by_cases hl0 : len0 ≤ 1048576
  · have T0 : Hid (∀ W, Below w.heap.size w W → Calls Try.prog 6 #[.slice a0 len0 cap0] W fun e w' => ∃ u, e = .returned u ∧ Row w' W.heap.size 35 u (flts z0) ∧ W.grownBy w' none) := fun W hb =>
      toFloat64_any (h0.below hb) (fun x L cap e hL => by
        simp only [Value.slice.injEq] at e
        exact Nat.lt_of_lt_of_le (h0.2 x e.1 (by omega)) hb.size) (by omega)
    have Q0 := Lib.hid q0
    have hz0 : z0.length ≤ 1048576 := by omega
    clear h0 e0 q0 m0
    go_enter Try.func4, Try.ntmps4
    go_wp2_with fail
    refine (T0.out w (Below.refl _ _)).mono ?_
    rintro e w2 ⟨p0, rfl, hp0, hg1⟩
    have HB2 := Lib.hid (show Below w.heap.size w w2 from (Below.refl _ _).grown hg1 (Nat.le_refl _) (by simp))
    have HP0 := Lib.hid hp0
    clear hg1 hp0
    go_wp2_with fail
    refine (realT_spec z0 p0 w2 Q0.out hz0 HP0.out.reads).mono ?_
    rintro e w3 ⟨v1, f0, s0, c0, rfl, hv1, hb3, hD0⟩
    have HB3 := Lib.hid (HB2.out.trans (hb3.mono HB2.out.size))
    have HV1 := Lib.hid hv1
    have HD0 := Lib.hid hD0
    clear hb3 hv1 hD0 HB2 HP0
    go_wp2_with fail
    refine (T0.out w3 HB3.out).mono ?_
    rintro e w5 ⟨y0, rfl, hy0, hg4⟩
    have b4 : Below w3.heap.size w3 w5 := (Below.refl _ _).grown hg4 (Nat.le_refl _) (by simp)
    have HB5 := Lib.hid (HB3.out.trans (b4.mono HB3.out.size))
    have HV1' := Lib.hid (HV1.out.below b4 (fun k e => (HV1.out.lt k e).2))
    have HY0 := Lib.hid hy0
    have hz34 := b4.size
    have hzw3 : w.heap.size ≤ w3.heap.size := HB3.out.size
    have low1 : ∀ b, v1.ownBlock = some b → b < w5.heap.size := fun b e => by have := (HV1.out.lt b e).2; omega
    clear b4 hg4 hy0 HV1 HB3
    go_wp2_with fail
    refine (realT_impl z0 y0 w5 Q0.out hz0 HY0.out.reads).mono ?_
    rintro e w6 ⟨u1, f1, s1, c1, rfl, hu1, hb6, hD1⟩
    obtain ⟨rfl, hsf, -, hfs, hf256⟩ := pair_same hD1 HD0.out
    have HB6 := Lib.hid (HB5.out.trans (hb6.mono HB5.out.size))
    have HFo : Hid (Four w6 w2.heap.size w5.heap.size v1 v1 u1 (.slice none 0 0) f0 f0 (cvals f1) []) := ⟨HV1'.out.below hb6 (fun k e => (HV1'.out.lt k e).2), HV1'.out.below hb6 (fun k e => (HV1'.out.lt k e).2), hu1, World.ownsRow_nil _ _ _ _, low1, low1, (fun b e e2 => by cases e2)⟩
    have HY06 := Lib.hid (HY0.out.below hb6 (fun k e => (HY0.out.lt k e).2))
    have HSF := Lib.hid hsf
    have hzw : w.heap.size ≤ w5.heap.size := HB5.out.size
    clear hb6 hu1 hD1 low1 hsf HV1' HY0 HB5 hfs
    go_wp2_with fail
    refine (eqC128_any HFo.out.r3.reads HFo.out.r1.reads HSF.out.1 HSF.out.2).mono ?_
    rintro e w' ⟨rfl, n1, rfl⟩
    have HF7 := Lib.hid (HFo.out.draws n1)
    have HB7 := Lib.hid (below_draws HB6.out n1)
    have HY07 := Lib.hid (HY06.out.drewN n1)
    clear HFo HB6 HY06
    generalize w6.drewN n1 = w7 at *
    go_wp2_with fail
    refine (T0.out w7 HB7.out).mono ?_
    rintro e w8 ⟨p2, rfl, hp2, hg8⟩
    have b8 : Below w7.heap.size w7 w8 := (Below.refl _ _).grown hg8 (Nat.le_refl _) (by simp)
    have HB8 := Lib.hid (HB7.out.trans (b8.mono HB7.out.size))
    have HF8 := Lib.hid (HF7.out.below b8)
    have HY08 := Lib.hid (HY07.out.below b8 (fun k e => (HY07.out.lt k e).2))
    have HP2 := Lib.hid (ReadsF.of_row hp2 Q0.out)
    clear b8 hg8 hp2 HB7 HF7 HY07
    go_wp2_with fail
    refine (eqFloat64_any (ReadsF.of_row HY08.out Q0.out) HP2.out rfl (fun j hj => rfl)).mono ?_
    rintro e w' ⟨rfl, n3, rfl⟩
    have HB11 := Lib.hid (below_draws HB8.out n3)
    have HF11 := Lib.hid (HF8.out.draws n3)
    have HY011 := Lib.hid (HY08.out.drewN n3)
    clear HB8 HF8 HY08 HP2
    generalize w8.drewN n3 = w11 at *
    obtain ⟨L0, hL0⟩ : ∃ L0, z0.length = L0 := ⟨_, rfl⟩
    have e0 : (flts z0).length = L0 := by rw [flts_length, hL0]
    go_wp2_with fail
    refine (markFloat64_any (m := 1) HY011.out (by omega) (by omega)).mono ?_
    rintro e w13 ⟨rfl, hm0, hg12⟩
    have HB13 : Hid (Below w.heap.size w w13) := HB11.out.grown hg12 HB11.out.size (fun b e => by have := (HY011.out.lt b e).1; omega)
    have HF13 := Lib.hid (HF11.out.float HY011.out hg12)
    rw [e0]
    clear hm0 hg12 HB11 HF11 HY011 e0
    obtain ⟨M1, hM1⟩ : ∃ M1, 1 + L0 = M1 := ⟨_, rfl⟩
    rw [hM1]
    have hM1p : ¬ ((M1 : Int) < 0) := by omega
    go_wp2_with fail
    refine (eqC128_any HF13.out.r3.reads HF13.out.r1.reads HSF.out.1 HSF.out.2).mono ?_
    rintro e w' ⟨rfl, n5, rfl⟩
    have HF14 := Lib.hid (HF13.out.draws n5)
    have HB14 := Lib.hid (below_draws HB13.out n5)
    clear HF13 HB13 hM1p
    generalize w13.drewN n5 = w14 at *
    obtain ⟨L, hL⟩ : ∃ L, f1.length = L := ⟨_, rfl⟩
    have ef : (cvals f1).length = L := by rw [cvals_length, hL]
    rw [hL] at hf256
    go_wp2_with fail
    refine (markC128_any (m := 1) HF14.out.r3 (by omega) (by omega)).mono ?_
    rintro e w15 ⟨rfl, hr15, hg15⟩
    rw [ef] at hr15 ⊢
    have HB15 : Hid (Below w.heap.size w w15) := HB14.out.grown hg15 HB14.out.size (fun b e => by have := (HF14.out.r3.lt b e).1; omega)
    have HF15 := Lib.hid (HF14.out.mark1 hg15 hr15)
    clear hr15 hg15 HB14 HF14 ef
    obtain ⟨M2, hM2⟩ : ∃ M2, 1 + L = M2 := ⟨_, rfl⟩
    rw [hM2]
    have hM2p : ¬ ((M2 : Int) < 0) := by omega
    have C1 := Lib.hid (fun (W : World) (h : Four W w2.heap.size w5.heap.size v1 v1 u1 (.slice none 0 0) f0 f0 (cmarks 1 L) []) => heldC128_any (m := 1) (n := L) h.r3.reads (by omega) (by omega))
    rw [hM2] at C1
    clear hM2 hL
    go_wp2_with fail
    refine (C1.out _ HF15.out).mono ?_
    rintro e w' ⟨rfl, rfl⟩
    go_wp2_with fail
    refine (T0.out w' HB15.out).mono ?_
    rintro e w18 ⟨p4, rfl, hp4, hg17⟩
    have b17 : Below w'.heap.size w' w18 := (Below.refl _ _).grown hg17 (Nat.le_refl _) (by simp)
    have HB18 := Lib.hid (HB15.out.trans (b17.mono HB15.out.size))
    have HF18 := Lib.hid (HF15.out.below b17)
    have HP4 := Lib.hid hp4
    clear b17 hg17 hp4 HB15 HF15
    go_wp2_with fail
    refine (realT_impl z0 p4 w18 Q0.out hz0 HP4.out.reads).mono ?_
    rintro e w19 ⟨t1, f2, s2, c2, rfl, ht1, hb19, hD2⟩
    obtain ⟨rfl, hsf2, -, -, -⟩ := pair_same hD2 HD0.out
    have HB19 := Lib.hid (HB18.out.trans (hb19.mono HB18.out.size))
    have HF19 := Lib.hid (HF18.out.below hb19)
    have HT1 := Lib.hid ht1
    have HSF2 := Lib.hid hsf2
    clear hb19 ht1 hD2 hsf2 HB18 HF18 HP4 HD0
    go_wp2_with fail
    refine (eqC128_any HT1.out.reads HF19.out.r1.reads HSF2.out.1 HSF2.out.2).mono ?_
    rintro e w20 ⟨rfl, n7, rfl⟩
    have HF20 := Lib.hid (HF19.out.draws n7)
    have HB20 := Lib.hid (below_draws HB19.out n7)
    clear HF19 HB19 HT1 HSF2
    generalize w19.drewN n7 = w20 at *
    go_wp2_with fail
    refine (C1.out _ HF20.out).mono ?_
    rintro e w' ⟨rfl, rfl⟩
    go_wp2
    go_ret
    exact ⟨rfl, HB20.out⟩
  · have hg : 1048576 < len0 := by omega
    clear hl0 h0 q0 e0
    go_enter Try.func4, Try.ntmps4
    go_wp2
    go_ret
    exact ⟨rfl, Below.refl _ _⟩

end Go.Proofs.Ythinoegcijalpaa
