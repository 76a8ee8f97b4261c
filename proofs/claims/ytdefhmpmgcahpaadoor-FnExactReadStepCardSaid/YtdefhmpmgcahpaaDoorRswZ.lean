import Derived.Test.YtdefhmpmgcahpaaDoorRsvZ
/-
  The law of ReadStep.
-/
set_option linter.unusedVariables false
set_option linter.unusedSimpArgs false
namespace Go.Proofs.YtdefhmpmgcahpaaDoor
open Go.RowKit

theorem taps_le {t : List UInt8} {r : Option St} (h : ReadsSt t r) : (stR r).taps.length ≤ 8 := by
  cases r with
  | none => simp [stR]
  | some s =>
    show s.taps.length ≤ 8
    have hn := (valid_nums h.1).1
    have hw := with_nums h.1
    by_cases h3 : s.kind.toNat = 3
    · unfold numsOf at hn
      rw [if_pos h3] at hn
      exact hn
    · unfold withSt at hw
      rw [if_neg h3] at hw
      rw [← hw]
      simp
theorem grown_step {w w1 w2 : World} {row : Option Nat} (h : w.grownBy w1 row) (k : Below w1.heap.size w1 w2) : w.grownBy w2 row := h.trans ⟨k.os, k.tape, k.output, k.size, fun j hj _ => k.block j hj⟩
theorem grown_start (w : World) (row : Option Nat) : w.grownBy w row := ⟨rfl, rfl, rfl, Nat.le_refl _, fun _ _ _ => rfl⟩

set_option maxRecDepth 100000 in
set_option maxHeartbeats 4000000 in
theorem exactReadStep_law (s : ByteArray) (w : World) (hs : s.size ≤ maxLen) (hG : GloS w) :
    Calls Tryd.prog 4 #[.string s] w fun e w' => e = .returned (.bool true) ∧ Below w.heap.size w w' := by
  by_cases hl : 1048576 < s.size
  · have g1 : decide ((1048576 : Int) < (s.size : Int)) = true := decide_eq_true (by omega)
    have g1' : decide (1048576 < s.size) = true := decide_eq_true hl
    clear hl hs
    go_enter Tryd.func4, Tryd.ntmps4
    go_wp2
    go_ret
    exact ⟨rfl, Below.refl _ _⟩
  have g1 : decide ((1048576 : Int) < (s.size : Int)) = false := decide_eq_false (by omega)
  have g1' : decide (1048576 < s.size) = false := decide_eq_false hl
  have SP := Lib.hid (readStep_spec s.data.toList (show s.size ≤ 1048576 by omega) w)
  have IM := Lib.hid (fun (W : World) (hb : Below w.heap.size w W) => readStep_impl s.data.toList (show s.size ≤ 1048576 by omega) W (hG.below hb))
  simp only [strOf_self] at SP IM
  clear hG hs hl
  go_enter Tryd.func4, Tryd.ntmps4
  go_wp2_with fail
  refine SP.out.mono ?_
  rintro e w1 ⟨r, v, tv, hr, rfl, ⟨rfl, hrow⟩, hb1⟩
  obtain ⟨ta, tc, htv⟩ := hrow.form
  rw [ints_length] at htv
  subst htv
  have HR := Lib.hid hr
  have HB1 := Lib.hid hb1
  have HX : Hid (∀ x : Obj, Below w.heap.size w (w1.alloc x)) := fun x => hb1.alloc hb1.size x
  have IM2 := Lib.hid (fun x => IM.out (w1.alloc x) (HX.out x))
  have HRM := Lib.hid hrow
  obtain ⟨st, hst⟩ : ∃ st, stR r = st := ⟨_, rfl⟩
  obtain ⟨rc, hrc⟩ : ∃ c, rdC r = c := ⟨_, rfl⟩
  have HST := Lib.hid hst
  have HRC := Lib.hid hrc
  rw [hst] at HRM ⊢
  rw [hrc]
  obtain ⟨kd, n, k, taps⟩ := st
  obtain ⟨T, hT⟩ : ∃ T, taps.length = T := ⟨_, rfl⟩
  have HT := Lib.hid hT
  simp only [hT] at HRM ⊢
  clear hrow hr hb1 SP hst hrc hT
  go_wp2_with (go_at_call 15; refine (IM2.out _).mono ?_)
  rintro e w2 ⟨r', v', tv', hr', rfl, ⟨rfl, hrow'⟩, hb2⟩
  obtain rfl : r = r' := HR.out.unique hr'
  rw [HST.out] at hrow' ⊢
  rw [HRC.out]
  obtain ⟨ta', tc', htv'⟩ := hrow'.form
  rw [ints_length] at htv'
  subst htv'
  simp only [HT.out] at hrow' ⊢
  obtain ⟨W3, hW3⟩ : ∃ W3, W3 = w2.alloc (.cells #[.int .i64 kd, .int .i64 n, .int .i64 k, .slice ta' T tc'] 36) := ⟨_, rfl⟩
  have hlt12 : w1.heap.size < w2.heap.size := Nat.lt_of_lt_of_le (show w1.heap.size < (w1.alloc (.cells #[.int .i64 kd, .int .i64 n, .int .i64 k, .slice ta T tc] 36)).heap.size by simp) hb2.size
  have cl : ∀ j u, [Value.int .i64 kd, .int .i64 n, .int .i64 k, .slice ta T tc][j]? = some u → W3.cell? ⟨w1.heap.size, j, none⟩ = some u := fun j u hu => by
    rw [hW3]
    refine (World.cell?_alloc_old _ _ _ (Nat.ne_of_lt hlt12)).trans ((hb2.cell (show (⟨w1.heap.size, j, none⟩ : Addr).block < _ by simp)).trans ?_)
    rcases j with _ | _ | _ | _ | j <;> simp at hu <;> subst hu <;> go_simp
  have el : ∀ j u, [Value.int .i64 kd, .int .i64 n, .int .i64 k, .slice ta' T tc'][j]? = some u → W3.cell? ⟨w2.heap.size, j, none⟩ = some u := fun j u hu => by
    rw [hW3]
    rcases j with _ | _ | _ | _ | j <;> simp at hu <;> subst hu <;> go_simp
  have hRI : Row W3 (w1.alloc (.cells #[.int .i64 kd, .int .i64 n, .int .i64 k, .slice ta T tc] 36)).heap.size 2 (.slice ta' T tc') (ints taps) := by rw [hW3]; exact hrow'.alloc _
  have hRM : Row W3 w.heap.size 2 (.slice ta T tc) (ints taps) := by
    rw [hW3]
    exact ((HRM.out.alloc _).below hb2 (fun k e => by have := (HRM.out.lt k e).2; simp; omega)).alloc _
  have hown : ∀ k, (Value.slice ta' T tc').ownBlock = some k → w1.heap.size < k ∧ k < w2.heap.size := fun k e => by
    have := hrow'.lt k e
    simp at this
    omega
  have hownM : ∀ k, (Value.slice ta T tc).ownBlock = some k → k < w1.heap.size := fun k e => (HRM.out.lt k e).2
  have HB3 : Hid (Below w.heap.size w W3) := by
    rw [hW3]
    exact ((HX.out _).trans (hb2.mono (HX.out _).size)).alloc (Nat.le_trans HB1.out.size (Nat.le_of_lt hlt12)) _
  have hl3 : w2.heap.size < W3.heap.size := by rw [hW3]; simp
  have HC : Hid (∀ W', W3.grownBy W' (Value.slice ta' T tc').ownBlock → ((∀ j u, [Value.int .i64 kd, .int .i64 n, .int .i64 k, .slice ta T tc][j]? = some u → W'.cell? ⟨w1.heap.size, j, none⟩ = some u) ∧ (∀ j u, [Value.int .i64 kd, .int .i64 n, .int .i64 k, .slice ta' T tc'][j]? = some u → W'.cell? ⟨w2.heap.size, j, none⟩ = some u)) ∧ Row W' w.heap.size 2 (.slice ta T tc) (ints taps) ∧ Below w.heap.size w W') := fun W' hg => by
    refine ⟨⟨fun j u hu => hg.cell (cl j u hu) (fun e => by have := (hown _ e.symm).1; simp at this), fun j u hu => hg.cell (el j u hu) (fun e => by have := (hown _ e.symm).2; simp at this)⟩, hRM.kept hg ?_, HB3.out.grown hg HB3.out.size (fun b e => by have := (hown b e).1; have := HB1.out.size; omega)⟩
    cases hm : (Value.slice ta T tc).ownBlock with
    | none => exact .inl rfl
    | some k1 => exact .inr (fun e => by have h1 := hownM k1 hm; have h2 := (hown k1 e.symm).1; omega)
  have HRI := Lib.hid hRI
  have HTL := Lib.hid (show T ≤ 8 by
    have := taps_le HR.out
    rw [HST.out] at this
    simp only [HT.out] at this
    exact this)
  have HW3 := Lib.hid hW3.symm
  have kl : ∀ j u, [Value.int .i64 kd, .int .i64 n, .int .i64 k, .slice ta T tc][j]? = some u → ∀ x : Obj, (w2.alloc x).cell? ⟨w1.heap.size, j, none⟩ = some u := fun j u hu x => by
    refine (World.cell?_alloc_old _ _ _ (Nat.ne_of_lt hlt12)).trans ((hb2.cell (show (⟨w1.heap.size, j, none⟩ : Addr).block < _ by simp)).trans ?_)
    rcases j with _ | _ | _ | _ | j <;> simp at hu <;> subst hu <;> go_simp
  have k0 := kl 0 _ rfl
  have k1 := kl 1 _ rfl
  have k2 := kl 2 _ rfl
  have k3 := kl 3 _ rfl
  have EQ := Lib.hid (HT.out ▸ fun (W : World) => eqStep_any ⟨kd, n, k, taps⟩ ta' ta tc' tc W)
  clear hrow' hb2 hr' IM2 hW3 hlt12 cl el hRI hRM hown hownM hl3 kl
  go_wp2_with fail
  rw [HW3.out]
  refine (EQ.out W3 HRI.out.reads (HC.out W3 (grown_start _ _)).2.1.reads).mono ?_
  rintro e W4 ⟨rfl, hb4⟩
  have HG4 := Lib.hid (grown_step (grown_start W3 (Value.slice ta' T tc').ownBlock) hb4)
  have HR4 := Lib.hid (HRI.out.below hb4 (fun k e => (HRI.out.lt k e).2))
  obtain ⟨⟨hc, he⟩, -⟩ := HC.out W4 HG4.out
  have c0 := hc 0 _ rfl
  have c1 := hc 1 _ rfl
  have c2 := hc 2 _ rfl
  have c3 := hc 3 _ rfl
  have e0 := he 0 _ rfl
  have e1 := he 1 _ rfl
  have e2 := he 2 _ rfl
  have e3 := he 3 _ rfl
  clear hb4 hc he k0 k1 k2 k3
  have MK := markStep_any (m := 1) kd n k HR4.out (by decide) (by rw [ints_length, HT.out]; have := HTL.out; omega)
  rw [ints_length, HT.out] at MK
  obtain ⟨Z, hZ⟩ : ∃ Z : Int, ((1 + T : Nat) : Int) = Z := ⟨_, rfl⟩
  have HZ := Lib.hid hZ
  have hz0 : ¬ Z < 0 := by omega
  rw [hZ] at MK
  have MK := Lib.hid MK
  clear hZ
  go_wp2_with fail
  refine MK.out.mono ?_
  rintro e W5 ⟨rfl, hr5, hg5⟩
  have HG5 := Lib.hid (HG4.out.trans hg5)
  have HR5 := Lib.hid hr5
  obtain ⟨⟨hc, he⟩, -⟩ := HC.out W5 HG5.out
  have c0 := hc 0 _ rfl
  have c1 := hc 1 _ rfl
  have c2 := hc 2 _ rfl
  have c3 := hc 3 _ rfl
  have e0 := he 0 _ rfl
  have e1 := he 1 _ rfl
  have e2 := he 2 _ rfl
  have e3 := he 3 _ rfl
  clear hr5 hg5 hc he MK
  have HD := heldStep_any kd n k HR5.out.reads (by decide) (by have := HTL.out; omega)
  rw [HZ.out] at HD
  have HD := Lib.hid HD
  go_wp2_with fail
  refine HD.out.mono ?_
  rintro e W6 ⟨rfl, hb6⟩
  have HG6 := Lib.hid (grown_step HG5.out hb6)
  have HR6 := Lib.hid (HR5.out.below hb6 (fun k e => (HR5.out.lt k e).2))
  have IM6 := Lib.hid (IM.out W6 (HC.out W6 HG6.out).2.2)
  clear hb6 HD c0 c1 c2 c3 e0 e1 e2 e3
  go_wp2_with fail
  refine IM6.out.mono ?_
  rintro e W7 ⟨r', v', tv', hr', rfl, ⟨rfl, hrow'⟩, hb7⟩
  obtain rfl : r = r' := HR.out.unique hr'
  rw [HST.out] at hrow' ⊢
  rw [HRC.out]
  obtain ⟨tb, tbc, htv'⟩ := hrow'.form
  rw [ints_length] at htv'
  subst htv'
  simp only [HT.out] at hrow' ⊢
  have HG7 := Lib.hid (grown_step HG6.out hb7)
  have HR7 := Lib.hid (HR6.out.below hb7 (fun k e => (HR6.out.lt k e).2))
  have HRB := Lib.hid hrow'
  have HG8 : Hid (∀ x : Obj, W3.grownBy (W7.alloc x) (Value.slice ta' T tc').ownBlock) := fun x => HG7.out.trans (World.grownBy_alloc _ _ _)
  obtain ⟨W8, hW8⟩ : ∃ W8, W8 = W7.alloc (.cells #[.int .i64 kd, .int .i64 n, .int .i64 k, .slice tb T tbc] 36) := ⟨_, rfl⟩
  have HW8 := Lib.hid hW8.symm
  have q0 := fun x => (HC.out _ (HG8.out x)).1.1 0 _ rfl
  have q1 := fun x => (HC.out _ (HG8.out x)).1.1 1 _ rfl
  have q2 := fun x => (HC.out _ (HG8.out x)).1.1 2 _ rfl
  have q3 := fun x => (HC.out _ (HG8.out x)).1.1 3 _ rfl
  have EQ2 := eqStep_any ⟨kd, n, k, taps⟩ tb ta tbc tc W8
  simp only [HT.out] at EQ2
  have EQ2 := Lib.hid (EQ2 (by rw [hW8]; exact (HRB.out.alloc _).reads) (by rw [hW8]; exact (HC.out _ (HG8.out _)).2.1.reads))
  have HG9 : Hid (W3.grownBy W8 (Value.slice ta' T tc').ownBlock) := by rw [hW8]; exact HG8.out _
  have h9 := HR7.out.alloc (.cells #[.int .i64 kd, .int .i64 n, .int .i64 k, .slice tb T tbc] 36)
  rw [← hW8] at h9
  have HR9 := Lib.hid h9
  clear h9
  clear hr' hrow' hb7 hW8 IM6
  go_wp2_with fail
  rw [HW8.out]
  refine EQ2.out.mono ?_
  rintro e W9 ⟨rfl, hb9⟩
  have HGA := Lib.hid (grown_step HG9.out hb9)
  have HRA := Lib.hid (HR9.out.below hb9 (fun k e => (HR9.out.lt k e).2))
  obtain ⟨⟨hc, he⟩, -⟩ := HC.out W9 HGA.out
  have c0 := hc 0 _ rfl
  have c1 := hc 1 _ rfl
  have c2 := hc 2 _ rfl
  have c3 := hc 3 _ rfl
  have e0 := he 0 _ rfl
  have e1 := he 1 _ rfl
  have e2 := he 2 _ rfl
  have e3 := he 3 _ rfl
  clear hb9 hc he q0 q1 q2 q3
  have HD := heldStep_any kd n k HRA.out.reads (by decide) (by have := HTL.out; omega)
  rw [HZ.out] at HD
  have HD := Lib.hid HD
  go_wp2_with fail
  refine HD.out.mono ?_
  rintro e WA ⟨rfl, hbA⟩
  have HBA := Lib.hid (HC.out WA (grown_step HGA.out hbA)).2.2
  clear hbA
  go_wp2
  go_ret
  exact ⟨rfl, HBA.out⟩

end Go.Proofs.YtdefhmpmgcahpaaDoor
