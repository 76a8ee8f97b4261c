/-
  Several texts of this claim, one behind the other; each says what it holds.
-/
import Derived.Test.YtocjhanehphibaaMConvol12
/-
  FnConvolve: the law.
-/
set_option linter.unusedVariables false
set_option linter.unusedSimpArgs false
namespace Go.Proofs.Ytocjhanehphibaa
open Go.RowKit Flt Fast

theorem run_neqV {P : Program} (w : World) (t : TypeId) (k : FloatKind) (a b c d : Nat) : (binOp .neq t (.complex k a b) (.complex k c d)).run P w = .ok (.bool (!eqC k a b c d)) w := run_neq_complex w t k a b c d
attribute [local go_sem ↓] run_neqV
attribute [local go_sem] run_cadd
theorem RdO.selfV {w : World} {B e : Nat} {v : Value} {xs : List C} (h : Row w B e v (cvals xs)) : RdO w.heap.size w v xs := RdO.of_row h (fun k e => (h.lt k e).2)
theorem RdN.selfV {w : World} {B e : Nat} {v : Value} {xs : List C} (h : Row w B e v (nvals xs)) : RdN w.heap.size w v xs := RdN.of_row h (fun k e => (h.lt k e).2)
theorem IsCs.sameV {xs ys : List C} {zs : List Z} (h : IsCs xs zs) (k : IsCs ys zs) : xs.length = ys.length ∧ ∀ j, j < xs.length → ∃ z, IsC (xs.getD j (0, 0)) z ∧ IsC (ys.getD j (0, 0)) z :=
  ⟨by rw [h.1, k.1], fun j hj => ⟨_, h.2 j (by rw [← h.1]; exact hj), k.2 j (by rw [← h.1]; exact hj)⟩⟩
theorem row_some {w : World} {B e n cap : Nat} {a : Option Addr} {cs : List Value} (h : Row w B e (.slice a n cap) cs) (h0 : 0 < n) : ∃ g, a = some ⟨g, 0, none⟩ := by
  rcases h.shape with ⟨a, cap, e1, e2⟩ | ⟨g, cap, e1, h0, -⟩
  · simp only [Value.slice.injEq] at e1; omega
  · simp only [Value.slice.injEq] at e1; exact ⟨_, e1.1⟩

/-- The length of a slice. -/
def lenV : Value → Nat
  | .slice _ n _ => n
  | _ => 0
/-- A signal with zeros behind it. -/
structure Longer (hs ls : List C) : Prop where
  le : hs.length ≤ ls.length
  at_ : ∀ i, ls.getD i (0, 0) = hs.getD i (0, 0)
theorem Longer.refl (hs : List C) : Longer hs hs := ⟨Nat.le_refl _, fun _ => rfl⟩
theorem Longer.snoc {hs ls : List C} (h : Longer hs ls) : Longer hs (ls ++ [(0, 0)]) := by
  refine ⟨by have := h.le; simp; omega, fun i => ?_⟩
  rw [← h.at_ i]
  by_cases h1 : i < ls.length
  · simp [List.getD, List.getElem?_append_left h1]
  · by_cases h2 : i = ls.length
    · subst h2; simp [List.getD]
    · simp only [List.getD, List.getElem?_append_right (Nat.le_of_not_lt h1)]
      rw [List.getElem?_eq_none (by simp; omega), List.getElem?_eq_none (by omega)]
theorem Longer.plain {hs ls : List C} (h : Longer hs ls) (hp : PlainC hs) : PlainC ls := by
  intro u hu
  obtain ⟨i, hi, rfl⟩ := List.getElem_of_mem hu
  have e := h.at_ i
  rw [show ls.getD i (0, 0) = ls[i] by simp [List.getD, hi]] at e
  rw [e]
  by_cases h1 : i < hs.length
  · exact hp _ (getD_memC h1)
  · rw [show hs.getD i (0, 0) = (0, 0) by simp [List.getD, List.getElem?_eq_none (Nat.le_of_not_lt h1)]]
    exact ⟨sx_zero.1, sx_zero.1⟩

set_option maxRecDepth 100000 in
set_option maxHeartbeats 16000000 in
theorem fnConvolve_law (a0 : Option Addr) (len0 cap0 : Nat) (z0' : List Int) (a1 : Option Addr) (len1 cap1 : Nat) (z1 : List Int) (w : World) (h0 : IsRow .u8 w a0 len0 cap0 z0') (h1 : IsRow .u8 w a1 len1 cap1 z1) :
    Calls Try.prog 3 #[.slice a0 len0 cap0, .slice a1 len1 cap1] w fun e w' => e = .returned (.bool true) ∧ Below w.heap.size w w' := by
  have hm0 := isRow_len h0
  have hm1 := isRow_len h1
  by_cases hl0 : len0 ≤ 4096
  · have F0 := Lib.hid (f6big_f a0 len0 cap0 hl0)
    by_cases hl1 : len1 ≤ 4096
    · have F1 := Lib.hid (f6big_f a1 len1 cap1 hl1)
      have R0 := Lib.hid (fun w1 (hb : Below w.heap.size w w1) => (⟨z0', isRow_below h0 hb⟩ : ∃ zs, IsRow .u8 w1 a0 len0 cap0 zs))
      have R1 := Lib.hid (fun w1 (hb : Below w.heap.size w w1) => (⟨z1, isRow_below h1 hb⟩ : ∃ zs, IsRow .u8 w1 a1 len1 cap1 zs))
      clear h0 h1 hl0 hl1
      go_enter Try.func3, Try.ntmps3
      go_wp2_with fail
      with_reducible refine (F0.out _).mono ?_
      rintro e w' ⟨rfl, rfl⟩
      go_wp2_with fail
      with_reducible refine (F1.out _).mono ?_
      rintro e w' ⟨rfl, rfl⟩
      have HB0 : Hid (Below w'.heap.size w' w') := Lib.hid (Below.refl _ _)
      clear F0 F1
      go_wp2_with fail
      with_reducible refine (p6Pick_any _ a1 len1 cap1 (R1.out _ HB0.out) 9 (by omega) (by omega)).mono ?_
      rintro e w1 ⟨t1, rfl, ht1, hb⟩
      obtain ⟨A, hA⟩ : ∃ A : Nat, (1 : Int) + (t1 : Int) = (A : Int) := ⟨1 + t1, by omega⟩
      have hA1 : 1 ≤ A := by omega
      have hA9 : A ≤ 9 := by omega
      have HB1 := Lib.hid hb
      clear hb ht1 HB0
      have K := Lib.hid (p6Plain_any a0 len0 cap0 A (by omega) w1 (R0.out _ HB1.out))
      go_wp2_with fail
      with_reducible refine K.out.mono ?_
      rintro e w2 ⟨v, xs, rfl, hr, hxl, hxp, hb⟩
      obtain ⟨xa, xc, rfl⟩ := hr.written (n := A) (by rw [cvals_length, hxl])
      have HX2 := Lib.hid hr
      have HXL := Lib.hid hxl
      have HXP := Lib.hid hxp
      have HB2 := Lib.hid (below_step HB1.out hb HB1.out.size)
      clear hr hxl hxp hb HB1 K hA
      go_wp2_with fail
      with_reducible refine (p6Pick_any _ a0 len0 cap0 (R0.out _ HB2.out) 6 (by omega) (by omega)).mono ?_
      rintro e w3 ⟨t2, rfl, ht2, hb⟩
      obtain ⟨D, hD⟩ : ∃ D : Nat, (1 : Int) + (t2 : Int) = (D : Int) := ⟨1 + t2, by omega⟩
      have hD1 : 1 ≤ D := by omega
      have hD6 : D ≤ 6 := by omega
      have HX3 := Lib.hid (HX2.out.up hb)
      have HB3 := Lib.hid (below_step HB2.out hb HB2.out.size)
      clear hb HB2 HX2 ht2
      have K := Lib.hid (p6Plain_any a1 len1 cap1 D (by omega) w3 (R1.out _ HB3.out))
      go_wp2_with fail
      with_reducible refine K.out.mono ?_
      rintro e w4 ⟨v, hs, rfl, hr, hhl, hhp, hb⟩
      obtain ⟨ha, hc, rfl⟩ := hr.written (n := D) (by rw [cvals_length, hhl])
      have HH4 := Lib.hid hr
      have HHL := Lib.hid hhl
      have HHP := Lib.hid hhp
      have HX4 := Lib.hid (HX3.out.up hb)
      have HB4 := Lib.hid (below_step HB3.out hb HB3.out.size)
      clear hr hhl hhp hb HB3 HX3 K hD R0 R1
      have hTl : cvLen xs.length hs.length = A + D - 1 := by rw [HXL.out, HHL.out]; exact cvLen_pos (by omega) (by omega)
      obtain ⟨T, hT⟩ : ∃ T, A + D - 1 = T := ⟨_, rfl⟩
      rw [hT] at hTl
      have HTL := Lib.hid hTl
      have hT20 : T ≤ 20 := by omega
      have hTA : A ≤ T := by omega
      clear hTl
      have K := Lib.hid (convolve_impl xs hs _ _ (by rw [HXL.out]; omega) (by rw [HHL.out]; omega) (by rw [HTL.out]; omega) HXP.out.wf HHP.out.wf w4 (RdO.selfV HX4.out) (RdO.selfV HH4.out))
      go_wp2_with fail
      with_reducible refine K.out.mono ?_
      rintro e w5 ⟨v, ps, rfl, hr, hps, hb⟩
      obtain ⟨pa, pc, rfl⟩ := hr.written (n := T) (by rw [cvals_length, hps.1, cvAll_length, zsOf_length, zsOf_length, HTL.out])
      have HP5 := Lib.hid hr
      have HPS := Lib.hid hps
      have HX5 := Lib.hid (HX4.out.up hb)
      have HH5 := Lib.hid (HH4.out.up hb)
      have HB5 := Lib.hid (below_step HB4.out hb HB4.out.size)
      clear hr hps hb HX4 HH4 HB4 K
      have K := Lib.hid (convolve_spec xs hs _ _ (by rw [HXL.out]; omega) (by rw [HHL.out]; omega) (by rw [HTL.out]; omega) HXP.out.wf HHP.out.wf w5 (RdO.selfV HX5.out) (RdO.selfV HH5.out))
      go_wp2_with fail
      with_reducible refine K.out.mono ?_
      rintro e w6 ⟨v, ds, rfl, hr, hds, hb⟩
      have hdl : ds.length = T := by rw [hds.1, cvAll_length, zsOf_length, zsOf_length, HTL.out]
      obtain ⟨da, dc, rfl⟩ := hr.written (n := T) (by rw [cvals_length, hdl])
      have HD6 := Lib.hid hr
      have HDS := Lib.hid hds
      have HDL := Lib.hid hdl
      have HP6 := Lib.hid (HP5.out.up hb)
      have HX6 := Lib.hid (HX5.out.up hb)
      have HH6 := Lib.hid (HH5.out.up hb)
      have HB6 := Lib.hid (below_step HB5.out hb HB5.out.size)
      clear hr hds hdl hb HX5 HH5 HP5 HB5 K
      have K := Lib.hid (convolve_impl hs xs _ _ (by rw [HHL.out]; omega) (by rw [HXL.out]; omega) (by rw [cvLen_symm, HTL.out]; omega) HHP.out.wf HXP.out.wf w6 (RdO.selfV HH6.out) (RdO.selfV HX6.out))
      go_wp2_with fail
      with_reducible refine K.out.mono ?_
      rintro e w7 ⟨v, bs, rfl, hr, hbs, hb⟩
      have hbl : bs.length = T := by rw [hbs.1, cvAll_length, zsOf_length, zsOf_length, cvLen_symm, HTL.out]
      obtain ⟨ba, bc, rfl⟩ := hr.written (n := T) (by rw [cvals_length, hbl])
      have HS1 := Lib.hid (HPS.out.sameV HDS.out)
      have HP7 := Lib.hid (HP6.out.up hb)
      have HD7 := Lib.hid (HD6.out.up hb)
      have HX7 := Lib.hid (HX6.out.up hb)
      have HH7 := Lib.hid (HH6.out.up hb)
      have HB7 := Lib.hid (below_step HB6.out hb HB6.out.size)
      obtain ⟨gb, rfl⟩ := row_some hr (by omega)
      obtain ⟨gd, rfl⟩ := row_some HD7.out (by omega)
      have hdv : ∀ k, k < T → IsC (ds.getD k (0, 0)) (cvAt (zsOf xs) (zsOf hs) k) := fun k hk => by
        have := HDS.out.2 k (by rw [cvAll_length, zsOf_length, zsOf_length, HTL.out]; exact hk)
        rwa [cvAll_getD (by rw [zsOf_length, zsOf_length, HTL.out]; exact hk)] at this
      have HDV := Lib.hid hdv
      have hdc : ∀ k, k < T → w7.cell? ⟨gd, k, none⟩ = some (.complex .f64 (ds.getD k (0, 0)).1 (ds.getD k (0, 0)).2) := fun k hk => by
        have := HD7.out.cellAt (j := k) hk
        rwa [cvals_getD (by rw [HDL.out]; exact hk)] at this
      have HDC := Lib.hid hdc
      have HEQ1 : Hid (∀ k, k < T → ∃ a b c d, w7.cell? ⟨gb, k, none⟩ = some (.complex .f64 a b) ∧ w7.cell? ⟨gd, k, none⟩ = some (.complex .f64 c d) ∧ eqC .f64 a b c d = true) := Lib.hid fun k hk => by
        have c1 := hr.cellAt (j := k) hk
        rw [cvals_getD (by rw [hbl]; exact hk)] at c1
        have z1 := hbs.2 k (by rw [cvAll_length, zsOf_length, zsOf_length, cvLen_symm, HTL.out]; exact hk)
        rw [cvAll_getD (by rw [zsOf_length, zsOf_length, cvLen_symm, HTL.out]; exact hk)] at z1
        exact ⟨_, _, _, _, c1, HDC.out k hk, cv_comm_eq HXP.out HHP.out (by rw [HHL.out]; omega) (by rw [HXL.out]; omega) (by rw [HTL.out]; exact hk) z1 (HDV.out k hk)⟩
      clear hr hbs hbl hb HX6 HH6 HP6 HD6 HB6 K HPS HDS hdv hdc
      have K := Lib.hid (sameSignals_spec HP7.out.reads HD7.out.reads HS1.out.1 HS1.out.2)
      go_wp2_with fail
      with_reducible refine K.out.mono ?_
      rintro e w' ⟨rfl, n8, rfl⟩
      clear K HP7 HS1
      go_wp2
      go_loopw [13] (fun i wr => ∃ k n : Nat, i = .int .i64 k ∧ k ≤ T ∧ wr = w7.drewN n) (fun i _ => T - (intOf i).toNat)
      case atStart => exact ⟨0, n8, rfl, Nat.zero_le _, rfl⟩
      case round =>
        obtain ⟨k, n, rfl, hk, hw⟩ := hrel
        by_cases hlt : k < T
        · obtain ⟨a, b, c, d, c1, c2, he⟩ := HEQ1.out k hlt
          have c1' : wr.cell? ⟨gb, k, none⟩ = some (.complex .f64 a b) := by rw [hw]; exact c1
          have c2' : wr.cell? ⟨gd, k, none⟩ = some (.complex .f64 c d) := by rw [hw]; exact c2
          have HW := Lib.hid hw
          clear hw c1 c2
          go_wp2
          go_quiet (fail)
          go_wp2
          go_roundw
          case rel => exact ⟨k + 1, n + nq, by go_num, by omega, by rw [HW.out, World.drewN_drewN]⟩
          case measure => simp [intOf]; omega
        · have e : T = k := by omega
          subst e
          have hbw : Below w7.heap.size w7 wr := by rw [hw]; exact below_draws (Below.refl _ _) n
          have HX8 := Lib.hid (HX7.out.up hbw)
          have HH8 := Lib.hid (HH7.out.up hbw)
          have HD8 := Lib.hid (HD7.out.up hbw)
          have HB8 := Lib.hid (below_step HB7.out hbw HB7.out.size)
          clear hw hbw HX7 HH7 HD7 HB7 HEQ1 HDC
          obtain ⟨w8, hw8⟩ : ∃ z, wr = z := ⟨_, rfl⟩
          rw [hw8] at HX8 HH8 HD8 HB8 ⊢
          clear hw8
          have K := Lib.hid (narrowSignal_spec HX8.out.reads HXP.out (by rw [HXL.out]; omega))
          go_wp2_with fail
          with_reducible refine K.out.mono ?_
          rintro e w9 ⟨v, us, rfl, hr, hul, hus, hb⟩
          obtain ⟨ua, uc, rfl⟩ := hr.written (n := A) (by rw [nvals_length, hul, HXL.out])
          have HU9 := Lib.hid hr
          have HUN : Hid (Nard us xs) := Lib.hid ⟨hul, hus⟩
          have HX9 := Lib.hid (HX8.out.up hb)
          have HH9 := Lib.hid (HH8.out.up hb)
          have HD9 := Lib.hid (HD8.out.up hb)
          have HB9 := Lib.hid (below_step HB8.out hb HB8.out.size)
          clear hr hul hus hb HX8 HH8 HD8 HB8 K
          have K := Lib.hid (narrowSignal_spec HH9.out.reads HHP.out (by rw [HHL.out]; omega))
          go_wp2_with fail
          with_reducible refine K.out.mono ?_
          rintro e w10 ⟨v, vs, rfl, hr, hvl, hvs, hb⟩
          obtain ⟨va, vc, rfl⟩ := hr.written (n := D) (by rw [nvals_length, hvl, HHL.out])
          have HV10 := Lib.hid hr
          have HVN : Hid (Nard vs hs) := Lib.hid ⟨hvl, hvs⟩
          have HU10 := Lib.hid (HU9.out.up hb)
          have HX10 := Lib.hid (HX9.out.up hb)
          have HH10 := Lib.hid (HH9.out.up hb)
          have HD10 := Lib.hid (HD9.out.up hb)
          have HB10 := Lib.hid (below_step HB9.out hb HB9.out.size)
          clear hr hvl hvs hb HX9 HH9 HD9 HU9 HB9 K
          have HUL : Hid (us.length = A) := Lib.hid (by rw [HUN.out.len, HXL.out])
          have HVL : Hid (vs.length = D) := Lib.hid (by rw [HVN.out.len, HHL.out])
          have HTN : Hid (cvLen us.length vs.length = T) := Lib.hid (by rw [HUN.out.len, HVN.out.len, HTL.out])
          have HSM := Lib.hid (small_cv HUN.out HVN.out HXP.out HHP.out (by rw [HHL.out]; omega))
          have K := Lib.hid (narrowConvolve_impl us vs _ _ (by rw [HUL.out]; omega) (by rw [HVL.out]; omega) (by rw [HTN.out]; omega) HUN.out.plain HVN.out.plain HSM.out w10 (RdN.selfV HU10.out) (RdN.selfV HV10.out))
          go_wp2_with fail
          with_reducible refine K.out.mono ?_
          rintro e w11 ⟨v, cs, rfl, hr, hcs, hb⟩
          obtain ⟨ca, cc, rfl⟩ := hr.written (n := T) (by rw [nvals_length, hcs.1, cvAllK_length, wsOf_length, wsOf_length, HTN.out])
          have HC11 := Lib.hid hr
          have HCS := Lib.hid hcs
          have HV11 := Lib.hid (HV10.out.up hb)
          have HU11 := Lib.hid (HU10.out.up hb)
          have HX11 := Lib.hid (HX10.out.up hb)
          have HH11 := Lib.hid (HH10.out.up hb)
          have HD11 := Lib.hid (HD10.out.up hb)
          have HB11 := Lib.hid (below_step HB10.out hb HB10.out.size)
          clear hr hcs hb HX10 HH10 HD10 HU10 HV10 HB10 K
          have K := Lib.hid (narrowConvolve_spec us vs _ _ (by rw [HUL.out]; omega) (by rw [HVL.out]; omega) (by rw [HTN.out]; omega) HUN.out.plain HVN.out.plain HSM.out w11 (RdN.selfV HU11.out) (RdN.selfV HV11.out))
          go_wp2_with fail
          with_reducible refine K.out.mono ?_
          rintro e w12 ⟨v, ms, rfl, hr, hms, hb⟩
          have hml : ms.length = T := by rw [hms.1, cvAllK_length, wsOf_length, wsOf_length, HTN.out]
          obtain ⟨ma, mc, rfl⟩ := hr.written (n := T) (by rw [nvals_length, hml])
          have HM12 := Lib.hid hr
          have HMS := Lib.hid hms
          have HC12 := Lib.hid (HC11.out.up hb)
          have HX12 := Lib.hid (HX11.out.up hb)
          have HH12 := Lib.hid (HH11.out.up hb)
          have HD12 := Lib.hid (HD11.out.up hb)
          have HB12 := Lib.hid (below_step HB11.out hb HB11.out.size)
          obtain ⟨gm, rfl⟩ := row_some hr (by omega)
          have HDC : Hid (∀ k, k < T → w12.cell? ⟨gd, k, none⟩ = some (.complex .f64 (ds.getD k (0, 0)).1 (ds.getD k (0, 0)).2)) := Lib.hid fun k hk => by
            have := HD12.out.cellAt (j := k) hk
            rwa [cvals_getD (by rw [HDL.out]; exact hk)] at this
          have HEQ2 : Hid (∀ k, k < T → ∃ u v a b c d, w12.cell? ⟨gm, k, none⟩ = some (.complex .f32 u v) ∧ w12.cell? ⟨gd, k, none⟩ = some (.complex .f64 c d) ∧ (∀ w, (convert 36 30 (.complex .f32 u v)).run Try.prog w = .ok (.complex .f64 a b) w) ∧ eqC .f64 a b c d = true) := Lib.hid fun k hk => by
            have c1 := hr.cellAt (j := k) hk
            rw [nvals_getD (by rw [hml]; exact hk)] at c1
            have z1 := hms.2 k (by rw [cvAllK_length, wsOf_length, wsOf_length, HTN.out]; exact hk)
            rw [cvAllK_getD (by rw [wsOf_length, wsOf_length, HTN.out]; exact hk)] at z1
            obtain ⟨a, b, h1, h2⟩ := cv_nar_eq HXP.out HHP.out HUN.out HVN.out (by rw [HHL.out]; omega) (by rw [HTL.out]; exact hk) z1 (HDV.out k hk)
            exact ⟨_, _, a, b, _, _, c1, HDC.out k hk, h1, h2⟩
          clear hr hms hml hb HX11 HH11 HD11 HU11 HV11 HC11 HB11 K HDC
          have K := Lib.hid (sameNarrowSignals_any HC12.out.reads HM12.out.reads HCS.out HMS.out)
          go_wp2_with fail
          with_reducible refine K.out.mono ?_
          rintro e w' ⟨rfl, n13, rfl⟩
          clear K HC12 HM12 HCS HMS HSM HTN HUL HVL HUN HVN
          go_wp2
          go_loopw [22] (fun i wr => ∃ k n : Nat, i = .int .i64 k ∧ k ≤ T ∧ wr = w12.drewN n) (fun i _ => T - (intOf i).toNat)
          case atStart => exact ⟨0, n13, rfl, Nat.zero_le _, rfl⟩
          case round =>
            obtain ⟨k, n, rfl, hk, hw⟩ := hrel
            by_cases hlt : k < T
            · obtain ⟨u, v, a, b, c, d, c1, c2, hcv, he⟩ := HEQ2.out k hlt
              have c1' : wr.cell? ⟨gm, k, none⟩ = some (.complex .f32 u v) := by rw [hw]; exact c1
              have c2' : wr.cell? ⟨gd, k, none⟩ = some (.complex .f64 c d) := by rw [hw]; exact c2
              have HW := Lib.hid hw
              clear hw c1 c2
              go_wp2
              go_quiet (fail)
              go_wp2
              go_roundw
              case rel => exact ⟨k + 1, n + nq, by go_num, by omega, by rw [HW.out, World.drewN_drewN]⟩
              case measure => simp [intOf]; omega
            · have e : T = k := by omega
              subst e
              have hbw : Below w12.heap.size w12 wr := by rw [hw]; exact below_draws (Below.refl _ _) n
              have HX13 := Lib.hid (HX12.out.up hbw)
              have HH13 := Lib.hid (HH12.out.up hbw)
              have HD13 := Lib.hid (HD12.out.up hbw)
              have HB13 := Lib.hid (below_step HB12.out hbw HB12.out.size)
              clear hw hbw HX12 HH12 HD12 HB12 HEQ2
              obtain ⟨w13, hw13⟩ : ∃ z, wr = z := ⟨_, rfl⟩
              rw [hw13] at HX13 HH13 HD13 HB13 ⊢
              clear hw13
              by_cases hDA : A < D
              · have g1 : decide ((A : Int) < (D : Int)) = true := decide_eq_true (by omega)
                have g2 : decide (A < D) = true := decide_eq_true hDA
                go_wp2
                go_ret
                exact ⟨rfl, HB13.out⟩
              · have g1 : decide ((A : Int) < (D : Int)) = false := decide_eq_false (by omega)
                have g2 : decide (A < D) = false := decide_eq_false hDA
                obtain ⟨i0, hi, hz0, hz1, hz2⟩ := info_parts info_c128
                have hba : Below w13.heap.size w13 (w13.alloc (.cells #[] 30)) := (Below.refl _ _).alloc (Nat.le_refl _) _
                have HLit : Hid (Row (w13.alloc (.cells #[] 30)) w13.heap.size 30 (.slice (some ⟨w13.heap.size, 0, none⟩) 0 0) (cvals [])) := World.ownsRow_lit w13 #[] 0 (Nat.le_refl _) (by unfold maxLen; omega) rfl
                have HRD : Hid (RdC (w13.alloc (.cells #[] 30)) (.slice ha D hc) hs) := Lib.hid ((RdO.selfV (HH13.out.up hba)).rdC (Nat.le_refl _))
                have HFin : Hid (∀ (w1 : World) v', Row w1 w13.heap.size 30 v' (cvals ([] ++ hs)) → (w13.alloc (.cells #[] 30)).grownBy w1 (Value.slice (some ⟨w13.heap.size, 0, none⟩) 0 0).ownBlock →
                    Row w1 w13.heap.size 30 v' (cvals hs) ∧ Below w13.heap.size w13 w1) := Lib.hid fun w1 v' hown hgrow =>
                  ⟨hown, hba.grown hgrow (by simp) (fun b e => by simp [Value.ownBlock] at e; omega)⟩
                have hlen : ([] : List C).length + hs.length ≤ 1000000 := by rw [HHL.out]; simp; omega
                clear hba HH13
                go_wp2_with (at_builtin; refine wpList_app rfl _ _ rfl Try.underlying24 i0 hi hz0 hz1 hz2 w13.heap.size _ _ [] hs rfl rfl HLit.out HRD.out (by simp) hlen ?_; intro v' w1 hown' hgrow; have HE := Lib.hid (HFin.out _ _ hown' hgrow); clear hown' hgrow)
                clear HLit HRD HFin hlen
                go_loopw [24] (fun v wr => ∃ ls : List Go.Proofs.Ytocjhanehphibaa.C, Row wr w13.heap.size 30 v (cvals ls) ∧ Longer hs ls ∧ ls.length ≤ A ∧ Below w13.heap.size w13 wr) (fun v _ => A - lenV v)
                case atStart => exact ⟨hs, HE.out.1, Longer.refl _, by rw [HHL.out]; omega, HE.out.2⟩
                case round =>
                  clear HE
                  obtain ⟨ls, hrw, hlg, hla, hbw⟩ := hrel
                  obtain ⟨n, hn⟩ : ∃ n, ls.length = n := ⟨_, rfl⟩
                  rw [hn] at hla
                  obtain ⟨ea, ec, rfl⟩ := hrw.written (n := n) (by rw [cvals_length, hn])
                  have HRW := Lib.hid hrw
                  have HLG := Lib.hid hlg
                  have HBW := Lib.hid hbw
                  have HN := Lib.hid hn
                  have hsz : w13.heap.size ≤ wr.heap.size := hbw.size
                  clear hrw hlg hbw hn
                  by_cases hlt : n < A
                  · have hcl : (cvals ls).length = n := by rw [cvals_length, HN.out]
                    go_wp2_with (at_builtin; refine wpList_append_own _ rfl _ _ 24 rfl w13.heap.size 30 i0 (.complex .f64 0 0) 1 16 Try.underlying24 hi hz0 hz1 hz2 rfl (by decide) _ _ _ rfl (HRW.out.alloc _) ⟨_, 0, none⟩ 1 1 [.complex .f64 0 0] rfl rfl (cell_one_new _ _ _) (by intro u hu; simp at hu; subst hu; rfl) (by rw [hcl]; simp only [maxLen]; omega) (by rw [hcl]; omega) (by simp; omega) ?_)
                    intro v' w1 hown' hgrow _
                    have hlt' := (HRW.out.alloc (.cells #[.complex .f64 0 0] 30)).lt
                    have HB' : Hid (Below w13.heap.size w13 w1) := (HBW.out.alloc HBW.out.size _).grown hgrow (by simp; omega) (fun b e => (hlt' b e).1)
                    have HO' : Hid (Row w1 w13.heap.size 30 v' (cvals (ls ++ [(0, 0)]))) := by
                      show w1.ownsRow _ _ _ _ _ _
                      rw [cvals_snoc, List.length_append, hcl]
                      (try rw [hcl] at hown')
                      exact hown'
                    have hl2 : (ls ++ [((0, 0) : Go.Proofs.Ytocjhanehphibaa.C)]).length = n + 1 := by rw [List.length_append, HN.out]; rfl
                    have HL2 := Lib.hid hl2
                    obtain ⟨fa, fc, rfl⟩ := HO'.out.written (n := n + 1) (by rw [cvals_length]; exact hl2)
                    clear hown' hgrow hlt' HRW HBW hcl hl2
                    go_wp2
                    go_roundw
                    case rel => first | exact ⟨ls ++ [(0, 0)], HO'.out, HLG.out.snoc, by rw [HL2.out]; omega, HB'.out⟩ | ((repeat apply Exists.intro); refine ⟨?_, rfl⟩; exact ⟨ls ++ [(0, 0)], HO'.out, HLG.out.snoc, by rw [HL2.out]; omega, HB'.out⟩)
                    case measure => simp [lenV]; omega
                  · have e : A = n := by omega
                    subst e
                    have hb14 : Below w'.heap.size w' wr := below_step HB13.out HBW.out HB13.out.size
                    have HX14 := Lib.hid (HX13.out.up HBW.out)
                    have HD14 := Lib.hid (HD13.out.up HBW.out)
                    have HB14 := Lib.hid hb14
                    clear hb14 HX13 HD13 HB13
                    have K := Lib.hid (circle_impl xs ls _ _ A (by omega) (by omega) HXL.out HN.out HXP.out.wf (HLG.out.plain HHP.out).wf wr (RdO.selfV HX14.out) (RdO.selfV HRW.out))
                    go_wp2_with fail
                    with_reducible refine K.out.mono ?_
                    rintro e w15 ⟨v, rs, rfl, hr, hrl, hrs, hb⟩
                    obtain ⟨ra, rc, rfl⟩ := hr.written (n := A) (by rw [cvals_length, hrl])
                    obtain ⟨gr, rfl⟩ := row_some hr (by omega)
                    have hD15 := HD14.out.up hb
                    have hdc : ∀ k, k < T → w15.cell? ⟨gd, k, none⟩ = some (.complex .f64 (ds.getD k (0, 0)).1 (ds.getD k (0, 0)).2) := fun k hk => by
                      have := hD15.cellAt (j := k) hk
                      rwa [cvals_getD (by rw [HDL.out]; exact hk)] at this
                    have HEQ3 : Hid (∀ k, k < A → ∃ a b c d, w15.cell? ⟨gr, k, none⟩ = some (.complex .f64 a b) ∧ w15.cell? ⟨gd, k, none⟩ = some (.complex .f64 c d) ∧
                        ((k + A < T ∧ ∃ c' d', w15.cell? ⟨gd, k + A, none⟩ = some (.complex .f64 c' d') ∧ ∀ w w', eqC .f64 a b (fres .add .f64 c c' w) (fres .add .f64 d d' w') = true) ∨ (¬ k + A < T ∧ eqC .f64 a b c d = true))) := Lib.hid fun k hk => by
                      have c1 := hr.cellAt (j := k) hk
                      rw [cvals_getD (by rw [hrl]; exact hk)] at c1
                      obtain ⟨e1, e2⟩ := cv_circ_eq HXP.out HHP.out (HLG.out.plain HHP.out) (by rw [HXL.out]; omega) (by rw [HN.out, HXL.out]) (by rw [HHL.out, HXL.out]; omega) (by rw [HHL.out]; omega) (fun i _ => HLG.out.at_ i) (by rw [HXL.out]; exact hk) (by rw [HXL.out]; exact hrs k hk) (HDV.out k (by omega))
                      rw [HTL.out, HXL.out] at e1 e2
                      refine ⟨_, _, _, _, c1, hdc k (by omega), ?_⟩
                      by_cases hlt2 : k + A < T
                      · exact .inl ⟨hlt2, _, _, hdc _ hlt2, e1 _ hlt2 (HDV.out _ hlt2)⟩
                      · exact .inr ⟨hlt2, e2 (by omega)⟩
                    have HB15 := Lib.hid (below_step HB14.out hb HB14.out.size)
                    clear hr hrl hrs hb hD15 hdc HX14 HD14 HB14 HRW HBW HLG HN K HDV HXP HHP HXL HHL HTL HDL
                    go_wp2
                    go_loopw [27] (fun i wr => ∃ k n : Nat, i = .int .i64 k ∧ k ≤ A ∧ wr = w15.drewN n) (fun i _ => A - (intOf i).toNat)
                    case atStart => exact ⟨0, 0, rfl, Nat.zero_le _, rfl⟩
                    case round =>
                      obtain ⟨k, n, rfl, hk, hw⟩ := hrel
                      have HW := Lib.hid hw
                      by_cases hlt : k < A
                      · obtain ⟨P, hP⟩ : ∃ P, k + A = P := ⟨_, rfl⟩
                        have eP : (k : Int) + (A : Int) = (P : Int) := by omega
                        have hP2 : P ≤ 100 := by omega
                        have hkT : k < T := by omega
                        obtain ⟨a, b, c, d, c1, c2, hor⟩ := HEQ3.out k hlt
                        have c1' : wr.cell? ⟨gr, k, none⟩ = some (.complex .f64 a b) := by rw [hw]; exact c1
                        have c2' : wr.cell? ⟨gd, k, none⟩ = some (.complex .f64 c d) := by rw [hw]; exact c2
                        rw [hP] at hor
                        rcases hor with ⟨hlt2, c', d', c3, he⟩ | ⟨hlt2, he⟩
                        · have c3' : wr.cell? ⟨gd, P, none⟩ = some (.complex .f64 c' d') := by rw [hw]; exact c3
                          have g3 : decide (P < T) = true := decide_eq_true hlt2
                          clear hw c1 c2 c3 hP
                          go_wp2
                          go_roundw
                          case rel => exact ⟨k + 1, _, by go_num, by omega, by rw [HW.out, World.drewN_drewN]⟩
                          case measure => simp [intOf]; omega
                        · have g3 : decide (P < T) = false := decide_eq_false hlt2
                          clear hw c1 c2 hP
                          go_wp2
                          go_roundw
                          case rel => exact ⟨k + 1, n, by go_num, by omega, HW.out⟩
                          case measure => simp [intOf]; omega
                      · have e : A = k := by omega
                        subst e
                        clear hw
                        go_wp2
                        go_ret
                        exact ⟨rfl, by rw [HW.out]; exact below_draws HB15.out n⟩
    · have F1 := Lib.hid (f6big_t a1 len1 cap1 (by omega) (by omega))
      clear h0 h1
      go_enter Try.func3, Try.ntmps3
      go_wp2_with fail
      with_reducible refine (F0.out _).mono ?_
      rintro e w' ⟨rfl, rfl⟩
      go_wp2_with fail
      with_reducible refine (F1.out _).mono ?_
      rintro e w' ⟨rfl, rfl⟩
      go_wp2
      go_ret
      exact ⟨rfl, Below.refl _ _⟩
  · have F0 := Lib.hid (f6big_t a0 len0 cap0 (by omega) (by omega))
    clear h0 h1
    go_enter Try.func3, Try.ntmps3
    go_wp2_with fail
    with_reducible refine (F0.out _).mono ?_
    rintro e w' ⟨rfl, rfl⟩
    go_wp2
    go_ret
    exact ⟨rfl, Below.refl _ _⟩

end Go.Proofs.Ytocjhanehphibaa
