import Derived.Test.YtcoieclecmefiaaSigP
import Derived.Deep.CutRange
/-
  The walk of the law FnSignals.
-/
set_option linter.unusedVariables false
set_option linter.unusedSimpArgs false
namespace Go.Proofs.Ytcoieclecmefiaa
open Go.RowKit Flt Fast
attribute [local go_sem ↓] run_eqlC'
attribute [local go_sem] run_fadd run_fsub run_fmul run_fquo run_cadd run_csub

set_option maxRecDepth 100000 in
set_option maxHeartbeats 16000000 in
theorem fnSignals_law (a0 : Option Addr) (len0 cap0 : Nat) (z0 : List Int) (a1 : Option Addr) (len1 cap1 : Nat) (z1 : List Int) (w : World) (h0 : IsRow .u8 w a0 len0 cap0 z0) (h1 : IsRow .u8 w a1 len1 cap1 z1) :
    Calls Try.prog 3 #[.slice a0 len0 cap0, .slice a1 len1 cap1] w fun e w' => e = .returned (.bool true) ∧ Below w.heap.size w w' := by
  obtain ⟨i0, hi, hy0, hy1, hy2⟩ := info_parts info_c128
  by_cases hl0 : len0 ≤ 3000
  · by_cases hl1 : len1 ≤ 3000
    · go_enter Try.func3, Try.ntmps3
      go_wp2_with (first | (go_at_call 6; go_in))
      refine (a2Wild_any a0 len0 cap0 z0 12 (by omega) (by omega) w h0).mono ?_
      rintro e w1 ⟨v1, xs, rfl, hx, hxl, hxw, hb1⟩
      go_wp2_with fail
      refine (a2Wild_any a1 len1 cap1 z1 12 (by omega) (by omega) w1 (isRow_below h1 hb1)).mono ?_
      rintro e w2 ⟨v2, ys, rfl, hy, hyl, hyw, hb2⟩
      have hrx := hx.reads
      obtain ⟨ax, cx, rfl⟩ := hrx.form
      rw [cvals_length] at hrx hx ⊢
      obtain ⟨n, hn⟩ : ∃ n, xs.length = n := ⟨_, rfl⟩
      rw [hn] at hrx hx hxl ⊢
      have HRX := Lib.hid hrx
      have HXW := Lib.hid hxw
      have HN := Lib.hid hn
      have HB1 := Lib.hid hb1
      have hz1 := hb1.size
      have HY := Lib.hid hy
      have HYW := Lib.hid hyw
      have HB2 := Lib.hid hb2
      clear hx hrx hxw hb1 hy hyw hb2 h0 h1 hl0 hl1 hn
      go_wp2
      go_loopw [6] (fun v wr => ∃ (ys : List C), Row wr w1.heap.size 26 v (cvals ys) ∧ WfC ys ∧ ys.length ≤ 12 ∧ Below w1.heap.size w1 wr) (fun v _ => n - lenV v)
      case atStart => exact ⟨ys, HY.out, HYW.out, hyl, HB2.out⟩
      case round =>
        clear HY HYW HB2 hyl
        obtain ⟨ys, hy, hyw, hyl, hbr⟩ := hrel
        have hyr := hy.reads
        obtain ⟨ay, cy, rfl⟩ := hyr.form
        obtain ⟨m, hm⟩ : ∃ m, ys.length = m := ⟨_, rfl⟩
        have hxm : (cvals ys).length = m := by rw [cvals_length, hm]
        rw [hxm] at hyr hy ⊢
        rw [hm] at hyl
        have HYL := Lib.hid hm
        have HY := Lib.hid hy
        have HYR := Lib.hid hyr
        have HYW := Lib.hid hyw
        have HBR := Lib.hid hbr
        have hzr := hbr.size
        clear hy hyw hbr hyr hm
        by_cases hlt : m < n
        · go_wp2_with (at_builtin; refine wpList_append_own _ rfl _ _ 24 rfl w1.heap.size 26 i0 (.complex .f64 0 0) 1 16 Try.underlying24 hi hy0 hy1 hy2 rfl (by decide) _ _ _ rfl (HY.out.alloc _) ⟨_, 0, none⟩ 1 1 [.complex .f64 4607182418800017408 13830554455654793216] rfl rfl (cell_one_new _ _ _) (by intro u hu; simp at hu; subst hu; rfl) (by rw [hxm]; simp only [maxLen]; omega) (by rw [hxm]; omega) (by simp; omega) ?_)
          intro v' w3 hown' hgrow _
          have hlt' := (HY.out.alloc (.cells #[.complex .f64 4607182418800017408 13830554455654793216] 26)).lt
          have HB' : Hid (Below w1.heap.size w1 w3) := (HBR.out.alloc hzr _).grown hgrow (by simp; omega) (fun b e => (hlt' b e).1)
          have hr3 : Row w3 w1.heap.size 26 v' (cvals (ys ++ [(4607182418800017408, 13830554455654793216)])) := by
            show w3.ownsRow _ _ _ _ _ _
            rw [cvals_snoc, List.length_append]
            rw [hxm]
            exact hown'
          obtain ⟨a3, c3, rfl⟩ := hr3.reads.form
          have e3 : (cvals (ys ++ [((4607182418800017408, 13830554455654793216) : C)])).length = m + 1 := by rw [cvals_length, List.length_append, HYL.out]; rfl
          rw [e3] at hr3 ⊢
          have HR3 := Lib.hid hr3
          have HW3 := Lib.hid (wfC_snoc HYW.out (p := 4607182418800017408) (q := 13830554455654793216) (by omega) (by omega))
          clear hown' hgrow hlt' hr3 HYR HY HYW HBR e3
          go_wp2
          go_roundw
          case rel => first | exact ⟨_, HR3.out, HW3.out, by rw [List.length_append, HYL.out]; simp; omega, HB'.out⟩ | ((repeat apply Exists.intro); refine ⟨?_, rfl⟩; exact ⟨_, HR3.out, HW3.out, by rw [List.length_append, HYL.out]; simp; omega, HB'.out⟩)
          case measure => simp [lenV]; omega
        · go_upto_region 7 with fail
          go_cut [6] from 47 to 50 (fun v wx => wx = wr ∧ ∃ a c, v = .slice a n c ∧ Reads wr v (cvals (ys.take n)))
          case first =>
            have hyy := HY.out.2
            rcases hyy with ⟨e1, e2⟩ | ⟨g, cap, cur, e1, -, -, hnc, hcm, -⟩
            · have hn0 : n = 0 := by omega
              subst hn0
              simp only [Value.slice.injEq] at e1
              obtain ⟨rfl, rfl, rfl⟩ := e1
              go_wp2_with fail
              go_meet
              exact ⟨rfl, _, _, rfl, by rw [List.take_zero]; exact Reads.none _ _⟩
            · simp only [Value.slice.injEq] at e1
              obtain ⟨rfl, -, rfl⟩ := e1
              rw [hxm] at hnc
              have hmx := maxLen_int (Nat.le_trans hnc hcm)
              have HTK : Hid (Reads wr (.slice (some ⟨g, 0, none⟩) n cy) (cvals (ys.take n))) := readsTake (by rw [HYL.out]; exact HYR.out) (by rw [HYL.out]; omega)
              go_wp2_with fail
              go_meet
              exact ⟨rfl, _, _, rfl, HTK.out⟩
          case rest =>
            obtain ⟨rfl, ay', cy', rfl, hry⟩ := hcut
            have hyw' := HYW.out.take n
            have hyn : (ys.take n).length = n := by rw [List.length_take, HYL.out]; omega
            have HB := Lib.hid (HB1.out.trans (HBR.out.mono hz1))
            have RX := Lib.hid (HRX.out.below HBR.out)
            have RY := Lib.hid hry
            generalize ys.take n = ys at hyw' hyn RY
            have HYN := Lib.hid hyn
            have HYW' := Lib.hid hyw'
            have ZX : Hid (∀ i, i < xs.length → IsC (xs.getD i (0, 0)) (zOf (xs.getD i (0, 0)))) := fun i hi => isC_zOf (HXW.out _ (getD_memC hi))
            have ZY : Hid (∀ i, i < xs.length → IsC (ys.getD i (0, 0)) (zOf (ys.getD i (0, 0)))) := fun i hi => isC_zOf (HYW'.out _ (getD_memC (by rw [HYN.out, ← HN.out]; exact hi)))
            have hxs := HN.out
            clear HY HYR HYW HYL HBR hry hyw' hyn HRX HB1 hi hy0 hy1 hy2 hzr hxm hyl
            rw [hxs] at ZX ZY
            have S1 := addSignals_any RX.out RY.out (by rw [HYN.out, hxs]) (by omega) (fun i => zOf (xs.getD i (0, 0))) (fun i => zOf (ys.getD i (0, 0))) (by rw [hxs]; exact ZX.out) (by rw [hxs]; exact ZY.out)
            rw [hxs] at S1
            have HS := Lib.hid S1
            clear S1 hxs
            go_wp2_with fail
            refine HS.out.mono ?_
            rintro e w3 ⟨va, qa, rfl, ra, la, ga, hb3⟩
            replace HB := Lib.hid (below_step HB.out hb3 HB.out.size)
            replace RX := Lib.hid (RX.out.below hb3)
            replace RY := Lib.hid (RY.out.below hb3)
            have RA := Lib.hid ra.reads
            have LA := Lib.hid la
            have GA := Lib.hid ga
            clear ra la ga hb3 HS
            have S2 := addSignals_any RY.out RX.out (by rw [HYN.out, HN.out]) (by rw [HYN.out]; omega) (fun i => zOf (ys.getD i (0, 0))) (fun i => zOf (xs.getD i (0, 0))) (by rw [HYN.out]; exact ZY.out) (by rw [HYN.out]; exact ZX.out)
            rw [HYN.out] at S2
            have HS := Lib.hid S2
            clear S2 RY HYN HYW'
            go_wp2_with fail
            refine HS.out.mono ?_
            rintro e w4 ⟨vb, qb, rfl, rb, lb, gb, hb4⟩
            replace HB := Lib.hid (below_step HB.out hb4 HB.out.size)
            replace RX := Lib.hid (RX.out.below hb4)
            replace RA := Lib.hid (RA.out.below hb4)
            have RB := Lib.hid rb.reads
            have LB := Lib.hid lb
            have GB := Lib.hid gb
            clear rb lb gb hb4 HS
            have S3 := energy_any RX.out (by rw [HN.out]; omega) (fun i => zOf (xs.getD i (0, 0))) (by rw [HN.out]; exact ZX.out)
            rw [HN.out] at S3
            have HS := Lib.hid S3
            clear S3
            go_wp2_with fail
            refine HS.out.mono ?_
            rintro e w5 ⟨en, rfl, hen, hb5⟩
            replace HB := Lib.hid (below_step HB.out hb5 HB.out.size)
            replace RX := Lib.hid (RX.out.below hb5)
            replace RA := Lib.hid (RA.out.below hb5)
            replace RB := Lib.hid (RB.out.below hb5)
            have HEN := Lib.hid hen
            clear hen hb5 HS
            have S4 := dot_any RX.out RX.out rfl (by rw [HN.out]; omega) (fun i => zOf (xs.getD i (0, 0))) (fun i => zOf (xs.getD i (0, 0))) (by rw [HN.out]; exact ZX.out) (by rw [HN.out]; exact ZX.out)
            rw [HN.out] at S4
            have HS := Lib.hid S4
            clear S4
            go_wp2_with fail
            refine HS.out.mono ?_
            rintro e w6 ⟨dr, di, rfl, hd, hb6⟩
            replace HB := Lib.hid (below_step HB.out hb6 HB.out.size)
            replace RX := Lib.hid (RX.out.below hb6)
            replace RA := Lib.hid (RA.out.below hb6)
            replace RB := Lib.hid (RB.out.below hb6)
            have hself := dot_self (z := fun i => zOf (xs.getD i (0, 0))) (n := n) (fun i hi => ⟨(ZX.out i hi).re.wfO, (ZX.out i hi).im.wfO⟩)
            have HED : Hid (cn .f64 en = cn .f64 dr) := by
              show cn .f64 en = cn .f64 dr
              rw [HEN.out.cn, hd.re.cn, hself.1]
            have HDI : Hid (cn .f64 di = none ∨ cn .f64 di = some 0) := by
              show cn .f64 di = none ∨ cn .f64 di = some 0
              rw [hd.im.cn]; exact hself.2
            have HAB : Hid (∀ j, j < qa.length → ∃ z, IsC (qa.getD j (0, 0)) z ∧ IsC (qb.getD j (0, 0)) z) := fun j hj => ⟨_, GA.out j (by rw [← LA.out]; exact hj), by rw [addZ_comm]; exact GB.out j (by rw [← LA.out]; exact hj)⟩
            have HLL : Hid (qa.length = qb.length) := LA.out.trans LB.out.symm
            clear hd hb6 HS hself HEN GA GB ZY
            go_wp2_with fail
            refine (sameSignals_impl RA.out RB.out HLL.out HAB.out).mono ?_
            rintro e w7 ⟨rfl, hb7⟩
            replace HB := Lib.hid (below_step HB.out hb7 HB.out.size)
            replace RX := Lib.hid (RX.out.below hb7)
            replace RA := Lib.hid (RA.out.below hb7)
            replace RB := Lib.hid (RB.out.below hb7)
            clear hb7
            go_wp2_with fail
            refine (sameSignals_spec RA.out RB.out HLL.out HAB.out).mono ?_
            rintro e w8 ⟨rfl, n8, rfl⟩
            have RX8 := Lib.hid (RX.out.drewN n8)
            have HB8 := Lib.hid (below_draws HB.out n8)
            clear RX HB RA RB HLL HAB LA LB
            generalize w7.drewN n8 = w8 at *
            have RX := RX8
            have HB := HB8
            clear RX8 HB8
            go_wp2_with fail
            refine (sameNumber_cn en 0 dr 0 HED.out rfl _).mono ?_
            rintro e w' ⟨rfl, rfl⟩
            clear HED
            go_upto_region 15 with fail
            go_cut [117] from 111 to 117 (fun v wx => v = .bool false ∧ wx = w')
            case first =>
              rcases HDI.out with hn | hn
              · have ho : FloatKind.f64.format.order di di = none := ord_nan_l _ (nan_of_cn hn)
                clear hn HDI
                go_wp2_with fail
                go_meet
                exact ⟨rfl, rfl⟩
              · obtain ⟨-, rfl⟩ := num_of_cn hn
                have ho : FloatKind.f64.format.order 0 0 = some .eq := by decide +kernel
                clear hn HDI
                go_wp2_with fail
                go_meet
                exact ⟨rfl, rfl⟩
            case rest =>
              obtain ⟨rfl, rfl⟩ := hcut
              clear HDI
              have HS := Lib.hid (narrowSignal_any RX.out (by rw [HN.out]; omega))
              go_wp2_with fail
              refine HS.out.mono ?_
              rintro e w9 ⟨vn, qn, rfl, rn, ln, gn, hb9⟩
              replace HB := Lib.hid (below_step HB.out hb9 HB.out.size)
              replace RX := Lib.hid (RX.out.below hb9)
              have hrn := rn.reads
              obtain ⟨an, cn', rfl⟩ := hrn.form
              rw [nvals_length, ln, HN.out] at hrn ⊢
              rw [HN.out] at ln gn
              have RN := Lib.hid hrn
              have LN := Lib.hid ln
              have GN := Lib.hid gn
              clear rn ln gn hb9 HS hrn
              have HS := Lib.hid (widenSignal_any RN.out (by rw [LN.out]; omega))
              go_wp2_with fail
              refine HS.out.mono ?_
              rintro e w10 ⟨vw, qw, rfl, rw', lw, gw, hb10⟩
              replace HB := Lib.hid (below_step HB.out hb10 HB.out.size)
              replace RX := Lib.hid (RX.out.below hb10)
              replace RN := Lib.hid (RN.out.below hb10)
              have RW := Lib.hid rw'.reads
              rw [LN.out] at lw gw
              have LW := Lib.hid lw
              have GW := Lib.hid gw
              clear rw' lw gw hb10 HS
              have HS := Lib.hid (narrowSignal_any RW.out (by rw [LW.out]; omega))
              go_wp2_with fail
              refine HS.out.mono ?_
              rintro e w11 ⟨vm, qm, rfl, rm, lm, gm, hb11⟩
              replace HB := Lib.hid (below_step HB.out hb11 HB.out.size)
              replace RX := Lib.hid (RX.out.below hb11)
              replace RN := Lib.hid (RN.out.below hb11)
              have RM := Lib.hid rm.reads
              rw [LW.out] at lm gm
              have HNM : Hid (∀ j, j < qn.length → cn .f32 (qn.getD j (0, 0)).1 = cn .f32 (qm.getD j (0, 0)).1 ∧ cn .f32 (qn.getD j (0, 0)).2 = cn .f32 (qm.getD j (0, 0)).2) := fun j hj => by
                rw [LN.out] at hj
                have g1 := GN.out j hj
                have g2 := GW.out j hj
                have g3 := gm j hj
                exact ⟨narrow_again g1.1.lt g2.1.1 g3.1, narrow_again g1.2.lt g2.2.1 g3.2⟩
              have HLM : Hid (qn.length = qm.length) := LN.out.trans lm.symm
              clear rm lm gm hb11 HS RW LW GW GN
              go_wp2_with fail
              refine (sameNarrows_spec RN.out RM.out HLM.out HNM.out).mono ?_
              rintro e w12 ⟨rfl, n12, rfl⟩
              have RX8 := Lib.hid (RX.out.drewN n12)
              have HB8 := Lib.hid (below_draws HB.out n12)
              clear RX HB RN RM HLM HNM LN
              generalize w11.drewN n12 = w12 at *
              have RX := RX8
              have HB := HB8
              clear RX8 HB8
              go_wp2
              go_loopw [22, 23, 24] (fun b s i wr => ∃ (k p q m : Nat), i = .int .i64 k ∧ k ≤ n ∧ b = .bool (wN xs k) ∧ s = .complex .f64 p q ∧ IsC (p, q) (sumC (fun i => zOf (xs.getD i (0, 0))) k) ∧ wr = w12.drewN m) (fun _ _ i _ => n - (intOf i).toNat)
              case atStart => exact ⟨0, 0, 0, 0, rfl, Nat.zero_le _, rfl, rfl, ⟨IsF.lit (by decide) (by omega), IsF.lit (by decide) (by omega)⟩, rfl⟩
              case round =>
                obtain ⟨k, p, q, m', rfl, hk, rfl, rfl, hs, hw⟩ := hrel
                have HW := Lib.hid hw
                have HSM := Lib.hid hs
                clear hw hs
                by_cases hlt2 : k < n
                · obtain ⟨g, rfl, hc⟩ := readsAt RX.out k hlt2
                  have c1 : wr.cell? ⟨g, k, none⟩ = some (.complex .f64 (xs.getD k (0, 0)).1 (xs.getD k (0, 0)).2) := by rw [HW.out]; exact hc
                  have z1 := ZX.out k hlt2
                  have hwn : wN xs (k + 1) = (wN xs k && whole (xs.getD k (0, 0))) := rfl
                  obtain ⟨⟨a, b⟩, hab⟩ : ∃ u, xs.getD k (0, 0) = u := ⟨_, rfl⟩
                  rw [hab] at c1 z1 hwn
                  have HZ1 : Hid (IsC (a, b) (zOf (xs.getD k (0, 0)))) := by show IsC (a, b) (zOf (xs.getD k (0, 0))); rw [hab]; exact z1
                  obtain ⟨B, hB⟩ : ∃ B, wN xs k = B := ⟨_, rfl⟩
                  rw [hB] at hwn ⊢
                  have HWN := Lib.hid hwn
                  have hSM0 : k = 0 → IsC (a, b) (sumC (fun i => zOf (xs.getD i (0, 0))) (k + 1)) := fun e => by subst e; rw [sumC_one]; exact HZ1.out
                  have hSM1 : k ≠ 0 → ∀ p' q', IsF p' (fop .add .f64 (sumC (fun i => zOf (xs.getD i (0, 0))) k).1 (zOf (xs.getD k (0, 0))).1) → IsF q' (fop .add .f64 (sumC (fun i => zOf (xs.getD i (0, 0))) k).2 (zOf (xs.getD k (0, 0))).2) → IsC (p', q') (sumC (fun i => zOf (xs.getD i (0, 0))) (k + 1)) := fun e p' q' h1 h2 => by rw [sumC_succ _ e]; exact ⟨h1, h2⟩
                  have H0 := Lib.hid hSM0
                  have H1 := Lib.hid hSM1
                  clear hc z1 hab hB hwn hSM0 hSM1
                  by_cases hk0 : k = 0
                  · subst hk0
                    cases B
                    · go_wp2_with (go_at_call 17; refine (a2Whole_any a b _).mono ?_; rintro e w' ⟨rfl, rfl⟩)
                      go_roundw
                      case rel => exact ⟨1, _, _, _, by go_num, by omega, by rw [HWN.out]; rfl, rfl, H0.out (by simp), HW.out⟩
                      case measure => simp [intOf]; omega
                    · go_wp2_with (go_at_call 17; refine (a2Whole_any a b _).mono ?_; rintro e w' ⟨rfl, rfl⟩)
                      go_roundw
                      case rel => exact ⟨1, _, _, _, by go_num, by omega, by rw [HWN.out, Bool.true_and], rfl, H0.out (by simp), HW.out⟩
                      case measure => simp [intOf]; omega
                  · have hk1 : ((k : Int) == 0) = false := by simp; omega
                    cases B
                    · go_wp2_with (go_at_call 17; refine (a2Whole_any a b _).mono ?_; rintro e w' ⟨rfl, rfl⟩)
                      go_roundw
                      case rel => exact ⟨k + 1, _, _, _, by go_num, by omega, by rw [HWN.out]; rfl, rfl, H1.out hk0 _ _ (isF_fres HSM.out.re HZ1.out.re _) (isF_fres HSM.out.im HZ1.out.im _), by rw [HW.out, World.drewN_drewN]⟩
                      case measure => simp [intOf]; omega
                    · go_wp2_with (go_at_call 17; refine (a2Whole_any a b _).mono ?_; rintro e w' ⟨rfl, rfl⟩)
                      go_roundw
                      case rel => exact ⟨k + 1, _, _, _, by go_num, by omega, by rw [HWN.out, Bool.true_and], rfl, H1.out hk0 _ _ (isF_fres HSM.out.re HZ1.out.re _) (isF_fres HSM.out.im HZ1.out.im _), by rw [HW.out, World.drewN_drewN]⟩
                      case measure => simp [intOf]; omega
                · have e : k = n := by omega
                  subst e
                  have RX' : Hid (Reads wr (.slice ax k cx) (cvals xs)) := by show Reads wr _ _; rw [HW.out]; exact RX.out.drewN _
                  have HB' : Hid (Below w.heap.size w wr) := by show Below _ _ wr; rw [HW.out]; exact below_draws HB.out _
                  clear HW RX HB
                  have RX := RX'
                  have HB := HB'
                  clear RX' HB'
                  have S5 := sumOf_any RX.out (by rw [HN.out]; omega) (fun i => zOf (xs.getD i (0, 0))) (by rw [HN.out]; exact ZX.out)
                  rw [HN.out] at S5
                  have HS := Lib.hid S5
                  clear S5
                  go_wp2_with fail
                  refine HS.out.mono ?_
                  rintro e w13 ⟨sr, si, rfl, hss, hb13⟩
                  replace HB := Lib.hid (below_step HB.out hb13 HB.out.size)
                  replace RX := Lib.hid (RX.out.below hb13)
                  have HTS : Hid (cn .f64 sr = cn .f64 p ∧ cn .f64 si = cn .f64 q) := ⟨by rw [hss.re.cn, HSM.out.re.cn], by rw [hss.im.cn, HSM.out.im.cn]⟩
                  clear hss hb13 HS HSM
                  have S6 := isWithin_any RX.out (by rw [HN.out]; omega) HXW.out
                  rw [← wN_all, HN.out] at S6
                  have HS := Lib.hid S6
                  clear S6
                  go_wp2_with fail
                  refine HS.out.mono ?_
                  rintro e w14 ⟨rfl, n14, rfl⟩
                  have RX' := Lib.hid (RX.out.drewN n14)
                  have HB' := Lib.hid (below_draws HB.out n14)
                  clear RX HB HS
                  generalize w13.drewN n14 = w14 at *
                  have RX := RX'
                  have HB := HB'
                  clear RX' HB'
                  have S7 := scaleSignal_any RX.out (by rw [HN.out]; omega) (fun i => zOf (xs.getD i (0, 0))) (by rw [HN.out]; exact ZX.out) 0 4607182418800017408 (some 0, some 4607182418800017408) ⟨IsF.lit (by decide) (by omega), IsF.lit (by decide) (by omega)⟩
                  rw [HN.out] at S7
                  have HS := Lib.hid S7
                  clear S7
                  go_wp2_with fail
                  refine HS.out.mono ?_
                  rintro e w15 ⟨vs, qs, rfl, rs, ls, gs, hb15⟩
                  replace HB := Lib.hid (below_step HB.out hb15 HB.out.size)
                  replace RX := Lib.hid (RX.out.below hb15)
                  have hrs := rs.reads
                  obtain ⟨av, cs, rfl⟩ := hrs.form
                  rw [cvals_length, ls] at hrs ⊢
                  have RS := Lib.hid hrs
                  have GS := Lib.hid gs
                  clear rs ls gs hb15 HS hrs
                  obtain ⟨B, hB⟩ : ∃ B, wN xs k = B := ⟨_, rfl⟩
                  rw [hB]
                  have hBB : (B == B) = true := by simp
                  clear hB
                  go_wp2_with fail
                  refine (sameNumber_cn sr si p q HTS.out.1 HTS.out.2 _).mono ?_
                  rintro e w' ⟨rfl, rfl⟩
                  clear HTS
                  go_wp2
                  go_loopw [31] (fun i wr => ∃ (j m : Nat), i = .int .i64 j ∧ j ≤ k ∧ wr = w'.drewN m) (fun i _ => k - (intOf i).toNat)
                  case atStart => exact ⟨0, 0, rfl, Nat.zero_le _, rfl⟩
                  case round =>
                    obtain ⟨j, m2, rfl, hj, hw⟩ := hrel
                    have HW := Lib.hid hw
                    clear hw
                    by_cases hlt3 : j < k
                    · obtain ⟨g, rfl, hc⟩ := readsAt RX.out j hlt3
                      obtain ⟨g2, rfl, hc2⟩ := readsAt RS.out j hlt3
                      have c1 : wr.cell? ⟨g, j, none⟩ = some (.complex .f64 (xs.getD j (0, 0)).1 (xs.getD j (0, 0)).2) := by rw [HW.out]; exact hc
                      have c2 : wr.cell? ⟨g2, j, none⟩ = some (.complex .f64 (qs.getD j (0, 0)).1 (qs.getD j (0, 0)).2) := by rw [HW.out]; exact hc2
                      have z1 := ZX.out j hlt3
                      have z2 := GS.out j hlt3
                      obtain ⟨z, hz⟩ : ∃ z, zOf (xs.getD j (0, 0)) = z := ⟨_, rfl⟩
                      rw [hz] at z1 z2
                      obtain ⟨⟨a, b⟩, hab⟩ : ∃ u, xs.getD j (0, 0) = u := ⟨_, rfl⟩
                      obtain ⟨⟨c, d⟩, hcd⟩ : ∃ u, qs.getD j (0, 0) = u := ⟨_, rfl⟩
                      rw [hab] at c1 z1
                      rw [hcd] at c2 z2
                      have HZ1 := Lib.hid z1
                      have HZ2 := Lib.hid z2
                      have HK : Hid (∃ n, wr = w'.drewN n) := ⟨_, HW.out⟩
                      clear hc hc2 z1 z2 hz hab hcd HW
                      go_wp2
                      go_cut [241] from 231 to 241 (fun v wx => v = .bool false ∧ ∃ n, wx = w'.drewN n)
                      case first =>
                        go_region_with (first
                          | (go_at_call 21; refine (product_spec a b 0 4607182418800017408 z (some 0, some 4607182418800017408) HZ1.out ⟨IsF.lit (by decide) (by omega), IsF.lit (by decide) (by omega)⟩ _).mono ?_; rintro e wx ⟨p2, q2, rfl, hp2, hq2, nx, rfl⟩; have HP := Lib.hid (And.intro hp2 hq2); clear hp2 hq2)
                          | (go_at_call 13; refine (sameNumber_cn c d p2 q2 (by rw [HZ2.out.re.cn, HP.out.1.cn]) (by rw [HZ2.out.im.cn, HP.out.2.cn]) _).mono ?_; rintro e wx ⟨rfl, rfl⟩))
                        all_goals
                          clear c1 c2
                          go_wp2_with fail
                          go_meet
                          obtain ⟨nk, hk⟩ := HK.out
                          exact ⟨rfl, _, by rw [hk, World.drewN_drewN]⟩
                      case rest =>
                        obtain ⟨rfl, m3, rfl⟩ := hcut
                        clear c1 c2 HK
                        go_wp2
                        go_roundw
                        case rel => first | exact ⟨j + 1, m3, by go_num, by omega, rfl⟩ | ((repeat apply Exists.intro); refine ⟨?_, rfl⟩; exact ⟨j + 1, m3, by go_num, by omega, rfl⟩)
                        case measure => simp [intOf]; omega
                    · have e : j = k := by omega
                      subst e
                      have HB2 : Hid (Below w.heap.size w wr) := by show Below _ _ wr; rw [HW.out]; exact below_draws HB.out _
                      clear HW HB
                      go_wp2
                      go_ret
                      exact ⟨rfl, HB2.out⟩
    · have hg : 3000 < len1 := by omega
      clear hl1
      go_enter Try.func3, Try.ntmps3
      go_wp2
      go_ret
      exact ⟨rfl, Below.refl _ _⟩
  · have hg : 3000 < len0 := by omega
    clear hl0
    go_enter Try.func3, Try.ntmps3
    go_wp2
    go_ret
    exact ⟨rfl, Below.refl _ _⟩
end Go.Proofs.Ytcoieclecmefiaa
