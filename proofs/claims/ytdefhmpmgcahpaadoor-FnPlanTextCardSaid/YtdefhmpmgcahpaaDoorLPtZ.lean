import Derived.Test.YtdefhmpmgcahpaaDoorMPlanTeL7
import Derived.Test.YtdefhmpmgcahpaaDoorMPlanTeL12
import Derived.Test.YtdefhmpmgcahpaaDoorMPlanTeL1
import Derived.Deep.RegionLaw
import Derived.Deep.RegionHeld3
/-
  The law FnPlanText.
-/
set_option linter.unusedVariables false
set_option linter.unusedSimpArgs false
namespace Go.Proofs.YtdefhmpmgcahpaaDoor
open Go.RowKit Flt

theorem last_place {M : Nat} (h : M ≤ 4000) : IntKind.i64.wrap (((M + 1 : Nat) : Int) - 1) = (M : Int) ∧ IntKind.i64.wrap ((M : Int) + 1 - 1) = (M : Int) ∧ wrap64 (M : Int) = (M : Int) ∧ (0 : Int) ≤ (M : Int) ∧ (M : Int) ≤ (M : Int) + 1 ∧ ¬ (M : Int) + 1 = 0 := by
  refine ⟨?_, ?_, IntWalk.wrap64_in _ (by omega), by omega, by omega, by omega⟩
  · rw [IntWalk.i64_in _ (by omega)]; omega
  · rw [IntWalk.i64_in _ (by omega)]; omega

set_option maxRecDepth 100000 in
set_option maxHeartbeats 16000000 in
theorem fnPlanText_law (a0 : Option Addr) (len0 cap0 : Nat) (z0 : List Int) (a1 : Option Addr) (len1 cap1 : Nat) (z1 : List Int) (w : World) (h0 : IsRow .u8 w a0 len0 cap0 z0) (h1 : IsRow .u8 w a1 len1 cap1 z1) (hG : GloS w) :
    Calls Tryd.prog 3 #[.slice a0 len0 cap0, .slice a1 len1 cap1] w fun e w' => e = .returned (.bool true) ∧ Below w.heap.size w w' := by
  by_cases hl0 : len0 ≤ 3000
  · by_cases hl1 : len1 ≤ 3000
    · have PL := Lib.hid (a2Plan_any a0 len0 cap0 z0 w h0)
      have HG := Lib.hid hG
      clear h0 h1 hG
      go_enter Tryd.func3, Tryd.ntmps3
      go_wp2_with (first | (go_at_call 7; go_in))
      refine PL.out.mono ?_
      rintro e w1 ⟨ss, V, tv, hv, rfl, hS, hb1⟩
      obtain ⟨va, vc, rfl⟩ := hS.form
      obtain ⟨L, hL⟩ : ∃ L, ss.length = L := ⟨_, rfl⟩
      have HV := Lib.hid hv
      have hb1a : Below w1.heap.size w1 (w1.alloc (.cells #[.slice va L vc] 26)) := (Below.refl _ _).alloc (Nat.le_refl _) _
      obtain ⟨W1, hW1⟩ : ∃ W, W = w1.alloc (.cells #[.slice va L vc] 26) := ⟨_, rfl⟩
      have hlt1 : w1.heap.size < W1.heap.size := by rw [hW1]; simp
      have c1 : W1.cell? ⟨w1.heap.size, 0, none⟩ = some (.slice va L vc) := by rw [hW1]; go_simp
      rw [← hW1] at hb1a
      have hbw : Below w.heap.size w W1 := below_step' hb1 hb1a hb1.size
      rw [hL] at hS ⊢
      have HP : Hid (∀ W, Below W1.heap.size W1 W → W.cell? ⟨w1.heap.size, 0, none⟩ = some (.slice va L vc) ∧ StepsO W w.heap.size (.slice va L vc) L L ss tv ∧ GloS W ∧ Below w.heap.size w W) := fun W hb =>
        ⟨(hb.cell (by exact hlt1)).trans c1, (hS.below hb1a (Nat.le_refl _)).below hb (Nat.le_refl _), HG.out.below (below_step' hbw hb hbw.size), below_step' hbw hb hbw.size⟩
      have HW1 := Lib.hid hW1.symm
      have HLL := Lib.hid hL
      have hL8 : L ≤ 8 := by rw [← hL]; exact validPl_len8 hv
      have PT := Lib.hid (planText_impl (w := W1) (B := w.heap.size) (V := .slice va L vc) (ss := ss) (tv := tv) (by rw [hL]; exact (HP.out W1 (Below.refl _ _)).2.1) (HP.out W1 (Below.refl _ _)).2.2.1.tab (HP.out W1 (Below.refl _ _)).2.2.1.pow)
      clear hS hb1 hb1a hW1 hbw hL hv PL
      go_wp2_with fail
      rw [HW1.out]
      refine PT.out.mono ?_
      rintro e w2 ⟨rfl, hb2⟩
      have HB2 := Lib.hid hb2
      have RP := Lib.hid (readPlan_impl (plText ss) (by have := pl_len HV.out; omega) w2 (HP.out w2 hb2).2.2.1)
      obtain ⟨T, hT⟩ : ∃ T, strOf (plText ss) = T := ⟨_, rfl⟩
      have HT := Lib.hid hT
      rw [hT] at RP ⊢
      clear hb2 hT c1 PT
      go_wp2_with fail
      refine RP.out.mono ?_
      rintro e w3 ⟨Z, cd, V3, tv3, hr, rfl, hS3, hb3⟩
      obtain ⟨rfl, rfl⟩ := (pl_reads HV.out).unique hr
      obtain ⟨v3, c3, rfl⟩ := hS3.form
      rw [HLL.out] at hS3 ⊢
      have hb3a : Below w3.heap.size w3 (w3.alloc (.cells #[.slice v3 L c3] 26)) := (Below.refl _ _).alloc (Nat.le_refl _) _
      obtain ⟨W4, hW4⟩ : ∃ W, W = w3.alloc (.cells #[.slice v3 L c3] 26) := ⟨_, rfl⟩
      have hlt4 : w3.heap.size < W4.heap.size := by rw [hW4]; simp
      have c4 : W4.cell? ⟨w3.heap.size, 0, none⟩ = some (.slice v3 L c3) := by rw [hW4]; go_simp
      rw [← hW4] at hb3a
      have hb14 : Below W1.heap.size W1 W4 := below_step' HB2.out (below_step' hb3 hb3a hb3.size) HB2.out.size
      have HQ : Hid (∀ W, Below W4.heap.size W4 W → (W.cell? ⟨w1.heap.size, 0, none⟩ = some (.slice va L vc) ∧ W.cell? ⟨w3.heap.size, 0, none⟩ = some (.slice v3 L c3)) ∧ StepsO W w.heap.size (.slice va L vc) L L ss tv ∧ StepsO W w2.heap.size (.slice v3 L c3) L L ss tv3 ∧ GloS W ∧ Below w.heap.size w W) := fun W hb => by
        obtain ⟨q0, q1, q2, q3⟩ := HP.out W (below_step' hb14 hb hb14.size)
        exact ⟨⟨q0, (hb.cell (by exact hlt4)).trans c4⟩, q1, (hS3.below hb3a (Nat.le_refl _)).below hb (Nat.le_refl _), q2, q3⟩
      have HW4 := Lib.hid hW4.symm
      have VP := Lib.hid (fun W hb => validPlan_impl (w := W) (B := w2.heap.size) (V := .slice v3 L c3) (ss := ss) (tv := tv3) (by rw [HLL.out]; exact (HQ.out W hb).2.2.1) (HQ.out W hb).2.2.2.1.tab)
      have SS := Lib.hid (fun W hb => samePlan_spec (w := W) (B := w.heap.size) (B' := w2.heap.size) (V := .slice va L vc) (V' := .slice v3 L c3) (ss := ss) (rs := ss) (tv := tv) (tv' := tv3) (by rw [HLL.out]; exact (HQ.out W hb).2.1) (by rw [HLL.out]; exact (HQ.out W hb).2.2.1))
      have SI := Lib.hid (fun W hb => samePlan_impl (w := W) (B := w2.heap.size) (B' := w.heap.size) (V := .slice v3 L c3) (V' := .slice va L vc) (ss := ss) (rs := ss) (tv := tv3) (tv' := tv) (by rw [HLL.out]; exact (HQ.out W hb).2.2.1) (by rw [HLL.out]; exact (HQ.out W hb).2.1))
      rw [HV.out] at VP
      rw [samePl_self] at SS SI
      obtain ⟨⟨p0, p1⟩, -⟩ := HQ.out W4 (Below.refl _ _)
      have k0 : (w3.alloc (.cells #[.slice v3 L c3] 26)).cell? ⟨w3.heap.size, 0, none⟩ = some (.slice v3 L c3) := by rw [← hW4]; exact p1
      clear hr hS3 hb3 hb3a hW4 hb14 hlt4 c4 RP
      go_wp2_with fail
      rw [HW4.out]
      clear k0
      refine (VP.out W4 (Below.refl _ _)).mono ?_
      rintro e w5 ⟨rfl, hb5⟩
      obtain ⟨⟨p0, p1⟩, -⟩ := HQ.out w5 hb5
      have HB5 := Lib.hid hb5
      clear hb5
      go_wp2_with fail
      refine (SS.out w5 HB5.out).mono ?_
      rintro e w6 ⟨rfl, hb6⟩
      have HB6 := Lib.hid (below_step' HB5.out hb6 HB5.out.size)
      obtain ⟨⟨p0, p1⟩, -⟩ := HQ.out w6 HB6.out
      clear hb6
      go_wp2_with fail
      refine (SI.out w6 HB6.out).mono ?_
      rintro e w7 ⟨rfl, hb7⟩
      have HB7 := Lib.hid (below_step' HB6.out hb7 HB6.out.size)
      clear hb7 VP SS SI HB5 HB6 p0 p1
      go_wp2_with fail
      go_loopw [9] (fun i wr => ∃ k : Nat, i = .int .i64 k ∧ k ≤ L ∧ Below W4.heap.size W4 wr) (fun i _ => L - (intOf i).toNat)
      case atStart => exact ⟨0, rfl, Nat.zero_le _, HB7.out⟩
      case round =>
        clear HB7
        obtain ⟨k, rfl, hk, hB⟩ := hrel
        obtain ⟨⟨p0, p1⟩, hS, -, -⟩ := HQ.out wr hB
        have HB := Lib.hid hB
        clear p1 hB
        by_cases hlt : k < L
        · have g1 : decide ((k : Int) < (L : Int)) = true := decide_eq_true (by omega)
          have g1' : decide (k < L) = true := decide_eq_true hlt
          have g2 : (k : Int) < (L : Int) := by omega
          have g2' : k < L := hlt
          obtain ⟨g, cp, ta, tc, e, hc1, hc2, -, -, d0, d1, d2, d3, hrw⟩ := hS.at hlt (Nat.le_refl _)
          simp only [Value.slice.injEq] at e
          obtain ⟨rfl, -, rfl⟩ := e
          have HK := Lib.hid (And.intro hlt (And.intro hc1 hc2))
          have hvS : validSt (ss.getD k default) = true := validPl_each HV.out _ (by
            rw [List.getD_eq_getElem?_getD, List.getElem?_eq_getElem (by rw [HLL.out]; exact hlt)]
            exact List.getElem_mem _)
          obtain ⟨S, hSd⟩ : ∃ S, ss.getD k default = S := ⟨_, rfl⟩
          have HSD := Lib.hid hSd
          rw [hSd] at d0 d1 d2 d3 hrw hvS
          have HVS := Lib.hid hvS
          -- the step in the plan, in all worlds above
          have HD : Hid (∀ W, Below wr.heap.size wr W → (W.cell? ⟨w1.heap.size, 0, none⟩ = some (.slice (some ⟨g, 0, none⟩) L vc) ∧ StepAt W g (k * 4) S.kind S.n S.k ta S.taps.length tc) ∧ Reads W (.slice ta S.taps.length tc) (ints S.taps) ∧ GloS W) := fun W hb => by
            obtain ⟨⟨q0, -⟩, -, -, qg, -⟩ := HQ.out W (below_step' HB.out hb HB.out.size)
            exact ⟨⟨q0, StepAt.below ⟨d0, d1, d2, d3⟩ hb⟩, hrw.reads.keep hb, qg⟩
          have TX := Lib.hid (stepText_impl S ta tc wr (HD.out wr (Below.refl _ _)).2.2.tab (HD.out wr (Below.refl _ _)).2.2.pow (HD.out wr (Below.refl _ _)).2.1)
          have hlen := st_len S
          obtain ⟨T1, hT1⟩ : ∃ x, strOf (stText S) = x := ⟨_, rfl⟩
          obtain ⟨T2, hT2⟩ : ∃ x, strOf (stText S ++ [32]) = x := ⟨_, rfl⟩
          have RS1 := Lib.hid (fun W (hb : Below wr.heap.size wr W) => readStep_impl (stText S) (by omega) W (HD.out W hb).2.2)
          have RS2 := Lib.hid (fun W (hb : Below wr.heap.size wr W) => readStep_impl (stText S ++ [32]) (by rw [List.length_append]; have : ([32] : List UInt8).length = 1 := rfl; omega) W (HD.out W hb).2.2)
          have hadd : ∀ W : World, (Op.stringOp .add T1 ⟨#[32]⟩).run Tryd.prog W = .ok (.string T2) W := fun W => by
            rw [← hT1, ← hT2]
            exact str_add _ [32] (by have : ([32] : List UInt8).length = 1 := rfl; omega) W
          rw [hT1] at TX RS1
          rw [hT2] at RS2
          obtain ⟨KD, hKD⟩ : ∃ x, S.kind = x := ⟨_, rfl⟩
          obtain ⟨SN, hSN⟩ : ∃ x, S.n = x := ⟨_, rfl⟩
          obtain ⟨SK, hSK⟩ : ∃ x, S.k = x := ⟨_, rfl⟩
          obtain ⟨TT, hTT⟩ : ∃ x, S.taps.length = x := ⟨_, rfl⟩
          have HKD := Lib.hid (And.intro hKD (And.intro hSN (And.intro hSK hTT)))
          rw [hKD, hSN, hSK, hTT] at TX
          rw [hKD] at d0
          rw [hSN] at d1
          rw [hSK] at d2
          rw [hTT] at d3
          clear hS hSd hvS hlen hT1 hT2 hrw hc1 hc2 hKD hSN hSK hTT hlt
          go_wp2_with fail
          refine TX.out.mono ?_
          rintro e w8 ⟨rfl, hb8⟩
          have HB8 := Lib.hid hb8
          clear hb8 TX p0 d0 d1 d2 d3
          go_wp2_with fail
          refine (RS1.out w8 HB8.out).mono ?_
          rintro e w9 ⟨r, v, tv9, hr, rfl, ⟨rfl, hrow9⟩, hb9⟩
          obtain rfl := (reads_self HVS.out).unique hr
          obtain ⟨t9, c9, rfl⟩ := hrow9.form
          dsimp only [stR, rdC] at hrow9 ⊢
          rw [ints_length] at hrow9 ⊢
          obtain ⟨hKD, hSN, hSK, hTT⟩ := HKD.out
          rw [hKD, hSN, hSK, hTT]
          rw [hTT] at hrow9
          have HB9 := Lib.hid (below_step' HB8.out hb9 HB8.out.size)
          have HR9 := Lib.hid hrow9
          obtain ⟨W9, hW9⟩ : ∃ W, W = w9.alloc (.cells #[.int .i64 KD, .int .i64 SN, .int .i64 SK, .slice t9 TT c9] 36) := ⟨_, rfl⟩
          have hb9a : Below w9.heap.size w9 W9 := by rw [hW9]; exact (Below.refl _ _).alloc (Nat.le_refl _) _
          have HBA := Lib.hid (below_step' HB9.out hb9a HB9.out.size)
          have hlt9 : w9.heap.size < W9.heap.size := by rw [hW9]; simp
          have HC9 : Hid (∀ W, Below W9.heap.size W9 W → (W.cell? ⟨w9.heap.size, 0, none⟩ = some (.int .i64 KD) ∧ W.cell? ⟨w9.heap.size, 1, none⟩ = some (.int .i64 SN) ∧ W.cell? ⟨w9.heap.size, 2, none⟩ = some (.int .i64 SK) ∧ W.cell? ⟨w9.heap.size, 3, none⟩ = some (.slice t9 TT c9)) ∧ Reads W (.slice t9 TT c9) (ints S.taps)) := fun W hb => by
            refine ⟨⟨(hb.cell (by exact hlt9)).trans (by rw [hW9]; go_simp), (hb.cell (by exact hlt9)).trans (by rw [hW9]; go_simp), (hb.cell (by exact hlt9)).trans (by rw [hW9]; go_simp), (hb.cell (by exact hlt9)).trans (by rw [hW9]; go_simp)⟩, ?_⟩
            exact (HR9.out.reads.keep hb9a).keep hb
          have HW9 := Lib.hid hW9.symm
          have HLA := Lib.hid hlt9
          clear hr hrow9 hb9 hW9 hb9a hKD hSN hSK hTT RS1 hlt9
          go_wp2_with fail
          rw [HW9.out]
          refine (RS2.out W9 HBA.out).mono ?_
          rintro e wB ⟨r, v, tvB, hr, rfl, ⟨rfl, hrowB⟩, hbB⟩
          obtain rfl := (reads_space HVS.out).unique hr
          obtain ⟨tB, cB, rfl⟩ := hrowB.form
          dsimp only [stR, rdC] at hrowB ⊢
          rw [ints_length, List.length_nil]
          have hbBa : Below W9.heap.size W9 (wB.alloc (.cells #[.int .i64 0, .int .i64 0, .int .i64 0, .slice tB 0 cB] 36)) := hbB.alloc hbB.size _
          obtain ⟨WB, hWB⟩ : ∃ W, wB.alloc (.cells #[.int .i64 0, .int .i64 0, .int .i64 0, .slice tB 0 cB] 36) = W := ⟨_, rfl⟩
          rw [hWB] at hbBa
          have HBB := Lib.hid hbBa
          have HWB := Lib.hid hWB
          clear hr hrowB hbB hbBa hWB RS2 hadd
          go_upto_region 14 with fail
          rw [HWB.out]
          obtain ⟨⟨x0, x1, x2, x3⟩, hx⟩ := HC9.out WB.drew (below_draws HBB.out 1)
          obtain ⟨⟨y0, -⟩, -, yg⟩ := HD.out WB.drew (below_step' HBA.out (below_draws HBB.out 1) HBA.out.size)
          have VS := Lib.hid (validStep_impl S t9 c9 WB.drew yg.tab (by rw [HKD.out.2.2.2]; exact hx))
          rw [HKD.out.1, HKD.out.2.1, HKD.out.2.2.1, HKD.out.2.2.2, HVS.out] at VS
          obtain ⟨hkL, hk1, hk2⟩ := HK.out
          obtain ⟨k1, hk1e⟩ : ∃ k1, k + 1 = k1 := ⟨_, rfl⟩
          have e1 : IntKind.i64.wrap ((k : Int) + 1) = (k1 : Int) := by rw [IntWalk.i64_in _ (by omega)]; omega
          have s0 : (0 : Int) ≤ (k : Int) := by omega
          have s1 : (k : Int) ≤ (k1 : Int) := by omega
          have s2 : (k1 : Int) ≤ (vc : Int) := by omega
          have s3 : (vc : Int) ≤ 9223372036854775807 := by unfold maxLen at hk2; omega
          have s4 : k1 - k = 1 := by omega
          have s5 : k ≤ k1 := by omega
          have s6 : k1 ≤ vc := by omega
          have HS7 := Lib.hid (show ¬ vc = k by omega)
          have HE1 := Lib.hid hk1e
          have SP : Hid (∀ wC, Below WB.drew.heap.size WB.drew wC → ∀ (c c' : Nat), Calls Tryd.prog 12 #[.agg #[.slice (some ⟨wC.heap.size, 0, none⟩) 1 c], .agg #[.slice (some ⟨g, k * 4, none⟩) 1 c']] (wC.alloc (.cells #[.int .i64 KD, .int .i64 SN, .int .i64 SK, .slice t9 TT c9] 36)) fun e w' => e = .returned (.bool true) ∧ Below (wC.alloc (.cells #[.int .i64 KD, .int .i64 SN, .int .i64 SK, .slice t9 TT c9] 36)).heap.size (wC.alloc (.cells #[.int .i64 KD, .int .i64 SN, .int .i64 SK, .slice t9 TT c9] 36)) w') := fun wC hbC c c' => by
            have hba : Below wC.heap.size wC (wC.alloc (.cells #[.int .i64 KD, .int .i64 SN, .int .i64 SK, .slice t9 TT c9] 36)) := (Below.refl _ _).alloc (Nat.le_refl _) _
            have hbd := below_step' (below_step' (below_draws HBB.out 1) hbC (below_draws HBB.out 1).size) hba (Nat.le_trans (below_draws HBB.out 1).size hbC.size)
            have hx := (HC9.out _ hbd).2
            obtain ⟨⟨-, hy⟩, hyr, -⟩ := HD.out _ (below_step' HBA.out hbd HBA.out.size)
            obtain ⟨hKD, hSN, hSK, hTT⟩ := HKD.out
            subst hKD hSN hSK hTT
            exact samePlan_one S wC.heap.size 0 g (k * 4) c c' t9 ta c9 tc _ ⟨by go_simp, by go_simp, by go_simp, by go_simp⟩ hy hx hyr
          have HAB : Hid (∀ wC, Below WB.drew.heap.size WB.drew wC → (wC.cell? ⟨w9.heap.size, 0, none⟩ = some (.int .i64 KD) ∧ wC.cell? ⟨w9.heap.size, 1, none⟩ = some (.int .i64 SN) ∧ wC.cell? ⟨w9.heap.size, 2, none⟩ = some (.int .i64 SK) ∧ wC.cell? ⟨w9.heap.size, 3, none⟩ = some (.slice t9 TT c9)) ∧ wC.cell? ⟨w1.heap.size, 0, none⟩ = some (.slice (some ⟨g, 0, none⟩) L vc) ∧ Below W4.heap.size W4 wC) := fun wC hbC => by
            have hbd := below_step' (below_draws HBB.out 1) hbC (below_draws HBB.out 1).size
            refine ⟨(HC9.out _ hbd).1, (HD.out _ (below_step' HBA.out hbd HBA.out.size)).1.1, ?_⟩
            have hba := below_step' HBA.out hbd HBA.out.size
            exact below_step' HB.out hba HB.out.size
          have HS0 := Lib.hid (And.intro (And.intro x0 (And.intro x1 (And.intro x2 x3))) y0)
          clear hx yg hk1e hkL hk1 hk2
          go_region_held3 (fun w' => (w'.cell? ⟨w9.heap.size, 0, none⟩ = some (.int .i64 KD) ∧ w'.cell? ⟨w9.heap.size, 1, none⟩ = some (.int .i64 SN) ∧ w'.cell? ⟨w9.heap.size, 2, none⟩ = some (.int .i64 SK) ∧ w'.cell? ⟨w9.heap.size, 3, none⟩ = some (.slice t9 TT c9)) ∧ w'.cell? ⟨w1.heap.size, 0, none⟩ = some (.slice (some ⟨g, 0, none⟩) L vc))
            (first
              | with_reducible exact HS0.out
              | with_reducible exact HS1.out
              | with_reducible exact HS2.out _
              | with_reducible exact HS3.out
              | go_keep)
            (first
              | (go_at_call 16; with_reducible refine VS.out.mono ?_; rintro e wC ⟨rfl, hbC⟩; have HBC := Lib.hid hbC; have HS1 := Lib.hid (And.intro (HAB.out _ hbC).1 (HAB.out _ hbC).2.1); have HS2 := Lib.hid (fun o : Obj => And.intro (HAB.out _ (hbC.alloc hbC.size o)).1 (HAB.out _ (hbC.alloc hbC.size o)).2.1); have SPC := Lib.hid (SP.out wC hbC); clear hbC)
              | (go_at_call 12; (try rw [if_neg HS7.out]); with_reducible refine (SPC.out _ _).mono ?_; rintro e wD ⟨rfl, hbD⟩; have hbE := below_step' (HBC.out.alloc HBC.out.size _) hbD (HBC.out.alloc HBC.out.size _).size; have HBD := Lib.hid hbE; have HS3 := Lib.hid (And.intro (HAB.out _ hbE).1 (HAB.out _ hbE).2.1); clear hbD hbE)
              | fail)
          all_goals
            go_wp2
            go_roundw
            case rel => exact ⟨k1, rfl, by have := HE1.out; have := HK.out.1; omega, (HAB.out _ HBD.out).2.2⟩
            case measure => have := HE1.out; have := HK.out.1; simp [intOf]; omega
        · obtain rfl : k = L := by omega
          have g1 : decide ((k : Int) < (k : Int)) = false := decide_eq_false (by omega)
          have g1' : decide (k < k) = false := decide_eq_false (by omega)
          have HBW := Lib.hid (HQ.out wr HB.out).2.2.2.2
          have hlen := pl_len HV.out
          have hTs : T.size = (plText ss).length := by rw [← HT.out]; rfl
          by_cases hne : plText ss = []
          · have hk0 : k = 0 := by rw [← HLL.out, pl_empty HV.out hne]; rfl
            rw [hne] at hTs
            have hTs0 : T.size = 0 := hTs
            subst hk0
            clear hS hTs hlen hne
            go_wp2
            go_ret
            exact ⟨rfl, HBW.out⟩
          · obtain ⟨t, ht⟩ := pl_last HV.out hne
            have HSH := Lib.hid (pl_short HV.out ht)
            obtain ⟨M, hM⟩ : ∃ M, t.length = M := ⟨_, rfl⟩
            have hTs1 : T.size = M + 1 := by rw [hTs, ht, List.length_append, hM]; rfl
            have hM4 : M ≤ 4000 := by rw [ht, List.length_append, hM] at hlen; omega
            have hx : T.extract 0 M = strOf t := by
              have h := (ext_app t [10]).1
              rw [hM, ← ht, HT.out] at h
              exact h
            have RP := Lib.hid (readPlan_impl t (by omega) wr (HQ.out wr HB.out).2.2.2.1)
            obtain ⟨e1, e2, e3, s0, s1, hne0⟩ := last_place hM4
            generalize strOf t = U at hx RP
            clear hS hTs hlen hne ht hM
            go_wp2_with fail
            refine RP.out.mono ?_
            rintro e wZ ⟨Z, c, VZ, tz, hr, rfl, hSZ, hbZ⟩
            obtain ⟨rfl, rfl⟩ := HSH.out.unique hr
            obtain ⟨az, cz, rfl⟩ := hSZ.form
            have HBZ := Lib.hid (below_step' HBW.out hbZ HBW.out.size)
            clear hr hSZ hbZ RP
            go_wp2
            go_ret
            exact ⟨rfl, HBZ.out.alloc HBZ.out.size _⟩
    · go_enter Tryd.func3, Tryd.ntmps3
      go_wp2_with (first | (go_at_call 7; go_in))
      go_ret
      exact ⟨rfl, Below.refl _ _⟩
  · go_enter Tryd.func3, Tryd.ntmps3
    go_wp2_with (first | (go_at_call 7; go_in))
    go_ret
    exact ⟨rfl, Below.refl _ _⟩

end Go.Proofs.YtdefhmpmgcahpaaDoor
