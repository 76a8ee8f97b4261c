import Derived.Test.YtcoieclecmefiaaBkI
import Derived.Test.YtcoieclecmefiaaAddP
import Derived.Test.YtcoieclecmefiaaSigP
/-
  The walk of the law on blocks.
-/
set_option linter.unusedVariables false
set_option linter.unusedSimpArgs false
namespace Go.Proofs.Ytcoieclecmefiaa
open Go.RowKit Flt Fast

theorem f6small (a : Option Addr) (n cap : Nat) (hn : n ≤ 4096) (w : World) : Calls Try.prog 22 #[.slice a n cap] w fun e w' => e = .returned (.bool false) ∧ w' = w := by
  have g : decide (4096 < (n : Int)) = false := by simp <;> omega
  go_enter Try.func22, Try.ntmps22
  go_wp2
  go_ret
  exact ⟨by first | rfl | (simp; omega), rfl⟩

theorem f6large (a : Option Addr) (n cap : Nat) (hn : 4096 < n) (hm : (n : Int) ≤ 9223372036854775807) (w : World) : Calls Try.prog 22 #[.slice a n cap] w fun e w' => e = .returned (.bool true) ∧ w' = w := by
  have g : decide (4096 < (n : Int)) = true := decide_eq_true (by omega)
  go_enter Try.func22, Try.ntmps22
  go_wp2
  go_ret
  exact ⟨rfl, rfl⟩

theorem ones_succ (n : Nat) : ones (n + 1) = ones n ++ [4607182418800017408] := by unfold ones; exact List.replicate_succ'

/-- Blocks that do not overlap, added, begin with the signal. -/
theorem same_prefix {xs fs : List C} {n c : Nat} (hw : WfC xs) (hf : FitsC fs (ovlL (blkQ xs n) n n c)) (hc : xs.length ≤ c * n) :
    fs.length = c * n ∧ (fs.take xs.length).length = xs.length ∧ ∀ j, j < (fs.take xs.length).length → ∃ z, IsC ((fs.take xs.length).getD j (0, 0)) z ∧ IsC (xs.getD j (0, 0)) z := by
  have hl : fs.length = c * n := by rw [hf.len, apart_sum]; simp
  refine ⟨hl, by rw [List.length_take]; omega, fun j hj => ?_⟩
  rw [List.length_take] at hj
  have hj1 : j < xs.length := by omega
  refine ⟨zOf (xs.getD j (0, 0)), ?_, ?_⟩
  · have h1 := hf.good j (by omega)
    rw [apart_sum] at h1
    rw [show (fs.take xs.length).getD j (0, 0) = fs.getD j (0, 0) by simp [List.getD, List.getElem?_take, hj1]]
    rw [show ((List.range (c * n)).map (padQ xs)).getD j z0 = zOf (xs.getD j (0, 0)) by simp [List.getD, show j < c * n by omega, padQ, hj1]] at h1
    exact h1
  · have : xs.getD j (0, 0) ∈ xs := by rw [List.getD_eq_getElem?_getD, List.getElem?_eq_getElem hj1]; exact List.getElem_mem _
    obtain ⟨l1, l2⟩ := hw _ this
    exact ⟨IsF.self l1, IsF.self l2⟩

theorem cnt_cover (L n c : Nat) (hn : 1 ≤ n) (hc : cntR L n n = c) : L ≤ c * n := by
  unfold cntR at hc
  by_cases h0 : L = 0
  · omega
  · by_cases h1 : L ≤ n
    · rw [if_neg (by omega), if_pos (by omega)] at hc
      have : c = 1 := by omega
      subst this; omega
    · obtain ⟨m, rfl⟩ : ∃ m, L = n + m := ⟨L - n, by omega⟩
      have e1 : ((n + m : Nat) : Int) - n + n - 1 = ((m + n - 1 : Nat) : Int) := by omega
      rw [if_neg (by omega), if_neg (by omega), e1] at hc
      have e2 : (((m + n - 1 : Nat) : Int)).tdiv (n : Int) = (((m + n - 1) / n : Nat) : Int) := rfl
      rw [e2] at hc
      have e3 : c = 1 + (m + n - 1) / n := by omega
      have h2 := Nat.div_add_mod (m + n - 1) n
      have h3 := Nat.mod_lt (m + n - 1) (show 0 < n by omega)
      rw [e3, Nat.add_mul, Nat.one_mul, Nat.mul_comm]
      omega

theorem isF_zero {a : Nat} (h : IsF a (some 0)) : a = 0 := by
  by_cases hn : nan FloatKind.f64.format a = true
  · have := h.cn; rw [cn_none hn] at this; cases this
  · have := h.cn; rw [cn_some (by simpa using hn)] at this; cases this; rfl

theorem neq_zero (w : World) : (binOp .neq 26 (.complex .f64 0 0) (.complex .f64 0 0)).run Try.prog w = .ok (.bool false) w := by kernel_rfl

set_option maxRecDepth 100000 in
set_option maxHeartbeats 16000000 in
theorem fnBlocks_law (a0 : Option Addr) (len0 cap0 : Nat) (z0' : List Int) (a1 : Option Addr) (len1 cap1 : Nat) (z1 : List Int) (w : World) (h0 : IsRow .u8 w a0 len0 cap0 z0') (h1 : IsRow .u8 w a1 len1 cap1 z1) :
    Calls Try.prog 5 #[.slice a0 len0 cap0, .slice a1 len1 cap1] w fun e w' => e = .returned (.bool true) ∧ Below w.heap.size w w' := by
  have hm0 := isRow_len h0
  have hm1 := isRow_len h1
  obtain ⟨i0, hi, hz0, hz1, hz2⟩ := info_parts info_f64
  by_cases hl0 : len0 ≤ 4096
  · have F0 := Lib.hid (f6small a0 len0 cap0 hl0)
    by_cases hl1 : len1 ≤ 4096
    · have F1 := Lib.hid (f6small a1 len1 cap1 hl1)
      have R0 := Lib.hid (fun w1 (hb : Below w.heap.size w w1) => (⟨z0', isRow_below h0 hb⟩ : ∃ zs, IsRow .u8 w1 a0 len0 cap0 zs))
      have R1 := Lib.hid (fun w1 (hb : Below w.heap.size w w1) => (⟨z1, isRow_below h1 hb⟩ : ∃ zs, IsRow .u8 w1 a1 len1 cap1 zs))
      have A0 : Hid (Calls Try.prog 34 #[.slice a0 len0 cap0, .int .i64 20] w (Wild 20 w)) := p6Any_any a0 len0 cap0 z0' 20 (by omega) (by omega) w h0
      clear h0 h1 hl0 hl1
      go_enter Try.func5, Try.ntmps5
      go_wp2_with fail
      with_reducible refine (F0.out _).mono ?_
      rintro e w' ⟨rfl, rfl⟩
      go_wp2_with fail
      with_reducible refine (F1.out _).mono ?_
      rintro e w' ⟨rfl, rfl⟩
      go_wp2_with fail
      with_reducible refine A0.out.mono ?_
      rintro e w1 ⟨v, xs, rfl, hv, hxl, hwf, hb1⟩
      have HB1 := Lib.hid hb1
      have HV := Lib.hid hv
      have HWF := Lib.hid hwf
      obtain ⟨av, cv, rfl⟩ := cform hv.reads
      rw [cvals_length] at HV ⊢
      clear hb1 hv hwf A0
      go_wp2_with fail
      with_reducible refine (p6Pick_any _ a1 len1 cap1 (R1.out _ HB1.out) 8 (by omega) (by omega)).mono ?_
      rintro e w2 ⟨s, rfl, hs, hb2⟩
      obtain ⟨n, hn⟩ : ∃ n, s + 1 = n := ⟨_, rfl⟩
      have hnI : 1 + (s : Int) = (n : Int) := by omega
      have hn1 : 1 ≤ n := by omega
      have hn8 : n ≤ 8 := by omega
      have HB2 := Lib.hid (below_step HB1.out hb2 HB1.out.size)
      have HV2 := Lib.hid (HV.out.below hb2 (fun k e => (HV.out.lt k e).2))
      clear hb2 hn HB1 HV
      go_wp2_with fail
      with_reducible refine (p6Pick_any _ a0 len0 cap0 (R0.out _ HB2.out) n (by omega) (by omega)).mono ?_
      rintro e w3 ⟨p, rfl, hp, hb3⟩
      obtain ⟨h, hh⟩ : ∃ h, p + 1 = h := ⟨_, rfl⟩
      have hhI : 1 + (p : Int) = (h : Int) := by omega
      have hh1 : 1 ≤ h := by omega
      have hhn : h ≤ n := by omega
      have HB3 := Lib.hid (below_step HB2.out hb3 HB2.out.size)
      have HV3 := Lib.hid (HV2.out.below hb3 (fun k e => (HV2.out.lt k e).2))
      clear hb3 hh HB2 HV2 R0 R1 F0 F1
      obtain ⟨c, hc, hcl, hcL⟩ := cnt_facts xs.length n h ⟨hh1, hhn⟩
      obtain ⟨c', hc', hcl', hcL'⟩ := cnt_facts xs.length n n ⟨hn1, Nat.le_refl _⟩
      have hcov := cnt_cover xs.length n c' hn1 hc'
      have BC : ∀ w, Calls Try.prog 35 #[.int .i64 xs.length, .int .i64 n, .int .i64 h] w fun e w' => e = .returned (.tuple #[.int .i64 c, .int .i64 0]) ∧ Below w.heap.size w w' := fun w => by
        have hb : (0 ≤ (xs.length : Int) ∧ (xs.length : Int) ≤ 256) ∧ (1 ≤ (n : Int) ∧ (n : Int) ≤ 256) ∧ (1 ≤ (h : Int) ∧ (h : Int) ≤ n) := by omega
        have := bc_impl xs.length n h w
        rwa [show bcR xs.length n h = cntR xs.length n h from if_pos hb, show bcK xs.length n h = 0 from if_pos hb, hc] at this
      have BI := fun v w hv => blocksOf_impl xs HWF.out n h ⟨hh1, hhn⟩ (by omega) (by omega) v w hv
      have BS := fun v w hv => blocksOf_spec xs HWF.out n h ⟨hh1, hhn⟩ (by omega) (by omega) v w hv
      have BA := fun v w hv => blocksOf_spec xs HWF.out n n ⟨hn1, Nat.le_refl _⟩ (by omega) (by omega) v w hv
      have WI := fun v u w hv hu => windowed_impl xs HWF.out n h ⟨hh1, hhn⟩ (by omega) (by omega) v u w hv hu
      rw [hc] at BI BS WI
      rw [hc'] at BA
      have BC := Lib.hid BC
      have BI := Lib.hid BI
      have BS := Lib.hid BS
      have BA := Lib.hid BA
      have WI := Lib.hid WI
      have HCL := Lib.hid hcl
      obtain ⟨L, hL⟩ : ∃ L, xs.length = L := ⟨_, rfl⟩
      have HL := Lib.hid hL
      rw [hL] at BC HV3 hcL hcL' hcov hxl ⊢
      clear hc hc' hcl hcl' hL
      have hrdv := HV3.out.reads
      have HRV := Lib.hid hrdv
      clear hrdv
      go_wp2_with fail
      with_reducible refine (BC.out _).mono ?_
      rintro e w4 ⟨rfl, hb4⟩
      have HB4 := Lib.hid (below_step HB3.out hb4 HB3.out.size)
      have HR4 := Lib.hid (HRV.out.below hb4)
      clear hb4 HB3 HV3 HRV BC
      go_wp2_with fail
      with_reducible refine (BI.out _ _ HR4.out).mono ?_
      rintro e w5 ⟨V1, vs1, bs1, rfl, hm1', hl1, hb5⟩
      have HB5 := Lib.hid (below_step HB4.out hb5 HB4.out.size)
      have HR5 := Lib.hid (HR4.out.below hb5)
      have HM5 := Lib.hid hm1'.lblk
      have HL1 := Lib.hid hl1
      clear hb5 hm1' hl1 HB4 HR4 BI
      go_wp2_with fail
      with_reducible refine (BS.out _ _ HR5.out).mono ?_
      rintro e w6 ⟨V2, vs2, bs2, rfl, hm2', hl2, hb6⟩
      have HB6 := Lib.hid (below_step HB5.out hb6 HB5.out.size)
      have HR6 := Lib.hid (HR5.out.below hb6)
      have HM6 := Lib.hid (HM5.out.below hb6)
      have HD6 := Lib.hid hm2'.lblk
      have HL2 := Lib.hid hl2
      clear hb6 hm2' hl2 HB5 HR5 HM5 BS
      have hl12 : vs1.length = vs2.length := by have := HL1.out; have := HL2.out; omega
      have hl64 : vs1.length ≤ 64 := by have := HL1.out; omega
      have SB := Lib.hid (sameBlocks_any HM6.out HD6.out hl12 hl64)
      obtain ⟨aV1, cV1, rfl, -⟩ := HM6.out.find
      obtain ⟨aV2, cV2, rfl, hfind⟩ := HD6.out.find
      have hv2 : vs2.length = c := by have := HL2.out; omega
      have hv1 : vs1.length = c := by omega
      have HV2L := Lib.hid hv2
      rw [hv2] at hfind SB HD6 ⊢
      rw [hv1] at SB ⊢
      clear hl12 hl64 hv1 hv2 HM6 HL1 HL2
      have HFD := Lib.hid hfind
      clear hfind
      go_wp2_with fail
      with_reducible refine SB.out.mono ?_
      rintro e w7 ⟨rfl, t7, hw7⟩
      have HW7 := Lib.hid hw7
      have HB7 : Hid (Below w'.heap.size w' w7) := by rw [HW7.out]; exact below_draws HB6.out t7
      have HR7 : Hid (Reads w7 (.slice av L cv) (cvals xs)) := by rw [HW7.out]; exact HR6.out.below (below_draws (Below.refl _ _) t7)
      have HD7 : Hid (LBlk w7 (.slice aV2 c cV2) vs2 bs2 (blkQ xs h) n) := by rw [HW7.out]; exact HD6.out.draws t7
      clear hw7 HW7 HB6 HR6 HD6 SB HFD
      have hneq := neq_zero
      go_wp2
      go_loopw [14] (fun bI wr => ∃ b m : Nat, bI = .int .i64 b ∧ b ≤ c ∧ wr = w7.drewN m) (fun bI _ => c - (intOf bI).toNat)
      case atStart => exact ⟨0, 0, rfl, Nat.zero_le _, rfl⟩
      case round =>
        obtain ⟨b, m, rfl, hb, hwr⟩ := hrel
        have HWR := Lib.hid hwr
        clear hwr
        by_cases hlt : b < c
        · obtain ⟨aX, cX, eX, hfx⟩ := HD7.out.find
          simp only [Value.slice.injEq] at eX
          obtain ⟨rfl, -, rfl⟩ := eX
          obtain ⟨g, ab, cb, rfl, hg, hcell, hrb, hbl, hz⟩ := hfx b (by rw [HV2L.out]; exact hlt)
          have c1 : wr.cell? ⟨g, b, none⟩ = some (.slice ab n cb) := by rw [HWR.out]; exact hcell
          have hrc := c_reads hrb _ _ _ rfl
          have HRC := Lib.hid hrc
          have HZ := Lib.hid hz
          obtain ⟨P, hP⟩ : ∃ P, b * h = P := ⟨_, rfl⟩
          have hPL : P < L := by rw [← hP, ← HL.out]; exact HCL.out b hlt
          have eP : (b : Int) * (h : Int) = (P : Int) := by rw [← hP]; simp
          have HP := Lib.hid hP
          have HC1 := Lib.hid c1
          clear hfx hcell hrb hbl hz hrc hP hg c1
          obtain ⟨wo, rfl⟩ : ∃ x, x = wr := ⟨_, rfl⟩
          have c1 := HC1.out
          go_wp2
          go_loopw [15] (fun iI wq => ∃ i m2 : Nat, iI = .int .i64 i ∧ i ≤ n ∧ wq = wo.drewN m2) (fun iI _ => n - (intOf iI).toNat)
          case atStart => exact ⟨0, 0, rfl, Nat.zero_le _, rfl⟩
          case round =>
            obtain ⟨i, m2, rfl, hi, hwq⟩ := hrel
            have HWQ := Lib.hid hwq
            clear hwq c1
            by_cases hin : i < n
            · obtain ⟨gb, rfl, hgb, kb⟩ := HRC.out i hin
              obtain ⟨Q, hQ⟩ : ∃ Q, P + i = Q := ⟨_, rfl⟩
              have eQ : (P : Int) + (i : Int) = (Q : Int) := by omega
              have hQ1 : Q ≤ 100 := by omega
              have hz := HZ.out i hin
              obtain ⟨x, y, hxy⟩ : ∃ x y, (bs2 b).getD i (0, 0) = (x, y) := ⟨_, _, rfl⟩
              rw [hxy] at kb hz
              have d1 : wr.cell? ⟨g, b, none⟩ = some (.slice (some ⟨gb, 0, none⟩) n cb) := by rw [HWQ.out]; exact HC1.out
              have d2 : wr.cell? ⟨gb, i, none⟩ = some (.complex .f64 x y) := by rw [HWQ.out, HWR.out]; exact kb
              have hbq : b * h + i = Q := by rw [HP.out]; exact hQ
              have HQ := Lib.hid hQ
              clear hQ hxy kb hgb
              by_cases hQL : Q < L
              · obtain ⟨gx, eX, -, kx⟩ := c_reads HR7.out _ _ _ rfl Q hQL
                obtain rfl := eX
                have e3 : blkQ xs h b i = zOf (xs.getD Q (0, 0)) := by unfold blkQ; rw [hbq, if_pos (by rw [HL.out]; exact hQL)]
                rw [e3] at hz
                have hmem : xs.getD Q (0, 0) ∈ xs := by rw [List.getD_eq_getElem?_getD, List.getElem?_eq_getElem (by rw [HL.out]; exact hQL)]; exact List.getElem_mem _
                obtain ⟨l1, l2⟩ := HWF.out _ hmem
                obtain ⟨x2, y2, hxy2⟩ : ∃ x y, xs.getD Q (0, 0) = (x, y) := ⟨_, _, rfl⟩
                rw [hxy2] at kx hz l1 l2
                have SN := Lib.hid (fun w => sameNumber_cn x y x2 y2 (hz.1.cn.trans (IsF.self l1).cn.symm) (hz.2.cn.trans (IsF.self l2).cn.symm) w)
                have d3 : wr.cell? ⟨gx, Q, none⟩ = some (.complex .f64 x2 y2) := by rw [HWQ.out, HWR.out]; exact kx
                clear hz hmem l1 l2 hxy2 kx e3 hbq
                obtain ⟨wz, rfl⟩ : ∃ z, z = wr := ⟨_, rfl⟩
                have g1 : decide ((Q : Int) < (L : Int)) = true := by simp; omega
                have g2 : decide ((L : Int) ≤ (Q : Int)) = false := by simp; omega
                have g3 : decide (Q < L) = true := by simp; omega
                have g4 : decide (L ≤ Q) = false := by simp; omega
                go_wp2
                go_quiet ((go_at_call 13; exact Calls.quiet_of_same (SN.out _)))
                go_wp2
                go_roundw
                case rel => exact ⟨i + 1, m2 + nq, by go_num, by omega, by rw [HWQ.out, World.drewN_drewN]⟩
                case measure => simp [intOf]; omega
              · have e3 : blkQ xs h b i = z0 := by unfold blkQ; rw [hbq, if_neg (by rw [HL.out]; exact hQL)]
                rw [e3] at hz
                obtain rfl := isF_zero hz.1
                obtain rfl := isF_zero hz.2
                have g1 : decide ((Q : Int) < (L : Int)) = false := by simp; omega
                have g2 : decide ((L : Int) ≤ (Q : Int)) = true := by simp; omega
                have g3 : decide (Q < L) = false := by simp; omega
                have g4 : decide (L ≤ Q) = true := by simp; omega
                clear hz e3 hbq
                obtain ⟨wz, rfl⟩ : ∃ z, z = wr := ⟨_, rfl⟩
                go_wp2
                go_quiet (fail)
                go_wp2
                go_roundw
                case rel => exact ⟨i + 1, m2 + nq, by go_num, by omega, by rw [HWQ.out, World.drewN_drewN]⟩
                case measure => simp [intOf]; omega
            · have e : n = i := by omega
              subst e
              have d1 : wr.cell? ⟨g, b, none⟩ = some (.slice ab n cb) := by rw [HWQ.out]; exact HC1.out
              go_wp2
              go_roundw
              case rel => exact ⟨b + 1, m + m2, by go_num, by omega, by rw [HWQ.out, HWR.out, World.drewN_drewN]⟩
              case measure => simp [intOf]; omega
        · have e : c = b := by omega
          subst e
          have HBr : Hid (Below w'.heap.size w' wr) := by rw [HWR.out]; exact below_draws HB7.out m
          have HRr : Hid (Reads wr (.slice av L cv) (cvals xs)) := by rw [HWR.out]; exact HR7.out.below (below_draws (Below.refl _ _) m)
          have HDr : Hid (LBlk wr (.slice aV2 c cV2) vs2 bs2 (blkQ xs h) n) := by rw [HWR.out]; exact HD7.out.draws m
          clear HB7 HR7 HD7 HWR
          have hcn : c' * n ≤ 20 * 8 := Nat.mul_le_mul (by omega) hn8
          go_wp2_with fail
          with_reducible refine (BA.out _ _ HRr.out).mono ?_
          rintro e w8 ⟨V3, vs3, bs3, rfl, hm3, hl3, hb8⟩
          have HB8 := Lib.hid (below_step HBr.out hb8 HBr.out.size)
          have HR8 := Lib.hid (HRr.out.below hb8)
          have HD8 := Lib.hid (HDr.out.below hb8)
          have hbl := hm3.blks
          have hl3' : vs3.length = c' := by omega
          have hp3 : vs3.length ≠ 0 → ((vs3.length : Int) - 1) * n + n ≤ 256 := fun h0 => by
            have e1 : ((vs3.length : Int) - 1) * (n : Int) + n = ((vs3.length * n : Nat) : Int) := by rw [Int.sub_mul, Int.one_mul, Int.sub_add_cancel]; simp
            rw [e1, hl3']; omega
          have OV := Lib.hid (ovl_impl hbl n ⟨hn1, Nat.le_refl _⟩ (by omega) (by omega) hp3)
          rw [hl3'] at OV
          clear hm3 hl3 hb8 hbl hl3' hp3 HBr HRr HDr BA
          go_wp2_with fail
          with_reducible refine OV.out.mono ?_
          rintro e w9 ⟨u, fs, rfl, hrow, hfit, hb9⟩
          have HB9 := Lib.hid (below_step HB8.out hb9 HB8.out.size)
          have HR9 := Lib.hid (HR8.out.below hb9)
          have HD9 := Lib.hid (HD8.out.below hb9)
          have HROW := Lib.hid hrow
          have hpre := same_prefix HWF.out hfit (by rw [HL.out]; exact hcov)
          have HPRE := Lib.hid hpre
          have hlit := World.ownsRow_lit w9 (e := 29) (base := w9.heap.size) (size := 1) #[] 0 (Nat.le_refl _) (by unfold maxLen; omega) rfl
          have HLIT : Hid (Row (w9.alloc (.cells #[] 29)) w9.heap.size 29 (.slice (some ⟨w9.heap.size, 0, none⟩) 0 0) (flts (ones 0))) := hlit
          have HBA : Hid (Below w9.heap.size w9 (w9.alloc (.cells #[] 29))) := (Below.refl _ _).alloc (Nat.le_refl _) _
          clear hb9 hrow hfit hpre hlit OV HB8 HR8 HD8
          go_wp2
          go_loopw [21, 22] (fun v k wq => ∃ t : Nat, k = .int .i64 t ∧ t ≤ n ∧ Row wq w9.heap.size 29 v (flts (ones t)) ∧ Below w9.heap.size w9 wq) (fun _ k _ => n - (intOf k).toNat)
          case atStart => exact ⟨0, rfl, Nat.zero_le _, HLIT.out, HBA.out⟩
          case round =>
            clear HLIT HBA
            obtain ⟨t, rfl, ht, hrw, hbq⟩ := hrel
            have HRW := Lib.hid hrw
            have HBQ := Lib.hid hbq
            clear hrw hbq
            by_cases htn : t < n
            · have hl8 : (flts (ones t)).length = t := by rw [flts_length]; exact List.length_replicate ..
              have HL8 := Lib.hid hl8
              clear hl8
              go_wp2_with (at_builtin; refine wpList_append_own _ rfl _ _ 49 rfl w9.heap.size 29 i0 (.float .f64 0) 1 8 Try.underlying49 hi hz0 hz1 hz2 rfl (by decide) _ _ _ rfl (HRW.out.alloc _) ⟨_, 0, none⟩ 1 1 [.float .f64 4607182418800017408] rfl rfl (cell_one_new _ _ _) (by intro u hu; simp at hu; subst hu; rfl) (by rw [HL8.out]; simp only [maxLen]; omega) (by rw [HL8.out]; omega) (by have := HBQ.out.size; simp; omega) ?_)
              intro v' w3 hown' hgrow _
              have hlt' := (HRW.out.alloc (.cells #[.float .f64 4607182418800017408] 29)).lt
              have hba : Below w9.heap.size w9 (wr.alloc (.cells #[.float .f64 4607182418800017408] 29)) := HBQ.out.alloc HBQ.out.size _
              have HB3 : Hid (Below w9.heap.size w9 w3) := hba.grown hgrow hba.size (fun b e => (hlt' b e).1)
              have HO' : Hid (Row w3 w9.heap.size 29 v' (flts (ones (t + 1)))) := by
                show w3.ownsRow _ _ _ _ _ _
                rw [ones_succ, flts_snoc, List.length_append]
                exact hown'
              clear hown' hgrow hlt' hba HRW HBQ HL8
              go_wp2
              go_roundw
              case rel => first | exact ⟨t + 1, by go_num, by omega, HO'.out, HB3.out⟩ | ((repeat apply Exists.intro); refine ⟨?_, rfl⟩; exact ⟨t + 1, by go_num, by omega, HO'.out, HB3.out⟩)
              case measure => simp [intOf]; omega
            · have e : n = t := by omega
              subst e
              have HB10 := Lib.hid (below_step HB9.out HBQ.out HB9.out.size)
              have HR10 := Lib.hid (HR9.out.below HBQ.out)
              have HD10 := Lib.hid (HD9.out.below HBQ.out)
              have HROW10 := Lib.hid (HROW.out.below HBQ.out (fun k e => (HROW.out.lt k e).2))
              have hu := HRW.out.reads
              have WIQ := Lib.hid (WI.out _ _ _ HR10.out hu)
              obtain ⟨ao, co, rfl⟩ := fl_form hu
              rw [flts_length, show (ones n).length = n from List.length_replicate ..] at WIQ ⊢
              clear hu HRW HBQ HR9 HD9 HROW HB9 WI
              go_wp2_with fail
              with_reducible refine WIQ.out.mono ?_
              rintro e w11 ⟨V4, vs4, bs4, rfl, hm4, hl4, hb11⟩
              have HB11 := Lib.hid (below_step HB10.out hb11 HB10.out.size)
              have HR11 := Lib.hid (HR10.out.below hb11)
              have HD11 := Lib.hid (HD10.out.below hb11)
              have HROW11 := Lib.hid (HROW10.out.below hb11 (fun k e => (HROW10.out.lt k e).2))
              have HM11 := Lib.hid hm4.lblk
              have hl24 : vs4.length = vs2.length := by have := HV2L.out; omega
              have SB := Lib.hid (fun t => sameBlocks_any (HM11.out.draws t) (HD11.out.draws t) hl24 (by have := HV2L.out; omega))
              obtain ⟨aV4, cV4, rfl, -⟩ := HM11.out.find
              rw [HV2L.out] at hl24
              rw [hl24] at SB ⊢
              obtain ⟨lf, hlf, hLlf, hlf2⟩ : ∃ lf, fs.length = lf ∧ L ≤ lf ∧ lf ≤ 160 := ⟨_, rfl, by have := HPRE.out.1; omega, by have := HPRE.out.1; omega⟩
              have HLF := Lib.hid hlf
              have hrr := HROW11.out
              have hsam : ∀ v, Reads w11 v (cvals (fs.take L)) → Calls Try.prog 12 #[v, .slice av L cv] w11 fun e w' => e = .returned (.bool true) ∧ ∃ n, w' = w11.drewN n := fun v hv => by
                have h2 := HPRE.out.2
                rw [HL.out] at h2
                exact sameSignals_spec hv HR11.out (by rw [h2.1, HL.out]) h2.2
              have SS := Lib.hid hsam
              clear hm4 hl4 hb11 HB10 HR10 HD10 HROW10 WIQ hl24 hlf hsam HM11
              rcases hrr.2 with ⟨e1, e2⟩ | ⟨g, cap, cur, e1, -, hgg, hnc, hcm, hs, ht⟩
              · subst e1
                have hf0 : (cvals fs).length = 0 := by rw [e2]
                have hf0 : lf = 0 := by rw [cvals_length, HLF.out] at hf0; exact hf0
                subst hf0
                have hL0 : L = 0 := by omega
                have S0 := SS.out (.slice none 0 0) (by rw [hL0, List.take_zero]; exact Reads.none _ _)
                have HS0 := Lib.hid S0
                have gl : decide ((L : Int) ≤ 0) = true := decide_eq_true (by omega)
                clear S0 SS hrr HROW11 e2 hLlf hlf2 HLF
                subst hL0
                go_wp2_with fail
                with_reducible refine HS0.out.mono ?_
                rintro e w12 ⟨rfl, n12, rfl⟩
                have SB2 := Lib.hid (SB.out n12)
                clear SB HS0
                go_wp2_with fail
                with_reducible refine SB2.out.mono ?_
                rintro e w13 ⟨rfl, n13, rfl⟩
                go_wp2
                go_ret
                exact ⟨rfl, below_draws HB11.out (n12 + n13)⟩
              · subst e1
                have hl9 : (cvals fs).length = lf := by rw [cvals_length, HLF.out]
                rw [hl9] at hnc hrr ⊢
                have hmx := maxLen_int (Nat.le_trans hnc hcm)
                have hrd := hrr.reads
                have HTK : Hid (Reads w11 (.slice (some ⟨g, 0, none⟩) L cap) (cvals (fs.take L))) := readsTake (by rw [HLF.out]; exact hrd) (by rw [HLF.out]; exact hLlf)
                have HS0 := Lib.hid (SS.out _ HTK.out)
                clear SS hrr HROW11 hgg hs ht hrd HTK hl9 HLF
                go_wp2_with fail
                with_reducible refine HS0.out.mono ?_
                rintro e w12 ⟨rfl, n12, rfl⟩
                have SB2 := Lib.hid (SB.out n12)
                clear SB HS0
                go_wp2_with fail
                with_reducible refine SB2.out.mono ?_
                rintro e w13 ⟨rfl, n13, rfl⟩
                go_wp2
                go_ret
                exact ⟨rfl, below_draws HB11.out (n12 + n13)⟩
    · have F1 := Lib.hid (f6large a1 len1 cap1 (by omega) (by omega))
      clear h0 h1
      go_enter Try.func5, Try.ntmps5
      go_wp2_with fail
      with_reducible refine (F0.out _).mono ?_
      rintro e w' ⟨rfl, rfl⟩
      go_wp2_with fail
      with_reducible refine (F1.out _).mono ?_
      rintro e w' ⟨rfl, rfl⟩
      go_wp2
      go_ret
      exact ⟨rfl, Below.refl _ _⟩
  · have F0 := Lib.hid (f6large a0 len0 cap0 (by omega) (by omega))
    clear h0 h1
    go_enter Try.func5, Try.ntmps5
    go_wp2_with fail
    with_reducible refine (F0.out _).mono ?_
    rintro e w' ⟨rfl, rfl⟩
    go_wp2
    go_ret
    exact ⟨rfl, Below.refl _ _⟩

end Go.Proofs.Ytcoieclecmefiaa
