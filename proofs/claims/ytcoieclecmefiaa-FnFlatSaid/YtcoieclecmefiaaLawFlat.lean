import Derived.Test.YtcoieclecmefiaaFlatX
/-
  The walk of the law FnFlat.
-/
set_option linter.unusedVariables false
set_option linter.unusedSimpArgs false
namespace Go.Proofs.Ytcoieclecmefiaa
open Go.RowKit Flt Fast

theorem run_has {op : BinOp} (hop : op = .add ∨ op = .sub ∨ op = .mul ∨ op = .quo) {x y : Nat} {r : Rat} (hr : Fv (fop op .f64 (some x) (some y)) r) :
    ∃ d, Has d r ∧ ∀ (P : Program) (t : TypeId) (w : World), (binOp op t (.float .f64 x) (.float .f64 y)).run P w = .ok (.float .f64 d) w := by
  obtain ⟨d, e, h1, h2⟩ := hr
  have e' : floatBits op .f64 x y = some d := e
  refine ⟨d, ⟨h1, h2⟩, fun P t w => ?_⟩
  have f1 : fres op .f64 x y w = d := by unfold fres; rw [e']
  have f2 : fcnt op .f64 x y = 0 := by unfold fcnt; rw [e']
  rcases hop with rfl | rfl | rfl | rfl
  · rw [run_fadd, f1, f2]; rfl
  · rw [run_fsub, f1, f2]; rfl
  · rw [run_fmul, f1, f2]; rfl
  · rw [run_fquo, f1, f2]; rfl

theorem eq_has {x y : Nat} {q : Rat} (hx : Has x q) (hy : Has y q) : (FloatKind.f64.format.order x y == some .eq) = true := by
  have := order_eq_q hx.1 hy.1 (by rw [hx.2, hy.2])
  show (Ieee.double.order x y == some .eq) = true
  rw [this]; rfl

/-- The greatest that is left is below the law's bound. -/
theorem two_split' {a b : Nat} (h : a ≤ b) : two b = two a * two (b - a) := by rw [← two_add, Nat.add_sub_cancel' h]
theorem lit_has : ∃ q, Has 4472406533629990549 q ∧ (1 : Rat) / 4398046511104 < q := by
  have hf : Flt.Fin 4472406533629990549 := ⟨by decide, by decide⟩
  refine ⟨_, ⟨hf, rfl⟩, ?_⟩
  have e1 : fq 4472406533629990549 = rq 4472406533629990549 := fq_word false (r := 4472406533629990549) (by rw [ir64]; decide)
  have h := rung_of (f := Ieee.double) (k := 1) (q := lpn - 42) (by decide) (by decide) (by
    have : Ieee.double.fractionBits = 52 := by decide
    rw [this]; unfold lpn; omega)
  have e2 : (1 : Nat).log2 = 0 := by decide
  have e3 : Ieee.double.fractionBits = 52 := by decide
  have e4 : Ieee.double.binade = 4503599627370496 := by decide
  rw [e2, e3, e4] at h
  have e5 : (lpn - 42 + 0 - 52) * 4503599627370496 + 1 * 2 ^ (52 - 0) = 4418031234450456576 := by unfold lpn; decide
  rw [e5, Nat.one_mul] at h
  have h42 : (4398046511104 : Rat) = two 42 := rfl
  have hs : two lpn = two 42 * two (lpn - 42) := two_split' (by unfold lpn; omega)
  have e6 : rq 4418031234450456576 = (1 : Rat) / 4398046511104 := by
    unfold rq
    rw [h, ← two_nat, hs, h42]
    have c1 := Rat.mul_inv_cancel _ (Rat.ne_of_gt (two_pos 42))
    have c2 := Rat.mul_inv_cancel _ (Rat.ne_of_gt (two_pos (lpn - 42)))
    rw [Rat.div_def, Rat.div_def, Rat.inv_mul_rev]; grind
  rw [e1, ← e6]
  refine Rat.not_le.1 fun hc => ?_
  have := rq_le.1 hc
  omega

theorem f6big_s (a : Option Addr) (n cap : Nat) (hn : n ≤ 4096) (w : World) : Calls Try.prog 22 #[.slice a n cap] w fun e w' => e = .returned (.bool false) ∧ w' = w := by
  have g : decide (4096 < (n : Int)) = false := by simp <;> omega
  go_enter Try.func22, Try.ntmps22
  go_wp2
  go_ret
  exact ⟨by first | rfl | (simp; omega), rfl⟩
theorem f6big_l (a : Option Addr) (n cap : Nat) (hn : 4096 < n) (hm : (n : Int) ≤ 9223372036854775807) (w : World) : Calls Try.prog 22 #[.slice a n cap] w fun e w' => e = .returned (.bool true) ∧ w' = w := by
  have g : decide (4096 < (n : Int)) = true := decide_eq_true (by omega)
  go_enter Try.func22, Try.ntmps22
  go_wp2
  go_ret
  exact ⟨rfl, rfl⟩

/-- The contracts at a window that is right. -/
theorem hopK_ok {n h : Nat} (h1 : 1 ≤ h) (h2 : h ≤ n) (h3 : n ≤ 256) : hopK n (h : Int) = 0 := by
  unfold hopK; rw [if_neg (by omega), if_pos (by omega)]
theorem floatsTo_congr {n n' : Nat} {z z' : Nat → Option Nat} {c c' : Int} {w : World} {e : Ending} {w' : World} (h : FloatsTo n z c w e w') (hn : n = n') (hz : z = z') (hc : c = c') : FloatsTo n' z' c' w e w' := by
  subst hn hz hc; exact h

theorem flat_i {fs : List Nat} (hz : ∀ z ∈ fs, z < 18446744073709551616) {h : Nat} (h1 : 1 ≤ h) (h2 : h ≤ fs.length) (h3 : fs.length ≤ 20) (v : Value) (w : World) (hr : Reads w v (flts fs)) : Calls Try.prog 25 #[v, .int .i64 h] w (FloatsTo fs.length (flatZ fs h) 0 w) :=
  (flat_impl fs hz h v w hr).mono fun e w' k => floatsTo_congr k (by unfold flatN; rw [if_pos (hopK_ok h1 h2 (by omega))]) (by rw [Int.toNat_natCast]) (hopK_ok h1 h2 (by omega))
theorem flat_s {fs : List Nat} (hz : ∀ z ∈ fs, z < 18446744073709551616) {h : Nat} (h1 : 1 ≤ h) (h2 : h ≤ fs.length) (h3 : fs.length ≤ 20) (v : Value) (w : World) (hr : Reads w v (flts fs)) : Calls Try.prog 26 #[v, .int .i64 h] w (FloatsTo fs.length (flatZ fs h) 0 w) :=
  (flat_spec fs hz h v w hr).mono fun e w' k => floatsTo_congr k (by unfold flatN; rw [if_pos (hopK_ok h1 h2 (by omega))]) (by rw [Int.toNat_natCast]) (hopK_ok h1 h2 (by omega))
theorem over_i {fs : List Nat} (hz : ∀ z ∈ fs, z < 18446744073709551616) {h : Nat} (h1 : 1 ≤ h) (h2 : h ≤ fs.length) (h3 : fs.length ≤ 20) (v : Value) (w : World) (hr : Reads w v (flts fs)) : Calls Try.prog 27 #[v, .int .i64 h] w (FloatsTo h (ovS fs h) 0 w) :=
  (overlap_impl fs hz h v w hr).mono fun e w' k => floatsTo_congr k (by unfold ovN; rw [if_pos (hopK_ok h1 h2 (by omega)), Int.toNat_natCast]) (by rw [Int.toNat_natCast]) (hopK_ok h1 h2 (by omega))
theorem wwK_ok {fs : List Nat} {h : Nat} (h1 : 1 ≤ h) (h2 : h ≤ fs.length) (h3 : fs.length ≤ 20) : wwK fs.length 3 h = 0 := by
  unfold wwK; rw [if_pos (hopK_ok h1 h2 (by omega)), if_pos (by omega), if_neg (by omega)]
theorem ww_i {fs : List Nat} (hz : ∀ z ∈ fs, z < 18446744073709551616) {h : Nat} (h1 : 1 ≤ h) (h2 : h ≤ fs.length) (h3 : fs.length ≤ 20) (v : Value) (w : World) (hr : Reads w v (flts fs)) : Calls Try.prog 30 #[v, .int .i64 3, .int .i64 h] w (FloatsTo (wgtL fs h 3).length (fun i => (wgtL fs h 3).getD i none) 0 w) :=
  (ww_impl fs hz 3 h v w hr).mono fun e w' k => floatsTo_congr k (by unfold wwN; rw [if_pos (wwK_ok h1 h2 h3), Int.toNat_natCast]; rfl) (by funext i; unfold wwZ; rw [Int.toNat_natCast]; rfl) (wwK_ok h1 h2 h3)
theorem ww_s {fs : List Nat} (hz : ∀ z ∈ fs, z < 18446744073709551616) {h : Nat} (h1 : 1 ≤ h) (h2 : h ≤ fs.length) (h3 : fs.length ≤ 20) (v : Value) (w : World) (hr : Reads w v (flts fs)) : Calls Try.prog 31 #[v, .int .i64 3, .int .i64 h] w (FloatsTo (wgtL fs h 3).length (fun i => (wgtL fs h 3).getD i none) 0 w) :=
  (ww_spec fs hz 3 h v w hr).mono fun e w' k => floatsTo_congr k (by unfold wwN; rw [if_pos (wwK_ok h1 h2 h3), Int.toNat_natCast]; rfl) (by funext i; unfold wwZ; rw [Int.toNat_natCast]; rfl) (wwK_ok h1 h2 h3)
theorem gain_i {fs : List Nat} (hz : ∀ z ∈ fs, z < 18446744073709551616) (h3 : fs.length ≤ 20) (v : Value) (w : World) (hr : Reads w v (flts fs)) : Calls Try.prog 28 #[v] w (FloatTo (sumO (wO fs) fs.length) 0 w) := by
  have := gain_impl fs hz v w hr
  rwa [show gainR (wO fs) fs.length = sumO (wO fs) fs.length from if_neg (by omega), show tooK fs.length = 0 from if_neg (by omega)] at this
theorem power_i {fs : List Nat} (hz : ∀ z ∈ fs, z < 18446744073709551616) (h3 : fs.length ≤ 20) (v : Value) (w : World) (hr : Reads w v (flts fs)) : Calls Try.prog 29 #[v] w (FloatTo (sumO (sqO fs) fs.length) 0 w) := by
  have := power_impl fs hz v w hr
  rwa [show gainR (sqO fs) fs.length = sumO (sqO fs) fs.length from if_neg (by omega), show tooK fs.length = 0 from if_neg (by omega)] at this
set_option maxRecDepth 100000 in
set_option maxHeartbeats 16000000 in
theorem fnFlat_law (a0 : Option Addr) (len0 cap0 : Nat) (z0' : List Int) (a1 : Option Addr) (len1 cap1 : Nat) (z1 : List Int) (w : World) (h0 : IsRow .u8 w a0 len0 cap0 z0') (h1 : IsRow .u8 w a1 len1 cap1 z1) :
    Calls Try.prog 4 #[.slice a0 len0 cap0, .slice a1 len1 cap1] w fun e w' => e = .returned (.bool true) ∧ Below w.heap.size w w' := by
  have hm0 := isRow_len h0
  have hm1 := isRow_len h1
  by_cases hl0 : len0 ≤ 4096
  · have F0 := Lib.hid (f6big_s a0 len0 cap0 hl0)
    by_cases hl1 : len1 ≤ 4096
    · have F1 := Lib.hid (f6big_s a1 len1 cap1 hl1)
      have R0 := Lib.hid (fun w1 (hb : Below w.heap.size w w1) => (⟨z0', isRow_below h0 hb⟩ : ∃ zs, IsRow .u8 w1 a0 len0 cap0 zs))
      have R1 := Lib.hid (fun w1 (hb : Below w.heap.size w w1) => (⟨z1, isRow_below h1 hb⟩ : ∃ zs, IsRow .u8 w1 a1 len1 cap1 zs))
      clear h0 h1 hl0 hl1
      go_enter Try.func4, Try.ntmps4
      go_wp2_with fail
      with_reducible refine (F0.out _).mono ?_
      rintro e w' ⟨rfl, rfl⟩
      go_wp2_with fail
      with_reducible refine (F1.out _).mono ?_
      rintro e w' ⟨rfl, rfl⟩
      go_wp2_with fail
      with_reducible refine (p6Pick_any _ a0 len0 cap0 (R0.out _ (Below.refl _ _)) 20 (by omega) (by omega)).mono ?_
      rintro e w1 ⟨s, rfl, hs, hb1⟩
      obtain ⟨n, hn⟩ : ∃ n, s + 1 = n := ⟨_, rfl⟩
      have hnI : 1 + (s : Int) = (n : Int) := by omega
      have hn1 : 1 ≤ n := by omega
      have hn20 : n ≤ 20 := by omega
      have HB1 := Lib.hid hb1
      clear hb1 hn
      go_wp2_with fail
      with_reducible refine (p6Pick_any _ a1 len1 cap1 (R1.out _ HB1.out) n (by omega) (by omega)).mono ?_
      rintro e w2 ⟨p, rfl, hp, hb2⟩
      obtain ⟨h, hh⟩ : ∃ h, p + 1 = h := ⟨_, rfl⟩
      have hhI : 1 + (p : Int) = (h : Int) := by omega
      have hh1 : 1 ≤ h := by omega
      have hhn : h ≤ n := by omega
      have HB2 := Lib.hid (below_step HB1.out hb2 HB1.out.size)
      clear hb2 hh
      go_wp2_with fail
      with_reducible refine (p6Powers_any _ a1 len1 cap1 (R1.out _ HB2.out) n hn20).mono ?_
      rintro e w3 ⟨v, fs, cs, rfl, hv, hfl, hc, hb3⟩
      have HB3 := Lib.hid (below_step HB2.out hb3 HB2.out.size)
      have hzf : ∀ z ∈ fs, z < 18446744073709551616 := fun z hz => by
        obtain ⟨i, hi, rfl⟩ := List.getElem_of_mem hz
        have := (hc i (by omega)).2.2.lt
        simpa [List.getD, hi] using this
      subst hfl
      have hx : Eighths fs (fun i => cs.getD i 0) := fun i hi => ⟨(hc i hi).1, (hc i hi).2.1, by
        have := (hc i hi).2.2
        show Fv (cn .f64 (fs.getD i 0)) _
        rw [this.isF.cn]; exact this.fv⟩
      obtain ⟨c, hcc⟩ : ∃ c : Nat → Nat, (fun i => cs.getD i 0) = c := ⟨_, rfl⟩
      rw [hcc] at hx
      have HX := Lib.hid hx
      have HZF := Lib.hid hzf
      have HV3 := Lib.hid hv.reads
      have FI := Lib.hid (flat_i hzf hh1 hhn hn20 v w3 hv.reads)
      have FS := Lib.hid (fun w hr => flat_s hzf hh1 hhn hn20 v w hr)
      have GI := Lib.hid (fun w hr => gain_i hzf hn20 v w hr)
      have PI := Lib.hid (fun w hr => power_i hzf hn20 v w hr)
      have WI := Lib.hid (fun w hr => ww_i hzf hh1 hhn hn20 v w hr)
      have WS := Lib.hid (fun w hr => ww_s hzf hh1 hhn hn20 v w hr)
      have FO := Lib.hid (fun f2 hz2 hl2 (hl3 : List.length f2 ≤ 20) v w hr => over_i (fs := f2) hz2 hh1 hl2 hl3 v w hr)
      obtain ⟨av, cv, rfl⟩ := fl_form hv.reads
      rw [flts_length] at *
      obtain ⟨n, hN⟩ : ∃ n, fs.length = n := ⟨_, rfl⟩
      have HN := Lib.hid hN
      have hpos : 0 < fs.length := by omega
      have HG := Lib.hid (gain_fv hx hpos hn20)
      have HP := Lib.hid (power_fv hx hpos hn20)
      have HM := Lib.hid (model_fv hx hpos hn20 h)
      have HSN := Lib.hid (fun (ds : List Nat) (hdl : ds.length = fs.length) hd j (hj : j < h) => sums_near hx hpos hn20 hh1 hhn hj (ds := ds) hdl hd)
      rw [hN] at FI FS GI PI WI WS HG HP HSN HV3 hn1 hn20 hnI hhn hp ⊢
      clear hv hc hx hzf hb3 HB1 HB2 R0 R1 F0 F1 hpos hcc hN
      go_wp2_with fail
      with_reducible refine FI.out.mono ?_
      rintro e w4 ⟨v1, f1, rfl, hr1, hl1, hg1, hb4⟩
      have HV4 := Lib.hid (HV3.out.below hb4)
      have HB4 := Lib.hid (below_step HB3.out hb4 HB3.out.size)
      have HR1 := Lib.hid hr1.reads
      have HL1 := Lib.hid hl1
      have HG1 := Lib.hid hg1
      clear hr1 hl1 hg1 hb4 FI HV3 HB3
      go_wp2_with fail
      with_reducible refine (FS.out _ HV4.out).mono ?_
      rintro e w5 ⟨v2, f2, rfl, hr2, hl2, hg2, hb5⟩
      have HV5 := Lib.hid (HV4.out.below hb5)
      have HB5 := Lib.hid (below_step HB4.out hb5 HB4.out.size)
      have HR15 := Lib.hid (HR1.out.below hb5)
      have HR2 := Lib.hid hr2.reads
      have HL2 := Lib.hid hl2
      have HG2 := Lib.hid hg2
      have hz2 := all_lt (fs := f2) (z := flatZ fs h) (fun i hi => hg2 i (by omega))
      have FO2 := Lib.hid (FO.out f2 hz2 (by omega) (by omega) v2 w5 hr2.reads)
      clear hr2 hl2 hg2 hb5 hz2 FO FS HV4 HB4 HR1
      go_wp2_with fail
      with_reducible refine FO2.out.mono ?_
      rintro e w6 ⟨v3, f3, rfl, hr3, hl3, hg3, hb6⟩
      have HV6 := Lib.hid (HV5.out.below hb6)
      have HB6 := Lib.hid (below_step HB5.out hb6 HB5.out.size)
      have HR16 := Lib.hid (HR15.out.below hb6)
      have HR26 := Lib.hid (HR2.out.below hb6)
      have HR3 := Lib.hid hr3.reads
      have HS3 := Lib.hid (fun j (hj : j < h) => (show ∃ s, Has (f3.getD j 0) s ∧ Near s 1 (1 / 4398046511104) from by
        obtain ⟨s, k1, k2⟩ := HSN.out f2 HL2.out HG2.out j hj
        exact ⟨s, Has.of (hg3 j hj) k1, k2⟩))
      obtain ⟨a3, c3, rfl⟩ := fl_form hr3.reads
      rw [flts_length, hl3] at HR3 ⊢
      clear hr3 hl3 hg3 hb6 FO2 HV5 HB5 HR15 HR2 HSN
      go_wp2_with fail
      with_reducible refine (GI.out _ HV6.out).mono ?_
      rintro e w7 ⟨g1, rfl, hg1, hb7⟩
      have HV7 := Lib.hid (HV6.out.below hb7)
      have HB7 := Lib.hid (below_step HB6.out hb7 HB6.out.size)
      have HR17 := Lib.hid (HR16.out.below hb7)
      have HR27 := Lib.hid (HR26.out.below hb7)
      have HR37 := Lib.hid (HR3.out.below hb7)
      have HGA := Lib.hid (Has.of hg1 HG.out)
      clear hg1 hb7 GI HG HV6 HB6 HR16 HR26 HR3
      go_wp2_with fail
      with_reducible refine (PI.out _ HV7.out).mono ?_
      rintro e w8 ⟨g2, rfl, hg2, hb8⟩
      have HV8 := Lib.hid (HV7.out.below hb8)
      have HB8 := Lib.hid (below_step HB7.out hb8 HB7.out.size)
      have HR18 := Lib.hid (HR17.out.below hb8)
      have HR28 := Lib.hid (HR27.out.below hb8)
      have HR38 := Lib.hid (HR37.out.below hb8)
      have HPA := Lib.hid (Has.of hg2 HP.out)
      clear hg2 hb8 PI HP HV7 HB7 HR17 HR27 HR37
      go_wp2_with fail
      with_reducible refine (WI.out _ HV8.out).mono ?_
      rintro e w9 ⟨v6, f6, rfl, hr6, hl6, hg6, hb9⟩
      have HV9 := Lib.hid (HV8.out.below hb9)
      have HB9 := Lib.hid (below_step HB8.out hb9 HB8.out.size)
      have HR19 := Lib.hid (HR18.out.below hb9)
      have HR29 := Lib.hid (HR28.out.below hb9)
      have HR39 := Lib.hid (HR38.out.below hb9)
      have HR6 := Lib.hid hr6.reads
      have HL6 := Lib.hid hl6
      have HG6 := Lib.hid hg6
      clear hr6 hl6 hg6 hb9 WI HV8 HB8 HR18 HR28 HR38
      go_wp2_with fail
      with_reducible refine (WS.out _ HV9.out).mono ?_
      rintro e w10 ⟨v7, f7, rfl, hr7, hl7, hg7, hb10⟩
      have HV10 := Lib.hid (HV9.out.below hb10)
      have HB10 := Lib.hid (below_step HB9.out hb10 HB9.out.size)
      have HR3a := Lib.hid (HR39.out.below hb10)
      have HSA := Lib.hid (sameReals_any (HR19.out.below hb10) (HR29.out.below hb10) (by rw [HL1.out, HL2.out]) (fun i hi => (HG1.out i (by rw [← HL1.out]; exact hi)).cn.trans (HG2.out i (by rw [← HL1.out]; exact hi)).cn.symm) (by rw [HL1.out]; omega))
      obtain ⟨qs, hqs1, hqs2⟩ := HM.out
      have hw60 : (wgtL fs h 3).length ≤ 1000 := by
        have := addAll_len_le addO none (fun _ => sqO fs) (fun _ => fs.length) h 20 (fun _ => by rw [HN.out]; exact hn20) 3
        show (addAll addO none (fun _ => sqO fs) (fun _ => fs.length) h 3).length ≤ _
        omega
      have HSB := Lib.hid (fun m => sameReals_any ((HR6.out.below hb10).drewN m) (hr7.reads.drewN m) (by rw [HL6.out, hl7]) (fun i hi => (HG6.out i (by rw [← HL6.out]; exact hi)).cn.trans (hg7 i (by rw [← HL6.out]; exact hi)).cn.symm) (by rw [HL6.out]; omega))
      have HR7 := Lib.hid hr7.reads
      have HQ7 := Lib.hid (fun i (hi : i < (wgtL fs h 3).length) => (show Has (f7.getD i 0) (qs.getD i 0) from Has.of (hg7 i hi) (hqs1.good i hi).1))
      have HQD := Lib.hid (fun i (hi : i < (wgtL fs h 3).length) => (hqs1.good i hi).2)
      have HQL := Lib.hid hqs1.len
      have HQS := Lib.hid hqs2
      obtain ⟨a7, c7, rfl⟩ := fl_form hr7.reads
      rw [flts_length, hl7] at HR7 HSB ⊢
      obtain ⟨L, hL⟩ : ∃ L, (wgtL fs h 3).length = L := ⟨_, rfl⟩
      rw [hL] at HR7 HQ7 HQD HQL hw60 HSB ⊢
      clear hr7 hl7 hg7 hb10 WS HV9 HB9 HR19 HR29 HR39 HR6 HL6 HG6 HG1 HG2 HL1 HL2 HM hqs1 hqs2 hL
      go_wp2_with fail
      with_reducible refine HSA.out.mono ?_
      rintro e w11 ⟨rfl, m1, rfl⟩
      have HSB2 := Lib.hid (HSB.out m1)
      clear HSA HSB
      go_wp2_with fail
      with_reducible refine HSB2.out.mono ?_
      rintro e w12 ⟨rfl, m2, hw12⟩
      have HW12 := Lib.hid hw12
      have HB12 : Hid (Below w'.heap.size w' w12) := by rw [HW12.out]; exact below_draws (below_draws HB10.out m1) m2
      have HV12 : Hid (Reads w12 (.slice av n cv) (flts fs)) := by rw [HW12.out]; exact (HV10.out.drewN m1).drewN m2
      have HS12 : Hid (Reads w12 (.slice a3 h c3) (flts f3)) := by rw [HW12.out]; exact (HR3a.out.drewN m1).drewN m2
      have HM12 : Hid (Reads w12 (.slice a7 L c7) (flts f7)) := by rw [HW12.out]; exact (HR7.out.drewN m1).drewN m2
      clear hw12 HW12 HSB2 HB10 HV10 HR3a HR7
      have HFS := Lib.hid (fl_reads HS12.out _ _ _ rfl)
      have HFV := Lib.hid (fl_reads HV12.out _ _ _ rfl)
      have HFM := Lib.hid (fl_reads HM12.out _ _ _ rfl)
      clear HV12 HS12 HM12
      go_wp2
      go_loopw [22] (fun i wr => ∃ k m : Nat, i = .int .i64 k ∧ k ≤ h ∧ wr = w12.drewN m) (fun i _ => h - (intOf i).toNat)
      case atStart => exact ⟨0, 0, rfl, Nat.zero_le _, rfl⟩
      case round =>
        obtain ⟨k, m, rfl, hk, hwr⟩ := hrel
        have HWR := Lib.hid hwr
        clear hwr
        by_cases hlt : k < h
        · obtain ⟨g, rfl, hg, hcell⟩ := HFS.out k hlt
          obtain ⟨q, k1, k2⟩ := HS3.out k hlt
          obtain ⟨x, hx⟩ : ∃ x, f3.getD k 0 = x := ⟨_, rfl⟩
          rw [hx] at hcell k1
          have c1 : wr.cell? ⟨g, k, none⟩ = some (.float .f64 x) := by rw [HWR.out]; exact hcell
          obtain ⟨r, k3, k4, k5⟩ := less_one k1.fv k2 has_one.fv
          obtain ⟨d, k6, E⟩ := run_has (.inr (.inl rfl)) k3
          have AB := Lib.hid (fun w => f6abs_any d r (1 / 4398046511104) k6 ⟨k4, Rat.neg_le_iff.2 k5⟩ w)
          clear hcell hg hx k1 k2 k3 k4 k5 k6
          go_wp2_with fail
          with_reducible refine (AB.out _).mono ?_
          rintro e w13 ⟨v, r', rfl, k7, k8, rfl⟩
          have gO : FloatKind.f64.format.order v 4472406533629990549 = some .lt := by
            obtain ⟨lq, l1, l2⟩ := lit_has
            exact order_lt k7.1 l1.1 (by rw [k7.2, l1.2]; exact Rat.not_le.1 fun hc => absurd l2 (Rat.not_lt.2 (Rat.le_trans hc k8)))
          clear k7 k8 AB E
          go_wp2
          go_roundw
          case rel => exact ⟨k + 1, m, by go_num, by omega, HWR.out⟩
          case measure => simp [intOf]; omega
        · have e : h = k := by omega
          subst e
          have HB13 : Hid (Below w'.heap.size w' wr) := by rw [HWR.out]; exact below_draws HB12.out m
          have HV13 : Hid (∀ i, i < n → ∃ g, av = some ⟨g, 0, none⟩ ∧ g < wr.heap.size ∧ wr.cell? ⟨g, i, none⟩ = some (.float .f64 (fs.getD i 0))) := by rw [HWR.out]; exact HFV.out
          have HM13 : Hid (∀ i, i < L → ∃ g, a7 = some ⟨g, 0, none⟩ ∧ g < wr.heap.size ∧ wr.cell? ⟨g, i, none⟩ = some (.float .f64 (f7.getD i 0))) := by rw [HWR.out]; exact HFM.out
          clear HWR HB12 HFV HFM HFS HS3
          have HXV : Hid (∀ i, i < n → Has (fs.getD i 0) (wq c i) ∧ c i ≤ 64) := fun i hi => ⟨Has.of (wO_isF HZF.out (by rw [HN.out]; exact hi)) (HX.out i (by rw [HN.out]; exact hi)).2.2, (HX.out i (by rw [HN.out]; exact hi)).2.1⟩
          obtain ⟨wo, rfl⟩ : ∃ x, x = wr := ⟨_, rfl⟩
          go_wp2
          go_loopw [23, 24, 25] (fun s t i wr => ∃ k a b m : Nat, i = .int .i64 k ∧ k ≤ n ∧ s = .float .f64 a ∧ t = .float .f64 b ∧ Has a (psum (wq c) k) ∧ Has b (psum (fun i => wq c i * wq c i) k) ∧ wr = wo.drewN m) (fun _ _ i _ => n - (intOf i).toNat)
          case atStart => exact ⟨0, 0, 0, 0, rfl, Nat.zero_le _, rfl, rfl, has_zero, has_zero, rfl⟩
          case round =>
            obtain ⟨k, s, t, m, rfl, hk, rfl, rfl, hs1, ht1, hwr⟩ := hrel
            have HWR := Lib.hid hwr
            clear hwr
            have HS1 := Lib.hid hs1
            have HT1 := Lib.hid ht1
            clear hs1 ht1
            by_cases hlt : k < n
            · obtain ⟨g, rfl, hg, c0⟩ := HV13.out k hlt
              obtain ⟨hx1, hx2⟩ := HXV.out k hlt
              obtain ⟨x, hx⟩ : ∃ x, fs.getD k 0 = x := ⟨_, rfl⟩
              rw [hx] at c0 hx1
              have c1 : wr.cell? ⟨g, k, none⟩ = some (.float .f64 x) := by rw [HWR.out]; exact c0
              have d0 := wq_dy hx2
              have d1 := d0.mul d0
              obtain ⟨y, y1, E1⟩ := run_has (.inr (.inr (.inl rfl))) (d1.fv_mul (by omega) (by omega) hx1.fv hx1.fv)
              have d2 : Dy 3 ((k + 1) * 64) (psum (wq c) (k + 1)) := psum_dy fun i hi => wq_dy (HXV.out i (by omega)).2
              obtain ⟨s', s1, E2⟩ := run_has (.inl rfl) (d2.fv_add (by omega) (by omega) HS1.out.fv hx1.fv)
              have d3 : Dy 6 ((k + 1) * 4096) (psum (fun i => wq c i * wq c i) (k + 1)) := psum_dy fun i hi => (wq_dy (HXV.out i (by omega)).2).mul (wq_dy (HXV.out i (by omega)).2)
              obtain ⟨t', t1, E3⟩ := run_has (.inl rfl) (d3.fv_add (by omega) (by omega) HT1.out.fv y1.fv)
              have HS2 : Hid (Has s' (psum (wq c) (k + 1))) := s1
              have HT2 : Hid (Has t' (psum (fun i => wq c i * wq c i) (k + 1))) := t1
              clear d0 d1 d2 d3 y1 s1 t1 hx1 hx2 hx hg c0 HS1 HT1
              go_wp2
              go_region
              go_wp2
              go_roundw
              case rel => exact ⟨k + 1, s', t', m + 1, by go_num, by omega, rfl, rfl, HS2.out, HT2.out, by rw [HWR.out]; rfl⟩
              case measure => simp [intOf]; omega
            · have e : n = k := by omega
              subst e
              go_wp2
              go_loopw [26, 27] (fun s i wr => ∃ k a : Nat, i = .int .i64 k ∧ k ≤ L ∧ s = .float .f64 a ∧ Has a (psum (fun i => qs.getD i 0) k) ∧ wr = wo.drewN m) (fun _ i _ => L - (intOf i).toNat)
              case atStart => exact ⟨0, 0, rfl, Nat.zero_le _, rfl, has_zero, HWR.out⟩
              case round =>
                obtain ⟨k, u, rfl, hk, rfl, hu1, hwq⟩ := hrel
                have HWQ := Lib.hid hwq
                clear hwq
                have HU1 := Lib.hid hu1
                clear hu1
                by_cases hlt : k < L
                · obtain ⟨g, rfl, hg, c0⟩ := HM13.out k hlt
                  have hx1 := HQ7.out k hlt
                  obtain ⟨x, hx⟩ : ∃ x, f7.getD k 0 = x := ⟨_, rfl⟩
                  rw [hx] at c0 hx1
                  have c1 : wr.cell? ⟨g, k, none⟩ = some (.float .f64 x) := by rw [HWQ.out]; exact c0
                  have d2 : Dy 6 ((k + 1) * 245760) (psum (fun i => qs.getD i 0) (k + 1)) := psum_dy fun i hi => HQD.out i (by omega)
                  obtain ⟨u', u1, E2⟩ := run_has (.inl rfl) (d2.fv_add (by omega) (by omega) HU1.out.fv hx1.fv)
                  have HU2 : Hid (Has u' (psum (fun i => qs.getD i 0) (k + 1))) := u1
                  clear d2 u1 hx1 hx hg c0 HU1
                  go_wp2
                  go_roundw
                  case rel => exact ⟨k + 1, u', by go_num, by omega, rfl, HU2.out, HWQ.out⟩
                  case measure => simp [intOf]; omega
                · have e : L = k := by omega
                  subst e
                  have hlast : Has u (3 * psum (fun i => wq c i * wq c i) n) := by
                    have h1 := HU1.out
                    have h2 := psum_getD qs
                    rw [← HQL.out, HQS.out, HN.out] at h2
                    rw [h2] at h1
                    exact h1
                  have dt : Dy 6 81920 (psum (fun i => wq c i * wq c i) n) := (psum_dy fun i hi => (wq_dy (HXV.out i (by omega)).2).mul (wq_dy (HXV.out i (by omega)).2)).mono (by omega)
                  have d3 : Dy 6 245760 (3 * psum (fun i => wq c i * wq c i) n) := (Dy.mul (e := 0) (K := 3) (Dy.of_int (n := 3) (by decide)) dt)
                  obtain ⟨z, z1, E⟩ := run_has (.inr (.inr (.inl rfl))) (d3.fv_mul (by omega) (by omega) has_three.fv HT1.out.fv)
                  have g1' : FloatKind.f64.format.order g1 s = some .eq := order_eq_q HGA.out.1 HS1.out.1 (by rw [HGA.out.2, HS1.out.2])
                  have g2' : FloatKind.f64.format.order g2 t = some .eq := order_eq_q HPA.out.1 HT1.out.1 (by rw [HPA.out.2, HT1.out.2])
                  have g3' : FloatKind.f64.format.order u z = some .eq := order_eq_q hlast.1 z1.1 (by rw [hlast.2, z1.2])
                  clear hlast dt d3 z1
                  go_wp2
                  go_ret
                  exact ⟨rfl, by rw [HWQ.out]; exact below_draws HB13.out m⟩
    · have F1 := Lib.hid (f6big_l a1 len1 cap1 (by omega) (by omega))
      clear h0 h1
      go_enter Try.func4, Try.ntmps4
      go_wp2_with fail
      with_reducible refine (F0.out _).mono ?_
      rintro e w' ⟨rfl, rfl⟩
      go_wp2_with fail
      with_reducible refine (F1.out _).mono ?_
      rintro e w' ⟨rfl, rfl⟩
      go_wp2
      go_ret
      exact ⟨rfl, Below.refl _ _⟩
  · have F0 := Lib.hid (f6big_l a0 len0 cap0 (by omega) (by omega))
    clear h0 h1
    go_enter Try.func4, Try.ntmps4
    go_wp2_with fail
    with_reducible refine (F0.out _).mono ?_
    rintro e w' ⟨rfl, rfl⟩
    go_wp2
    go_ret
    exact ⟨rfl, Below.refl _ _⟩

end Go.Proofs.Ytcoieclecmefiaa
