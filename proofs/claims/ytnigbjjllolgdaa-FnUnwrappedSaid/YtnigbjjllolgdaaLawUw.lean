import Derived.Test.YtnigbjjllolgdaaUwq
import Derived.Test.YtnigbjjllolgdaaBig
/-
  FnUnwrapped: the law.
-/
set_option linter.unusedVariables false
set_option linter.unusedSimpArgs false
namespace Go.Proofs.Ytnigbjjllolgdaa
open Go.RowKit Flt

theorem sameReal_any (a : Nat) (w : World) : Calls Try.prog 14 #[.float .f64 a, .float .f64 a] w fun e w' => e = .returned (.bool true) ∧ w' = w := by
  have C := Lib.hid (fun w => l01SameFloat_cn a a rfl w)
  go_enter Try.func14, Try.ntmps14
  go_wp2_with fail
  refine (C.out _).mono ?_
  rintro e w' ⟨rfl, rfl⟩
  go_wp2
  go_ret
  exact ⟨rfl, rfl⟩

theorem wrapS_th {x v : Nat} {z : Option Nat} (hx : IsF x z) (hv : wrapO z = some v) (w : World) : Calls Try.prog 15 #[.float .f64 x] w fun e w' => e = .returned (.float .f64 v) ∧ ∃ n, w' = w.drewN n := by
  have C := Lib.hid (fun w => wrap_spec x z hx w)
  have HV := Lib.hid hv
  clear hx hv
  go_enter Try.func15, Try.ntmps15
  go_wp2_with fail
  refine (C.out _).mono ?_
  rintro e w' ⟨q, rfl, hq, n, rfl⟩
  have e : q = v := by rw [HV.out] at hq; exact (num_of_cn hq.cn).2
  subst e
  clear hq
  go_wp2
  go_ret
  exact ⟨rfl, n, rfl⟩
theorem wrapI_th {x v : Nat} {z : Option Nat} (hx : IsF x z) (hv : wrapO z = some v) (w : World) : Calls Try.prog 13 #[.float .f64 x] w fun e w' => e = .returned (.float .f64 v) ∧ ∃ n, w' = w.drewN n := by
  refine (wrap_impl x z hx w).mono ?_
  rintro e w' ⟨q, rfl, hq, n, rfl⟩
  have e : q = v := by rw [hv] at hq; exact (num_of_cn hq.cn).2
  subst e
  exact ⟨rfl, n, rfl⟩

/-- What is called behind draws that a region has met. -/
theorem quietOff {P : Program} {f : FuncId} {args : Array Value} {w : World} {a x : Nat} {v : Value} (h : Calls P f args (w.drewN (a + x)) fun e w' => e = .returned v ∧ ∃ m, w' = (w.drewN (a + x)).drewN m) :
    Calls P f args (w.drewN (a + x)) fun e w'' => e = .returned v ∧ ∃ n, w'' = w.drewN (a + n) :=
  h.mono fun _ _ ⟨he, m, hm⟩ => ⟨he, x + m, by rw [hm, World.drewN_drewN, Nat.add_assoc]⟩
theorem quietOff_same {P : Program} {f : FuncId} {args : Array Value} {w : World} {a x : Nat} {v : Value} (h : Calls P f args (w.drewN (a + x)) fun e w' => e = .returned v ∧ w' = w.drewN (a + x)) :
    Calls P f args (w.drewN (a + x)) fun e w'' => e = .returned v ∧ ∃ n, w'' = w.drewN (a + n) :=
  h.mono fun _ _ ⟨he, hm⟩ => ⟨he, x, hm⟩
theorem bne_f {a b : Option Ordering} (h : (a == b) = true) : (a != b) = false := by simp [bne, h]
/-- What a round looks at. -/
structure UwFacts (x g v : Nat) (k u : Int) : Prop where
  hx : Has x (th k)
  hg : Has g (th u)
  hv : Has v (th (wrI k))
  kb : -128 ≤ k ∧ k ≤ 128
  ub : u.natAbs ≤ 1000

theorem int_of_th {r : Nat} {a D : Int} (h : Has r (th a)) (e : a = 32 * D) : Has r (D : Rat) := by rw [th_int, ← e]; exact h

set_option maxRecDepth 100000 in
set_option maxHeartbeats 16000000 in
theorem fnUnwrapped_law (a0 : Option Addr) (len0 cap0 : Nat) (z0 : List Int) (a1 : Option Addr) (len1 cap1 : Nat) (z1 : List Int) (w : World) (h0 : IsRow .u8 w a0 len0 cap0 z0) (h1 : IsRow .u8 w a1 len1 cap1 z1) :
    Calls Try.prog 3 #[.slice a0 len0 cap0, .slice a1 len1 cap1] w fun e w' => e = .returned (.bool true) ∧ Below w.heap.size w w' := by
  have hm0 := isRow_len h0
  have hm1 := isRow_len h1
  by_cases hl0 : len0 ≤ 4096
  · have F0 := Lib.hid (f6big_f a0 len0 cap0 hl0)
    by_cases hl1 : len1 ≤ 4096
    · have F1 := Lib.hid (f6big_f a1 len1 cap1 hl1)
      have PK := Lib.hid (p6Pick_any w a1 len1 cap1 ⟨z1, h1⟩ 12 (by omega) (by omega))
      have PH := Lib.hid (fun (n : Nat) (hn : n ≤ 100) w1 (hb : Below w.heap.size w w1) => p6Phases_any a0 len0 cap0 n hn w1 ⟨z0, isRow_below h0 hb⟩)
      clear h0 h1 hl0 hl1
      go_enter Try.func3, Try.ntmps3
      go_wp2_with fail
      with_reducible refine (F0.out _).mono ?_
      rintro e w' ⟨rfl, rfl⟩
      go_wp2_with fail
      with_reducible refine (F1.out _).mono ?_
      rintro e w' ⟨rfl, rfl⟩
      go_wp2_with fail
      with_reducible refine PK.out.mono ?_
      rintro e w1 ⟨n, rfl, hn, hb⟩
      have hn11 : n ≤ 11 := by omega
      have HB1 := Lib.hid hb
      clear hb hn F0 F1 PK
      go_wp2_with fail
      with_reducible refine (PH.out n (by omega) w1 HB1.out).mono ?_
      rintro e w2 ⟨v, xs, rfl, hr, hlx, ⟨K, hK⟩, hb⟩
      have HXR := Lib.hid hr
      have HK := Lib.hid hK
      have HB2 := Lib.hid (below_step HB1.out hb HB1.out.size)
      have hzx : ∀ z ∈ xs, z < 18446744073709551616 := fun z hz => by
        obtain ⟨i, hi, rfl⟩ := List.getElem_of_mem hz
        have := (hK.2 i hi).lt
        simpa [List.getD, hi] using this
      have HZ := Lib.hid hzx
      obtain ⟨va, vc, rfl⟩ := fl_form hr.reads
      rw [flts_length, hlx] at HXR ⊢
      have HLX := Lib.hid hlx
      have hUN : unwN n = n := by unfold unwN; rw [if_neg (by omega)]
      have hTK : tooK n = 0 := by unfold tooK; rw [if_neg (by omega)]
      have hDN : delN n = n - 1 := by unfold delN; rw [if_neg (by omega)]
      have UI := Lib.hid (fun W h => unwrap_impl xs hzx (.slice va n vc) W h)
      have US := Lib.hid (fun W h => unwrap_spec xs hzx (.slice va n vc) W h)
      have DI := Lib.hid (fun W h => delays_impl xs hzx (.slice va n vc) W h)
      rw [hlx, hUN, hTK] at UI US
      rw [hlx, hDN, hTK] at DI
      clear hr hK hb PH HB1 hzx hlx hUN hTK hDN
      go_wp2_with fail
      with_reducible refine (UI.out w2 HXR.out.reads).mono ?_
      rintro e w3 ⟨uv, us, rfl, hru, hlu, hgu, hb3⟩
      have HX3 := Lib.hid (HXR.out.up hb3)
      have HU3 := Lib.hid hru
      have HLU := Lib.hid hlu
      have HGU := Lib.hid hgu
      have HB3 := Lib.hid (below_step HB2.out hb3 HB2.out.size)
      obtain ⟨ua, uc, rfl⟩ := fl_form hru.reads
      rw [flts_length, hlu] at HU3 ⊢
      clear hru hlu hgu hb3 UI HXR HB2
      go_wp2_with fail
      with_reducible refine (US.out w3 HX3.out.reads).mono ?_
      rintro e w4 ⟨gv, gs, rfl, hrg, hlg, hgg, hb4⟩
      have HX4 := Lib.hid (HX3.out.up hb4)
      have HU4 := Lib.hid (HU3.out.up hb4)
      have HG4 := Lib.hid hrg
      have HLG := Lib.hid hlg
      have HGG := Lib.hid hgg
      have HB4 := Lib.hid (below_step HB3.out hb4 HB3.out.size)
      obtain ⟨ga, gc, rfl⟩ := fl_form hrg.reads
      rw [flts_length, hlg] at HG4 ⊢
      clear hrg hlg hgg hb4 US HX3 HU3 HB3
      go_wp2_with fail
      with_reducible refine (DI.out w4 HX4.out.reads).mono ?_
      rintro e w5 ⟨dv, ds, rfl, hrd, hld, hgd, hb5⟩
      have HX5 := Lib.hid (HX4.out.up hb5)
      have HU5 := Lib.hid (HU4.out.up hb5)
      have HG5 := Lib.hid (HG4.out.up hb5)
      have HD5 := Lib.hid hrd
      have HLD := Lib.hid hld
      have HGD := Lib.hid hgd
      have HB5 := Lib.hid (below_step HB4.out hb5 HB4.out.size)
      obtain ⟨da, dc, rfl⟩ := fl_form hrd.reads
      rw [flts_length, hld] at HD5 ⊢
      clear hrd hld hgd hb5 DI HX4 HU4 HG4 HB4
      have SR := Lib.hid (smReals_any (w := w5) HU5.out.reads HG5.out.reads (by rw [HLU.out, HLG.out]) (fun i hi => by rw [HLU.out] at hi; exact (HGU.out i hi).cn.trans (HGG.out i hi).cn.symm) (by rw [HLU.out]; omega))
      have hnx : (n : Int) ≤ 9223372036854775807 := by omega
      obtain ⟨N1, hN1⟩ : ∃ N1, n - 1 = N1 := ⟨_, rfl⟩
      rw [hN1] at HD5 ⊢
      have HN1 := Lib.hid hN1
      clear hN1
      go_wp2_with fail
      with_reducible refine SR.out.mono ?_
      rintro e w6 ⟨rfl, n6, rfl⟩
      have HX6 := Lib.hid (HX5.out.drewN n6)
      have HG6 := Lib.hid (HG5.out.drewN n6)
      have HD6 := Lib.hid (HD5.out.drewN n6)
      have HB6 := Lib.hid (below_draws HB5.out n6)
      clear SR HX5 HG5 HD5 HB5 HU5 HGU HLU
      generalize w5.drewN n6 = w6 at *
      by_cases hn0 : n = 0
      · have e1 : N1 = 0 := by have := HN1.out; omega
        subst hn0
        subst e1
        go_wp2
        go_ret
        exact ⟨rfl, HB6.out⟩
      · have hn1 : ((n : Int) == 0) = false := by simp; omega
        have hN1i : (n : Int) - 1 = (N1 : Int) := by have := HN1.out; omega
        have HRX := Lib.hid (fl_reads HX6.out.reads _ _ _ rfl)
        have HRG := Lib.hid (fl_reads HG6.out.reads _ _ _ rfl)
        have HRDD := Lib.hid (fl_reads HD6.out.reads _ _ _ rfl)
        have hfx : ∀ i, i < n → Fv (wO xs i) (th (K i)) := fun i hi => by
          have h := HK.out.2 i (by rw [HLX.out]; exact hi)
          have e := (wO_isF HZ.out (i := i) (by rw [HLX.out]; exact hi)).cn
          rw [h.isF.cn] at e
          rw [← e]; exact h.fv
        have HFX := Lib.hid hfx
        have HUW := Lib.hid (unw_fv (xs := xs) (n := n) HK.out.1 hfx (by omega))
        have HUR := Lib.hid (unI_range K HK.out.1)
        have HUD := Lib.hid (unI_whole K)
        clear HX6 HG6 HD6 hfx hn0
        go_wp2
        go_loopw [12] (fun i wr => ∃ k m : Nat, i = .int .i64 k ∧ k ≤ n ∧ wr = w6.drewN m) (fun i _ => n - (intOf i).toNat)
        case atStart => exact ⟨0, 0, rfl, Nat.zero_le _, rfl⟩
        case round =>
          obtain ⟨k, m, rfl, hk, hw⟩ := hrel
          have HWR := Lib.hid hw
          clear hw
          by_cases hlt : k < n
          · obtain ⟨gx, rfl, -, hcx⟩ := HRX.out k hlt
            obtain ⟨gg, rfl, -, hcg⟩ := HRG.out k hlt
            have c1 : wr.cell? ⟨gx, k, none⟩ = some (.float .f64 (xs.getD k 0)) := by rw [HWR.out]; exact hcx
            have c2 : wr.cell? ⟨gg, k, none⟩ = some (.float .f64 (gs.getD k 0)) := by rw [HWR.out]; exact hcg
            have kb := HK.out.1 k
            have hhx := HK.out.2 k (by rw [HLX.out]; exact hlt)
            have ub := HUR.out k
            have hhg := Has.of (HGG.out k hlt) (HUW.out k hlt)
            obtain ⟨D, hD⟩ := HUD.out k
            obtain ⟨v, hv0, hv⟩ := fv_wrap (z := wO xs k) (by omega) (HFX.out k hlt)
            have hvv : Has v (th (wrI (K k))) := hv
            have WI := Lib.hid (fun w => wrapI_th (wO_isF HZ.out (i := k) (by rw [HLX.out]; exact hlt)) hv0 w)
            have WS := Lib.hid (fun w => wrapS_th (wO_isF HZ.out (i := k) (by rw [HLX.out]; exact hlt)) hv0 w)
            obtain ⟨x, hxx⟩ : ∃ x, xs.getD k 0 = x := ⟨_, rfl⟩
            obtain ⟨g, hgg⟩ : ∃ x, gs.getD k 0 = x := ⟨_, rfl⟩
            rw [hxx] at c1 hhx WI WS
            rw [hgg] at c2 hhg
            have wr_ := wrI_range (K k)
            obtain ⟨r1, hr1, E1⟩ := th_sub_run hhg hhx (by omega)
            have hr1' := int_of_th (D := D) hr1 (by omega)
            have T1 := fun w => run_toInt (P := Try.prog) 30 2 hr1'.1 hr1'.2 (by omega) (by kernel_rfl) Try.underlying2 w
            have q1 := bne_f (eq_has hr1' (has_int (n := D) (by omega) rfl))
            obtain ⟨r4, hr4, E4⟩ := th_sub_run hhx hvv (by omega)
            have hr4' := int_of_th (D := (K k + 16) / 32) hr4 (by unfold wrI; omega)
            have T4 := fun w => run_toInt (P := Try.prog) 30 2 hr4'.1 hr4'.2 (by omega) (by kernel_rfl) Try.underlying2 w
            have q4 := bne_f (eq_has hr4' (has_int (n := (K k + 16) / 32) (by omega) rfl))
            have q5 := has_lt_f hvv has_mhalf (th_le wr_.1)
            have q6 := has_ge_f hvv has_half (th_lt (show wrI (K k) < 16 by omega))
            unfold half at q6
            have SM := Lib.hid (fun w => sameReal_any v w)
            obtain ⟨D4, hD4⟩ : ∃ d, (K k + 16) / 32 = d := ⟨_, rfl⟩
            rw [hD4] at T4 q4
            have E1 := fun t w => E1 Try.prog t w
            have E4 := fun t w => E4 Try.prog t w
            have hi3 : (k : Int) < (n : Int) := by omega
            by_cases hk0 : k = 0
            · have g0 : decide ((0 : Int) < (k : Int)) = false := by simp; omega
              have g0' : decide (0 < k) = false := by simp; omega
              clear hcx hcg hhx hhg hv0 hv hvv hxx hgg hr1 hr1' hr4 hr4' hD hD4 kb ub wr_ hk0
              go_wp2
              go_quiet (fail)
              go_wp2
              go_quiet (fail)
              go_wp2_with fail
              refine (WI.out _).mono ?_
              rintro e w7 ⟨rfl, n7, rfl⟩
              go_wp2
              go_quiet (first | (go_at_call 15; exact quietOff (WS.out _)) | (go_at_call 14; exact quietOff_same (SM.out _)))
              go_wp2
              go_roundw
              case rel => exact ⟨k + 1, _, by go_num, by omega, by rw [HWR.out, World.drewN_drewN]⟩
              case measure => simp [intOf]; omega
            · obtain ⟨j, hj⟩ : ∃ j, k = j + 1 := ⟨k - 1, by omega⟩
              have g0 : decide ((0 : Int) < (k : Int)) = true := by simp; omega
              have g0' : decide (0 < k) = true := by simp; omega
              have hj1 : (k : Int) - 1 = (j : Int) := by omega
              have eW : IntKind.i64.wrap ((k : Int) - 1) = (j : Int) := by rw [hj1]; exact IntWalk.i64_in _ (by omega)
              have eW2 : IntKind.i64.wrap (j : Int) = (j : Int) := IntWalk.i64_in _ (by omega)
              have hjn : j < n := by omega
              have hjN : j < N1 := by have := HN1.out; omega
              obtain ⟨gg', e', -, hcg'⟩ := HRG.out j hjn
              simp only [Option.some.injEq, Addr.mk.injEq, and_true] at e'
              subst e'
              obtain ⟨gd, rfl, -, hcd⟩ := HRDD.out j hjN
              have c3 : wr.cell? ⟨gg, j, none⟩ = some (.float .f64 (gs.getD j 0)) := by rw [HWR.out]; exact hcg'
              have c4 : wr.cell? ⟨gd, j, none⟩ = some (.float .f64 (ds.getD j 0)) := by rw [HWR.out]; exact hcd
              have ub' := HUR.out j
              have hhj := Has.of (HGG.out j hjn) (HUW.out j hjn)
              have hdl : Fv (delO xs j) (th (unI K j - unI K k)) := by
                have h2 := HUW.out k hlt
                rw [hj] at h2 ub ⊢
                exact fv_th_sub (by omega) (HUW.out j hjn) h2
              have hhd := Has.of (HGD.out j (by omega)) hdl
              have hst : unI K k - unI K j = wrI (K k - K j) := by rw [hj]; show unI K j + _ - unI K j = _; omega
              have wr2 := wrI_range (K k - K j)
              obtain ⟨y, hyy⟩ : ∃ x, gs.getD j 0 = x := ⟨_, rfl⟩
              obtain ⟨d, hdd⟩ : ∃ x, ds.getD j 0 = x := ⟨_, rfl⟩
              rw [hyy] at c3 hhj
              rw [hdd] at c4 hhd
              obtain ⟨r2, hr2, E2⟩ := th_sub_run hhg hhj (by omega)
              rw [hst] at hr2
              obtain ⟨b, hb, AB⟩ := f6abs_th r2 _ hr2
              have q2 := has_gt_f hb has_half (th_le (by omega))
              unfold half at q2
              obtain ⟨r3, hr3, E3⟩ := th_sub_run hhj hhg (by omega)
              have q3 := bne_f (eq_has hhd hr3)
              have E2 := fun t w => E2 Try.prog t w
              have E3 := fun t w => E3 Try.prog t w
              have AB := Lib.hid AB
              have hi4 : (j : Int) < (n : Int) := by omega
              have hi5 : (j : Int) < (N1 : Int) := by omega
              have hi6 : (0 : Int) ≤ (j : Int) := by omega
              clear hcx hcg hhx hhg hv0 hv hvv hxx hgg hr1 hr1' hr4 hr4' hD hD4 kb ub wr_ hk0 hcg' hcd ub' hhj hdl hhd hst wr2 hyy hdd hr2 hb hr3 hj
              go_wp2
              go_quiet (fail)
              go_wp2
              go_quiet ((go_at_call 12; exact quietOff_same (AB.out _)))
              go_wp2_with fail
              refine (WI.out _).mono ?_
              rintro e w7 ⟨rfl, n7, rfl⟩
              go_wp2
              go_quiet (first | (go_at_call 15; exact quietOff (WS.out _)) | (go_at_call 14; exact quietOff_same (SM.out _)))
              go_wp2
              go_roundw
              case rel => exact ⟨k + 1, _, by go_num, by omega, by rw [HWR.out, World.drewN_drewN]⟩
              case measure => simp [intOf]; omega
          · have e : k = n := by omega
            subst e
            go_wp2
            go_ret
            exact ⟨rfl, by rw [HWR.out]; exact below_draws HB6.out m⟩
    · have F1 := Lib.hid (f6big_t a1 len1 cap1 (by omega) (by omega))
      clear h0 h1
      go_enter Try.func3, Try.ntmps3
      go_wp2_with fail
      with_reducible refine (F0.out _).mono ?_
      rintro e w' ⟨rfl, rfl⟩
      go_wp2_with fail
      with_reducible refine (F1.out _).mono ?_
      rintro e w' ⟨rfl, rfl⟩
      go_wp2
      go_ret
      exact ⟨rfl, Below.refl _ _⟩
  · have F0 := Lib.hid (f6big_t a0 len0 cap0 (by omega) (by omega))
    clear h0 h1
    go_enter Try.func3, Try.ntmps3
    go_wp2_with fail
    with_reducible refine (F0.out _).mono ?_
    rintro e w' ⟨rfl, rfl⟩
    go_wp2
    go_ret
    exact ⟨rfl, Below.refl _ _⟩

end Go.Proofs.Ytnigbjjllolgdaa
