import Derived.Test.YtpobbicbfnglaaaSpM
import Derived.Test.YtpobbicbfnglaaaSpC
/-
  SmoothPowers of the model.
-/
set_option linter.unusedVariables false
set_option linter.unusedSimpArgs false
namespace Go.Proofs.Ytpobbicbfnglaaa
open Go.RowKit Flt Fast
attribute [local go_sem] run_fadd run_fsub run_fmul run_fquo run_cadd run_csub

theorem l00Max_any (a b c : Int) (h : (if b < a then a else b) = c) (w : World) :
    Calls Try.prog 43 #[.int .i64 a, .int .i64 b] w fun e w' => e = .returned (.int .i64 c) ∧ w' = w := by
  subst h
  by_cases g : b < a
  · rw [if_pos g]
    go_enter Try.func43, Try.ntmps43
    go_wp2
    go_ret
    exact ⟨rfl, rfl⟩
  · rw [if_neg g]
    have g' : decide (b < a) = false := decide_eq_false g
    go_enter Try.func43, Try.ntmps43
    go_wp2
    go_ret
    exact ⟨rfl, rfl⟩

theorem sm_rest' {n r k i : Nat} {J : Int} (h : r < n) (hJ : J + (r : Int) = (i : Int)) : ((k : Int) + J + (n : Int)) % (n : Int) = (smI n r k i : Int) := by
  rw [Int.add_emod_right, show (k : Int) + J = (k : Int) - (r : Int) + (i : Int) by omega]
  exact sm_rest h
theorem sm_rest0 {n r k : Nat} (h : r < n) : ((k : Int) - (r : Int) + (n : Int)) % (n : Int) = (smI n r k 0 : Int) := by
  have := sm_rest (n := n) (r := r) (k := k) (i := 0) h
  rw [Int.add_emod_right]
  simpa using this

set_option maxRecDepth 100000 in
set_option maxHeartbeats 8000000 in
theorem smooth_spec (xs : List Nat) (hz : ∀ z ∈ xs, z < 18446744073709551616) (r : Int) (v : Value) (w : World) (h : Reads w v (flts xs)) :
    Calls Try.prog 13 #[v, .int .i64 r] w (FloatsTo (smN xs.length r) (smO xs r.toNat) (smK xs.length r) w) := by
  have hcap := fl_cap h
  have hrd := fl_reads h
  obtain ⟨a, cap, rfl⟩ := fl_form h
  rw [flts_length] at *
  replace hcap := hcap _ _ _ rfl
  replace hrd := hrd _ _ _ rfl
  by_cases hb : 256 < xs.length
  · have e2 : smK xs.length r = 3 := if_pos hb
    have e1 : smN xs.length r = 0 := by unfold smN; rw [e2, if_neg (by decide)]
    rw [e1, e2]
    obtain ⟨n, hn⟩ : ∃ n, xs.length = n := ⟨_, rfl⟩
    rw [hn] at hcap hb ⊢
    clear e1 e2 h hn hz hrd
    go_enter Try.func13, Try.ntmps13
    go_wp2
    go_ret2
    exact ⟨_, [], rfl, World.ownsRow_lit w #[] 0 (Nat.le_refl _) (by unfold maxLen; omega) rfl, rfl, fun i hi => by omega, (Below.refl _ _).alloc (Nat.le_refl _) _⟩
  · obtain ⟨M, hM⟩ : ∃ M : Nat, xs.length - 1 = M := ⟨_, rfl⟩
    have MX := Lib.hid (fun w => l00Max_any 0 ((xs.length : Int) - 1) (M : Int) (by split <;> omega) w)
    by_cases hin : 0 ≤ r ∧ r ≤ (xs.length : Int) - 1 ∨ (xs.length = 0 ∧ r = 0)
    · have IN := Lib.hid (fun w => in_t r 0 (M : Int) (by omega) w)
      have e2 : smK xs.length r = 0 := by unfold smK; rw [if_neg hb, if_pos hin]
      have e1 : smN xs.length r = xs.length := by unfold smN; rw [e2, if_pos rfl]
      rw [e1, e2]
      obtain ⟨i0, hi, hz0, hz1, hz2⟩ := info_parts info_f64'
      obtain ⟨q, rfl⟩ : ∃ q : Nat, r = q := ⟨r.toNat, by omega⟩
      rw [show ((q : Int)).toNat = q from rfl]
      have hW : ∀ i, i < xs.length → IsF (xs.getD i 0) (wO xs i) := fun i hi => wO_isF hz hi
      obtain ⟨T, hT⟩ : ∃ T : Nat, 2 * q + 1 = T := ⟨_, rfl⟩
      have hO : ∀ k, smO xs q k = fop .quo .f64 (sumO (smZ xs q k) T) (some (floatOfInt .f64 (T : Int))) := fun k => by unfold smO; rw [hT]
      have hZ : ∀ k i, smZ xs q k i = wO xs (smI xs.length q k i) := fun k i => rfl
      obtain ⟨n, hn⟩ : ∃ n, xs.length = n := ⟨_, rfl⟩
      rw [hn] at hb hin hcap hrd hW hZ MX ⊢
      have hqn : ∀ k, k < n → q < n := fun k hk => by omega
      have hqb : q ≤ 256 := by omega
      have hTb : T ≤ 600 := by omega
      have hT' : 2 * (q : Int) + 1 = (T : Int) := by omega
      have HRD := Lib.hid hrd
      have HW := Lib.hid hW
      have HO := Lib.hid hO
      have HZ := Lib.hid hZ
      have HT := Lib.hid hT
      have HQN := Lib.hid hqn
      have HLIT := Lib.hid (World.ownsRow_lit w (e := 29) (base := w.heap.size) (size := 1) #[] 0 (Nat.le_refl _) (by unfold maxLen; omega) rfl)
      clear h hz e1 e2 hrd hW hO hZ hn hM hT hin hqn
      go_enter Try.func13, Try.ntmps13
      go_wp2_with fail
      refine (MX.out _).mono ?_
      rintro e w' ⟨rfl, rfl⟩
      go_wp2_with fail
      refine (IN.out _).mono ?_
      rintro e w' ⟨rfl, rfl⟩
      go_wp2
      go_loopw [7, 8] (fun v7 i wr => ∃ (k : Nat) (gs : List Nat), i = .int .i64 k ∧ k ≤ n ∧ Row wr w'.heap.size 29 v7 (flts gs) ∧ gs.length = k ∧ (∀ j, j < k → IsF (gs.getD j 0) (smO xs q j)) ∧ Below w'.heap.size w' wr) (fun _ i _ => n - (intOf i).toNat)
      case atStart => exact ⟨0, [], rfl, Nat.zero_le _, HLIT.out, rfl, fun j hj => by omega, (Below.refl _ _).alloc (Nat.le_refl _) _⟩
      case round =>
        obtain ⟨k, gs, rfl, hk, hrw, hfs, hgd, hbw⟩ := hrel
        have HRW := Lib.hid hrw
        have HFS := Lib.hid hfs
        have HGD := Lib.hid hgd
        have HBW := Lib.hid hbw
        clear hrw hfs hgd hbw
        by_cases hlt : k < n
        · have hq := HQN.out k hlt
          have hnz : ¬ (n : Int) = 0 := by omega
          have hnz' : ¬ n = 0 := by omega
          obtain ⟨wo, hwo⟩ : ∃ wo, wo = wr := ⟨_, rfl⟩
          have CELL : Hid (∀ P, P < n → ∃ g, a = some ⟨g, 0, none⟩ ∧ ∀ m, (wo.drewN m).cell? ⟨g, P, none⟩ = some (.float .f64 (xs.getD P 0))) := fun P hP => by
            obtain ⟨g, e, hg, hc⟩ := HRD.out P hP
            refine ⟨g, e, fun m => ?_⟩
            rw [hwo]
            show wr.cell? _ = _
            rw [HBW.out.cell hg]; exact hc
          have p0 := smI_lt q k 0 (show 0 < n by omega)
          have q0 := sm_rest0 (k := k) hq
          have hz00 := HZ.out k 0
          obtain ⟨P, hP⟩ : ∃ P, smI n q k 0 = P := ⟨_, rfl⟩
          rw [hP] at p0 q0 hz00
          obtain ⟨g, rfl, hc⟩ := CELL.out P p0
          have c1 : wr.cell? ⟨g, P, none⟩ = some (.float .f64 (xs.getD P 0)) := by rw [← hwo]; exact hc 0
          have hx := HW.out P p0
          obtain ⟨x, hxx⟩ : ∃ x, xs.getD P 0 = x := ⟨_, rfl⟩
          rw [hxx] at c1 hx
          have HX : Hid (IsF x (sumO (smZ xs q k) 1)) := by rw [sumO_one, hz00]; exact hx
          have q0' : ((k : Int) - (q : Int) + (n : Int)).tmod (n : Int) = (P : Int) := by rw [Int.tmod_eq_emod_of_nonneg (by omega)]; exact q0
          have i1 : (P : Int) < (n : Int) := by omega
          have eW1 : IntKind.i64.wrap ((k : Int) - (q : Int)) = (k : Int) - (q : Int) := IntWalk.i64_in _ (by omega)
          have eW2 : IntKind.i64.wrap ((k : Int) - (q : Int) + (n : Int)) = (k : Int) - (q : Int) + (n : Int) := IntWalk.i64_in _ (by omega)
          clear hxx hx hz00 hP hc
          go_wp2
          rw [← hwo] at HRW HBW ⊢
          clear hwo
          go_loopw [9, 10] (fun s j wq => ∃ (i b m : Nat) (J : Int), j = .int .i64 J ∧ s = .float .f64 b ∧ J + (q : Int) = (i : Int) ∧ 1 ≤ i ∧ i ≤ T ∧ IsF b (sumO (smZ xs q k) i) ∧ wq = wo.drewN m) (fun _ j _ => ((q : Int) + 1 - intOf j).toNat)
          case atStart => exact ⟨1, x, 0, _, rfl, rfl, by omega, by omega, by have := HT.out; omega, HX.out, rfl⟩
          case round =>
            obtain ⟨i, s, m, J, rfl, rfl, hJ, hi1, hiT, hs, hw⟩ := hrel
            have HS := Lib.hid hs
            have HWR := Lib.hid hw
            have HJ := Lib.hid hJ
            clear hs hw hJ
            by_cases hle : J ≤ (q : Int)
            · have p1 := smI_lt q k i (show 0 < n by omega)
              have q1 := sm_rest' (k := k) hq HJ.out
              have hz1' := HZ.out k i
              obtain ⟨P', hP'⟩ : ∃ P, smI n q k i = P := ⟨_, rfl⟩
              rw [hP'] at p1 q1 hz1'
              obtain ⟨g', e', hc'⟩ := CELL.out P' p1
              simp only [Option.some.injEq, Addr.mk.injEq, and_true] at e'
              subst e'
              have c2 : wr.cell? ⟨g, P', none⟩ = some (.float .f64 (xs.getD P' 0)) := by rw [HWR.out]; exact hc' m
              have hy := HW.out P' p1
              obtain ⟨y, hyy⟩ : ∃ x, xs.getD P' 0 = x := ⟨_, rfl⟩
              rw [hyy] at c2 hy
              have e0 : sumO (smZ xs q k) (i + 1) = fop .add .f64 (sumO (smZ xs q k) i) (smZ xs q k i) := sumO_succ _ (by omega)
              have HN : Hid (∀ wf, IsF (fres .add .f64 s y wf) (sumO (smZ xs q k) (i + 1))) := fun wf => by rw [e0, hz1']; exact isF_fres HS.out hy wf
              have b1 : -256 ≤ J := by have := HJ.out; omega
              have q1' : ((k : Int) + J + (n : Int)).tmod (n : Int) = (P' : Int) := by have := HJ.out; rw [Int.tmod_eq_emod_of_nonneg (by omega)]; exact q1
              have j1 : (P' : Int) < (n : Int) := by omega
              have eV1 : IntKind.i64.wrap ((k : Int) + J) = (k : Int) + J := IntWalk.i64_in _ (by omega)
              have eV2 : IntKind.i64.wrap ((k : Int) + J + (n : Int)) = (k : Int) + J + (n : Int) := IntWalk.i64_in _ (by omega)
              have hnext : Hid (J + 1 + (q : Int) = ((i + 1 : Nat) : Int) ∧ i + 1 ≤ T) := ⟨by have := HJ.out; omega, by have := HJ.out; have := HT.out; omega⟩
              clear hyy hy hz1' hP' hc' e0
              go_wp2
              go_roundw
              case rel => exact ⟨i + 1, _, _, J + 1, by go_num, rfl, hnext.out.1, by omega, hnext.out.2, HN.out _, by rw [HWR.out, World.drewN_drewN]⟩
              case measure => simp [intOf]; omega
            · have HI : Hid (i = T) := by have := HJ.out; have := HT.out; show i = T; omega
              have HS2 : Hid (IsF s (sumO (smZ xs q k) T)) := by rw [← HI.out]; exact HS.out
              have hle' : decide (J ≤ (q : Int)) = false := decide_eq_false hle
              have hl8 : (flts gs).length = k := by rw [flts_length, HFS.out]
              have HRW2 : Hid (Row wr w'.heap.size 29 u7 (flts gs)) := by rw [HWR.out]; exact HRW.out.drewN m
              have HBW2 : Hid (Below w'.heap.size w' wr) := by rw [HWR.out]; exact below_draws HBW.out m
              have HN : Hid (∀ wf, IsF (fres .quo .f64 s (floatOfInt .f64 (T : Int)) wf) (smO xs q k)) := fun wf => by rw [HO.out]; exact isF_fres HS2.out (IsF.ofInt _) wf
              clear HS HS2 HI HJ
              go_wp2_with (at_builtin; refine wpList_append_own _ rfl _ _ 22 rfl w'.heap.size 29 i0 (.float .f64 0) 1 8 Try.underlying22 hi hz0 hz1 hz2 rfl (by decide) _ _ _ rfl ((HRW2.out.drewN _).alloc _) ⟨_, 0, none⟩ 1 1 [.float .f64 _] rfl rfl (cell_one_new _ _ _) (one_single _ _) (by rw [hl8]; simp only [maxLen]; omega) (by rw [hl8]; omega) (by have := HBW2.out.size; simp; omega) ?_)
              intro v' w1 hown' hgrow _
              have hF := snocGood (d := (0 : Nat)) (G := fun i p' => IsF p' (smO xs q i)) HFS.out HGD.out (HN.out wr)
              have hb' : Below w'.heap.size w' w1 := ((below_draws HBW2.out _).alloc (by have := HBW2.out.size; simp; omega) _).grown hgrow (by have := HBW2.out.size; simp; omega) (fun b e => (HRW2.out.lt b e).1)
              have HO' : Hid (∃ fs', Row w1 w'.heap.size 29 v' (flts fs') ∧ fs'.length = k + 1 ∧ ∀ j, j < k + 1 → IsF (fs'.getD j 0) (smO xs q j)) := by
                refine ⟨gs ++ [_], ?_, hF.1, hF.2⟩
                show w1.ownsRow _ _ _ _ _ _
                rw [flts_snoc, List.length_append, hl8]
                (try rw [hl8] at hown')
                exact hown'
              have HB' := Lib.hid hb'
              obtain ⟨fs', hO'⟩ := HO'.out
              have HOO := Lib.hid hO'
              clear hown' hgrow hb' hF hO' HO' HRW HBW HRW2 HBW2 hl8
              go_wp2
              go_roundw
              case rel => first | exact ⟨k + 1, fs', by go_num, by omega, HOO.out.1, HOO.out.2.1, HOO.out.2.2, HB'.out⟩ | ((repeat apply Exists.intro); refine ⟨?_, rfl⟩; exact ⟨k + 1, fs', by go_num, by omega, HOO.out.1, HOO.out.2.1, HOO.out.2.2, HB'.out⟩)
              case measure => simp [intOf]; omega
        · have e : k = n := by omega
          subst e
          go_wp2
          go_ret2
          exact ⟨_, gs, rfl, HRW.out, HFS.out, HGD.out, HBW.out⟩
    · have IN := Lib.hid (fun w => in_f r 0 (M : Int) (by omega) w)
      have e2 : smK xs.length r = 2 := by unfold smK; rw [if_neg hb, if_neg hin]
      have e1 : smN xs.length r = 0 := by unfold smN; rw [e2, if_neg (by decide)]
      rw [e1, e2]
      obtain ⟨n, hn⟩ : ∃ n, xs.length = n := ⟨_, rfl⟩
      rw [hn] at hcap hb MX ⊢
      clear e1 e2 h hn hz hrd hin hM
      go_enter Try.func13, Try.ntmps13
      go_wp2_with fail
      refine (MX.out _).mono ?_
      rintro e w' ⟨rfl, rfl⟩
      go_wp2_with fail
      refine (IN.out _).mono ?_
      rintro e w' ⟨rfl, rfl⟩
      go_wp2
      go_ret2
      exact ⟨_, [], rfl, World.ownsRow_lit w' #[] 0 (Nat.le_refl _) (by unfold maxLen; omega) rfl, rfl, fun i hi => by omega, (Below.refl _ _).alloc (Nat.le_refl _) _⟩

end Go.Proofs.Ytpobbicbfnglaaa
