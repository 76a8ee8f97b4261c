import Derived.Test.YtpobbicbfnglaaaSpE
/-
  DelaysOf of the model.
-/
set_option linter.unusedVariables false
set_option linter.unusedSimpArgs false
namespace Go.Proofs.Ytpobbicbfnglaaa
open Go.RowKit Flt Fast
attribute [local go_sem] run_fadd run_fsub run_fmul run_fquo run_cadd run_csub

set_option maxRecDepth 100000 in
set_option maxHeartbeats 8000000 in
theorem delays_spec (xs : List Nat) (hz : ∀ z ∈ xs, z < 18446744073709551616) (v : Value) (w : World) (h : Reads w v (flts xs)) :
    Calls Try.prog 37 #[v] w (FloatsTo (delN xs.length) (delO xs) (tooK xs.length) w) := by
  have hcap := fl_cap h
  by_cases hb : 256 < xs.length
  · have e1 : delN xs.length = 0 := if_pos hb
    have e2 : tooK xs.length = 3 := if_pos hb
    rw [e1, e2]
    obtain ⟨a, cap, rfl⟩ := fl_form h
    rw [flts_length] at *
    replace hcap := hcap _ _ _ rfl
    obtain ⟨n, hn⟩ : ∃ n, xs.length = n := ⟨_, rfl⟩
    rw [hn] at hcap hb ⊢
    clear e1 e2 h hn hz
    go_enter Try.func37, Try.ntmps37
    go_wp2
    go_ret2
    exact ⟨_, [], rfl, World.ownsRow_lit w #[] 0 (Nat.le_refl _) (by unfold maxLen; omega) rfl, rfl, fun i hi => by omega, (Below.refl _ _).alloc (Nat.le_refl _) _⟩
  · have e1 : delN xs.length = xs.length - 1 := if_neg hb
    have e2 : tooK xs.length = 0 := if_neg hb
    rw [e1, e2]
    obtain ⟨i0, hi, hz0, hz1, hz2⟩ := info_parts info_f64'
    have M := Lib.hid (unwrap_model xs hz (by omega) v w h)
    have hDx : ∀ i, delO xs i = fop .sub .f64 (unwO xs i) (unwO xs (i + 1)) := fun i => rfl
    have HD := Lib.hid hDx
    obtain ⟨a, cap, rfl⟩ := fl_form h
    rw [flts_length] at *
    replace hcap := hcap _ _ _ rfl
    obtain ⟨n, hn⟩ : ∃ n, xs.length = n := ⟨_, rfl⟩
    rw [hn] at M hcap hb ⊢
    clear e1 e2 h hn hz hDx
    go_enter Try.func37, Try.ntmps37
    go_wp2_with fail
    refine M.out.mono ?_
    rintro e w2 ⟨u, fs, rfl, hr, hl, hg, hbb⟩
    have hrs := fl_reads hr.reads
    obtain ⟨a2, cap2, rfl⟩ := fl_form hr.reads
    rw [flts_length, hl] at hrs ⊢
    have HRS := Lib.hid (hrs _ _ _ rfl)
    have HG := Lib.hid hg
    have HB := Lib.hid hbb
    have HLIT := Lib.hid (World.ownsRow_lit w2 (e := 29) (base := w2.heap.size) (size := 1) #[] 0 (Nat.le_refl _) (by unfold maxLen; omega) rfl)
    have hn256 : n ≤ 256 := by omega
    clear hr hl hg hbb hrs M hb
    go_wp2
    go_loopw [5, 6] (fun v8 i wr => ∃ (k : Nat) (gs : List Nat), i = .int .i64 ((k + 1 : Nat) : Int) ∧ k ≤ n - 1 ∧ Row wr w2.heap.size 29 v8 (flts gs) ∧ gs.length = k ∧ (∀ j, j < k → IsF (gs.getD j 0) (delO xs j)) ∧ Below w2.heap.size w2 wr) (fun _ i _ => n + 1 - (intOf i).toNat)
    case atStart => exact ⟨0, [], rfl, Nat.zero_le _, HLIT.out, rfl, fun j hj => by omega, (Below.refl _ _).alloc (Nat.le_refl _) _⟩
    case round =>
      obtain ⟨k, gs, rfl, hk, hrw, hfs, hgd, hbw⟩ := hrel
      have HRW := Lib.hid hrw
      have HFS := Lib.hid hfs
      have HGD := Lib.hid hgd
      have HBW := Lib.hid hbw
      clear hrw hfs hgd hbw
      obtain ⟨J, hJ⟩ : ∃ J, k + 1 = J := ⟨_, rfl⟩
      rw [hJ]
      have hJ1 : (J : Int) - 1 = (k : Int) := by omega
      by_cases hlt : J < n
      · have hkn : k < n := by omega
        obtain ⟨g2, rfl, hg2, hc2⟩ := HRS.out J hlt
        obtain ⟨g', e', hg', hc'⟩ := HRS.out k hkn
        simp only [Option.some.injEq, Addr.mk.injEq, and_true] at e'
        subst e'
        have c2 : wr.cell? ⟨g2, J, none⟩ = some (.float .f64 (fs.getD J 0)) := by rw [HBW.out.cell hg2]; exact hc2
        have c1 : wr.cell? ⟨g2, k, none⟩ = some (.float .f64 (fs.getD k 0)) := by rw [HBW.out.cell hg2]; exact hc'
        have hy := HG.out J hlt
        have hx := HG.out k hkn
        obtain ⟨x, hxx⟩ : ∃ x, fs.getD k 0 = x := ⟨_, rfl⟩
        obtain ⟨y, hyy⟩ : ∃ y, fs.getD J 0 = y := ⟨_, rfl⟩
        rw [hxx] at c1 hx
        rw [hyy] at c2 hy
        have eW : IntKind.i64.wrap (k : Int) = (k : Int) := IntWalk.i64_in _ (by omega)
        have hi1 : (0 : Int) ≤ (k : Int) := by omega
        have hi2 : (k : Int) < (n : Int) := by omega
        have hi3 : (J : Int) < (n : Int) := by omega
        have hl8 : (flts gs).length = k := by rw [flts_length, HFS.out]
        have HN : Hid (∀ wf, IsF (fres .sub .f64 x y wf) (delO xs k)) := fun wf => by rw [HD.out, hJ]; exact isF_fres hx hy wf
        have HROW2 : Hid (∀ (nn : Nat) (o : Obj), ((wr.drewN nn).alloc o).ownsRow w2.heap.size 29 1 u5 k (flts gs)) := fun nn o => by
          have := (HRW.out.drewN nn).alloc o
          unfold Row at this
          rwa [hl8] at this
        have hs63 : k + 1 ≤ maxLen := by simp only [maxLen]; omega
        have hsby : (k + 1) * 8 ≤ 140737488355328 := by omega
        have hsba : ∀ (nn : Nat) (o : Obj), w2.heap.size ≤ ((wr.drewN nn).alloc o).heap.size := fun nn o => by
          have := HBW.out.size
          show _ ≤ (wr.alloc o).heap.size
          simp; omega
        have HNX : Hid (∀ (nn : Nat) (o : Obj) (v' : Value) (w3 : World) (wf : World), w3.ownsRow w2.heap.size 29 1 v' (k + 1) (flts gs ++ [.float .f64 (fres .sub .f64 x y wf)]) → ((wr.drewN nn).alloc o).grownBy w3 u5.ownBlock →
            ∃ fs', Row w3 w2.heap.size 29 v' (flts fs') ∧ fs'.length = k + 1 ∧ (∀ j, j < k + 1 → IsF (fs'.getD j 0) (delO xs j)) ∧ Below w2.heap.size w2 w3) := fun nn o v' w3 wf h1 h2 => by
          have hF := snocGood (d := (0 : Nat)) (G := fun i p' => IsF p' (delO xs i)) HFS.out HGD.out (HN.out wf)
          refine ⟨gs ++ [_], ?_, hF.1, hF.2, ((below_draws HBW.out nn).alloc HBW.out.size o).grown h2 (hsba nn o) (fun b e => (HRW.out.lt b e).1)⟩
          show w3.ownsRow _ _ _ _ _ _
          rw [flts_snoc, List.length_append, hl8]
          exact h1
        have hrel' : Hid (((J : Nat) : Int) = ((k + 1 : Nat) : Int) ∧ k + 1 + 1 = J + 1 ∧ k + 1 ≤ n - 1) := ⟨by omega, by omega, by omega⟩
        clear hxx hyy hx hy hc2 hc' hl8 hg2 hg' hJ hk
        go_wp2
        go_region_law (first
          | (refine step_append_lies _ rfl (.tmp 20) (.tmp 31) 22 rfl w2.heap.size 29 i0 (.float .f64 0) 1 8 Try.underlying22 hi hz0 hz1 hz2 rfl (by decide) u5 k (flts gs) rfl (HROW2.out _ _) ⟨wr.heap.size, 0, none⟩ 1 1 [.float .f64 _] rfl rfl (cell_one_new _ _ _) (one_single _ _) (by decide) hs63 hsby (hsba _ _) _ rfl ?_; intro g' cap' w3 hown hgrow hor hlt2; obtain ⟨fs', hrn, hfn, hgn, hbn⟩ := HNX.out _ _ _ _ _ hown hgrow; have HRN := Lib.hid hrn; have HFN := Lib.hid hfn; have HGN := Lib.hid hgn; have HBN := Lib.hid hbn; clear hown hgrow hor hlt2 hrn hfn hgn hbn)
          | (trace_state; fail))
        all_goals
          go_wp2
          go_roundw
          case rel => first | exact ⟨k + 1, fs', by have := hrel'.out.1; go_num, hrel'.out.2.2, HRN.out, HFN.out, HGN.out, HBN.out⟩ | ((repeat apply Exists.intro); refine ⟨?_, rfl⟩; exact ⟨k + 1, fs', by have := hrel'.out.1; go_num, hrel'.out.2.2, HRN.out, HFN.out, HGN.out, HBN.out⟩)
          case measure => simp [intOf]; omega
      · have e : k = n - 1 := by omega
        have HX : Hid (Row wr w.heap.size 29 u5 (flts gs) ∧ gs.length = n - 1 ∧ (∀ j, j < n - 1 → IsF (gs.getD j 0) (delO xs j)) ∧ Below w.heap.size w wr) := by
          refine ⟨HRW.out.base HB.out.size, by rw [HFS.out, e], ?_, below_step HB.out HBW.out HB.out.size⟩
          rw [← e]; exact HGD.out
        clear hJ1
        go_wp2
        go_ret2
        exact ⟨_, gs, rfl, HX.out⟩

end Go.Proofs.Ytpobbicbfnglaaa
