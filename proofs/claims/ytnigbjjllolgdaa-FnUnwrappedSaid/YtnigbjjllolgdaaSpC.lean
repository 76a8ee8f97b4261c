import Derived.Test.YtnigbjjllolgdaaSpB
import Derived.Deep.AppendLies
import Derived.IntWalk
/-
  UnwrapPhases of both.
-/
set_option linter.unusedVariables false
set_option linter.unusedSimpArgs false
namespace Go.Proofs.Ytnigbjjllolgdaa
open Go.RowKit Flt Fast
attribute [local go_sem] run_fadd run_fsub run_fmul run_fquo run_cadd run_csub

theorem unwO_next (xs : List Nat) {j J : Nat} (h : J = j + 1) : unwO xs J = fop .add .f64 (unwO xs j) (wrapO (fop .sub .f64 (wO xs J) (wO xs j))) := by subst h; rfl
theorem one_single (k : FloatKind) (a : Nat) : ∀ u ∈ [Value.float k a], u.oneCell' = true := by intro u hu; simp at hu; subst hu; rfl

set_option maxRecDepth 100000 in
set_option maxHeartbeats 8000000 in
theorem unwrap_model (xs : List Nat) (hz : ∀ z ∈ xs, z < 18446744073709551616) (hl : xs.length ≤ 256) (v : Value) (w : World) (h : Reads w v (flts xs)) :
    Calls Try.prog 29 #[v] w fun e w' => ∃ u fs, e = .returned u ∧ Row w' w.heap.size 30 u (flts fs) ∧ fs.length = xs.length ∧ (∀ i, i < xs.length → IsF (fs.getD i 0) (unwO xs i)) ∧ Below w.heap.size w w' := by
  obtain ⟨i0, hi, hz0, hz1, hz2⟩ := info_parts info_f64'
  have hrd := fl_reads h
  obtain ⟨a, cap, rfl⟩ := fl_form h
  rw [flts_length] at *
  replace hrd := hrd _ _ _ rfl
  have hW : ∀ i, i < xs.length → IsF (xs.getD i 0) (wO xs i) := fun i hi => wO_isF hz hi
  obtain ⟨n, hn⟩ : ∃ n, xs.length = n := ⟨_, rfl⟩
  rw [hn] at hrd hW hl ⊢
  have HRD := Lib.hid hrd
  have HW := Lib.hid hW
  have hlit := World.ownsRow_lit w (e := 30) (base := w.heap.size) (size := 1) #[] 0 (Nat.le_refl _) (by unfold maxLen; omega) rfl
  have HLIT := Lib.hid hlit
  clear h hrd hW hz hn hlit
  go_enter Try.func29, Try.ntmps29
  go_wp2
  go_loopw [3, 4] (fun v3 i wr => ∃ (k : Nat) (fs : List Nat), i = .int .i64 k ∧ k ≤ n ∧ Row wr w.heap.size 30 v3 (flts fs) ∧ fs.length = k ∧ (∀ j, j < k → IsF (fs.getD j 0) (unwO xs j)) ∧ Below w.heap.size w wr) (fun _ i _ => n - (intOf i).toNat)
  case atStart => exact ⟨0, [], rfl, Nat.zero_le _, HLIT.out, rfl, fun j hj => by omega, (Below.refl _ _).alloc (Nat.le_refl _) _⟩
  case round =>
    obtain ⟨k, fs, rfl, hk, hrw, hfs, hgd, hbw⟩ := hrel
    have HRW := Lib.hid hrw
    have HFS := Lib.hid hfs
    have HGD := Lib.hid hgd
    have HBW := Lib.hid hbw
    have hsh := hrw.shape
    clear hrw hfs hgd hbw
    by_cases hlt : k < n
    · obtain ⟨g, rfl, hg, hc⟩ := HRD.out k hlt
      have c1 : wr.cell? ⟨g, k, none⟩ = some (.float .f64 (xs.getD k 0)) := by rw [HBW.out.cell hg]; exact hc
      have hx := HW.out k hlt
      obtain ⟨x, hxx⟩ : ∃ x, xs.getD k 0 = x := ⟨_, rfl⟩
      rw [hxx] at c1 hx
      have HX := Lib.hid hx
      have hl8 : (flts fs).length = k := by rw [flts_length, HFS.out]
      have hs63 : k + 1 ≤ maxLen := by simp only [maxLen]; omega
      have hsby : (k + 1) * 8 ≤ 140737488355328 := by omega
      have hsba : ∀ (nn : Nat) (o : Obj), w.heap.size ≤ ((wr.drewN nn).alloc o).heap.size := fun nn o => by
        have := HBW.out.size
        show _ ≤ (wr.alloc o).heap.size
        simp; omega
      clear hxx hx hc
      by_cases h0 : k = 0
      · subst h0
        rcases hsh with ⟨a8, cap8, rfl, hcs⟩ | ⟨g8, cap8, rfl, hp, -⟩
        · have HROW2 : Hid (Row (wr.alloc (.cells #[.float .f64 x] 30)) w.heap.size 30 (.slice a8 0 cap8) (flts fs)) := HRW.out.alloc _
          clear hcs
          go_wp2_with (at_builtin; refine wpList_append_own _ rfl _ _ 24 rfl w.heap.size 30 i0 (.float .f64 0) 1 8 Try.underlying24 hi hz0 hz1 hz2 rfl (by decide) _ _ _ rfl HROW2.out ⟨_, 0, none⟩ 1 1 [.float .f64 x] rfl rfl (cell_one_new _ _ _) (one_single _ _) (by rw [hl8]; simp only [maxLen]; omega) (by rw [hl8]; omega) (by have := HBW.out.size; simp; omega) ?_)
          intro v' w1 hown' hgrow _
          have hb' : Below w.heap.size w w1 := (HBW.out.alloc HBW.out.size _).grown hgrow (by have := HBW.out.size; simp; omega) (fun b e => (HROW2.out.lt b e).1)
          have HO' : Hid (Row w1 w.heap.size 30 v' (flts (fs ++ [x]))) := by
            show w1.ownsRow _ _ _ _ _ _
            rw [flts_snoc, List.length_append, hl8]
            (try rw [hl8] at hown')
            exact hown'
          have HB' := Lib.hid hb'
          have HF := Lib.hid (snocGood (d := (0 : Nat)) (G := fun i p' => IsF p' (unwO xs i)) HFS.out HGD.out HX.out)
          clear hown' hgrow hb' HROW2 HRW HBW hl8
          go_wp2
          go_roundw
          case rel => first | exact ⟨1, fs ++ [x], by go_num, by omega, HO'.out, HF.out.1, HF.out.2, HB'.out⟩ | ((repeat apply Exists.intro); refine ⟨?_, rfl⟩; exact ⟨1, fs ++ [x], by go_num, by omega, HO'.out, HF.out.1, HF.out.2, HB'.out⟩)
          case measure => simp [intOf]; omega
        · omega
      · obtain ⟨j, hj⟩ : ∃ j, k = j + 1 := ⟨k - 1, by omega⟩
        have hj1 : (k : Int) - 1 = (j : Int) := by omega
        have hjk : j < k := by omega
        have eW : IntKind.i64.wrap (j : Int) = (j : Int) := IntWalk.i64_in _ (by omega)
        have hi1 : (0 : Int) ≤ (j : Int) := by omega
        have hi2 : (j : Int) < (k : Int) := by omega
        have hi3 : (j : Int) < (n : Int) := by omega
        have hjn : j < n := by omega
        rcases hsh with ⟨a8, cap8, rfl, hcs⟩ | ⟨g8, cap8, rfl, hp, hB8, hg8, hc8, hm8⟩
        · rw [hcs] at hl8; simp at hl8; omega
        · rw [hl8] at HRW hc8 ⊢
          have HROW2 : Hid (∀ (nn : Nat) (o : Obj), ((wr.drewN nn).alloc o).ownsRow w.heap.size 30 1 (.slice (some ⟨g8, 0, none⟩) k cap8) k (flts fs)) := fun nn o => by
            have := (HRW.out.drewN nn).alloc o
            unfold Row at this
            rwa [hl8] at this
          obtain ⟨g', e', hg', hc'⟩ := HRD.out j hjn
          simp only [Option.some.injEq, Addr.mk.injEq, and_true] at e'
          subst e'
          have c2 : wr.cell? ⟨g, j, none⟩ = some (.float .f64 (xs.getD j 0)) := by rw [HBW.out.cell hg]; exact hc'
          have hy := HW.out j hjn
          obtain ⟨y, hyy⟩ : ∃ y, xs.getD j 0 = y := ⟨_, rfl⟩
          rw [hyy] at c2 hy
          have HY := Lib.hid hy
          have c3 := HRW.out.cellAt hjk
          rw [flts_getD (by have := HFS.out; omega)] at c3
          have hu := HGD.out j hjk
          obtain ⟨u, huu⟩ : ∃ u, fs.getD j 0 = u := ⟨_, rfl⟩
          rw [huu] at c3 hu
          have hmax : (k : Int) ≤ 9223372036854775807 := by omega
          have HU := Lib.hid hu
          have HNX : Hid (∀ (nn : Nat) (o : Obj) (v' : Value) (w3 : World) (q : Nat) (wf : World), IsF q (wrapO (fop .sub .f64 (wO xs k) (wO xs j))) → w3.ownsRow w.heap.size 30 1 v' (k + 1) (flts fs ++ [.float .f64 (fres .add .f64 u q wf)]) → ((wr.drewN nn).alloc o).grownBy w3 (some g8) →
              ∃ fs', Row w3 w.heap.size 30 v' (flts fs') ∧ fs'.length = k + 1 ∧ (∀ j, j < k + 1 → IsF (fs'.getD j 0) (unwO xs j)) ∧ Below w.heap.size w w3) := fun nn o v' w3 q wf hq h1 h2 => by
            have hF := snocGood (d := (0 : Nat)) (G := fun i p' => IsF p' (unwO xs i)) HFS.out HGD.out (p := fres .add .f64 u q wf) (by rw [unwO_next xs hj]; exact isF_fres HU.out hq wf)
            refine ⟨fs ++ [_], ?_, hF.1, hF.2, ((below_draws HBW.out nn).alloc HBW.out.size o).grown h2 (hsba nn o) (fun b e => by cases e; exact hB8)⟩
            show w3.ownsRow _ _ _ _ _ _
            rw [flts_snoc, List.length_append, hl8]
            exact h1
          clear hl8 hyy hy huu hu hc' hg' hj hB8 hg8
          go_wp2
          go_region_law (first
            | (refine step_append_lies _ rfl (.tmp 20) (.tmp 38) 24 rfl w.heap.size 30 i0 (.float .f64 0) 1 8 Try.underlying24 hi hz0 hz1 hz2 rfl (by decide) (.slice (some ⟨g8, 0, none⟩) k cap8) k (flts fs) rfl (HROW2.out _ _) ⟨_, 0, none⟩ 1 1 [.float .f64 _] rfl rfl (cell_one_new _ _ _) (one_single _ _) (by decide) hs63 hsby (hsba _ _) _ rfl ?_; intro g' cap' w3 hown hgrow hor hlt2; obtain ⟨fs', hrn, hfn, hgn, hbn⟩ := HNX.out _ _ _ _ _ _ HQ.out hown hgrow; have HRN := Lib.hid hrn; have HFN := Lib.hid hfn; have HGN := Lib.hid hgn; have HBN := Lib.hid hbn; clear hown hgrow hor hlt2 hrn hfn hgn hbn)
            | (go_simp; go_at_call 35; refine (wrap_spec _ _ (isF_fres HX.out HY.out _) _).mono ?_; rintro e w' ⟨q, rfl, hq, nn, rfl⟩; have HQ := Lib.hid hq; clear hq))
          all_goals
            go_wp2
            go_roundw
            case rel => first | exact ⟨k + 1, fs', by go_num, by omega, HRN.out, HFN.out, HGN.out, HBN.out⟩ | ((repeat apply Exists.intro); refine ⟨?_, rfl⟩; exact ⟨k + 1, fs', by go_num, by omega, HRN.out, HFN.out, HGN.out, HBN.out⟩)
            case measure => simp [intOf]; omega
    · have e : k = n := by omega
      subst e
      go_wp2
      go_ret
      exact ⟨_, fs, rfl, HRW.out, HFS.out, HGD.out, HBW.out⟩

end Go.Proofs.Ytnigbjjllolgdaa
