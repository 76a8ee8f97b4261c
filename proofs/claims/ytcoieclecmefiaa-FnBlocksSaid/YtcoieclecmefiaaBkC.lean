import Derived.Test.YtcoieclecmefiaaBkB
/-
  The blocks of a signal: the walk of the model.
-/
set_option linter.unusedVariables false
set_option linter.unusedSimpArgs false
namespace Go.Proofs.Ytcoieclecmefiaa
open Go.RowKit Flt Fast

theorem c_reads {w : World} {v : Value} {xs : List C} (h : Reads w v (cvals xs)) : ∀ a n cap, v = .slice a n cap → ∀ k, k < n → ∃ g, a = some ⟨g, 0, none⟩ ∧ g < w.heap.size ∧ w.cell? ⟨g, k, none⟩ = some (.complex .f64 (xs.getD k (0, 0)).1 (xs.getD k (0, 0)).2) := by
  intro a n cap e k hk
  generalize hcs : cvals xs = cs at h
  cases h with
  | none a cap => simp only [Value.slice.injEq] at e; omega
  | row g cap L cs hL h0 hc hm hh =>
    simp only [Value.slice.injEq] at e
    obtain ⟨e1, e2, -⟩ := e
    have hl : xs.length = L := by rw [← hL, ← hcs, cvals_length]
    have hc := hh k (by omega)
    refine ⟨g, e1.symm, World.block_lt_of_cell? _ _ hc, ?_⟩
    rw [hc, ← hcs]
    simp [cvals, cval, List.getD, show k < xs.length by omega]

set_option maxRecDepth 100000 in
set_option maxHeartbeats 8000000 in
theorem blocks_spec (xs : List C) (hw : WfC xs) (n h : Nat) (hh : 1 ≤ h ∧ h ≤ n) (hn : n ≤ 256) (hL : xs.length ≤ 64) (v : Value) (w : World) (hv : Reads w v (cvals xs)) :
    Calls Try.prog 84 #[v, .int .i64 n, .int .i64 h] w fun e w' => ∃ V vs bs, e = .returned V ∧ Made w' w.heap.size n V vs bs (blkQ xs h) ∧ (vs.length : Int) = cntR xs.length n h ∧ Below w.heap.size w w' := by
  obtain ⟨i0, hi, hz0, hz1, hz2⟩ := info_parts info_c128
  obtain ⟨j0, hj, hy0, hy1, hy2⟩ := info_parts info_rws
  have hrd := c_reads hv
  obtain ⟨a, cap, rfl⟩ := cform hv
  rw [cvals_length] at *
  replace hrd := hrd _ _ _ rfl
  have C := Lib.hid (fun w => count_spec xs.length n h (by omega) (by omega) (by omega) w)
  obtain ⟨c, hc, hcl, hcL⟩ := cnt_facts xs.length n h hh
  rw [hc] at C ⊢
  have HD : Hid (∀ (ts : List Go.Proofs.Ytcoieclecmefiaa.C) (b k : Nat), ts.length = k → k ≤ n → (∀ i, i < k → ts.getD i (0, 0) = xs.getD (b * h + i) (0, 0)) → (∀ i, i < k → b * h + i < xs.length) → (k = n ∨ xs.length ≤ b * h + k) →
      (ts ++ List.replicate (n - k) (0, 0)).length = n ∧ ∀ i, i < n → IsC ((ts ++ List.replicate (n - k) (0, 0)).getD i (0, 0)) (blkQ xs h b i)) := fun ts b k h1 h2 h3 h4 h5 => blk_done hw h1 h2 h3 h4 h5
  obtain ⟨q, hq⟩ : ∃ q, blkQ xs h = q := ⟨_, rfl⟩
  rw [hq] at HD ⊢
  obtain ⟨L, hLL⟩ : ∃ L, xs.length = L := ⟨_, rfl⟩
  rw [hLL] at hrd C HD hcl hcL hL ⊢
  have HRD := Lib.hid hrd
  have HCL := Lib.hid hcl
  have hn0 : ¬ (n : Int) < 0 := by omega
  clear hv hrd hq hLL hc hcl hw
  obtain ⟨hh1, hh2⟩ := hh
  go_enter Try.func84, Try.ntmps84
  go_wp2
  go_loopw [7, 8] (fun V bI wr => ∃ (b : Nat) (vs : List Value) (bs : Nat → List Go.Proofs.Ytcoieclecmefiaa.C), bI = .int .i64 b ∧ b ≤ c ∧ vs.length = b ∧ Made wr w.heap.size n V vs bs q ∧ Below w.heap.size w wr) (fun _ bI _ => c - (intOf bI).toNat)
  case atStart => exact ⟨0, [], fun _ => [], rfl, Nat.zero_le _, rfl, ⟨World.ownsRow_lit w #[] 0 (Nat.le_refl _) (by unfold maxLen; omega) rfl, fun b hb => by simp at hb⟩, (Below.refl _ _).alloc (Nat.le_refl _) _⟩
  case round =>
    obtain ⟨b, vs, bs, rfl, hb, hvs, hmd, hbw⟩ := hrel
    have HVS := Lib.hid hvs
    have HMD := Lib.hid hmd
    have HBW := Lib.hid hbw
    clear hvs hmd hbw
    by_cases hlt : b < c
    · obtain ⟨p, hp⟩ : ∃ p, b * h = p := ⟨_, rfl⟩
      have hpL : p < L := by rw [← hp]; exact HCL.out b hlt
      have eP : (b : Int) * (h : Int) = (p : Int) := by rw [← hp]; simp
      have HDb := Lib.hid (fun ts k => HD.out ts b k)
      rw [hp] at HDb
      clear hp
      obtain ⟨wo, rfl⟩ : ∃ x, x = wr := ⟨_, rfl⟩
      go_wp2_with fail
      refine (C.out _).mono ?_
      rintro e w' ⟨rfl, rfl⟩
      have HE := Lib.hid eP
      clear eP
      go_wp2_with (at_make; refine wpList_make_full _ rfl _ _ 24 rfl w'.heap.size 26 i0 (.complex .f64 0 0) 1 Try.underlying24 hi hz0 hz1 .i64 .i64 _ _ n rfl rfl rfl rfl (by rw [hz2]; omega) (by simp only [maxLen]; omega) (Nat.le_refl _) ?_)
      intro w1 hown hg1
      rw [toList_madeCells_one] at hown
      have HO : Hid (Row w1 w'.heap.size 26 (.slice (some ⟨w'.heap.size, 0, none⟩) n n) (List.replicate n (.complex .f64 0 0))) := by
        show w1.ownsRow _ _ _ _ _ _
        simpa using hown
      have HG := Lib.hid hg1
      clear hown hg1
      have eP := HE.out
      go_wp2
      go_wp2
      go_loopw [10] (fun iI wq => ∃ (k : Nat) (ts : List Go.Proofs.Ytcoieclecmefiaa.C), iI = .int .i64 k ∧ k ≤ n ∧ ts.length = k ∧ (∀ i, i < k → ts.getD i (0, 0) = xs.getD (p + i) (0, 0)) ∧ (∀ i, i < k → p + i < L) ∧ Row wq w'.heap.size 26 (.slice (some ⟨w'.heap.size, 0, none⟩) n n) (cvals ts ++ List.replicate (n - k) (.complex .f64 0 0)) ∧ w'.grownBy wq none) (fun iI _ => n - (intOf iI).toNat)
      case atStart => exact ⟨0, [], rfl, Nat.zero_le _, rfl, fun i hi => by omega, fun i hi => by omega, HO.out, HG.out⟩
      case round =>
        clear HO HG
        obtain ⟨k, ts, rfl, hk, hts, hgd, hin, hrw, hg⟩ := hrel
        have HTS := Lib.hid hts
        have HGD := Lib.hid hgd
        have HIN := Lib.hid hin
        have HRW := Lib.hid hrw
        have HG := Lib.hid hg
        clear hts hgd hin hrw hg
        obtain ⟨P, hP⟩ : ∃ P, p + k = P := ⟨_, rfl⟩
        have eQ : (p : Int) + (k : Int) = (P : Int) := by omega
        have hp64 : p ≤ 64 := by omega
        have hP2 : P ≤ 1000 := by omega
        have HP := Lib.hid hP
        clear hP
        by_cases hkk : k < n ∧ P < L
        · obtain ⟨hkn, hPL⟩ := hkk
          obtain ⟨g, rfl, hgz, hcell⟩ := HRD.out P hPL
          have c1 : wr.cell? ⟨g, P, none⟩ = some (.complex .f64 (xs.getD P (0, 0)).1 (xs.getD P (0, 0)).2) := by
            rw [World.cell?_of_block (w := w') (HG.out.block _ (by have := HBW.out.size; show g < _; omega) (by simp)), HBW.out.cell hgz]; exact hcell
          obtain ⟨x, y, hxy⟩ : ∃ x y, xs.getD P (0, 0) = (x, y) := ⟨_, _, rfl⟩
          have HXY := Lib.hid hxy
          rw [hxy] at c1
          have hr2 := HRW.out
          have hS := hr2.set k (cval (x, y))
          rw [fill_step hkn HTS.out] at hS
          have c2 := hr2.cellAt hkn
          have f2 := hr2.frozenAt k
          obtain ⟨u, hu⟩ : ∃ u, (cvals ts ++ List.replicate (n - k) (Value.complex .f64 0 0)).getD k undef = u := ⟨_, rfl⟩
          rw [hu] at c2
          simp only [cval] at hS
          have HS := Lib.hid hS.1
          have HG3 := Lib.hid (grown_new HG.out hS.2 (Nat.le_refl _))
          clear hu hr2 hS hcell hxy hgz
          go_wp2
          go_roundw
          case rel =>
            have e1 : (ts ++ [(x, y)]).length = k + 1 := by simp [HTS.out]
            have e2 : ∀ i, i < k + 1 → (ts ++ [(x, y)]).getD i (0, 0) = xs.getD (p + i) (0, 0) := by
              have := snocGood (d := ((0, 0) : Nat × Nat)) (G := fun i z => z = xs.getD (p + i) (0, 0)) (p := (x, y)) HTS.out HGD.out (by show (x, y) = _; rw [HP.out, HXY.out])
              exact this.2
            have e3 : ∀ i, i < k + 1 → p + i < L := fun i hi => by have := HP.out; omega
            first
              | exact ⟨k + 1, ts ++ [(x, y)], by go_num, by omega, e1, e2, e3, HS.out, HG3.out⟩
              | ((repeat apply Exists.intro); refine ⟨?_, rfl⟩; exact ⟨k + 1, ts ++ [(x, y)], by go_num, by omega, e1, e2, e3, HS.out, HG3.out⟩)
          case measure => simp [intOf]; omega
        · obtain ⟨hl, hgood⟩ := HDb.out ts k HTS.out hk HGD.out HIN.out (by have := HP.out; omega)
          have hrow := HRW.out
          rw [← cvals_rep] at hrow
          obtain ⟨us, hus⟩ : ∃ us, ts ++ List.replicate (n - k) (0, 0) = us := ⟨_, rfl⟩
          rw [hus] at hl hgood hrow
          have hbr : Below w'.heap.size w' wr := ⟨HG.out.os, HG.out.tape, HG.out.output, HG.out.size, fun k hk => HG.out.block k hk (by simp)⟩
          have HM2 := Lib.hid (HMD.out.below hbr)
          have HB2 := Lib.hid (below_step HBW.out hbr HBW.out.size)
          have HRB := Lib.hid (hrow.base HBW.out.size)
          have HL := Lib.hid hl
          have HGO := Lib.hid hgood
          have hvc : vs.length ≤ 64 := by have := HVS.out; omega
          have hsz2 : w.heap.size ≤ wr.heap.size := HB2.out.size
          clear hl hgood hrow hus hbr HRW HG HGD HIN HMD HBW
          by_cases hkn : k < n
          · have hPL : ¬ P < L := fun h => hkk ⟨hkn, h⟩
            clear hkk
            have hba : Below wr.heap.size wr (wr.alloc (.cells #[.slice (some ⟨w'.heap.size, 0, none⟩) n n] 24)) := (Below.refl _ _).alloc (Nat.le_refl _) _
            have HM3 := Lib.hid (HM2.out.below hba)
            have HVR := Lib.hid (HM2.out.below hba).row
            have HR3 := Lib.hid (HRB.out.alloc (.cells #[.slice (some ⟨w'.heap.size, 0, none⟩) n n] 24))
            clear hba HM2 HRB
            go_wp2_with (at_builtin; refine wpList_append_own _ rfl _ _ 59 rfl w.heap.size 24 j0 (.slice none 0 0) 1 24 Try.underlying59 hj hy0 hy1 hy2 rfl (by decide) _ _ _ rfl HVR.out ⟨_, 0, none⟩ 1 1 [.slice (some ⟨w'.heap.size, 0, none⟩) n n] rfl rfl (cell_one_new _ _ _) (by intro u hu; simp at hu; subst hu; rfl) (by simp only [maxLen]; omega) (by omega) (by simp; omega) ?_)
            intro V' w3 hown' hgrow _
            have hown2 : Row w3 w.heap.size 24 V' (vs ++ [.slice (some ⟨w'.heap.size, 0, none⟩) n n]) := by
              show w3.ownsRow _ _ _ _ _ _
              rw [List.length_append]
              exact hown'
            have hnext := HM3.out.next HR3.out HL.out (by rw [HVS.out]; exact HGO.out) hgrow hown2
            have HNX := Lib.hid hnext
            have hb3 := (HB2.out.alloc hsz2 (.cells #[.slice (some ⟨w'.heap.size, 0, none⟩) n n] 24)).grown hgrow (by simp; omega) (fun b e => (HVR.out.lt b e).1)
            have HB3 := Lib.hid hb3
            have HVL : Hid ((vs ++ [Value.slice (some ⟨w'.heap.size, 0, none⟩) n n]).length = b + 1) := by show (vs ++ [_]).length = _; rw [List.length_append, HVS.out]; rfl
            clear hown' hgrow hown2 hnext hb3 HVR HM3 HR3 HB2
            go_wp2
            go_roundw
            case rel => first | exact ⟨b + 1, _, _, by go_num, by omega, HVL.out, HNX.out, HB3.out⟩ | ((repeat apply Exists.intro); refine ⟨?_, rfl⟩; exact ⟨b + 1, _, _, by go_num, by omega, HVL.out, HNX.out, HB3.out⟩)
            case measure => simp [intOf]; omega
          · have hkn2 : k = n := by omega
            clear hkk
            have hba : Below wr.heap.size wr (wr.alloc (.cells #[.slice (some ⟨w'.heap.size, 0, none⟩) n n] 24)) := (Below.refl _ _).alloc (Nat.le_refl _) _
            have HM3 := Lib.hid (HM2.out.below hba)
            have HVR := Lib.hid (HM2.out.below hba).row
            have HR3 := Lib.hid (HRB.out.alloc (.cells #[.slice (some ⟨w'.heap.size, 0, none⟩) n n] 24))
            clear hba HM2 HRB
            go_wp2_with (at_builtin; refine wpList_append_own _ rfl _ _ 59 rfl w.heap.size 24 j0 (.slice none 0 0) 1 24 Try.underlying59 hj hy0 hy1 hy2 rfl (by decide) _ _ _ rfl HVR.out ⟨_, 0, none⟩ 1 1 [.slice (some ⟨w'.heap.size, 0, none⟩) n n] rfl rfl (cell_one_new _ _ _) (by intro u hu; simp at hu; subst hu; rfl) (by simp only [maxLen]; omega) (by omega) (by simp; omega) ?_)
            intro V' w3 hown' hgrow _
            have hown2 : Row w3 w.heap.size 24 V' (vs ++ [.slice (some ⟨w'.heap.size, 0, none⟩) n n]) := by
              show w3.ownsRow _ _ _ _ _ _
              rw [List.length_append]
              exact hown'
            have hnext := HM3.out.next HR3.out HL.out (by rw [HVS.out]; exact HGO.out) hgrow hown2
            have HNX := Lib.hid hnext
            have hb3 := (HB2.out.alloc hsz2 (.cells #[.slice (some ⟨w'.heap.size, 0, none⟩) n n] 24)).grown hgrow (by simp; omega) (fun b e => (HVR.out.lt b e).1)
            have HB3 := Lib.hid hb3
            have HVL : Hid ((vs ++ [Value.slice (some ⟨w'.heap.size, 0, none⟩) n n]).length = b + 1) := by show (vs ++ [_]).length = _; rw [List.length_append, HVS.out]; rfl
            clear hown' hgrow hown2 hnext hb3 HVR HM3 HR3 HB2
            go_wp2
            go_roundw
            case rel => first | exact ⟨b + 1, _, _, by go_num, by omega, HVL.out, HNX.out, HB3.out⟩ | ((repeat apply Exists.intro); refine ⟨?_, rfl⟩; exact ⟨b + 1, _, _, by go_num, by omega, HVL.out, HNX.out, HB3.out⟩)
            case measure => simp [intOf]; omega
    · have e : b = c := by omega
      subst e
      go_wp2_with fail
      refine (C.out _).mono ?_
      rintro e w' ⟨rfl, rfl⟩
      go_wp2
      go_ret
      exact ⟨_, vs, bs, rfl, HMD.out, by rw [HVS.out], HBW.out⟩

end Go.Proofs.Ytcoieclecmefiaa
