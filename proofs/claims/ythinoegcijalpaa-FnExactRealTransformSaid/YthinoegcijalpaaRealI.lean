import Derived.Test.YthinoegcijalpaaReal
import Derived.Deep.OwnRows
/-
  RealPair of the program.
-/
set_option linter.unusedVariables false
set_option linter.unusedSimpArgs false
namespace Go.Proofs.Ythinoegcijalpaa
open Go.RowKit Flt Turn Fast
attribute [local go_sem] run_fadd run_fsub run_fmul run_fquo run_cadd run_csub

def pairCode (n m : Nat) : Int := if 256 < n ∨ 256 < m then 3 else if n = m then 0 else 2

theorem checkPairF_any (a a' : Option Addr) (n m cap cap' : Nat) (hn : (n : Int) ≤ 9223372036854775807) (hm : (m : Int) ≤ 9223372036854775807) (w : World) :
    Calls Try.prog 17 #[.slice a n cap, .slice a' m cap'] w fun e w' => e = .returned (.int .i64 (pairCode n m)) ∧ w' = w := by
  by_cases h1 : 256 < n
  · rw [show pairCode n m = 3 by unfold pairCode; rw [if_pos (.inl h1)]]
    go_enter Try.func17, Try.ntmps17
    go_wp2
    go_ret
    exact ⟨rfl, rfl⟩
  · by_cases h2 : 256 < m
    · rw [show pairCode n m = 3 by unfold pairCode; rw [if_pos (.inr h2)]]
      go_enter Try.func17, Try.ntmps17
      go_wp2
      go_ret
      exact ⟨rfl, rfl⟩
    · by_cases h3 : n = m
      · subst h3
        rw [show pairCode n n = 0 by unfold pairCode; rw [if_neg (by omega), if_pos rfl]]
        go_enter Try.func17, Try.ntmps17
        go_wp2
        go_ret
        exact ⟨rfl, rfl⟩
      · rw [show pairCode n m = 2 by unfold pairCode; rw [if_neg (by omega), if_neg h3]]
        have g3 : ((n : Int) == (m : Int)) = false := by simp; omega
        clear h3
        go_enter Try.func17, Try.ntmps17
        go_wp2
        go_ret
        exact ⟨rfl, rfl⟩

set_option maxRecDepth 100000 in
theorem pairClosure_any (xs ys : List Nat) (a0 a1 : Option Addr) (n c0 c1 k X0 Y0 : Nat) (w : World) (h0 : Reads w (.slice a0 n c0) (flts xs)) (h1 : Reads w (.slice a1 n c1) (flts ys)) (hk : k < n) (hX : w.cell? ⟨X0, 0, none⟩ = some (.slice a0 n c0)) (hY : w.cell? ⟨Y0, 0, none⟩ = some (.slice a1 n c1)) :
    Calls Try.prog 20 #[.int .i64 k, .pointer (some ⟨X0, 0, none⟩), .pointer (some ⟨Y0, 0, none⟩)] w fun e w' => e = .returned (.complex .f64 (xs.getD k 0) (ys.getD k 0)) ∧ ∃ nn, w' = w.drewN nn := by
  obtain ⟨g0, rfl, hg0, d0⟩ := readsAtF h0 _ _ _ rfl k hk
  obtain ⟨g1, rfl, hg1, d1⟩ := readsAtF h1 _ _ _ rfl k hk
  have hmx := maxLen_int (by have := readsLen h0; rw [flts_length] at this; exact this : xs.length ≤ maxLen)
  have hlx : xs.length = n := by
    generalize hcs : flts xs = cs at h0
    cases h0 with
    | none => omega
    | row g cap L cs hL => rw [← hcs, flts_length] at hL; exact hL
  rw [hlx] at hmx
  obtain ⟨x, hx⟩ : ∃ x, xs.getD k 0 = x := ⟨_, rfl⟩
  obtain ⟨y, hy⟩ : ∃ y, ys.getD k 0 = y := ⟨_, rfl⟩
  rw [hx] at d0 ⊢
  rw [hy] at d1 ⊢
  clear h0 h1 hg0 hg1 hx hy hlx
  go_enter Try.func20, Try.ntmps20
  go_wp2
  go_quiet (fail)
  go_wp2
  go_ret
  exact ⟨rfl, _, rfl⟩

theorem nil_two (w : World) (W : World) (h : Below w.heap.size w W) : Row W w.heap.size 34 (.slice none 0 0) (cvals []) ∧ Row W w.heap.size 34 (.slice none 0 0) (cvals []) ∧ (∀ b, (Value.slice none 0 0).ownBlock = some b → (Value.slice none 0 0).ownBlock ≠ some b) ∧ Below w.heap.size w W :=
  ⟨World.ownsRow_nil _ _ _ _, World.ownsRow_nil _ _ _ _, (fun b e => by cases e), h⟩

theorem made_c128 (n : Nat) (hn : n ≤ 1000000) (w : World) :
    (Instr.makeSlice 23 (.int .i64 (n : Int)) (.int .i64 (n : Int))).run Try.prog w = .ok (.slice (some ⟨w.heap.size, 0, none⟩) n n) (w.alloc (.cells (madeCells #[.complex .f64 0 0] n) 34)) ∧
      Row (w.alloc (.cells (madeCells #[.complex .f64 0 0] n) 34)) w.heap.size 34 (.slice (some ⟨w.heap.size, 0, none⟩) n n) (cvals (List.replicate n (0, 0))) := by
  obtain ⟨i0, hi, hz0, hz1, hz2⟩ := info_parts info_c128
  have e1 := run_make_row' (P := Try.prog) 23 34 (.complex .f64 0 0) 16 Try.underlying23 info_c128 rfl .i64 .i64 n (by omega) (by omega) w
  obtain ⟨w', hrun, r1, r2⟩ := run_make_full (P := Try.prog) w w.heap.size 23 34 i0 (.complex .f64 0 0) 1 Try.underlying23 hi hz0 hz1 .i64 .i64 n (by rw [hz2]; omega) (by simp only [maxLen]; omega) (Nat.le_refl _)
  rw [e1] at hrun
  cases hrun
  refine ⟨e1, ?_⟩
  rw [show (Value.complex .f64 0 0).cells = #[.complex .f64 0 0] from rfl, Nat.mul_one, toList_madeCells_one] at r1
  show World.ownsRow _ _ _ _ _ _ _
  simpa [cvals, cval] using r1

set_option maxRecDepth 100000 in
set_option maxHeartbeats 8000000 in
theorem pair_impl (xs ys : List Nat) (v0 v1 : Value) (w : World) (hx : ∀ z ∈ xs, z < 18446744073709551616) (hy : ∀ z ∈ ys, z < 18446744073709551616) (h0 : Reads w v0 (flts xs)) (h1 : Reads w v1 (flts ys)) :
    Calls Try.prog 7 #[v0, v1] w (PairR xs ys w) := by
  obtain ⟨i0, hi, hz0, hz1, hz2⟩ := info_parts info_c128
  have hm0 := maxLen_int (by have := readsLen h0; rwa [flts_length] at this : xs.length ≤ maxLen)
  have hm1 := maxLen_int (by have := readsLen h1; rwa [flts_length] at this : ys.length ≤ maxLen)
  obtain ⟨a0, c0, rfl⟩ := h0.form'
  obtain ⟨a1, c1, rfl⟩ := h1.form'
  simp only [flts_length] at *
  have HWF : ∀ j, Hid (WfC (bothN xs ys j)) := fun j => bothN_wf hx hy
  unfold PairR
  obtain ⟨n, hn⟩ : ∃ n, xs.length = n := ⟨_, rfl⟩
  obtain ⟨m, hm⟩ : ∃ m, ys.length = m := ⟨_, rfl⟩
  rw [hn] at h0 hm0 ⊢
  rw [hm] at h1 hm1 ⊢
  have CK := Lib.hid (checkPairF_any a0 a1 n m c0 c1 hm0 hm1)
  have hXW : ((w.alloc (.cells #[.slice a0 n c0] 22)).alloc (.cells #[.slice a1 m c1] 22)).cell? ⟨w.heap.size, 0, none⟩ = some (.slice a0 n c0) := by go_simp
  have hYW : ((w.alloc (.cells #[.slice a0 n c0] 22)).alloc (.cells #[.slice a1 m c1] 22)).cell? ⟨w.heap.size + 1, 0, none⟩ = some (.slice a1 m c1) := by go_simp
  obtain ⟨W, hW⟩ : ∃ W, (w.alloc (.cells #[.slice a0 n c0] 22)).alloc (.cells #[.slice a1 m c1] 22) = W := ⟨_, rfl⟩
  have hbW : Below w.heap.size w W := by rw [← hW]; exact ((Below.refl _ _).alloc (Nat.le_refl _) _).alloc (by simp) _
  rw [hW] at hXW hYW
  have hsW : W.heap.size = w.heap.size + 2 := by rw [← hW]; simp
  have H0 := Lib.hid (h0.below hbW)
  have H1 := Lib.hid (h1.below hbW)
  have HBW := Lib.hid hbW
  have HSW := Lib.hid hsW
  obtain ⟨pc, hpc⟩ : ∃ pc, pairCode n m = pc := ⟨_, rfl⟩
  rw [hpc] at CK
  have HPC := Lib.hid hpc
  clear h0 h1 hx hy hn hm hbW hsW hpc
  by_cases hok : pc = 0
  · subst hok
    have hnm : n = m ∧ n ≤ 256 := by
      have := HPC.out
      unfold pairCode at this
      split at this
      · cases this
      · split at this
        · omega
        · cases this
    obtain ⟨rfl, hn256⟩ := hnm
    have HNB : Hid (¬ (256 < n ∨ 256 < n)) := by show ¬ _; omega
    go_enter Try.func7, Try.ntmps7
    go_wp2_with fail
    refine (CK.out _).mono ?_
    rintro e w' ⟨rfl, rfl⟩
    clear hW
    have LO := listOf_c128 20 #[.pointer (some ⟨w.heap.size, 0, none⟩), .pointer (some ⟨w.heap.size + 1, 0, none⟩)] n (by omega) (fun i => (zsOf (bothN xs ys n)).getD i z0) (fun _ w1 => Below w'.heap.size w' w1) none w' (fun _ _ => rfl) (by simp)
      (fun w2 hg => (Below.refl _ _).grown hg (Nat.le_refl _) (by simp)) (fun i w1 w2 h1 hb hg => hb.grown hg (by omega) (fun k e => by cases e; exact Nat.le_refl _))
      (fun i w1 hi h1 hb => (pairClosure_any xs ys a0 a1 n c0 c1 i w.heap.size (w.heap.size + 1) w1 (H0.out.below hb) (H1.out.below hb) hi (by rw [hb.cell (by show w.heap.size < _; have := HSW.out; omega)]; exact hXW) (by rw [hb.cell (by show w.heap.size + 1 < _; have := HSW.out; omega)]; exact hYW)).mono
        (fun e w2 ⟨e1, nn, e2⟩ => ⟨(xs.getD i 0, ys.getD i 0), e1, by
          have hbi : (bothN xs ys n).getD i (0, 0) = (xs.getD i 0, ys.getD i 0) := by simp [bothN, List.getD, hi]
          have := isC_getD (HWF n).out (j := i) (by rw [bothN_length]; exact hi)
          rw [hbi] at this; exact this, by rw [e2]; exact below_draws hb nn, by rw [e2]; exact grown_drewN (World.grownBy.refl _ _) nn⟩))
    have HLO := Lib.hid LO
    clear LO
    go_wp2_with fail
    refine HLO.out.mono ?_
    rintro e w2 ⟨v, zb, rfl, hr, hl, hg, hI, -⟩
    have hzz : zsOf zb = zsOf (bothN xs ys n) := by
      apply List.ext_getElem (by rw [zsOf_length, zsOf_length, hl, bothN_length])
      intro i h1 h2
      have hi : i < n := by rw [zsOf_length, hl] at h1; exact h1
      have e1 := zsOf_getD (xs := zb) (j := i) (by omega)
      have e2 := hg i hi
      have e3 : zOf (zb.getD i (0, 0)) = (zsOf (bothN xs ys n)).getD i z0 := by unfold zOf; rw [e2.re.cn, e2.im.cn]
      rw [e3] at e1
      simpa [List.getD, h1, h2] using e1
    have hzw : WfC zb := fun p hp => by
      obtain ⟨i, hi, rfl⟩ := List.getElem_of_mem hp
      have := hg i (by omega)
      simp only [List.getD, hi, List.getElem?_eq_getElem, Option.getD_some] at this
      exact ⟨this.re.lt, this.im.lt⟩
    have hb2 : Below w.heap.size w w2 := HBW.out.trans (hI.mono HBW.out.size)
    have FI := Lib.hid (fast_impl zb v w'.heap.size w2 (by omega) hzw hr)
    have HZZ := Lib.hid hzz
    have HB2 := Lib.hid hb2
    have HZB := Lib.hid hl
    clear hr hl hg hI hzz hzw hb2 HLO
    go_wp2_with fail
    refine FI.out.mono ?_
    rintro e w3 ⟨v3, zl, rfl, hzr, hzw, hzf, hzb⟩
    rw [HZZ.out] at hzf
    have hzl : zl.length = n := by
      have := hzf.length
      rwa [zsOf_length, zsOf_length, bothN_length] at this
    have RZ := readsAt' hzr.reads
    obtain ⟨az, cz, rfl⟩ := hzr.reads.form'
    rw [cvals_length, hzl] at RZ ⊢
    replace RZ := Lib.hid (RZ _ _ _ rfl)
    have hsz3 : w.heap.size ≤ w3.heap.size := Nat.le_trans HB2.out.size hzb.size
    have HB3 := Lib.hid (HB2.out.trans (hzb.mono HB2.out.size))
    have HZW := Lib.hid hzw
    have HZF := Lib.hid hzf
    have HZL := Lib.hid hzl
    clear hzr hzw hzf hzb hzl FI HZZ HB2 HZB H0 H1 HBW HSW hXW hYW CK HWF
    have hmk := fun w => (made_c128 n (by omega) w).1
    have HMR := Lib.hid (fun w => (made_c128 n (by omega) w).2)
    obtain ⟨Z, hZ⟩ : ∃ Z, madeCells #[Value.complex .f64 0 0] n = Z := ⟨_, rfl⟩
    rw [hZ] at HMR
    simp only [hZ] at hmk
    clear hZ
    have HMM : Hid (∀ W0 : World, Row ((W0.alloc (.cells Z 34)).alloc (.cells Z 34)) W0.heap.size 34 (.slice (some ⟨W0.heap.size, 0, none⟩) n n) (cvals (List.replicate n (0, 0))) ∧ Row ((W0.alloc (.cells Z 34)).alloc (.cells Z 34)) W0.heap.size 34 (.slice (some ⟨W0.heap.size + 1, 0, none⟩) n n) (cvals (List.replicate n (0, 0))) ∧ Below W0.heap.size W0 ((W0.alloc (.cells Z 34)).alloc (.cells Z 34))) := fun W0 => by
      have r1 := (HMR.out W0).alloc (.cells Z 34)
      have r2 := HMR.out (W0.alloc (.cells Z 34))
      have e : (W0.alloc (.cells Z 34)).heap.size = W0.heap.size + 1 := by simp
      rw [e] at r2
      exact ⟨r1, r2.base (by omega), ((Below.refl _ _).alloc (Nat.le_refl _) _).alloc (by simp) _⟩
    clear HMR
    go_upto_region 6 with fail
    go_cut [10, 11] from 28 to 31 (fun v10 v11 wx => ∃ A B, v10 = .slice (some ⟨A, 0, none⟩) n n ∧ v11 = .slice (some ⟨B, 0, none⟩) n n ∧ A ≠ B ∧ Row wx w3.heap.size 34 v10 (cvals (List.replicate n (0, 0))) ∧ Row wx w3.heap.size 34 v11 (cvals (List.replicate n (0, 0))) ∧ Below w3.heap.size w3 wx)
    case first =>
      go_region
      all_goals
        go_wp2_with fail
        go_meet
        first
          | exact ⟨_, _, rfl, rfl, by omega, (HMM.out w3).1.drewN 1, (HMM.out w3).2.1.drewN 1, below_draws (HMM.out w3).2.2 1⟩
          | exact ⟨_, _, rfl, rfl, by omega, (HMM.out w3).2.1.drewN 1, (HMM.out w3).1.drewN 1, below_draws (HMM.out w3).2.2 1⟩
    case rest =>
      obtain ⟨A, B, rfl, rfl, hAB, hrA, hrB, hbc⟩ := hcut
      have HRA := Lib.hid hrA
      have HRB := Lib.hid hrB
      have HBC := Lib.hid hbc
      clear hrA hrB hbc HMM hmk
      go_wp2
      go_loopw [33] (fun i wr => ∃ (k : Nat) (f s : List C), i = .int .i64 k ∧ k ≤ n ∧ f.length = n ∧ s.length = n ∧ Row wr w3.heap.size 34 (.slice (some ⟨A, 0, none⟩) n n) (cvals f) ∧ Row wr w3.heap.size 34 (.slice (some ⟨B, 0, none⟩) n n) (cvals s) ∧ Below w3.heap.size w3 wr ∧ (∀ i, i < k → IsC (f.getD i (0, 0)) (firstZ (zsOf zl) n i) ∧ IsC (s.getD i (0, 0)) (secondZ (zsOf zl) n i))) (fun i _ => n - (intOf i).toNat)
      case atStart => exact ⟨0, _, _, rfl, Nat.zero_le _, List.length_replicate .., List.length_replicate .., HRA.out, HRB.out, HBC.out, fun i hi => by omega⟩
      case round =>
        clear HRA HRB HBC
        obtain ⟨k, f, s, rfl, hk, hf, hs, hrf, hrs, hbr, hgd⟩ := hrel
        have HF := Lib.hid hf
        have HSL := Lib.hid hs
        have HRF := Lib.hid hrf
        have HRS := Lib.hid hrs
        have HBR := Lib.hid hbr
        have HGD := Lib.hid hgd
        clear hf hs hrf hrs hbr hgd
        obtain ⟨wq, rfl⟩ : ∃ x, x = wr := ⟨_, rfl⟩
        by_cases hkj : k < n
        · obtain ⟨q, hq⟩ : ∃ q, (n - k) % n = q := ⟨_, rfl⟩
          have hqj : q < n := by rw [← hq]; exact Nat.mod_lt _ (by omega)
          have hq0 : ((n - k : Nat) : Int) = (n : Int) - (k : Int) := by omega
          have hq1 : ((n : Int) - (k : Int)).tmod (n : Int) = (q : Int) := by rw [← hq0, ← hq]; rfl
          have hq2 : ((n : Int) - (k : Int)) % (n : Int) = (q : Int) := by rw [← hq0, ← hq]; rfl
          obtain ⟨gz, rfl, hgz, hck⟩ := RZ.out k hkj
          obtain ⟨gz', e2, -, hcq⟩ := RZ.out q hqj
          simp only [Option.some.injEq, Addr.mk.injEq, true_and, and_true] at e2
          subst e2
          have ck : wq.cell? ⟨gz, k, none⟩ = some (.complex .f64 (zl.getD k (0, 0)).1 (zl.getD k (0, 0)).2) := by rw [HBR.out.cell hgz]; exact hck
          have cq : wq.cell? ⟨gz, q, none⟩ = some (.complex .f64 (zl.getD q (0, 0)).1 (zl.getD q (0, 0)).2) := by rw [HBR.out.cell hgz]; exact hcq
          have zk := isC_getD HZW.out (by rw [HZL.out]; exact hkj)
          have zq := isC_getD HZW.out (by rw [HZL.out]; exact hqj)
          obtain ⟨⟨a, b⟩, hab⟩ : ∃ u, zl.getD k (0, 0) = u := ⟨_, rfl⟩
          obtain ⟨⟨c, d⟩, hcd⟩ : ∃ u, zl.getD q (0, 0) = u := ⟨_, rfl⟩
          rw [hab] at ck zk
          rw [hcd] at cq zq
          have HZK := Lib.hid zk
          have HZQ : Hid (IsC (c, Op.negFloat .f64 d) (otherZ (zsOf zl) n k)) := by show IsC _ (conjZ ((zsOf zl).getD ((n - k) % n) z0)); rw [hq]; exact ⟨zq.re, zq.im.neg⟩
          clear hq hq0 hck hcq zk zq hab hcd
          go_wp2_with fail
          refine (conj_impl c d _).mono ?_
          rintro e w5 ⟨rfl, hb5⟩
          have d5 := (hb5.cell (p := ⟨gz, k, none⟩) (World.block_lt_of_cell? _ _ ck)).trans ck
          have HRF5 := Lib.hid (HRF.out.below hb5 (fun j e => (HRF.out.lt j e).2))
          have HRS5 := Lib.hid (HRS.out.below hb5 (fun j e => (HRS.out.lt j e).2))
          have HBR5 := Lib.hid (below_step HBR.out hb5 HBR.out.size)
          clear hb5 ck cq HRF HRS HBR
          go_upto_region 11 with fail
          go_cut [14, 15] from 45 to 56 (fun v14 v15 wx => ∃ p1 q1 p2 q2 nn, v14 = .complex .f64 p1 q1 ∧ v15 = .complex .f64 p2 q2 ∧ IsC (p1, q1) (addZ ((zsOf zl).getD k z0) (otherZ (zsOf zl) n k)) ∧ IsC (p2, q2) (subZ ((zsOf zl).getD k z0) (otherZ (zsOf zl) n k)) ∧ wx = w5.drewN nn)
          case first =>
            go_region
            all_goals
              go_wp2_with fail
              go_meet
              exact ⟨_, _, _, _, _, rfl, rfl, ⟨isF_fres HZK.out.re HZQ.out.re _, isF_fres HZK.out.im HZQ.out.im _⟩, ⟨isF_fres HZK.out.re HZQ.out.re _, isF_fres HZK.out.im HZQ.out.im _⟩, rfl⟩
          case rest =>
            obtain ⟨p1, q1, p2, q2, nn, rfl, rfl, hz1', hz2', rfl⟩ := hcut
            have HZ1 := Lib.hid hz1'
            have HZ2 := Lib.hid hz2'
            have HRF6 := Lib.hid (HRF5.out.drewN nn)
            have HRS6 := Lib.hid (HRS5.out.drewN nn)
            have HBR6 := Lib.hid (below_draws HBR5.out nn)
            clear hz1' hz2' HRF5 HRS5 HBR5 d5 HZK HZQ
            generalize w5.drewN nn = w6 at *
            have oA := HRF6.out.cellAt hkj
            have fA := HRF6.out.frozenAt k
            obtain ⟨uA, huA⟩ : ∃ u, (cvals f).getD k undef = u := ⟨_, rfl⟩
            rw [huA] at oA
            have HN1 : Hid (∀ mm x y, IsC (x, y) (firstZ (zsOf zl) n k) → ∃ f', f'.length = n ∧ Row ((w6.drewN mm).setCell ⟨A, k, none⟩ (.complex .f64 x y)) w3.heap.size 34 (.slice (some ⟨A, 0, none⟩) n n) (cvals f') ∧ Row ((w6.drewN mm).setCell ⟨A, k, none⟩ (.complex .f64 x y)) w3.heap.size 34 (.slice (some ⟨B, 0, none⟩) n n) (cvals s) ∧ Below w3.heap.size w3 ((w6.drewN mm).setCell ⟨A, k, none⟩ (.complex .f64 x y)) ∧ ∀ i, i < k + 1 → IsC (f'.getD i (0, 0)) (firstZ (zsOf zl) n i)) := fun mm x y hxy => by
              have hS := (HRF6.out.drewN mm).set k (.complex .f64 x y)
              refine ⟨f.set k (x, y), by rw [List.length_set, HF.out], ?_, ?_, (below_draws HBR6.out mm).setCell (p := ⟨A, k, none⟩) ((HRF6.out.lt _ rfl).1) _, fun i hi => ?_⟩
              · have : cvals (f.set k (x, y)) = (cvals f).set k (.complex .f64 x y) := by simp [cvals, cval, List.map_set]
                rw [this]; exact hS.1
              · exact (HRS6.out.drewN mm).kept hS.2 (.inr (by simp only [Value.ownBlock, ne_eq, Option.some.injEq]; omega))
              · by_cases he : k = i
                · subst he
                  rw [show (f.set k (x, y)).getD k (0, 0) = (x, y) by simp [List.getD, HF.out, hkj]]; exact hxy
                · rw [show (f.set k (x, y)).getD i (0, 0) = f.getD i (0, 0) by simp [List.getD, he]]; exact (HGD.out i (by omega)).1
            clear huA HRF6 HRS6 HBR6
            go_upto_region 12 with fail
            go_cut [] from 57 to 66 (fun wx => ∃ f', f'.length = n ∧ Row wx w3.heap.size 34 (.slice (some ⟨A, 0, none⟩) n n) (cvals f') ∧ Row wx w3.heap.size 34 (.slice (some ⟨B, 0, none⟩) n n) (cvals s) ∧ Below w3.heap.size w3 wx ∧ ∀ i, i < k + 1 → IsC (f'.getD i (0, 0)) (firstZ (zsOf zl) n i))
            case first =>
              go_wp2_with fail
              go_meet
              exact HN1.out _ _ _ ⟨isF_fres HZ1.out.re isF_half _, isF_fres HZ1.out.im isF_half _⟩
            case rest =>
              obtain ⟨f', hlf, hrf, hrs, hbr, hgf⟩ := hcut
              have oB := hrs.cellAt hkj
              have fB := hrs.frozenAt k
              obtain ⟨uB, huB⟩ : ∃ u, (cvals s).getD k undef = u := ⟨_, rfl⟩
              rw [huB] at oB
              have HN2 : Hid (∀ mm x y, IsC (x, y) (secondZ (zsOf zl) n k) → ∃ s', f'.length = n ∧ s'.length = n ∧ Row ((wc.drewN mm).setCell ⟨B, k, none⟩ (.complex .f64 x y)) w3.heap.size 34 (.slice (some ⟨A, 0, none⟩) n n) (cvals f') ∧ Row ((wc.drewN mm).setCell ⟨B, k, none⟩ (.complex .f64 x y)) w3.heap.size 34 (.slice (some ⟨B, 0, none⟩) n n) (cvals s') ∧ Below w3.heap.size w3 ((wc.drewN mm).setCell ⟨B, k, none⟩ (.complex .f64 x y)) ∧ ∀ i, i < k + 1 → IsC (f'.getD i (0, 0)) (firstZ (zsOf zl) n i) ∧ IsC (s'.getD i (0, 0)) (secondZ (zsOf zl) n i)) := fun mm x y hxy => by
                have hS := (hrs.drewN mm).set k (.complex .f64 x y)
                refine ⟨s.set k (x, y), hlf, by rw [List.length_set, HSL.out], ?_, ?_, (below_draws hbr mm).setCell (p := ⟨B, k, none⟩) ((hrs.lt _ rfl).1) _, fun i hi => ⟨hgf i hi, ?_⟩⟩
                · exact (hrf.drewN mm).kept hS.2 (.inr (by simp only [Value.ownBlock, ne_eq, Option.some.injEq]; omega))
                · have : cvals (s.set k (x, y)) = (cvals s).set k (.complex .f64 x y) := by simp [cvals, cval, List.map_set]
                  rw [this]; exact hS.1
                · by_cases he : k = i
                  · subst he
                    rw [show (s.set k (x, y)).getD k (0, 0) = (x, y) by simp [List.getD, HSL.out, hkj]]; exact hxy
                  · rw [show (s.set k (x, y)).getD i (0, 0) = s.getD i (0, 0) by simp [List.getD, he]]; exact (HGD.out i (by omega)).2
              clear hlf hrf hrs hbr hgf huB oA fA HN1
              go_wp2
              go_roundw
              case rel =>
                obtain ⟨s', e1, e2, e3, e4, e5, e6⟩ := HN2.out _ _ _ ⟨isF_fres HZ2.out.im isF_half _, (isF_fres HZ2.out.re isF_half _).neg⟩
                first
                  | exact ⟨k + 1, f', s', by go_num, by omega, e1, e2, e3, e4, e5, e6⟩
                  | ((repeat apply Exists.intro); refine ⟨?_, rfl⟩; exact ⟨k + 1, f', s', by go_num, by omega, e1, e2, e3, e4, e5, e6⟩)
              case measure => simp [intOf]; omega
        · have e : k = n := by omega
          subst e
          have HPG : Hid (PairG xs ys k f s) := ⟨zsOf zl, HZF.out, HF.out, HSL.out, HGD.out⟩
          have HBF := Lib.hid (HB3.out.trans (HBR.out.mono hsz3))
          have HDJ : Hid (∀ b, (Value.slice (some ⟨A, 0, none⟩) k k).ownBlock = some b → (Value.slice (some ⟨B, 0, none⟩) k k).ownBlock ≠ some b) := fun b e1 e2 => by
            simp only [Value.ownBlock, Option.some.injEq] at e1 e2
            omega
          go_wp2
          go_ret3
          exact ⟨_, _, f, s, 0, rfl, HRF.out.base hsz3, HRS.out.base hsz3, HDJ.out, HBF.out, .inr (.inr ⟨HNB.out, rfl, rfl, HPG.out⟩)⟩
  · have hne : (pc == 0) = false := by simpa using hok
    have NT := Lib.hid (nil_two w W HBW.out)
    have HF : Hid (PairR' xs ys n m w (.returned (.tuple #[.slice none 0 0, .slice none 0 0, .int .i64 pc])) W) := by
      refine ⟨_, _, [], [], pc, rfl, NT.out.1, NT.out.2.1, NT.out.2.2.1, NT.out.2.2.2, ?_⟩
      have := HPC.out
      unfold pairCode at this
      split at this
      · rename_i h; exact .inl ⟨h, this.symm, rfl, rfl⟩
      · rename_i h
        split at this
        · exact absurd this.symm hok
        · rename_i h2; exact .inr (.inl ⟨h, h2, this.symm, rfl, rfl⟩)
    clear hok NT
    go_enter Try.func7, Try.ntmps7
    go_wp2_with fail
    refine (CK.out _).mono ?_
    rintro e w' ⟨rfl, rfl⟩
    go_wp2
    go_ret3
    exact HF.out

end Go.Proofs.Ythinoegcijalpaa
