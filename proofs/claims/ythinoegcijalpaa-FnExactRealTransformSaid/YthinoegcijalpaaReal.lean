import Derived.Test.YthinoegcijalpaaPFastK
import Derived.Test.YthinoegcijalpaaFloats
import Derived.Test.YthinoegcijalpaaSigF
import Derived.Maps.AppendAt
/-
  RealPair: what it finds, and the model's.
-/
set_option linter.unusedVariables false
set_option linter.unusedSimpArgs false
namespace Go.Proofs.Ythinoegcijalpaa
open Go.RowKit Flt Turn Fast
attribute [local go_sem] run_fadd run_fsub run_fmul run_fquo run_cadd run_csub

def halfO (a : Option Nat) : Option Nat := fop .mul .f64 a (some 4602678819172646912)
def otherZ (z : List Z) (n k : Nat) : Z := conjZ (z.getD ((n - k) % n) z0)
def firstZ (z : List Z) (n k : Nat) : Z := (halfO (addZ (z.getD k z0) (otherZ z n k)).1, halfO (addZ (z.getD k z0) (otherZ z n k)).2)
def secondZ (z : List Z) (n k : Nat) : Z := (halfO (subZ (z.getD k z0) (otherZ z n k)).2, fneg .f64 (halfO (subZ (z.getD k z0) (otherZ z n k)).1))
def bothN (xs ys : List Nat) (j : Nat) : List C := (List.range j).map fun i => (xs.getD i 0, ys.getD i 0)
theorem bothN_length (xs ys : List Nat) (j : Nat) : (bothN xs ys j).length = j := by simp [bothN]
theorem bothN_succ (xs ys : List Nat) (j : Nat) : bothN xs ys (j + 1) = bothN xs ys j ++ [(xs.getD j 0, ys.getD j 0)] := by simp [bothN, List.range_succ]
theorem bothN_wf {xs ys : List Nat} {j : Nat} (hx : ∀ z ∈ xs, z < 18446744073709551616) (hy : ∀ z ∈ ys, z < 18446744073709551616) : WfC (bothN xs ys j) := by
  have one : ∀ (zs : List Nat) (i : Nat), (∀ z ∈ zs, z < 18446744073709551616) → zs.getD i 0 < 18446744073709551616 := fun zs i h => by
    by_cases hi : i < zs.length
    · apply h
      rw [List.getD_eq_getElem?_getD, List.getElem?_eq_getElem hi]
      exact List.getElem_mem hi
    · simp [List.getD, hi]
  intro p hp
  obtain ⟨i, _, rfl⟩ := List.mem_map.1 hp
  exact ⟨one xs i hx, one ys i hy⟩

/-- What RealPair finds of two signals of one length. -/
def PairG (xs ys : List Nat) (n : Nat) (f s : List C) : Prop :=
  ∃ zf, Fast (zsOf (bothN xs ys n)) zf ∧ f.length = n ∧ s.length = n ∧ ∀ k, k < n → IsC (f.getD k (0, 0)) (firstZ zf n k) ∧ IsC (s.getD k (0, 0)) (secondZ zf n k)

/-- What RealPair returns, of n and m numbers. -/
def PairR' (xs ys : List Nat) (n m : Nat) (w : World) (e : Ending) (w' : World) : Prop :=
  ∃ u1 u2 f s c, e = .returned (.tuple #[u1, u2, .int .i64 c]) ∧ Row w' w.heap.size 34 u1 (cvals f) ∧ Row w' w.heap.size 34 u2 (cvals s) ∧ (∀ b, u1.ownBlock = some b → u2.ownBlock ≠ some b) ∧ Below w.heap.size w w' ∧
    (((256 < n ∨ 256 < m) ∧ c = 3 ∧ f = [] ∧ s = []) ∨ (¬ (256 < n ∨ 256 < m) ∧ n ≠ m ∧ c = 2 ∧ f = [] ∧ s = []) ∨ (¬ (256 < n ∨ 256 < m) ∧ n = m ∧ c = 0 ∧ PairG xs ys n f s))
/-- What RealPair returns. -/
def PairR (xs ys : List Nat) (w : World) (e : Ending) (w' : World) : Prop := PairR' xs ys xs.length ys.length w e w'

theorem readsAtF {w : World} {v : Value} {xs : List Nat} (h : Reads w v (flts xs)) : ∀ a n cap, v = .slice a n cap → ∀ k, k < n → ∃ g, a = some ⟨g, 0, none⟩ ∧ g < w.heap.size ∧ w.cell? ⟨g, k, none⟩ = some (.float .f64 (xs.getD k 0)) := by
  intro a n cap e k hk
  generalize hcs : flts xs = cs at h
  cases h with
  | none a' cap' => simp only [Value.slice.injEq] at e; omega
  | row g cap' L cs hL h0 hc hm hcell =>
    simp only [Value.slice.injEq] at e
    obtain ⟨rfl, rfl, rfl⟩ := e
    have c := hcell k hk
    rw [← hcs, flts_getD (by rw [← hcs, flts_length] at hL; omega)] at c
    exact ⟨g, rfl, World.block_lt_of_cell? _ _ c, c⟩
theorem readsLen {w : World} {v : Value} {cs : List Value} (h : Reads w v cs) : cs.length ≤ maxLen := by
  cases h with
  | none a cap => exact Nat.zero_le _
  | row g cap L cs hL h0 hc hm hcell => omega

/-- Two rows of one type, of which the first one has grown. -/
theorem two_rows {wr w5 : World} {B nn : Nat} {O : Obj} {e : TypeId} {v v2 v' : Value} {cs cs2 : List Value} (h : Row wr B e v cs) (h2 : Row wr B e v2 cs2) (hd : ∀ b, v.ownBlock = some b → v2.ownBlock ≠ some b)
    (hg : ((wr.drewN nn).alloc O).grownBy w5 v.ownBlock) (hat : v'.ownBlock = v.ownBlock ∨ v'.ownBlock = some (wr.heap.size + 1)) : Row w5 B e v2 cs2 ∧ ∀ b, v'.ownBlock = some b → v2.ownBlock ≠ some b := by
  constructor
  · refine ((h2.drewN nn).alloc O).kept hg ?_
    cases h1 : v2.ownBlock with
    | none => exact .inl rfl
    | some b => exact .inr (fun e => hd b e.symm h1)
  · intro b hb h1
    rcases hat with e | e
    · exact hd b (e ▸ hb) h1
    · have := (h2.lt b h1).2
      rw [hb] at e
      have e2 := Option.some.inj e
      omega

/-- Two empty rows that have just been made. -/
theorem lit_two (w : World) : Row ((w.alloc (.cells #[] 34)).alloc (.cells #[] 34)) w.heap.size 34 (.slice (some ⟨w.heap.size, 0, none⟩) 0 0) (cvals []) ∧
    Row ((w.alloc (.cells #[] 34)).alloc (.cells #[] 34)) w.heap.size 34 (.slice (some ⟨w.heap.size + 1, 0, none⟩) 0 0) (cvals []) ∧
    (∀ b, (Value.slice (some ⟨w.heap.size, 0, none⟩) 0 0).ownBlock = some b → (Value.slice (some ⟨w.heap.size + 1, 0, none⟩) 0 0).ownBlock ≠ some b) ∧ Below w.heap.size w ((w.alloc (.cells #[] 34)).alloc (.cells #[] 34)) := by
  refine ⟨(World.ownsRow_lit w #[] 0 (Nat.le_refl _) (by unfold maxLen; omega) rfl : Row _ _ _ _ _).alloc _, ?_, fun b e => ?_, ((Below.refl _ _).alloc (Nat.le_refl _) _).alloc (by simp) _⟩
  · have := World.ownsRow_lit (w.alloc (.cells #[] 34)) (e := 34) (base := w.heap.size) (size := 1) #[] 0 (by simp) (by unfold maxLen; omega) rfl
    unfold Row
    simpa [cvals] using this
  · intro h
    simp only [Value.ownBlock, Option.some.injEq] at e h
    omega

theorem isF_half : IsF 4602678819172646912 (some 4602678819172646912) := IsF.lit (by decide) (by omega)

set_option maxRecDepth 100000 in
set_option maxHeartbeats 8000000 in
theorem pair_spec (xs ys : List Nat) (v0 v1 : Value) (w : World) (hx : ∀ z ∈ xs, z < 18446744073709551616) (hy : ∀ z ∈ ys, z < 18446744073709551616) (h0 : Reads w v0 (flts xs)) (h1 : Reads w v1 (flts ys)) :
    Calls Try.prog 5 #[v0, v1] w (PairR xs ys w) := by
  obtain ⟨i0, hi, hz0, hz1, hz2⟩ := info_parts info_c128
  have hm0 := maxLen_int (by have := readsLen h0; rwa [flts_length] at this : xs.length ≤ maxLen)
  have hm1 := maxLen_int (by have := readsLen h1; rwa [flts_length] at this : ys.length ≤ maxLen)
  have R0 := readsAtF h0
  have R1 := readsAtF h1
  obtain ⟨a0, c0, rfl⟩ := h0.form'
  obtain ⟨a1, c1, rfl⟩ := h1.form'
  simp only [flts_length] at *
  replace R0 := Lib.hid (R0 _ _ _ rfl)
  replace R1 := Lib.hid (R1 _ _ _ rfl)
  have HWF : ∀ j, Hid (WfC (bothN xs ys j)) := fun j => bothN_wf hx hy
  unfold PairR
  obtain ⟨n, hn⟩ : ∃ n, xs.length = n := ⟨_, rfl⟩
  obtain ⟨m, hm⟩ : ∃ m, ys.length = m := ⟨_, rfl⟩
  rw [hn] at R0 hm0 ⊢
  rw [hm] at R1 hm1 ⊢
  clear h0 h1 hx hy hn hm
  have HLT := Lib.hid (lit_two w)
  by_cases hbig : 256 < n ∨ 256 < m
  · have HBG := Lib.hid hbig
    by_cases hn1 : 256 < n
    · clear hbig
      go_enter Try.func5, Try.ntmps5
      go_wp2
      go_ret3
      exact ⟨_, _, [], [], 3, rfl, HLT.out.1, HLT.out.2.1, HLT.out.2.2.1, HLT.out.2.2.2, .inl ⟨HBG.out, rfl, rfl, rfl⟩⟩
    · have hm2 : 256 < m := hbig.resolve_left hn1
      clear hbig
      go_enter Try.func5, Try.ntmps5
      go_wp2
      go_ret3
      exact ⟨_, _, [], [], 3, rfl, HLT.out.1, HLT.out.2.1, HLT.out.2.2.1, HLT.out.2.2.2, .inl ⟨HBG.out, rfl, rfl, rfl⟩⟩
  · by_cases hne : n = m
    · subst hne
      have hn256 : n ≤ 256 := by omega
      clear hbig
      go_enter Try.func5, Try.ntmps5
      go_wp2
      go_loopw [7, 8] (fun v7 i wr => ∃ (j : Nat), i = .int .i64 j ∧ j ≤ n ∧ Row wr w.heap.size 34 v7 (cvals (bothN xs ys j)) ∧ Below w.heap.size w wr) (fun _ i _ => n - (intOf i).toNat)
      case atStart => exact ⟨0, rfl, Nat.zero_le _, World.ownsRow_lit w #[] 0 (Nat.le_refl _) (by unfold maxLen; omega) rfl, (Below.refl _ _).alloc (Nat.le_refl _) _⟩
      case round =>
        obtain ⟨j, rfl, hj, hrw, hbw⟩ := hrel
        have HRW := Lib.hid hrw
        have HBW := Lib.hid hbw
        have hzw := hbw.size
        clear hrw hbw
        obtain ⟨wt, rfl⟩ : ∃ x, x = wr := ⟨_, rfl⟩
        by_cases hlt : j < n
        · obtain ⟨g0, rfl, hg0, hc0⟩ := R0.out j hlt
          obtain ⟨g1, rfl, hg1, hc1⟩ := R1.out j hlt
          have d0 : wt.cell? ⟨g0, j, none⟩ = some (.float .f64 (xs.getD j 0)) := by rw [HBW.out.cell hg0]; exact hc0
          have d1 : wt.cell? ⟨g1, j, none⟩ = some (.float .f64 (ys.getD j 0)) := by rw [HBW.out.cell hg1]; exact hc1
          have hbs := bothN_succ xs ys j
          obtain ⟨x, hxj⟩ : ∃ x, xs.getD j 0 = x := ⟨_, rfl⟩
          obtain ⟨y, hyj⟩ : ∃ y, ys.getD j 0 = y := ⟨_, rfl⟩
          rw [hxj] at d0 hbs
          rw [hyj] at d1 hbs
          have HBS := Lib.hid hbs
          have hl : (cvals (bothN xs ys j)).length = j := by rw [cvals_length, bothN_length]
          have HL := Lib.hid hl
          have HROW2 : Hid (∀ (nn : Nat) (o : Obj), ((wt.drewN nn).alloc o).ownsRow w.heap.size 34 1 u7 j (cvals (bothN xs ys j))) := fun nn o => by
            have := (HRW.out.drewN nn).alloc o
            unfold Row at this
            rwa [HL.out] at this
          have hs63 : j + 1 ≤ maxLen := by simp only [maxLen]; omega
          have hsby : (j + 1) * 16 ≤ 140737488355328 := by omega
          have hsba : ∀ (nn : Nat) (o : Obj), w.heap.size ≤ ((wt.drewN nn).alloc o).heap.size := fun nn o => by
            show _ ≤ (wt.alloc o).heap.size
            simp; omega
          have HNX : Hid (∀ (nn : Nat) (o : Obj) (v' : Value) (w2 : World), w2.ownsRow w.heap.size 34 1 v' (j + 1) (cvals (bothN xs ys j) ++ [.complex .f64 x y]) → ((wt.drewN nn).alloc o).grownBy w2 u7.ownBlock → Row w2 w.heap.size 34 v' (cvals (bothN xs ys (j + 1))) ∧ Below w.heap.size w w2) := fun nn o v' w2 h1 h2 => by
            refine ⟨?_, ((below_draws HBW.out nn).alloc hzw o).grown h2 (hsba nn o) (fun b e => (HRW.out.lt b e).1)⟩
            show w2.ownsRow _ _ _ _ _ _
            rw [HBS.out, cvals_snoc, List.length_append, HL.out]
            exact h1
          clear hxj hyj hbs hl hc0 hc1 R0 R1
          go_wp2
          go_region_law (first
            | (refine step_append_lies _ rfl (.tmp 40) (.tmp 50) 23 rfl w.heap.size 34 i0 (.complex .f64 0 0) 1 16 Try.underlying23 hi hz0 hz1 hz2 rfl (by decide) u7 j (cvals (bothN xs ys j)) rfl (HROW2.out _ _) ⟨wt.heap.size, 0, none⟩ 1 1 [.complex .f64 x y] rfl rfl (cell_one_new _ _ _) (one_single _ _) (by decide) hs63 hsby (hsba _ _) _ rfl ?_; intro g' cap' w2 hown hgrow hor hlt2; obtain ⟨hrn, hbn⟩ := HNX.out _ _ _ _ hown hgrow; have HRN := Lib.hid hrn; have HBN := Lib.hid hbn; clear hown hgrow hor hlt2 hrn hbn))
          all_goals
            clear d0 d1
            go_wp2
            go_roundw
            case rel => first | exact ⟨j + 1, by go_num, by omega, HRN.out, HBN.out⟩ | ((repeat apply Exists.intro); refine ⟨?_, rfl⟩; exact ⟨j + 1, by go_num, by omega, HRN.out, HBN.out⟩)
            case measure => simp [intOf]; omega
        · have e : j = n := by omega
          subst e
          have hzw' := hzw
          have FS := Lib.hid (fast_spec (bothN xs ys j) u7 w.heap.size wt (by rw [bothN_length]; omega) (HWF j).out HRW.out)
          go_wp2_with fail
          refine FS.out.mono ?_
          rintro e w2 ⟨v, zl, rfl, hzr, hzw, hzf, hzb⟩
          have hzl : zl.length = j := by
            have := hzf.length
            rwa [zsOf_length, zsOf_length, bothN_length] at this
          have RZ := readsAt' hzr.reads
          obtain ⟨az, cz, rfl⟩ := hzr.reads.form'
          rw [cvals_length, hzl] at RZ ⊢
          replace RZ := Lib.hid (RZ _ _ _ rfl)
          have hsz2 : w.heap.size ≤ w2.heap.size := Nat.le_trans hzw' hzb.size
          have HB2 := Lib.hid (HBW.out.trans (hzb.mono hzw'))
          have HZW := Lib.hid hzw
          have HZF := Lib.hid hzf
          have HZL := Lib.hid hzl
          clear hzr hzw hzf hzb hzl FS HRW HBW
          have hrow2 : Row ((w2.alloc (.cells #[] 34)).alloc (.cells #[] 34)) w2.heap.size 34 (.slice (some ⟨w2.heap.size + 1, 0, none⟩) 0 0) (cvals []) := by
            exact (lit_two w2).2.1
          go_wp2
          go_loopw [10, 11, 12] (fun v10 v11 i wr => ∃ (k : Nat) (f s : List C), i = .int .i64 k ∧ k ≤ j ∧ f.length = k ∧ s.length = k ∧ Row wr w2.heap.size 34 v10 (cvals f) ∧ Row wr w2.heap.size 34 v11 (cvals s) ∧ (∀ b, v10.ownBlock = some b → v11.ownBlock ≠ some b) ∧ Below w2.heap.size w2 wr ∧ (∀ i, i < k → IsC (f.getD i (0, 0)) (firstZ (zsOf zl) j i) ∧ IsC (s.getD i (0, 0)) (secondZ (zsOf zl) j i))) (fun _ _ i _ => j - (intOf i).toNat)
          case atStart => exact ⟨0, [], [], rfl, Nat.zero_le _, rfl, rfl, (World.ownsRow_lit w2 #[] 0 (Nat.le_refl _) (by unfold maxLen; omega) rfl : Row _ _ _ _ _).alloc _, hrow2, fun b e => by simp only [Value.ownBlock, Option.some.injEq] at e ⊢; simp at *; omega, ((Below.refl _ _).alloc (Nat.le_refl _) _).alloc (by simp) _, fun i hi => by omega⟩
          case round =>
            obtain ⟨k, f, s, rfl, hk, hf, hs, hrf, hrs, hdj, hbr, hgd⟩ := hrel
            have HF := Lib.hid hf
            have HSL := Lib.hid hs
            have HRF := Lib.hid hrf
            have HRS := Lib.hid hrs
            have HDJ := Lib.hid hdj
            have HBR := Lib.hid hbr
            have HGD := Lib.hid hgd
            have hzr := hbr.size
            clear hf hs hrf hrs hdj hbr hgd
            by_cases hkj : k < j
            · obtain ⟨q, hq⟩ : ∃ q, (j - k) % j = q := ⟨_, rfl⟩
              have hqj : q < j := by rw [← hq]; exact Nat.mod_lt _ (by omega)
              have hq0 : ((j - k : Nat) : Int) = (j : Int) - (k : Int) := by omega
              have hq1 : ((j : Int) - (k : Int)).tmod (j : Int) = (q : Int) := by rw [← hq0, ← hq]; rfl
              have hq2 : ((j : Int) - (k : Int)) % (j : Int) = (q : Int) := by rw [← hq0, ← hq]; rfl
              obtain ⟨gz, rfl, hgz, hck⟩ := RZ.out k hkj
              obtain ⟨gz', e2, -, hcq⟩ := RZ.out q hqj
              simp only [Option.some.injEq, Addr.mk.injEq, true_and, and_true] at e2
              subst e2
              have ck : wr.cell? ⟨gz, k, none⟩ = some (.complex .f64 (zl.getD k (0, 0)).1 (zl.getD k (0, 0)).2) := by rw [HBR.out.cell hgz]; exact hck
              have cq : wr.cell? ⟨gz, q, none⟩ = some (.complex .f64 (zl.getD q (0, 0)).1 (zl.getD q (0, 0)).2) := by rw [HBR.out.cell hgz]; exact hcq
              have zk := isC_getD HZW.out (by rw [HZL.out]; exact hkj)
              have zq := isC_getD HZW.out (by rw [HZL.out]; exact hqj)
              obtain ⟨⟨a, b⟩, hab⟩ : ∃ u, zl.getD k (0, 0) = u := ⟨_, rfl⟩
              obtain ⟨⟨c, d⟩, hcd⟩ : ∃ u, zl.getD q (0, 0) = u := ⟨_, rfl⟩
              rw [hab] at ck zk
              rw [hcd] at cq zq
              have HZK := Lib.hid zk
              have HZQ : Hid (IsC (c, Op.negFloat .f64 d) (otherZ (zsOf zl) j k)) := by show IsC _ (conjZ ((zsOf zl).getD ((j - k) % j) z0)); rw [hq]; exact ⟨zq.re, zq.im.neg⟩
              have hlf : (cvals f).length = k := by rw [cvals_length, HF.out]
              have hls : (cvals s).length = k := by rw [cvals_length, HSL.out]
              clear hq hq0 hck hcq zk zq hab hcd
              go_wp2_with (first
                | (go_at_call 16; go_in)
                | (at_builtin; refine wpList_append_own_at _ rfl _ _ 23 rfl w2.heap.size 34 i0 (.complex .f64 0 0) 1 16 Try.underlying23 hi hz0 hz1 hz2 rfl (by decide) _ _ _ rfl ((HRF.out.drewN _).alloc _) ⟨_, 0, none⟩ 1 1 [.complex .f64 _ _] rfl rfl (cell_one_new _ _ _) (by intro u hu; simp at hu; subst hu; rfl) (by rw [hlf]; simp only [maxLen]; omega) (by rw [hlf]; omega) (by simp; omega) ?_))
              intro v10 w5 hown hgrow _ hat
              obtain ⟨hr11, hdj⟩ := two_rows HRF.out HRS.out HDJ.out hgrow hat
              have NX1 : ∀ p q : Nat, w5.ownsRow w2.heap.size 34 1 v10 (k + 1) (cvals f ++ [.complex .f64 p q]) → IsC (p, q) (firstZ (zsOf zl) j k) → ∃ f', Row w5 w2.heap.size 34 v10 (cvals f') ∧ f'.length = k + 1 ∧ ∀ i, i < k + 1 → IsC (f'.getD i (0, 0)) (firstZ (zsOf zl) j i) := fun p q h hpq => by
                have hS := snocGood (d := ((0, 0) : C)) (G := fun i u => IsC u (firstZ (zsOf zl) j i)) HF.out (fun i hi => (HGD.out i hi).1) hpq
                refine ⟨f ++ [(p, q)], ?_, hS.1, hS.2⟩
                show w5.ownsRow _ _ _ _ _ _
                rw [cvals_snoc, List.length_append, hlf]
                exact h
              obtain ⟨f', hrf', hlf', hgf'⟩ := NX1 _ _ hown ⟨isF_fres (isF_fres HZK.out.re HZQ.out.re _) isF_half _, isF_fres (isF_fres HZK.out.im HZQ.out.im _) isF_half _⟩
              have hb5 : Below w2.heap.size w2 w5 := ((below_draws HBR.out _).alloc hzr _).grown hgrow (by simp; omega) (fun b e => (HRF.out.lt b e).1)
              have hz5 := hb5.size
              have HR10 := Lib.hid hrf'
              have HGF := Lib.hid hgf'
              have HLF := Lib.hid hlf'
              have HR11 := Lib.hid hr11
              have HDJ5 : Hid (∀ b, u11.ownBlock = some b → v10.ownBlock ≠ some b) := fun b h1 h2 => hdj b h2 h1
              have HB5 := Lib.hid hb5
              clear hown hgrow hat hr11 hdj NX1 hrf' hlf' hgf' hb5 HRF HRS HDJ HBR hlf
              go_wp2_with (at_builtin; refine wpList_append_own_at _ rfl _ _ 23 rfl w2.heap.size 34 i0 (.complex .f64 0 0) 1 16 Try.underlying23 hi hz0 hz1 hz2 rfl (by decide) _ _ _ rfl ((HR11.out.drewN _).alloc _) ⟨_, 0, none⟩ 1 1 [.complex .f64 _ _] rfl rfl (cell_one_new _ _ _) (by intro u hu; simp at hu; subst hu; rfl) (by rw [hls]; simp only [maxLen]; omega) (by rw [hls]; omega) (by simp; omega) ?_)
              intro v11 w6 hown hgrow _ hat
              obtain ⟨hr10, hdj⟩ := two_rows HR11.out HR10.out HDJ5.out hgrow hat
              have NX2 : ∀ p q : Nat, w6.ownsRow w2.heap.size 34 1 v11 (k + 1) (cvals s ++ [.complex .f64 p q]) → IsC (p, q) (secondZ (zsOf zl) j k) → ∃ s', Row w6 w2.heap.size 34 v11 (cvals s') ∧ s'.length = k + 1 ∧ ∀ i, i < k + 1 → IsC (s'.getD i (0, 0)) (secondZ (zsOf zl) j i) := fun p q h hpq => by
                have hS := snocGood (d := ((0, 0) : C)) (G := fun i u => IsC u (secondZ (zsOf zl) j i)) HSL.out (fun i hi => (HGD.out i hi).2) hpq
                refine ⟨s ++ [(p, q)], ?_, hS.1, hS.2⟩
                show w6.ownsRow _ _ _ _ _ _
                rw [cvals_snoc, List.length_append, hls]
                exact h
              obtain ⟨s', hrs', hls', hgs'⟩ := NX2 _ _ hown ⟨isF_fres (isF_fres HZK.out.im HZQ.out.im _) isF_half _, (isF_fres (isF_fres HZK.out.re HZQ.out.re _) isF_half _).neg⟩
              have hb6 : Below w2.heap.size w2 w6 := ((below_draws HB5.out _).alloc hz5 _).grown hgrow (by simp; omega) (fun b e => (HR11.out.lt b e).1)
              have HE : Hid (f'.length = k + 1 ∧ s'.length = k + 1 ∧ Row w6 w2.heap.size 34 v10 (cvals f') ∧ Row w6 w2.heap.size 34 v11 (cvals s') ∧ (∀ b, v10.ownBlock = some b → v11.ownBlock ≠ some b) ∧ Below w2.heap.size w2 w6 ∧ (∀ i, i < k + 1 → IsC (f'.getD i (0, 0)) (firstZ (zsOf zl) j i) ∧ IsC (s'.getD i (0, 0)) (secondZ (zsOf zl) j i))) := ⟨HLF.out, hls', hr10, hrs', fun b h1 h2 => hdj b h2 h1, hb6, fun i hi => ⟨HGF.out i hi, hgs' i hi⟩⟩
              clear hown hgrow hat hr10 hdj NX2 hrs' hls' hgs' hb6 HR10 HGF HLF HR11 HDJ5 HB5 HGD hls ck cq
              go_wp2
              go_roundw
              case rel => first | exact ⟨k + 1, f', s', by go_num, by omega, HE.out⟩ | ((repeat apply Exists.intro); refine ⟨?_, rfl⟩; exact ⟨k + 1, f', s', by go_num, by omega, HE.out⟩)
              case measure => simp [intOf]; omega
            · have e : k = j := by omega
              subst e
              have HPG : Hid (PairG xs ys k f s) := ⟨zsOf zl, HZF.out, HF.out, HSL.out, HGD.out⟩
              have HBF := Lib.hid (HB2.out.trans (HBR.out.mono hsz2))
              go_wp2
              go_ret3
              exact ⟨_, _, f, s, 0, rfl, HRF.out.base hsz2, HRS.out.base hsz2, HDJ.out, HBF.out, .inr (.inr ⟨by omega, rfl, rfl, HPG.out⟩)⟩
    · have HNB := Lib.hid hbig
      have HNE := Lib.hid hne
      have g1 : n ≤ 256 := by omega
      have g2 : m ≤ 256 := by omega
      have g3 : ((n : Int) == (m : Int)) = false := by simp; omega
      clear hbig hne
      go_enter Try.func5, Try.ntmps5
      go_wp2
      go_ret3
      exact ⟨_, _, [], [], 2, rfl, HLT.out.1, HLT.out.2.1, HLT.out.2.2.1, HLT.out.2.2.2, .inr (.inl ⟨HNB.out, HNE.out, rfl, rfl, rfl⟩)⟩

end Go.Proofs.Ythinoegcijalpaa
