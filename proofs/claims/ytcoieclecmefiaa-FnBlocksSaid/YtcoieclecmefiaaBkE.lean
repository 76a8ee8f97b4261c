import Derived.Test.YtcoieclecmefiaaBkD
import Derived.Laws.CopyOwn
/-
  BlocksOf of the program.
-/
set_option linter.unusedVariables false
set_option linter.unusedSimpArgs false
namespace Go.Proofs.Ytcoieclecmefiaa
open Go.RowKit Flt Fast

theorem row_of_heapC {w : World} {B c : Nat} {e : TypeId} {cs : List Value} (hl : cs.length = c) (hc : c ≤ maxLen) (h : w.heap[B]? = some (.cells cs.toArray e (0, 0))) : Row w B e (.slice (some ⟨B, 0, none⟩) c c) cs :=
  ⟨by simp, .inr ⟨B, c, cs.toArray, by rw [hl], Nat.le_refl _, h, by omega, hc, by simp [hl], by simp⟩⟩
theorem heap_of_rowC {w : World} {B c : Nat} {e : TypeId} {cs : List Value} (h : Row w B e (.slice (some ⟨B, 0, none⟩) c c) cs) : w.heap[B]? = some (.cells cs.toArray e (0, 0)) := by
  rcases h.2 with ⟨hv, -⟩ | ⟨g, cap, cur, hv, -, hg, -, -, hs, ht⟩
  · cases hv
  · simp only [Value.slice.injEq, Option.some.injEq, Addr.mk.injEq, and_true] at hv
    obtain ⟨rfl, e1, rfl⟩ := hv
    rw [hg]
    have hlen : cur.toList.length = c := by simp [hs]
    rw [List.take_of_length_le (by rw [hlen, ← e1]; simp)] at ht
    rw [← ht]

theorem addr_offC (g o j : Nat) : (⟨g, o, none⟩ : Addr).add j = ⟨g, o + j, none⟩ := by unfold Addr.add; split <;> simp_all

/-- What is copied into a block. -/
theorem blk_take {xs : List C} (hw : WfC xs) {h b n p : Nat} (hp : b * h = p) (hpl : p < xs.length) : ∃ ts : List C, ts.length = Nat.min (xs.length - p) n ∧ (∀ j, j < ts.length → p + j < xs.length ∧ ts.getD j (0, 0) = xs.getD (p + j) (0, 0)) ∧
    (ts ++ List.replicate (n - ts.length) (0, 0)).length = n ∧ ∀ i, i < n → IsC ((ts ++ List.replicate (n - ts.length) (0, 0)).getD i (0, 0)) (blkQ xs h b i) := by
  have hl : ((xs.drop p).take n).length = Nat.min (xs.length - p) n := by
    rw [List.length_take, List.length_drop]; exact Nat.min_comm _ _
  have hm : Nat.min (xs.length - p) n ≤ n := Nat.min_le_right _ _
  have hm2 : Nat.min (xs.length - p) n ≤ xs.length - p := Nat.min_le_left _ _
  have hg : ∀ j, j < ((xs.drop p).take n).length → ((xs.drop p).take n).getD j (0, 0) = xs.getD (p + j) (0, 0) := fun j hj => by
    simp only [List.getD_eq_getElem?_getD]
    rw [List.getElem?_take_of_lt (by omega), List.getElem?_drop]
  refine ⟨(xs.drop p).take n, hl, fun j hj => ⟨by omega, hg j hj⟩, ?_⟩
  have hend : ((xs.drop p).take n).length = n ∨ xs.length ≤ b * h + ((xs.drop p).take n).length := by
    rw [hl, hp]
    by_cases hc : xs.length - p ≤ n
    · right; rw [show Nat.min (xs.length - p) n = xs.length - p from Nat.min_eq_left hc]; omega
    · left; exact Nat.min_eq_right (by omega)
  exact blk_done (h := h) (b := b) hw rfl (by omega) (fun i hi => by rw [hp]; exact hg i hi) (fun i hi => by omega) hend

theorem c_cap {w : World} {a : Option Addr} {n cap : Nat} {cs : List Value} (h : Reads w (.slice a n cap) cs) (h0 : 0 < n) : cs.length ≤ cap := by
  generalize hv : (Value.slice a n cap) = v at h
  cases h with
  | none a cap => simp only [Value.slice.injEq] at hv; omega
  | row g cap L cs hL h0 hc hm hh => simp only [Value.slice.injEq] at hv; omega

theorem enter_bo1 (args : Array Value) (w : World) : (callFunc 82 args).run Try.prog w = .ok (.enter 82 args) w := by kernel_rfl

set_option maxRecDepth 100000 in
set_option maxHeartbeats 4000000 in
theorem bo1_any (xs : List C) (hw : WfC xs) (n h k B0 B1 B2 : Nat) (hh : 1 ≤ h ∧ h ≤ n) (hn : n ≤ 256) (hL : xs.length ≤ 64) (hk : k * h < xs.length) (v : Value) (w : World) (hv : Reads w v (cvals xs)) (c0 : w.cell? ⟨B0, 0, none⟩ = some v) (c1 : w.cell? ⟨B1, 0, none⟩ = some (.int .i64 n)) (c2 : w.cell? ⟨B2, 0, none⟩ = some (.int .i64 h)) :
    Calls Try.prog 82 #[.int .i64 k, .pointer (some ⟨B1, 0, none⟩), .pointer (some ⟨B0, 0, none⟩), .pointer (some ⟨B2, 0, none⟩)] w fun e w2 => ∃ u y, e = .returned u ∧ Row w2 w.heap.size 26 u (cvals y) ∧ y.length = n ∧ (∀ j, j < n → IsC (y.getD j (0, 0)) (blkQ xs h k j)) ∧ Below w.heap.size w w2 := by
  obtain ⟨i0, hi, hz0, hz1, hz2⟩ := info_parts info_c128
  have hrd := c_reads hv
  have hcap := cform hv
  obtain ⟨a, cap, rfl⟩ := hcap
  rw [cvals_length] at *
  replace hrd := hrd _ _ _ rfl
  obtain ⟨g, rfl, hg, -⟩ := hrd 0 (by omega)
  obtain ⟨p, hp⟩ : ∃ p, k * h = p := ⟨_, rfl⟩
  have hk2 : k ≤ k * h := Nat.le_mul_of_pos_right _ (by omega)
  rw [hp] at hk hk2
  have eP : (k : Int) * (h : Int) = (p : Int) := by rw [← hp]; simp
  have hLc := c_cap hv (by omega)
  rw [cvals_length] at hLc
  obtain ⟨ts, ht1, ht2, ht3, ht4⟩ := blk_take (n := n) hw hp hk
  have HRD := Lib.hid hrd
  have HE := Lib.hid eP
  have hb1 := World.block_lt_of_cell? _ _ c0
  have hb2 := World.block_lt_of_cell? _ _ c2
  clear hv eP hp
  obtain ⟨L, hLL⟩ : ∃ L, xs.length = L := ⟨_, rfl⟩
  rw [hLL] at HRD c0 hL hk hLc ht1 ht2
  have hpc : ¬ cap = p := by omega
  have HT1 := Lib.hid ht1
  have HT2 := Lib.hid ht2
  have HT3 := Lib.hid ht3
  have HT4 := Lib.hid ht4
  clear ht1 ht2 ht3 ht4
  clear hLL hrd
  go_enter Try.func82, Try.ntmps82
  go_wp2_with (at_make; refine wpList_make_full _ rfl _ _ 24 rfl w.heap.size 26 i0 (.complex .f64 0 0) 1 Try.underlying24 hi hz0 hz1 .i64 .i64 _ _ n rfl rfl rfl rfl (by rw [hz2]; omega) (by simp only [maxLen]; omega) (Nat.le_refl _) ?_)
  intro w1 hown hg1
  rw [toList_madeCells_one] at hown
  have HO : Hid (Row w1 w.heap.size 26 (.slice (some ⟨w.heap.size, 0, none⟩) n n) (List.replicate n (.complex .f64 0 0))) := by
    show w1.ownsRow _ _ _ _ _ _
    simpa using hown
  have HG := Lib.hid hg1
  have d0 := hg1.cell c0 (by simp)
  have d2 := hg1.cell c2 (by simp)
  have eP := HE.out
  clear hown hg1 c0 c1 c2
  have hH := heap_of_rowC HO.out
  have hbW : Below w.heap.size w w1 := ⟨HG.out.os, HG.out.tape, HG.out.output, HG.out.size, fun k hk => HG.out.block k hk (by simp)⟩
  have hszE : (Try.prog.info? 26).map (·.size) = some 1 := by rw [hi]; simp [hz1]
  have hmin : (cvals ts).length = Nat.min (L - p) n := by rw [cvals_length]; exact HT1.out
  have hpos : 0 < (cvals ts).length → ∀ j u, (cvals ts)[j]? = some u → w1.cell? ((⟨g, p, none⟩ : Addr).add j) = some u := fun _ j u hu => by
    have hj : j < ts.length := by have := (List.getElem?_eq_some_iff.1 hu).1; rwa [cvals_length] at this
    obtain ⟨hj1, hj2⟩ := HT2.out j hj
    obtain ⟨g', e, hg', hc⟩ := HRD.out (p + j) hj1
    cases e
    rw [addr_offC, hbW.cell hg', hc, ← hj2, ← hu]
    have e2 := cvals_getD hj
    have e3 : (cvals ts).getD j undef = u := by simp [List.getD, hu]
    rw [hu, ← e3, e2]
  have hfit : 0 + (cvals ts).length ≤ (List.replicate n (Value.complex .f64 0 0)).length := by rw [hmin, List.length_replicate, Nat.zero_add]; exact Nat.min_le_right _ _
  have hone : ∀ u ∈ cvals ts, u.oneCell' = true := by
    intro u hu
    obtain ⟨q, -, rfl⟩ := List.mem_map.1 hu
    rfl
  have HH := Lib.hid hH
  have HBW := Lib.hid hbW
  have HMIN := Lib.hid hmin
  have HPOS := Lib.hid hpos
  have HFIT := Lib.hid hfit
  have HONE := Lib.hid hone
  clear hH hbW hmin hpos hfit hone
  go_wp2_with (refine wpList_copy_splice rfl (.tmp 9) (.tmp 14) 24 24 rfl 26 Try.underlying24 hszE _ _ _ _ _ _ rfl rfl w.heap.size 0 (List.replicate n (.complex .f64 0 0)) 26 HH.out (cvals ts) HMIN.out (fun h => ⟨rfl, _, rfl, HPOS.out h⟩) HFIT.out HONE.out w.heap.size w HBW.out (Nat.le_refl _) ?_)
  intro w2 hH2 hb2'
  have hrow2 : Row w2 w.heap.size 26 (.slice (some ⟨w.heap.size, 0, none⟩) n n) (cvals (ts ++ List.replicate (n - ts.length) (0, 0))) := by
    refine row_of_heapC (by rw [cvals_length]; exact HT3.out) (by simp only [maxLen]; omega) ?_
    have := hH2.out
    unfold splice at this
    rw [cvals_rep]
    rw [List.take_zero, List.nil_append, Nat.zero_add, cvals_length, List.drop_replicate] at this
    exact this
  have HR2 := Lib.hid hrow2
  have HB2 := Lib.hid hb2'
  clear hrow2 hb2' hH2 HH HPOS HMIN HFIT HONE HBW
  go_wp2
  go_ret
  exact ⟨_, _, rfl, HR2.out, HT3.out, HT4.out, HB2.out⟩

set_option maxRecDepth 100000 in
set_option maxHeartbeats 4000000 in
theorem blocksOf_impl (xs : List C) (hw : WfC xs) (n h : Nat) (hh : 1 ≤ h ∧ h ≤ n) (hn : n ≤ 256) (hL : xs.length ≤ 64) (v : Value) (w : World) (hv : Reads w v (cvals xs)) :
    Calls Try.prog 36 #[v, .int .i64 n, .int .i64 h] w (BlkTo n (blkQ xs h) (cntR xs.length n h) w) := by
  have BC : ∀ w, Calls Try.prog 35 #[.int .i64 xs.length, .int .i64 n, .int .i64 h] w fun e w' => e = .returned (.tuple #[.int .i64 (cntR xs.length n h), .int .i64 0]) ∧ Below w.heap.size w w' := fun w => by
    have hb : (0 ≤ (xs.length : Int) ∧ (xs.length : Int) ≤ 256) ∧ (1 ≤ (n : Int) ∧ (n : Int) ≤ 256) ∧ (1 ≤ (h : Int) ∧ (h : Int) ≤ n) := by omega
    have := bc_impl xs.length n h w
    rwa [show bcR xs.length n h = cntR xs.length n h from if_pos hb, show bcK xs.length n h = 0 from if_pos hb] at this
  obtain ⟨c, hc, hcl, hcL⟩ := cnt_facts xs.length n h hh
  rw [hc] at BC ⊢
  have hform := cform hv
  have F := Lib.hid (fun k (hk : k < c) w1 (hb : Below w.heap.size w w1) B0 B1 B2 c0 c1 c2 => bo1_any xs hw n h k B0 B1 B2 hh hn hL (hcl k hk) v w1 (hv.below hb) c0 c1 c2)
  obtain ⟨a, cap, rfl⟩ := hform
  rw [cvals_length] at *
  obtain ⟨q, hq⟩ : ∃ q, blkQ xs h = q := ⟨_, rfl⟩
  rw [hq] at F ⊢
  obtain ⟨L, hLL⟩ : ∃ L, xs.length = L := ⟨_, rfl⟩
  rw [hLL] at BC F hcl hcL hL ⊢
  have HB0 := Lib.hid (show Below w.heap.size w (((w.alloc (.cells #[.slice a L cap] 24)).alloc (.cells #[.int .i64 n] 2)).alloc (.cells #[.int .i64 h] 2)) from (((Below.refl _ _).alloc (Nat.le_refl _) _).alloc (by simp) _).alloc (by simp; omega) _)
  have BC := Lib.hid BC
  clear hv hc hcl hLL hq hw
  go_enter Try.func36, Try.ntmps36
  go_wp2_with fail
  refine (BC.out _).mono ?_
  rintro e w2 ⟨rfl, hb⟩
  have hs2 : w.heap.size + 3 ≤ w2.heap.size := by have := hb.size; simp at this; omega
  have c0 : w2.cell? ⟨w.heap.size, 0, none⟩ = some (.slice a L cap) := by rw [hb.cell (by simp; omega)]; go_simp
  have c1 : w2.cell? ⟨w.heap.size + 1, 0, none⟩ = some (.int .i64 n) := by rw [hb.cell (by simp)]; go_simp
  have c2 : w2.cell? ⟨w.heap.size + 1 + 1, 0, none⟩ = some (.int .i64 h) := by rw [hb.cell (by simp)]; go_simp
  have HB2 := Lib.hid (below_step HB0.out hb HB0.out.size)
  have HC0 := Lib.hid c0
  have HC1 := Lib.hid c1
  have HC2 := Lib.hid c2
  clear hb HB0
  have hc64 : ¬ (64 < (c : Int)) := by omega
  go_wp2_with fail
  refine (listOf_rowsM 82 _ c n (by omega) q w2 enter_bo1 ?_).mono ?_
  · intro i w1 hi hb
    have hbw := below_step HB2.out hb HB2.out.size
    exact F.out i hi w1 hbw _ _ _ (by rw [hb.cell (by show w.heap.size < _; omega)]; exact HC0.out) (by rw [hb.cell (by show w.heap.size + 1 < _; omega)]; exact HC1.out) (by rw [hb.cell (by show w.heap.size + 1 + 1 < _; omega)]; exact HC2.out)
  · rintro e w3 ⟨V, vs, ys, rfl, hm, hl, hb⟩
    have HM : Hid (Made w3 w.heap.size n V vs ys q) := ⟨hm.row.base HB2.out.size, fun b hb => ⟨(hm.each b hb).1.base HB2.out.size, (hm.each b hb).2⟩⟩
    have HL := Lib.hid hl
    have HB := Lib.hid (below_step HB2.out hb HB2.out.size)
    clear hm hl hb
    go_wp2
    go_ret2
    exact ⟨V, vs, ys, rfl, HM.out, by rw [HL.out], HB.out⟩

end Go.Proofs.Ytcoieclecmefiaa
