/-
  Several texts of this claim, one behind the other; each says what it holds.
-/
import Derived.Test.YtphgibndncjaiaaMRealPa11
import Derived.Deep.OwnRows
/-
  What the law of real pairs compares.
-/
set_option linter.unusedVariables false
set_option linter.unusedSimpArgs false
namespace Go.Proofs.Ytphgibndncjaiaa
open Go.RowKit Flt Turn Fast

/-- A signal of the first or of the second parts. -/
def partN1 (zs : List C) (j : Nat) : List C := (List.range j).map fun i => ((zs.getD i (0, 0)).1, 0)
def partN2 (zs : List C) (j : Nat) : List C := (List.range j).map fun i => ((zs.getD i (0, 0)).2, 0)
theorem partN1_length (zs : List C) (j : Nat) : (partN1 zs j).length = j := by simp [partN1]
theorem partN2_length (zs : List C) (j : Nat) : (partN2 zs j).length = j := by simp [partN2]
theorem partN1_getD {zs : List C} {j i : Nat} (h : i < j) : (partN1 zs j).getD i (0, 0) = ((zs.getD i (0, 0)).1, 0) := by simp [partN1, List.getD, h]
theorem partN2_getD {zs : List C} {j i : Nat} (h : i < j) : (partN2 zs j).getD i (0, 0) = ((zs.getD i (0, 0)).2, 0) := by simp [partN2, List.getD, h]
theorem partN1_succ (zs : List C) (j : Nat) : partN1 zs (j + 1) = partN1 zs j ++ [((zs.getD j (0, 0)).1, 0)] := by simp [partN1, List.range_succ]
theorem partN2_succ (zs : List C) (j : Nat) : partN2 zs (j + 1) = partN2 zs j ++ [((zs.getD j (0, 0)).2, 0)] := by simp [partN2, List.range_succ]
theorem fewC_of {fs : List C} (h : ∀ j, j < fs.length → Few (fs.getD j (0, 0)).1 ∧ Few (fs.getD j (0, 0)).2) : FewC fs := fun u hu => by
  obtain ⟨i, hi, rfl⟩ := List.getElem_of_mem hu
  have := h i hi
  simpa [List.getD, hi] using this
theorem part1_few {zs : List C} (h : FewC zs) : FewC (partN1 zs zs.length) := fewC_of fun j hj => by
  rw [partN1_length] at hj
  rw [partN1_getD hj]
  exact ⟨(h.at hj).1, Few.zero⟩
theorem part2_few {zs : List C} (h : FewC zs) : FewC (partN2 zs zs.length) := fewC_of fun j hj => by
  rw [partN2_length] at hj
  rw [partN2_getD hj]
  exact ⟨(h.at hj).2, Few.zero⟩
theorem fq_zero' : fq 0 = 0 := has_zero.2
theorem part1_q {zs : List C} {n j : Nat} (hj : j < n) : xQ (partN1 zs n) j = reQ (xQ zs) j := by
  unfold xQ reQ qC
  rw [partN1_getD hj]
  show (fq _, fq 0) = _
  rw [fq_zero']
theorem part2_q {zs : List C} {n j : Nat} (hj : j < n) : xQ (partN2 zs n) j = imQ (xQ zs) j := by
  unfold xQ imQ qC
  rw [partN2_getD hj]
  show (fq _, fq 0) = _
  rw [fq_zero']
theorem ab_zero' : Flt.ab 0 = 0 := by decide +kernel
theorem part1_sum (zs : List C) : sumS (partN1 zs zs.length) ≤ sumS zs := by
  unfold sumS
  rw [partN1_length]
  refine psum_le fun i hi => ?_
  rw [part1_q hi]
  show Flt.ab (xQ zs i).1 + Flt.ab 0 ≤ Flt.ab (xQ zs i).1 + Flt.ab (xQ zs i).2
  have := ab_nonneg (xQ zs i).2
  rw [ab_zero']; grind
theorem part2_sum (zs : List C) : sumS (partN2 zs zs.length) ≤ sumS zs := by
  unfold sumS
  rw [partN2_length]
  refine psum_le fun i hi => ?_
  rw [part2_q hi]
  show Flt.ab (xQ zs i).2 + Flt.ab 0 ≤ Flt.ab (xQ zs i).1 + Flt.ab (xQ zs i).2
  have := ab_nonneg (xQ zs i).1
  rw [ab_zero']; grind
theorem sumS_nonneg (zs : List C) : 0 ≤ sumS zs := psum_nonneg fun i _ => nrm_nonneg _

/-- Numbers with values that are near. -/
theorem nearC_two {gs bs : List C} {za : Nat → Z} {n : Nat} {B : Rat} (hl : gs.length = n) (ha : ∀ j, j < n → IsC (gs.getD j (0, 0)) (za j)) (hw : WfC bs) (hlb : bs.length = n) (h : ∀ K, K < n → ∃ v u, FvQ (za K) v ∧ FvQ ((zsOf bs).getD K z0) u ∧ NearQ v u B) : NearC gs bs B := fun i hi => by
  obtain ⟨v, u, h1, h2, h3⟩ := h i (by omega)
  have a1 := hasOf (ha i (by omega)) h1
  have a2 := hasOf (isC_at hw i (by omega)) h2
  exact ⟨v.1, v.2, u.1, u.2, a1.1, a1.2, a2.1, a2.2, h3.re, h3.im⟩

theorem rp_first {zs p ts : List C} {n : Nat} {zf : List Z} (h : FewC zs) (hl : zs.length = n) (hn : n ≤ 20) (hf : Fast (zsOf zs) zf) (hp : p.length = n) (hpg : ∀ k, k < n → IsC (p.getD k (0, 0)) (firstZ zf n k)) (ht : Fast (zsOf (partN1 zs n)) (zsOf ts)) (hwt : WfC ts) (htl : ts.length = n) : NearC p ts (sumS zs / 68719476736) := by
  subst hl
  refine nearC_two hp hpg hwt htl fun K hK => ?_
  obtain ⟨⟨v, v1, v2⟩, -⟩ := pair_near hf (x := xQ zs) (by rw [zsOf_length]) hn (fun j hj => fvQ_at h j hj) (sz_few h rfl hn) hK
  have h1 := part1_few h
  obtain ⟨u, u1, u2⟩ := few_fast ht (x := xQ (partN1 zs zs.length)) (n := zs.length) (by rw [zsOf_length, partN1_length]) hn (fun j hj => fvQ_at h1 j (by rw [partN1_length]; exact hj)) (sz_few h1 (partN1_length _ _) hn) K hK
  rw [dft_congr (fun j hj => part1_q hj)] at u2
  refine ⟨v, u, v1, u1, (v2.meet u2).mono ?_⟩
  have a := part1_sum zs
  have b := sumS_nonneg zs
  grind
theorem rp_second {zs p ts : List C} {n : Nat} {zf : List Z} (h : FewC zs) (hl : zs.length = n) (hn : n ≤ 20) (hf : Fast (zsOf zs) zf) (hp : p.length = n) (hpg : ∀ k, k < n → IsC (p.getD k (0, 0)) (secondZ zf n k)) (ht : Fast (zsOf (partN2 zs n)) (zsOf ts)) (hwt : WfC ts) (htl : ts.length = n) : NearC p ts (sumS zs / 68719476736) := by
  subst hl
  refine nearC_two hp hpg hwt htl fun K hK => ?_
  obtain ⟨-, ⟨v, v1, v2⟩⟩ := pair_near hf (x := xQ zs) (by rw [zsOf_length]) hn (fun j hj => fvQ_at h j hj) (sz_few h rfl hn) hK
  have h1 := part2_few h
  obtain ⟨u, u1, u2⟩ := few_fast ht (x := xQ (partN2 zs zs.length)) (n := zs.length) (by rw [zsOf_length, partN2_length]) hn (fun j hj => fvQ_at h1 j (by rw [partN2_length]; exact hj)) (sz_few h1 (partN2_length _ _) hn) K hK
  rw [dft_congr (fun j hj => part2_q hj)] at u2
  refine ⟨v, u, v1, u1, (v2.meet u2).mono ?_⟩
  have a := part2_sum zs
  have b := sumS_nonneg zs
  grind
theorem NearC.mono {gs bs : List C} {B D : Rat} (h : NearC gs bs B) (hB : B ≤ D) : NearC gs bs D := fun i hi => by
  obtain ⟨p, q, p', q', a, b, c, d, e, f⟩ := h i hi
  exact ⟨p, q, p', q', a, b, c, d, e.mono hB, f.mono hB⟩
/-- RealTransform is the pair of the first parts and zeros. -/
theorem rp_real {zs p ts : List C} {n : Nat} {zf : List Z} (h : FewC zs) (hl : zs.length = n) (hn : n ≤ 20) (hf : Fast (zsOf (partN1 zs n)) zf) (hp : p.length = n) (hpg : ∀ k, k < n → IsC (p.getD k (0, 0)) (firstZ zf n k)) (ht : Fast (zsOf (partN1 zs n)) (zsOf ts)) (hwt : WfC ts) (htl : ts.length = n) : NearC p ts (sumS zs / 68719476736) := by
  subst hl
  have h1 := part1_few h
  have e : partN1 (partN1 zs zs.length) zs.length = partN1 zs zs.length := by
    show (List.range zs.length).map (fun i => (((partN1 zs zs.length).getD i (0, 0)).1, 0)) = (List.range zs.length).map _
    refine List.map_congr_left fun i hi => ?_
    rw [partN1_getD (List.mem_range.1 hi)]
  have := rp_first (zs := partN1 zs zs.length) (n := zs.length) h1 (partN1_length _ _) hn hf hp hpg (by rw [e]; exact ht) hwt htl
  refine this.mono ?_
  have a := part1_sum zs
  grind

/-- Numbers at opposite places are conjugates. -/
theorem rp_conj {zs p q : List C} {n : Nat} {zf : List Z} (h : FewC zs) (hl : zs.length = n) (hn : n ≤ 20) (hf : Fast (zsOf zs) zf) (hpg : ∀ k, k < n → IsC (p.getD k (0, 0)) (firstZ zf n k)) (hqg : ∀ k, k < n → IsC (q.getD k (0, 0)) (secondZ zf n k)) {k : Nat} (hk : k < n) :
    eqC .f64 (p.getD k (0, 0)).1 (p.getD k (0, 0)).2 (p.getD ((n - k) % n) (0, 0)).1 (Op.negFloat .f64 (p.getD ((n - k) % n) (0, 0)).2) = true ∧ eqC .f64 (q.getD k (0, 0)).1 (q.getD k (0, 0)).2 (q.getD ((n - k) % n) (0, 0)).1 (Op.negFloat .f64 (q.getD ((n - k) % n) (0, 0)).2) = true := by
  subst hl
  have hn0 : 0 < zs.length := by omega
  have hk' : (zs.length - k) % zs.length < zs.length := Nat.mod_lt _ hn0
  have hkk : (zs.length - (zs.length - k) % zs.length) % zs.length = k := by
    by_cases h0 : k = 0
    · subst h0; rw [Nat.sub_zero, Nat.mod_self, Nat.sub_zero, Nat.mod_self]
    · rw [Nat.mod_eq_of_lt (show zs.length - k < zs.length by omega), show zs.length - (zs.length - k) = k by omega, Nat.mod_eq_of_lt hk]
  have P := fun {k : Nat} (hk : k < zs.length) => pair_near hf (x := xQ zs) (by rw [zsOf_length]) hn (fun j hj => fvQ_at h j hj) (sz_few h rfl hn) hk
  have F := fun {k : Nat} (hk : k < zs.length) => few_fast hf (x := xQ zs) (by rw [zsOf_length]) hn (fun j hj => fvQ_at h j hj) (sz_few h rfl hn) k hk
  obtain ⟨⟨v, v1, -⟩, ⟨u, u1, -⟩⟩ := P hk
  obtain ⟨⟨v', v1', -⟩, ⟨u', u1', -⟩⟩ := P hk'
  obtain ⟨a, a1, -⟩ := F hk
  obtain ⟨b, b1, -⟩ := F hk'
  have p1 := hasOf (hpg k hk) v1
  have p2 := hasOf (hpg _ hk') v1'
  have q1 := hasOf (hqg k hk) u1
  have q2 := hasOf (hqg _ hk') u1'
  rw [hkk] at v1' u1'
  have e1 : v'.1 = v.1 := by
    have := v1'.1
    rw [fop_add_comm] at this
    exact this.uniq v1.1
  have e2 : v'.2 = -v.2 := first_opp a1 b1 v1.2 v1'.2
  have e3 : u'.1 = u.1 := by
    have x := u1'.1
    have y := u1.1
    rw [fop_sub_neg a1.2.wfO, fop_add_comm] at x
    rw [fop_sub_neg b1.2.wfO] at y
    exact x.uniq y
  have e4 : u'.2 = -u.2 := by
    have x := fv_neg u1'.2
    have y := fv_neg u1.2
    rw [fneg_fneg] at x y
    have := second_opp a1 b1 y x
    grind
  have eqv : ∀ {a b a' b' : Nat} {r s r' s' : Rat}, Has a r → Has b s → Has a' r' → Has b' s' → r' = r → s' = -s → eqC .f64 a b a' (Op.negFloat .f64 b') = true := fun {a b a' b' r s r' s'} h1 h2 h3 h4 e e' => by
    subst e
    subst e'
    have h5 := has_neg h4
    rw [Rat.neg_neg] at h5
    unfold eqC
    rw [eq_has h1 h3, eq_has h2 h5]; rfl
  exact ⟨eqv p1.1 p1.2 p2.1 p2.2 e1 e2, eqv q1.1 q1.2 q2.1 q2.2 e3 e4⟩

end Go.Proofs.Ytphgibndncjaiaa
/-
  RealPair of the program.
-/
set_option linter.unusedVariables false
set_option linter.unusedSimpArgs false
namespace Go.Proofs.Ytphgibndncjaiaa
open Go.RowKit Flt Turn Fast
attribute [local go_sem] run_fadd run_fsub run_fmul run_fquo run_cadd run_csub

def pairCode (n m : Nat) : Int := if 256 < n ∨ 256 < m then 3 else if n = m then 0 else 2

theorem checkPairF_any (a a' : Option Addr) (n m cap cap' : Nat) (hn : (n : Int) ≤ 9223372036854775807) (hm : (m : Int) ≤ 9223372036854775807) (w : World) :
    Calls Try.prog 34 #[.slice a n cap, .slice a' m cap'] w fun e w' => e = .returned (.int .i64 (pairCode n m)) ∧ w' = w := by
  by_cases h1 : 256 < n
  · rw [show pairCode n m = 3 by unfold pairCode; rw [if_pos (.inl h1)]]
    go_enter Try.func34, Try.ntmps34
    go_wp2
    go_ret
    exact ⟨rfl, rfl⟩
  · by_cases h2 : 256 < m
    · rw [show pairCode n m = 3 by unfold pairCode; rw [if_pos (.inr h2)]]
      go_enter Try.func34, Try.ntmps34
      go_wp2
      go_ret
      exact ⟨rfl, rfl⟩
    · by_cases h3 : n = m
      · subst h3
        rw [show pairCode n n = 0 by unfold pairCode; rw [if_neg (by omega), if_pos rfl]]
        go_enter Try.func34, Try.ntmps34
        go_wp2
        go_ret
        exact ⟨rfl, rfl⟩
      · rw [show pairCode n m = 2 by unfold pairCode; rw [if_neg (by omega), if_neg h3]]
        have g3 : ((n : Int) == (m : Int)) = false := by simp; omega
        clear h3
        go_enter Try.func34, Try.ntmps34
        go_wp2
        go_ret
        exact ⟨rfl, rfl⟩

set_option maxRecDepth 100000 in
theorem pairClosure_any (xs ys : List Nat) (a0 a1 : Option Addr) (n c0 c1 k X0 Y0 : Nat) (w : World) (h0 : Reads w (.slice a0 n c0) (flts xs)) (h1 : Reads w (.slice a1 n c1) (flts ys)) (hk : k < n) (hX : w.cell? ⟨X0, 0, none⟩ = some (.slice a0 n c0)) (hY : w.cell? ⟨Y0, 0, none⟩ = some (.slice a1 n c1)) :
    Calls Try.prog 35 #[.int .i64 k, .pointer (some ⟨X0, 0, none⟩), .pointer (some ⟨Y0, 0, none⟩)] w fun e w' => e = .returned (.complex .f64 (xs.getD k 0) (ys.getD k 0)) ∧ ∃ nn, w' = w.drewN nn := by
  obtain ⟨g0, rfl, hg0, d0⟩ := readsAtF h0 _ _ _ rfl k hk
  obtain ⟨g1, rfl, hg1, d1⟩ := readsAtF h1 _ _ _ rfl k hk
  have hmx := maxLen_int (by have := readsLen h0; rw [flts_length] at this; exact this : xs.length ≤ maxLen)
  have hlx : xs.length = n := by
    generalize hcs : flts xs = cs at h0
    cases h0 with
    | none => omega
    | row g cap L cs hL => rw [← hcs, flts_length] at hL; exact hL
  rw [hlx] at hmx
  obtain ⟨x, hx⟩ : ∃ x, xs.getD k 0 = x := ⟨_, rfl⟩
  obtain ⟨y, hy⟩ : ∃ y, ys.getD k 0 = y := ⟨_, rfl⟩
  rw [hx] at d0 ⊢
  rw [hy] at d1 ⊢
  clear h0 h1 hg0 hg1 hx hy hlx
  go_enter Try.func35, Try.ntmps35
  go_wp2
  go_quiet (fail)
  go_wp2
  go_ret
  exact ⟨rfl, _, rfl⟩

theorem nil_two (w : World) (W : World) (h : Below w.heap.size w W) : Row W w.heap.size 26 (.slice none 0 0) (cvals []) ∧ Row W w.heap.size 26 (.slice none 0 0) (cvals []) ∧ (∀ b, (Value.slice none 0 0).ownBlock = some b → (Value.slice none 0 0).ownBlock ≠ some b) ∧ Below w.heap.size w W :=
  ⟨World.ownsRow_nil _ _ _ _, World.ownsRow_nil _ _ _ _, (fun b e => by cases e), h⟩

theorem made_c128 (n : Nat) (hn : n ≤ 1000000) (w : World) :
    (Instr.makeSlice 24 (.int .i64 (n : Int)) (.int .i64 (n : Int))).run Try.prog w = .ok (.slice (some ⟨w.heap.size, 0, none⟩) n n) (w.alloc (.cells (madeCells #[.complex .f64 0 0] n) 26)) ∧
      Row (w.alloc (.cells (madeCells #[.complex .f64 0 0] n) 26)) w.heap.size 26 (.slice (some ⟨w.heap.size, 0, none⟩) n n) (cvals (List.replicate n (0, 0))) := by
  obtain ⟨i0, hi, hz0, hz1, hz2⟩ := info_parts info_c128
  have e1 := run_make_row' (P := Try.prog) 24 26 (.complex .f64 0 0) 16 Try.underlying24 info_c128 rfl .i64 .i64 n (by omega) (by omega) w
  obtain ⟨w', hrun, r1, r2⟩ := run_make_full (P := Try.prog) w w.heap.size 24 26 i0 (.complex .f64 0 0) 1 Try.underlying24 hi hz0 hz1 .i64 .i64 n (by rw [hz2]; omega) (by simp only [maxLen]; omega) (Nat.le_refl _)
  rw [e1] at hrun
  cases hrun
  refine ⟨e1, ?_⟩
  rw [show (Value.complex .f64 0 0).cells = #[.complex .f64 0 0] from rfl, Nat.mul_one, toList_madeCells_one] at r1
  show World.ownsRow _ _ _ _ _ _ _
  simpa [cvals, cval] using r1

set_option maxRecDepth 100000 in
set_option maxHeartbeats 8000000 in
theorem pair_impl (xs ys : List Nat) (v0 v1 : Value) (w : World) (hx : ∀ z ∈ xs, z < 18446744073709551616) (hy : ∀ z ∈ ys, z < 18446744073709551616) (h0 : Reads w v0 (flts xs)) (h1 : Reads w v1 (flts ys)) :
    Calls Try.prog 15 #[v0, v1] w (PairR xs ys w) := by
  obtain ⟨i0, hi, hz0, hz1, hz2⟩ := info_parts info_c128
  have hm0 := maxLen_int (by have := readsLen h0; rwa [flts_length] at this : xs.length ≤ maxLen)
  have hm1 := maxLen_int (by have := readsLen h1; rwa [flts_length] at this : ys.length ≤ maxLen)
  obtain ⟨a0, c0, rfl⟩ := h0.form'
  obtain ⟨a1, c1, rfl⟩ := h1.form'
  simp only [flts_length] at *
  have HWF : ∀ j, Hid (WfC (bothN xs ys j)) := fun j => bothN_wf hx hy
  unfold PairR
  obtain ⟨n, hn⟩ : ∃ n, xs.length = n := ⟨_, rfl⟩
  obtain ⟨m, hm⟩ : ∃ m, ys.length = m := ⟨_, rfl⟩
  rw [hn] at h0 hm0 ⊢
  rw [hm] at h1 hm1 ⊢
  have CK := Lib.hid (checkPairF_any a0 a1 n m c0 c1 hm0 hm1)
  have hXW : ((w.alloc (.cells #[.slice a0 n c0] 37)).alloc (.cells #[.slice a1 m c1] 37)).cell? ⟨w.heap.size, 0, none⟩ = some (.slice a0 n c0) := by go_simp
  have hYW : ((w.alloc (.cells #[.slice a0 n c0] 37)).alloc (.cells #[.slice a1 m c1] 37)).cell? ⟨w.heap.size + 1, 0, none⟩ = some (.slice a1 m c1) := by go_simp
  obtain ⟨W, hW⟩ : ∃ W, (w.alloc (.cells #[.slice a0 n c0] 37)).alloc (.cells #[.slice a1 m c1] 37) = W := ⟨_, rfl⟩
  have hbW : Below w.heap.size w W := by rw [← hW]; exact ((Below.refl _ _).alloc (Nat.le_refl _) _).alloc (by simp) _
  rw [hW] at hXW hYW
  have hsW : W.heap.size = w.heap.size + 2 := by rw [← hW]; simp
  have H0 := Lib.hid (h0.below hbW)
  have H1 := Lib.hid (h1.below hbW)
  have HBW := Lib.hid hbW
  have HSW := Lib.hid hsW
  obtain ⟨pc, hpc⟩ : ∃ pc, pairCode n m = pc := ⟨_, rfl⟩
  rw [hpc] at CK
  have HPC := Lib.hid hpc
  clear h0 h1 hx hy hn hm hbW hsW hpc
  by_cases hok : pc = 0
  · subst hok
    have hnm : n = m ∧ n ≤ 256 := by
      have := HPC.out
      unfold pairCode at this
      split at this
      · cases this
      · split at this
        · omega
        · cases this
    obtain ⟨rfl, hn256⟩ := hnm
    have HNB : Hid (¬ (256 < n ∨ 256 < n)) := by show ¬ _; omega
    go_enter Try.func15, Try.ntmps15
    go_wp2_with fail
    refine (CK.out _).mono ?_
    rintro e w' ⟨rfl, rfl⟩
    clear hW
    have LO := listOf_c128 35 #[.pointer (some ⟨w.heap.size, 0, none⟩), .pointer (some ⟨w.heap.size + 1, 0, none⟩)] n (by omega) (fun i => (zsOf (bothN xs ys n)).getD i z0) (fun _ w1 => Below w'.heap.size w' w1) none w' (fun _ _ => rfl) (by simp)
      (fun w2 hg => (Below.refl _ _).grown hg (Nat.le_refl _) (by simp)) (fun i w1 w2 h1 hb hg => hb.grown hg (by omega) (fun k e => by cases e; exact Nat.le_refl _))
      (fun i w1 hi h1 hb => (pairClosure_any xs ys a0 a1 n c0 c1 i w.heap.size (w.heap.size + 1) w1 (H0.out.below hb) (H1.out.below hb) hi (by rw [hb.cell (by show w.heap.size < _; have := HSW.out; omega)]; exact hXW) (by rw [hb.cell (by show w.heap.size + 1 < _; have := HSW.out; omega)]; exact hYW)).mono
        (fun e w2 ⟨e1, nn, e2⟩ => ⟨(xs.getD i 0, ys.getD i 0), e1, by
          have hbi : (bothN xs ys n).getD i (0, 0) = (xs.getD i 0, ys.getD i 0) := by simp [bothN, List.getD, hi]
          have := isC_getD (HWF n).out (j := i) (by rw [bothN_length]; exact hi)
          rw [hbi] at this; exact this, by rw [e2]; exact below_draws hb nn, by rw [e2]; exact grown_drewN (World.grownBy.refl _ _) nn⟩))
    have HLO := Lib.hid LO
    clear LO
    go_wp2_with fail
    refine HLO.out.mono ?_
    rintro e w2 ⟨v, zb, rfl, hr, hl, hg, hI, -⟩
    have hzz : zsOf zb = zsOf (bothN xs ys n) := by
      apply List.ext_getElem (by rw [zsOf_length, zsOf_length, hl, bothN_length])
      intro i h1 h2
      have hi : i < n := by rw [zsOf_length, hl] at h1; exact h1
      have e1 := zsOf_getD (xs := zb) (j := i) (by omega)
      have e2 := hg i hi
      have e3 : zOf (zb.getD i (0, 0)) = (zsOf (bothN xs ys n)).getD i z0 := by unfold zOf; rw [e2.re.cn, e2.im.cn]
      rw [e3] at e1
      simpa [List.getD, h1, h2] using e1
    have hzw : WfC zb := fun p hp => by
      obtain ⟨i, hi, rfl⟩ := List.getElem_of_mem hp
      have := hg i (by omega)
      simp only [List.getD, hi, List.getElem?_eq_getElem, Option.getD_some] at this
      exact ⟨this.re.lt, this.im.lt⟩
    have hb2 : Below w.heap.size w w2 := HBW.out.trans (hI.mono HBW.out.size)
    have FI := Lib.hid (fast_impl zb v w'.heap.size w2 (by omega) hzw hr)
    have HZZ := Lib.hid hzz
    have HB2 := Lib.hid hb2
    have HZB := Lib.hid hl
    clear hr hl hg hI hzz hzw hb2 HLO
    go_wp2_with fail
    refine FI.out.mono ?_
    rintro e w3 ⟨v3, zl, rfl, hzr, hzw, hzf, hzb⟩
    rw [HZZ.out] at hzf
    have hzl : zl.length = n := by
      have := hzf.length
      rwa [zsOf_length, zsOf_length, bothN_length] at this
    have RZ := readsAt' hzr.reads
    obtain ⟨az, cz, rfl⟩ := hzr.reads.form'
    rw [cvals_length, hzl] at RZ ⊢
    replace RZ := Lib.hid (RZ _ _ _ rfl)
    have hsz3 : w.heap.size ≤ w3.heap.size := Nat.le_trans HB2.out.size hzb.size
    have HB3 := Lib.hid (HB2.out.trans (hzb.mono HB2.out.size))
    have HZW := Lib.hid hzw
    have HZF := Lib.hid hzf
    have HZL := Lib.hid hzl
    clear hzr hzw hzf hzb hzl FI HZZ HB2 HZB H0 H1 HBW HSW hXW hYW CK HWF
    have hmk := fun w => (made_c128 n (by omega) w).1
    have HMR := Lib.hid (fun w => (made_c128 n (by omega) w).2)
    obtain ⟨Z, hZ⟩ : ∃ Z, madeCells #[Value.complex .f64 0 0] n = Z := ⟨_, rfl⟩
    rw [hZ] at HMR
    simp only [hZ] at hmk
    clear hZ
    have HMM : Hid (∀ W0 : World, Row ((W0.alloc (.cells Z 26)).alloc (.cells Z 26)) W0.heap.size 26 (.slice (some ⟨W0.heap.size, 0, none⟩) n n) (cvals (List.replicate n (0, 0))) ∧ Row ((W0.alloc (.cells Z 26)).alloc (.cells Z 26)) W0.heap.size 26 (.slice (some ⟨W0.heap.size + 1, 0, none⟩) n n) (cvals (List.replicate n (0, 0))) ∧ Below W0.heap.size W0 ((W0.alloc (.cells Z 26)).alloc (.cells Z 26))) := fun W0 => by
      have r1 := (HMR.out W0).alloc (.cells Z 26)
      have r2 := HMR.out (W0.alloc (.cells Z 26))
      have e : (W0.alloc (.cells Z 26)).heap.size = W0.heap.size + 1 := by simp
      rw [e] at r2
      exact ⟨r1, r2.base (by omega), ((Below.refl _ _).alloc (Nat.le_refl _) _).alloc (by simp) _⟩
    clear HMR
    go_upto_region 6 with fail
    go_cut [10, 11] from 28 to 31 (fun v10 v11 wx => ∃ A B, v10 = .slice (some ⟨A, 0, none⟩) n n ∧ v11 = .slice (some ⟨B, 0, none⟩) n n ∧ A ≠ B ∧ Row wx w3.heap.size 26 v10 (cvals (List.replicate n (0, 0))) ∧ Row wx w3.heap.size 26 v11 (cvals (List.replicate n (0, 0))) ∧ Below w3.heap.size w3 wx)
    case first =>
      go_region
      all_goals
        go_wp2_with fail
        go_meet
        first
          | exact ⟨_, _, rfl, rfl, by omega, (HMM.out w3).1.drewN 1, (HMM.out w3).2.1.drewN 1, below_draws (HMM.out w3).2.2 1⟩
          | exact ⟨_, _, rfl, rfl, by omega, (HMM.out w3).2.1.drewN 1, (HMM.out w3).1.drewN 1, below_draws (HMM.out w3).2.2 1⟩
    case rest =>
      obtain ⟨A, B, rfl, rfl, hAB, hrA, hrB, hbc⟩ := hcut
      have HRA := Lib.hid hrA
      have HRB := Lib.hid hrB
      have HBC := Lib.hid hbc
      clear hrA hrB hbc HMM hmk
      go_wp2
      go_loopw [33] (fun i wr => ∃ (k : Nat) (f s : List C), i = .int .i64 k ∧ k ≤ n ∧ f.length = n ∧ s.length = n ∧ Row wr w3.heap.size 26 (.slice (some ⟨A, 0, none⟩) n n) (cvals f) ∧ Row wr w3.heap.size 26 (.slice (some ⟨B, 0, none⟩) n n) (cvals s) ∧ Below w3.heap.size w3 wr ∧ (∀ i, i < k → IsC (f.getD i (0, 0)) (firstZ (zsOf zl) n i) ∧ IsC (s.getD i (0, 0)) (secondZ (zsOf zl) n i))) (fun i _ => n - (intOf i).toNat)
      case atStart => exact ⟨0, _, _, rfl, Nat.zero_le _, List.length_replicate .., List.length_replicate .., HRA.out, HRB.out, HBC.out, fun i hi => by omega⟩
      case round =>
        clear HRA HRB HBC
        obtain ⟨k, f, s, rfl, hk, hf, hs, hrf, hrs, hbr, hgd⟩ := hrel
        have HF := Lib.hid hf
        have HSL := Lib.hid hs
        have HRF := Lib.hid hrf
        have HRS := Lib.hid hrs
        have HBR := Lib.hid hbr
        have HGD := Lib.hid hgd
        clear hf hs hrf hrs hbr hgd
        obtain ⟨wq, rfl⟩ : ∃ x, x = wr := ⟨_, rfl⟩
        by_cases hkj : k < n
        · obtain ⟨q, hq⟩ : ∃ q, (n - k) % n = q := ⟨_, rfl⟩
          have hqj : q < n := by rw [← hq]; exact Nat.mod_lt _ (by omega)
          have hq0 : ((n - k : Nat) : Int) = (n : Int) - (k : Int) := by omega
          have hq1 : ((n : Int) - (k : Int)).tmod (n : Int) = (q : Int) := by rw [← hq0, ← hq]; rfl
          have hq2 : ((n : Int) - (k : Int)) % (n : Int) = (q : Int) := by rw [← hq0, ← hq]; rfl
          obtain ⟨gz, rfl, hgz, hck⟩ := RZ.out k hkj
          obtain ⟨gz', e2, -, hcq⟩ := RZ.out q hqj
          simp only [Option.some.injEq, Addr.mk.injEq, true_and, and_true] at e2
          subst e2
          have ck : wq.cell? ⟨gz, k, none⟩ = some (.complex .f64 (zl.getD k (0, 0)).1 (zl.getD k (0, 0)).2) := by rw [HBR.out.cell hgz]; exact hck
          have cq : wq.cell? ⟨gz, q, none⟩ = some (.complex .f64 (zl.getD q (0, 0)).1 (zl.getD q (0, 0)).2) := by rw [HBR.out.cell hgz]; exact hcq
          have zk := isC_getD HZW.out (by rw [HZL.out]; exact hkj)
          have zq := isC_getD HZW.out (by rw [HZL.out]; exact hqj)
          obtain ⟨⟨a, b⟩, hab⟩ : ∃ u, zl.getD k (0, 0) = u := ⟨_, rfl⟩
          obtain ⟨⟨c, d⟩, hcd⟩ : ∃ u, zl.getD q (0, 0) = u := ⟨_, rfl⟩
          rw [hab] at ck zk
          rw [hcd] at cq zq
          have HZK := Lib.hid zk
          have HZQ : Hid (IsC (c, Op.negFloat .f64 d) (otherZ (zsOf zl) n k)) := by show IsC _ (conjZ ((zsOf zl).getD ((n - k) % n) z0)); rw [hq]; exact ⟨zq.re, zq.im.neg⟩
          clear hq hq0 hck hcq zk zq hab hcd
          go_wp2_with fail
          refine (conj_impl c d _).mono ?_
          rintro e w5 ⟨rfl, hb5⟩
          have d5 := (hb5.cell (p := ⟨gz, k, none⟩) (World.block_lt_of_cell? _ _ ck)).trans ck
          have HRF5 := Lib.hid (HRF.out.below hb5 (fun j e => (HRF.out.lt j e).2))
          have HRS5 := Lib.hid (HRS.out.below hb5 (fun j e => (HRS.out.lt j e).2))
          have HBR5 := Lib.hid (below_step HBR.out hb5 HBR.out.size)
          clear hb5 ck cq HRF HRS HBR
          go_upto_region 11 with fail
          go_cut [14, 15] from 45 to 56 (fun v14 v15 wx => ∃ p1 q1 p2 q2 nn, v14 = .complex .f64 p1 q1 ∧ v15 = .complex .f64 p2 q2 ∧ IsC (p1, q1) (addZ ((zsOf zl).getD k z0) (otherZ (zsOf zl) n k)) ∧ IsC (p2, q2) (subZ ((zsOf zl).getD k z0) (otherZ (zsOf zl) n k)) ∧ wx = w5.drewN nn)
          case first =>
            go_region
            all_goals
              go_wp2_with fail
              go_meet
              exact ⟨_, _, _, _, _, rfl, rfl, ⟨isF_fres HZK.out.re HZQ.out.re _, isF_fres HZK.out.im HZQ.out.im _⟩, ⟨isF_fres HZK.out.re HZQ.out.re _, isF_fres HZK.out.im HZQ.out.im _⟩, rfl⟩
          case rest =>
            obtain ⟨p1, q1, p2, q2, nn, rfl, rfl, hz1', hz2', rfl⟩ := hcut
            have HZ1 := Lib.hid hz1'
            have HZ2 := Lib.hid hz2'
            have HRF6 := Lib.hid (HRF5.out.drewN nn)
            have HRS6 := Lib.hid (HRS5.out.drewN nn)
            have HBR6 := Lib.hid (below_draws HBR5.out nn)
            clear hz1' hz2' HRF5 HRS5 HBR5 d5 HZK HZQ
            generalize w5.drewN nn = w6 at *
            have oA := HRF6.out.cellAt hkj
            have fA := HRF6.out.frozenAt k
            obtain ⟨uA, huA⟩ : ∃ u, (cvals f).getD k undef = u := ⟨_, rfl⟩
            rw [huA] at oA
            have HN1 : Hid (∀ mm x y, IsC (x, y) (firstZ (zsOf zl) n k) → ∃ f', f'.length = n ∧ Row ((w6.drewN mm).setCell ⟨A, k, none⟩ (.complex .f64 x y)) w3.heap.size 26 (.slice (some ⟨A, 0, none⟩) n n) (cvals f') ∧ Row ((w6.drewN mm).setCell ⟨A, k, none⟩ (.complex .f64 x y)) w3.heap.size 26 (.slice (some ⟨B, 0, none⟩) n n) (cvals s) ∧ Below w3.heap.size w3 ((w6.drewN mm).setCell ⟨A, k, none⟩ (.complex .f64 x y)) ∧ ∀ i, i < k + 1 → IsC (f'.getD i (0, 0)) (firstZ (zsOf zl) n i)) := fun mm x y hxy => by
              have hS := (HRF6.out.drewN mm).set k (.complex .f64 x y)
              refine ⟨f.set k (x, y), by rw [List.length_set, HF.out], ?_, ?_, (below_draws HBR6.out mm).setCell (p := ⟨A, k, none⟩) ((HRF6.out.lt _ rfl).1) _, fun i hi => ?_⟩
              · have : cvals (f.set k (x, y)) = (cvals f).set k (.complex .f64 x y) := by simp [cvals, cval, List.map_set]
                rw [this]; exact hS.1
              · exact (HRS6.out.drewN mm).kept hS.2 (.inr (by simp only [Value.ownBlock, ne_eq, Option.some.injEq]; omega))
              · by_cases he : k = i
                · subst he
                  rw [show (f.set k (x, y)).getD k (0, 0) = (x, y) by simp [List.getD, HF.out, hkj]]; exact hxy
                · rw [show (f.set k (x, y)).getD i (0, 0) = f.getD i (0, 0) by simp [List.getD, he]]; exact (HGD.out i (by omega)).1
            clear huA HRF6 HRS6 HBR6
            go_upto_region 12 with fail
            go_cut [] from 57 to 66 (fun wx => ∃ f', f'.length = n ∧ Row wx w3.heap.size 26 (.slice (some ⟨A, 0, none⟩) n n) (cvals f') ∧ Row wx w3.heap.size 26 (.slice (some ⟨B, 0, none⟩) n n) (cvals s) ∧ Below w3.heap.size w3 wx ∧ ∀ i, i < k + 1 → IsC (f'.getD i (0, 0)) (firstZ (zsOf zl) n i))
            case first =>
              go_wp2_with fail
              go_meet
              exact HN1.out _ _ _ ⟨isF_fres HZ1.out.re isF_half _, isF_fres HZ1.out.im isF_half _⟩
            case rest =>
              obtain ⟨f', hlf, hrf, hrs, hbr, hgf⟩ := hcut
              have oB := hrs.cellAt hkj
              have fB := hrs.frozenAt k
              obtain ⟨uB, huB⟩ : ∃ u, (cvals s).getD k undef = u := ⟨_, rfl⟩
              rw [huB] at oB
              have HN2 : Hid (∀ mm x y, IsC (x, y) (secondZ (zsOf zl) n k) → ∃ s', f'.length = n ∧ s'.length = n ∧ Row ((wc.drewN mm).setCell ⟨B, k, none⟩ (.complex .f64 x y)) w3.heap.size 26 (.slice (some ⟨A, 0, none⟩) n n) (cvals f') ∧ Row ((wc.drewN mm).setCell ⟨B, k, none⟩ (.complex .f64 x y)) w3.heap.size 26 (.slice (some ⟨B, 0, none⟩) n n) (cvals s') ∧ Below w3.heap.size w3 ((wc.drewN mm).setCell ⟨B, k, none⟩ (.complex .f64 x y)) ∧ ∀ i, i < k + 1 → IsC (f'.getD i (0, 0)) (firstZ (zsOf zl) n i) ∧ IsC (s'.getD i (0, 0)) (secondZ (zsOf zl) n i)) := fun mm x y hxy => by
                have hS := (hrs.drewN mm).set k (.complex .f64 x y)
                refine ⟨s.set k (x, y), hlf, by rw [List.length_set, HSL.out], ?_, ?_, (below_draws hbr mm).setCell (p := ⟨B, k, none⟩) ((hrs.lt _ rfl).1) _, fun i hi => ⟨hgf i hi, ?_⟩⟩
                · exact (hrf.drewN mm).kept hS.2 (.inr (by simp only [Value.ownBlock, ne_eq, Option.some.injEq]; omega))
                · have : cvals (s.set k (x, y)) = (cvals s).set k (.complex .f64 x y) := by simp [cvals, cval, List.map_set]
                  rw [this]; exact hS.1
                · by_cases he : k = i
                  · subst he
                    rw [show (s.set k (x, y)).getD k (0, 0) = (x, y) by simp [List.getD, HSL.out, hkj]]; exact hxy
                  · rw [show (s.set k (x, y)).getD i (0, 0) = s.getD i (0, 0) by simp [List.getD, he]]; exact (HGD.out i (by omega)).2
              clear hlf hrf hrs hbr hgf huB oA fA HN1
              go_wp2
              go_roundw
              case rel =>
                obtain ⟨s', e1, e2, e3, e4, e5, e6⟩ := HN2.out _ _ _ ⟨isF_fres HZ2.out.im isF_half _, (isF_fres HZ2.out.re isF_half _).neg⟩
                first
                  | exact ⟨k + 1, f', s', by go_num, by omega, e1, e2, e3, e4, e5, e6⟩
                  | ((repeat apply Exists.intro); refine ⟨?_, rfl⟩; exact ⟨k + 1, f', s', by go_num, by omega, e1, e2, e3, e4, e5, e6⟩)
              case measure => simp [intOf]; omega
        · have e : k = n := by omega
          subst e
          have HPG : Hid (PairG xs ys k f s) := ⟨zsOf zl, HZF.out, HF.out, HSL.out, HGD.out⟩
          have HBF := Lib.hid (HB3.out.trans (HBR.out.mono hsz3))
          have HDJ : Hid (∀ b, (Value.slice (some ⟨A, 0, none⟩) k k).ownBlock = some b → (Value.slice (some ⟨B, 0, none⟩) k k).ownBlock ≠ some b) := fun b e1 e2 => by
            simp only [Value.ownBlock, Option.some.injEq] at e1 e2
            omega
          go_wp2
          go_ret3
          exact ⟨_, _, f, s, 0, rfl, HRF.out.base hsz3, HRS.out.base hsz3, HDJ.out, HBF.out, .inr (.inr ⟨HNB.out, rfl, rfl, HPG.out⟩)⟩
  · have hne : (pc == 0) = false := by simpa using hok
    have NT := Lib.hid (nil_two w W HBW.out)
    have HF : Hid (PairR' xs ys n m w (.returned (.tuple #[.slice none 0 0, .slice none 0 0, .int .i64 pc])) W) := by
      refine ⟨_, _, [], [], pc, rfl, NT.out.1, NT.out.2.1, NT.out.2.2.1, NT.out.2.2.2, ?_⟩
      have := HPC.out
      unfold pairCode at this
      split at this
      · rename_i h; exact .inl ⟨h, this.symm, rfl, rfl⟩
      · rename_i h
        split at this
        · exact absurd this.symm hok
        · rename_i h2; exact .inr (.inl ⟨h, h2, this.symm, rfl, rfl⟩)
    clear hok NT
    go_enter Try.func15, Try.ntmps15
    go_wp2_with fail
    refine (CK.out _).mono ?_
    rintro e w' ⟨rfl, rfl⟩
    go_wp2
    go_ret3
    exact HF.out

end Go.Proofs.Ytphgibndncjaiaa
/-
  The walk of heldFloat64S.
-/
set_option linter.unusedVariables false
set_option linter.unusedSimpArgs false
namespace Go.Proofs.Ytphgibndncjaiaa
open Go.RowKit Flt

end Go.Proofs.Ytphgibndncjaiaa
/-
  The walk of the law on RealPair.
-/
set_option linter.unusedVariables false
set_option linter.unusedSimpArgs false
namespace Go.Proofs.Ytphgibndncjaiaa
open Go.RowKit Flt Turn Fast

/-- RealPair of both is one, up to NaNs. -/
theorem pair_same {xs ys : List Nat} {n m : Nat} {c c' : Int} {f s f' s' : List C}
    (h : ((256 < n ∨ 256 < m) ∧ c = 3 ∧ f = [] ∧ s = []) ∨ (¬ (256 < n ∨ 256 < m) ∧ n ≠ m ∧ c = 2 ∧ f = [] ∧ s = []) ∨ (¬ (256 < n ∨ 256 < m) ∧ n = m ∧ c = 0 ∧ PairG xs ys n f s))
    (h' : ((256 < n ∨ 256 < m) ∧ c' = 3 ∧ f' = [] ∧ s' = []) ∨ (¬ (256 < n ∨ 256 < m) ∧ n ≠ m ∧ c' = 2 ∧ f' = [] ∧ s' = []) ∨ (¬ (256 < n ∨ 256 < m) ∧ n = m ∧ c' = 0 ∧ PairG xs ys n f' s')) :
    c = c' ∧ (f.length = f'.length ∧ ∀ j, j < f.length → ∃ z, IsC (f.getD j (0, 0)) z ∧ IsC (f'.getD j (0, 0)) z) ∧ (s.length = s'.length ∧ ∀ j, j < s.length → ∃ z, IsC (s.getD j (0, 0)) z ∧ IsC (s'.getD j (0, 0)) z) ∧ f.length = s.length ∧ f.length ≤ 256 := by
  rcases h with ⟨hb, rfl, rfl, rfl⟩ | ⟨hb, hn, rfl, rfl, rfl⟩ | ⟨hb, hn, rfl, zf, hz, hf, hs, hg⟩
  · rcases h' with ⟨_, rfl, rfl, rfl⟩ | ⟨hb', _⟩ | ⟨hb', _⟩
    · exact ⟨rfl, ⟨rfl, fun j hj => by simp at hj⟩, ⟨rfl, fun j hj => by simp at hj⟩, rfl, by simp⟩
    · exact absurd hb hb'
    · exact absurd hb hb'
  · rcases h' with ⟨hb', _⟩ | ⟨_, _, rfl, rfl, rfl⟩ | ⟨_, hn', _⟩
    · exact absurd hb' hb
    · exact ⟨rfl, ⟨rfl, fun j hj => by simp at hj⟩, ⟨rfl, fun j hj => by simp at hj⟩, rfl, by simp⟩
    · exact absurd hn' hn
  · rcases h' with ⟨hb', _⟩ | ⟨_, hn', _⟩ | ⟨_, _, rfl, zf', hz', hf', hs', hg'⟩
    · exact absurd hb' hb
    · exact absurd hn hn'
    · have e := hz.unique hz'
      subst e
      exact ⟨rfl, ⟨by omega, fun j hj => ⟨_, (hg j (by omega)).1, (hg' j (by omega)).1⟩⟩, ⟨by omega, fun j hj => ⟨_, (hg j (by omega)).2, (hg' j (by omega)).2⟩⟩, by omega, by omega⟩

theorem ReadsF.facts {w : World} {a : Option Addr} {len cap : Nat} {zs : List Nat} (h : ReadsF w (.slice a len cap) zs) : zs.length = len ∧ (∀ z ∈ zs, z < 18446744073709551616) ∧ (len : Int) ≤ 9223372036854775807 := by
  generalize hv : (Value.slice a len cap) = v at h
  cases h with
  | none a cap => simp only [Value.slice.injEq] at hv; obtain ⟨-, rfl, -⟩ := hv; exact ⟨rfl, fun z hz => by simp at hz, by omega⟩
  | row x cap L zs hL h0 hc hm hz hh => simp only [Value.slice.injEq] at hv; obtain ⟨-, rfl, -⟩ := hv; exact ⟨hL, hz, maxLen_int (Nat.le_trans hc hm)⟩

/-- The four results, in blocks of their own. -/
structure Four (w : World) (B1 B2 : Nat) (v1 v2 u1 u2 : Value) (f0 s0 : List C) (c d : List Value) : Prop where
  r1 : Row w B1 26 v1 (cvals f0)
  r2 : Row w B1 26 v2 (cvals s0)
  r3 : Row w B2 26 u1 c
  r4 : Row w B2 26 u2 d
  low1 : ∀ b, v1.ownBlock = some b → b < B2
  low2 : ∀ b, v2.ownBlock = some b → b < B2
  apart : ∀ b, u1.ownBlock = some b → u2.ownBlock ≠ some b

section
variable {w w' : World} {B1 B2 : Nat} {v1 v2 u1 u2 : Value} {f0 s0 : List C} {c d : List Value}
theorem Four.below (h : Four w B1 B2 v1 v2 u1 u2 f0 s0 c d) (hb : Below w.heap.size w w') : Four w' B1 B2 v1 v2 u1 u2 f0 s0 c d :=
  ⟨h.r1.below hb (fun k e => (h.r1.lt k e).2), h.r2.below hb (fun k e => (h.r2.lt k e).2), h.r3.below hb (fun k e => (h.r3.lt k e).2), h.r4.below hb (fun k e => (h.r4.lt k e).2), h.low1, h.low2, h.apart⟩
theorem Four.draws (h : Four w B1 B2 v1 v2 u1 u2 f0 s0 c d) (n : Nat) : Four (w.drewN n) B1 B2 v1 v2 u1 u2 f0 s0 c d := ⟨h.r1.drewN n, h.r2.drewN n, h.r3.drewN n, h.r4.drewN n, h.low1, h.low2, h.apart⟩
theorem Four.float {B : Nat} {y : Value} {cs : List Value} (h : Four w B1 B2 v1 v2 u1 u2 f0 s0 c d) (hy : Row w B 28 y cs) (hg : w.grownBy w' y.ownBlock) : Four w' B1 B2 v1 v2 u1 u2 f0 s0 c d := by
  have ne : (26 : TypeId) ≠ 28 := by decide
  exact ⟨h.r1.kept hg (h.r1.apart hy ne), h.r2.kept hg (h.r2.apart hy ne), h.r3.kept hg (h.r3.apart hy ne), h.r4.kept hg (h.r4.apart hy ne), h.low1, h.low2, h.apart⟩
theorem far_low {v u : Value} {B1 B2 : Nat} {cs cs' : List Value} {e e' : TypeId} (hv : ∀ b, v.ownBlock = some b → b < B2) (hu : Row w B2 e u cs) : v.ownBlock = none ∨ v.ownBlock ≠ u.ownBlock := by
  cases h : v.ownBlock with
  | none => exact .inl rfl
  | some b =>
    refine .inr fun e => ?_
    have := hv b h
    have := (hu.lt b e.symm).1
    omega
theorem Four.mark1 {c' : List Value} (h : Four w B1 B2 v1 v2 u1 u2 f0 s0 c d) (hg : w.grownBy w' u1.ownBlock) (hr : Row w' B2 26 u1 c') : Four w' B1 B2 v1 v2 u1 u2 f0 s0 c' d := by
  refine ⟨h.r1.kept hg (far_low (B1 := 0) (cs' := []) (e' := 0) h.low1 h.r3), h.r2.kept hg (far_low (B1 := 0) (cs' := []) (e' := 0) h.low2 h.r3), hr, h.r4.kept hg ?_, h.low1, h.low2, h.apart⟩
  cases h2 : u2.ownBlock with
  | none => exact .inl rfl
  | some b => exact .inr fun e => h.apart b e.symm h2
theorem Four.mark2 {d' : List Value} (h : Four w B1 B2 v1 v2 u1 u2 f0 s0 c d) (hg : w.grownBy w' u2.ownBlock) (hr : Row w' B2 26 u2 d') : Four w' B1 B2 v1 v2 u1 u2 f0 s0 c d' := by
  refine ⟨h.r1.kept hg (far_low (B1 := 0) (cs' := []) (e' := 0) h.low1 h.r4), h.r2.kept hg (far_low (B1 := 0) (cs' := []) (e' := 0) h.low2 h.r4), h.r3.kept hg ?_, hr, h.low1, h.low2, h.apart⟩
  cases h2 : u1.ownBlock with
  | none => exact .inl rfl
  | some b => exact .inr fun e => h.apart b h2 e.symm
end

end Go.Proofs.Ytphgibndncjaiaa
/-
  The walk of the law on RealTransform.
-/
set_option linter.unusedVariables false
set_option linter.unusedSimpArgs false
namespace Go.Proofs.Ytphgibndncjaiaa
open Go.RowKit Flt Turn Fast

def zeros (n : Nat) : List Nat := List.replicate n 0
theorem flts_zeros (n : Nat) : flts (zeros n) = List.replicate n (.float .f64 0) := by simp [flts, zeros]
theorem zeros_wf (n : Nat) : ∀ z ∈ zeros n, z < 18446744073709551616 := fun z hz => by rw [List.eq_of_mem_replicate hz]; omega

/-- The ways in which RealPair ends for a signal and zeros. -/
def Ways (xs : List Nat) (n : Nat) (c : Int) (f s : List C) : Prop :=
  ((256 < n ∨ 256 < n) ∧ c = 3 ∧ f = [] ∧ s = []) ∨ (¬ (256 < n ∨ 256 < n) ∧ n ≠ n ∧ c = 2 ∧ f = [] ∧ s = []) ∨ (¬ (256 < n ∨ 256 < n) ∧ n = n ∧ c = 0 ∧ PairG xs (zeros n) n f s)

/-- What RealTransform returns. -/
def RealTR (xs : List Nat) (n : Nat) (w : World) (e : Ending) (w' : World) : Prop :=
  ∃ u f s c, e = .returned (.tuple #[u, .int .i64 c]) ∧ Row w' w.heap.size 26 u (cvals f) ∧ Below w.heap.size w w' ∧
    Ways xs n c f s

set_option maxRecDepth 100000 in
set_option maxHeartbeats 4000000 in
theorem realT_impl (xs : List Nat) (v : Value) (w : World) (hx : ∀ z ∈ xs, z < 18446744073709551616) (hl : xs.length ≤ 1048576) (h : Reads w v (flts xs)) :
    Calls Try.prog 16 #[v] w (RealTR xs xs.length w) := by
  obtain ⟨i0, hi, hz0, hz1, hz2⟩ := info_parts info_f64
  obtain ⟨a, cap, rfl⟩ := h.form'
  simp only [flts_length] at *
  have P := Lib.hid (fun (v1 : Value) (W : World) (hb : Below w.heap.size w W) (h1 : Reads W v1 (flts (zeros xs.length))) => pair_impl xs (zeros xs.length) (.slice a xs.length cap) v1 W hx (zeros_wf _) (h.below hb) h1)
  have HZL : Hid ((zeros xs.length).length = xs.length) := List.length_replicate ..
  clear h hx
  obtain ⟨n, hn⟩ : ∃ n, xs.length = n := ⟨_, rfl⟩
  rw [hn] at P HZL hl ⊢
  have HN := Lib.hid hn
  clear hn
  go_enter Try.func16, Try.ntmps16
  go_wp2_with (at_make; refine wpList_make_full _ rfl _ _ 37 rfl w.heap.size 28 i0 (.float .f64 0) 1 Try.underlying37 hi hz0 hz1 .i64 .i64 _ _ n rfl rfl rfl rfl (by rw [hz2]; omega) (by simp only [maxLen]; omega) (Nat.le_refl _) ?_)
  intro w1 hown hg1
  rw [toList_madeCells_one] at hown
  have hr : Row w1 w.heap.size 28 (.slice (some ⟨w.heap.size, 0, none⟩) n n) (flts (zeros n)) := by
    rw [flts_zeros]
    show w1.ownsRow _ _ _ _ _ _
    simpa using hown
  have hb1 : Below w.heap.size w w1 := (Below.refl _ _).grown hg1 (Nat.le_refl _) (fun b e => by cases e)
  have PP := Lib.hid (P.out _ w1 hb1 hr.reads)
  have HB1 := Lib.hid hb1
  clear hr hb1 hown hg1 hi hz0 hz1 hz2 P
  go_wp2_with fail
  refine PP.out.mono ?_
  rintro e w2 ⟨u1, u2, f, s, c, rfl, h1, -, -, hb, hD⟩
  rw [HZL.out, HN.out] at hD
  have hD : Ways xs n c f s := hD
  have HR := Lib.hid (h1.base HB1.out.size)
  have HBB := Lib.hid (HB1.out.trans (hb.mono HB1.out.size))
  have HD := Lib.hid hD
  clear h1 hb hD PP
  go_wp2
  go_ret2
  exact ⟨u1, f, s, c, rfl, HR.out, HBB.out, HD.out⟩

end Go.Proofs.Ytphgibndncjaiaa
