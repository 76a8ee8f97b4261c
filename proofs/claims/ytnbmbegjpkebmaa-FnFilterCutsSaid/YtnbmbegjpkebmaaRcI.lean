import Derived.Test.YtnbmbegjpkebmaaRcP
/-
  RecurSignal of the program.
-/
set_option linter.unusedVariables false
set_option linter.unusedSimpArgs false
namespace Go.Proofs.Ytnbmbegjpkebmaa
open Go.RowKit Go.Shelf Flt Fast
attribute [local go_sem] Oper.semAt_some wide_fn wide_depth wide_fnR wide_depthR run_fadd run_fsub run_fmul run_fquo run_cadd run_csub
attribute [local go_sem ↓] run_max_word

set_option maxRecDepth 100000 in
set_option maxHeartbeats 4000000 in
/-- No terms of an empty signal, also from the place -1 on. -/
theorem cvTerms_tells0 (n Bf Bc n₁ B : Nat) (a : List Z) (v2 : Value) (b : List C) (a1 : Option Addr) (c1 : Nat) (hb : b.length ≤ 1000000)
    (w : World) (hBc : Bc < n₁) (hBf : Bf < n₁) (hn₁ : n₁ ≤ w.heap.size) (n₀ : Nat) (hrb : RdO n₀ w v2 b)
    (hcf : w.cell? ⟨Bf, 0, none⟩ = some (.int .i64 (-1))) (hc0 : w.cell? ⟨Bc, 0, none⟩ = some (.slice a1 0 c1)) (hc1 : w.cell? ⟨Bc, 1, none⟩ = some v2) :
    Tells Fence.wide n Try.prog 47 #[.pointer (some ⟨Bf, 0, none⟩), .pointer (some ⟨Bc, 0, none⟩)] (cvTold [] a 0) (KeptBut n₁ B) w := by
  intro l J Jx W hW hJ hJx hS hY h0
  obtain ⟨a2, c2, rfl, -, -, -⟩ := hrb.find
  have hk : Below n₁ w W := hW.mono hn₁
  have d0 : W.cell? ⟨Bf, 0, none⟩ = some (.int .i64 (-1)) := by rw [hk.cell (p := ⟨Bf, 0, none⟩) hBf]; exact hcf
  have d1 : W.cell? ⟨Bc, 0, none⟩ = some (.slice a1 0 c1) := by rw [hk.cell (p := ⟨Bc, 0, none⟩) hBc]; exact hc0
  have d2 : W.cell? ⟨Bc, 1, none⟩ = some (.slice a2 b.length c2) := by rw [hk.cell (p := ⟨Bc, 1, none⟩) hBc]; exact hc1
  have hBW : Bc < W.heap.size := Nat.lt_of_lt_of_le hBc (Nat.le_trans hn₁ hW.size)
  have HLen := Lib.hid (fun w => cvLength_any a1 a2 0 c1 b.length c2 (by omega) hb w)
  have H0 : Hid (∀ W', Below W.heap.size W W' → J (cvTold [] a 0).last W') := fun W' hb => by
    have : (cvTold [] a 0).last = (0, 0) := by simp [cvTold, cvLen]
    rw [this]; exact hJ _ _ _ none h0 (grown_of_below hb) (fun r e => by cases e)
  have hmx : maxI 0 (-1 - 0 + 1) = 0 := by decide
  clear h0 hJ hJx hS hY hW hk hcf hc0 hc1 hrb
  refine callsIn_of_wp Try.func47 rfl trivial ?_ rfl
  simp only [Try.ntmps47, List.size_toArray, List.length_cons, List.length_nil, Nat.reduceAdd, Nat.reduceSub, Array.replicate_succ, Array.replicate_zero, List.push_toArray, List.append_toArray, List.nil_append, List.cons_append]
  gi_wp2
  refine wpIn_loop_rounds 2 ?_
  rw [roundsIn_succ]
  gi_wp2_with (gi_at_call 36; refine (callsIn_wide.2 (HLen.out _)).mono ?_; rw [cvLen_nil]; rintro e w1 ⟨rfl, hb1⟩; have e0 : w1.cell? ⟨Bc, 0, none⟩ = some (.slice a1 0 c1) := (by rw [hb1.cell hBW]; exact d1); have e1 : w1.cell? ⟨Bc, 1, none⟩ = some (.slice a2 b.length c2) := (by rw [hb1.cell hBW]; exact d2); have HB1 := Lib.hid hb1; clear hb1)
  refine wpIn_loop_rounds 1 ?_
  rw [roundsIn_succ]
  gi_wp2
  rw [roundsIn_succ]
  gi_wp2_with (gi_at_call 36; refine (callsIn_wide.2 (HLen.out _)).mono ?_; rw [cvLen_nil]; rintro e w2 ⟨rfl, hb2⟩; have HB2 := Lib.hid hb2; clear hb2)
  go_end0
  exact ⟨⟨_, rfl⟩, .inl (H0.out _ (below_step HB1.out HB2.out HB1.out.size))⟩

/-- Four blocks that are laid one after the other. -/
theorem laid4 (w : World) (a b c d : Obj) {N : Nat} (hN : w.heap.size = N) {W : World} (hW : (((w.alloc a).alloc b).alloc c).alloc d = W) :
    W.heap.size = N + 4 ∧ W.heap[N]? = some a ∧ W.heap[N + 1]? = some b ∧ W.heap[N + 2]? = some c ∧ W.heap[N + 3]? = some d ∧ Below w.heap.size w W := by
  subst hN; subst hW
  have up : ∀ (W : World) (o : Obj) (k : Nat) (x : Obj), W.heap[k]? = some x → (W.alloc o).heap[k]? = some x := fun W o k x h => (Below.heap_alloc W o k (Array.getElem?_eq_some_iff.1 h).1).trans h
  have n0 := World.alloc_heap_new w a
  have n1 := World.alloc_heap_new (w.alloc a) b
  have n2 := World.alloc_heap_new ((w.alloc a).alloc b) c
  have n3 := World.alloc_heap_new (((w.alloc a).alloc b).alloc c) d
  simp only [World.size_alloc] at n1 n2 n3
  refine ⟨by simp, up _ _ _ _ (up _ _ _ _ (up _ _ _ _ n0)), up _ _ _ _ (up _ _ _ _ n1), up _ _ _ _ n2, n3, (((((Below.refl _ w).alloc (Nat.le_refl _) _).alloc (by simp) _).alloc (by simp; omega) _).alloc (by simp; omega) _)⟩

theorem Row.keptBut {n B e b : Nat} {w w' : World} {v : Value} {cs : List Value} (h : Row w b e v cs) (hk : KeptBut n B w w') (hv : ∀ k, v.ownBlock = some k → k < n ∧ k ≠ B) : Row w' b e v cs := by
  refine ⟨h.1, ?_⟩
  rcases h.2 with hn | ⟨g, cap, cur, rfl, hbb, hgg, rest⟩
  · exact .inl hn
  · refine .inr ⟨g, cap, cur, rfl, hbb, ?_, rest⟩
    obtain ⟨h1, h2⟩ := hv g (by simp [Value.ownBlock])
    rw [hk.block g h1 h2]
    exact hgg

/-- What the loop over the terms keeps: the sum so far. -/
def RcHas (S m : Nat) (xn : Z) (made az : List Z) (W0 : World) (s : Nat × Nat) (W : World) : Prop :=
  ∃ p q, Boxed W (S + 1) 32 (.complex .f64 p q) ∧ ((s.1 = m - 1 ∧ s.2 ≤ min m az.length ∧ IsC (p, q) (rcSum xn made az m s.2)) ∨ (s.1 = m ∧ s.2 = 0 ∧ 0 < m ∧ IsC (p, q) (rcSum xn made az m (min m az.length)))) ∧ KeptBut (S + 4) (S + 1) W0 W ∧ S + 4 ≤ W.heap.size
def RcStop (S m : Nat) (xn : Z) (made az : List Z) (W0 : World) (c : Code) (s : Nat × Nat) (W : World) : Prop :=
  c = .exit 2 ∧ RcHas S m xn made az W0 (m, 0) W ∧ 0 < m
theorem RcHas.kept {S m : Nat} {xn : Z} {made az : List Z} {W0 A A' : World} {s : Nat × Nat} {row : Option Nat} (h : RcHas S m xn made az W0 s A) (hg : A.grownBy A' row) (hr : ∀ r, row = some r → S + 4 ≤ r) : RcHas S m xn made az W0 s A' := by
  obtain ⟨p, q, h1, h2, h3, h4⟩ := h
  exact ⟨p, q, h1.kept hg (fun e => by have := hr _ e.symm; omega), h2, h3.grown hg hr h4, Nat.le_trans h4 hg.size⟩
/-- At the end the sum is whole. -/
theorem RcHas.whole {S m : Nat} {xn : Z} {made az : List Z} {W0 W : World} (h : RcHas S m xn made az W0 (max (m - 1) (cvLen made.length az.length), 0) W) (hm : made.length = m) :
    ∃ p q, Boxed W (S + 1) 32 (.complex .f64 p q) ∧ IsC (p, q) (rcSum xn made az m (min m az.length)) ∧ KeptBut (S + 4) (S + 1) W0 W ∧ S + 4 ≤ W.heap.size := by
  obtain ⟨p, q, h1, h2, h3, h4⟩ := h
  refine ⟨p, q, h1, ?_, h3, h4⟩
  rcases h2 with ⟨e1, e2, e3⟩ | ⟨e1, e2, e3, e4⟩
  · simp only at e1 e2 e3
    have : min m az.length = 0 := by
      by_cases h0 : m = 0
      · omega
      · by_cases h1 : az.length = 0
        · omega
        · have := cvLen_pos (a := made.length) (b := az.length) (by omega) h1
          omega
    rw [this]; exact e3
  · exact e4
theorem RcHas.stopped {S m : Nat} {xn : Z} {made az : List Z} {W0 W : World} (h : RcHas S m xn made az W0 (m, 0) W) (hm : 0 < m) :
    ∃ p q, Boxed W (S + 1) 32 (.complex .f64 p q) ∧ IsC (p, q) (rcSum xn made az m (min m az.length)) ∧ KeptBut (S + 4) (S + 1) W0 W ∧ S + 4 ≤ W.heap.size := by
  obtain ⟨p, q, h1, h2, h3, h4⟩ := h
  refine ⟨p, q, h1, ?_, h3, h4⟩
  rcases h2 with ⟨e1, e2, e3⟩ | ⟨e1, e2, e3, e4⟩
  · simp only at e1; omega
  · exact e4

theorem gathered_below' {S : Nat} {n B : Nat} {w wr W0 W : World} (h : Below w.heap.size w wr) (hS : w.heap.size ≤ S) (h0 : Below S wr W0) (hk : KeptBut (S + n) (S + B) W0 W) : Below w.heap.size w W :=
  ⟨hk.os.trans (h0.os.trans h.os), hk.tape.trans (h0.tape.trans h.tape), hk.output.trans (h0.output.trans h.output), Nat.le_trans h.size (Nat.le_trans h0.size hk.size), fun k hlt => by
    rw [hk.block k (by omega) (by omega), h0.block k (by omega)]; exact h.block k hlt⟩

theorem Row.written {w : World} {B e n : Nat} {v : Value} {cs : List Value} (h : Row w B e v cs) (hn : cs.length = n) : ∃ a cap, v = .slice a n cap := by
  rcases h.shape with ⟨a, cap, e, e'⟩ | ⟨g, cap, e, _⟩
  · refine ⟨a, cap, ?_⟩
    rw [e, ← hn, e']; rfl
  · exact ⟨_, cap, by rw [e, hn]⟩

set_option maxRecDepth 100000 in
set_option maxHeartbeats 2000000 in
theorem recur_impl (x a : List C) (v1 v2 : Value) (hx : x.length ≤ 256) (ha : a.length ≤ 256) (hwx : WfC x) (hwa : WfC a) (w : World) (hrx : RdO w.heap.size w v1 x) (hra : RdO w.heap.size w v2 a) :
    Calls Try.prog 8 #[v1, v2] w fun e w' =>
      ∃ v ps, e = .returned (.tuple #[v, .int .i64 0]) ∧ Row w' w.heap.size 32 v (cvals ps) ∧ IsCs ps (rcAll (zsOf x) (zsOf a) x.length) ∧ Below w.heap.size w w' := by
  obtain ⟨i0, hi, hz0, hz1, hz2⟩ := info_parts info_c128
  refine (callsIn_wide (n := 5)).1 ?_
  refine callsIn_of_wp_marks Try.func8 rfl trivial ?_ rfl
  simp only [Try.ntmps8, List.size_toArray, List.length_cons, List.length_nil, Nat.reduceAdd, Nat.reduceSub, Array.replicate_succ, Array.replicate_zero, List.push_toArray, List.append_toArray, List.nil_append, List.cons_append]
  have HRX := Lib.hid hrx
  have HRA := Lib.hid hra
  obtain ⟨a1, c1, e1, -, -, -⟩ := hrx.find
  obtain ⟨a2, c2, e2, -, -, -⟩ := hra.find
  subst e1
  subst e2
  clear hrx hra
  have g1 : decide ((256 : Int) < (x.length : Int)) = false := decide_eq_false (by omega)
  have g2 : decide ((256 : Int) < (a.length : Int)) = false := decide_eq_false (by omega)
  obtain ⟨L, hL⟩ : ∃ L, x.length = L := ⟨_, rfl⟩
  obtain ⟨M, hM⟩ : ∃ M, a.length = M := ⟨_, rfl⟩
  rw [hL] at hx g1 HRX ⊢
  rw [hM] at ha g2 HRA ⊢
  have HXL := Lib.hid hL
  have HAL := Lib.hid hM
  clear hL hM
  gi_wp2
  refine wpIn_loop (fun b wr => ∃ (m : Nat) (v : Value) (ps : List C) (ds : List Deferred) (u7 u8 u9 u10 u22 u23 u24 u25 u26 u27 u28 u29 u30 u31 u32 u33 u34 u35 u36 u37 u38 u39 u40 u41 u42 u43 u44 : Value), m ≤ L ∧ Row wr w.heap.size 32 v (cvals ps) ∧ IsCs ps (rcAll (zsOf x) (zsOf a) m) ∧ Marks w.heap.size wr ds ∧ Below w.heap.size w wr ∧ b = { tmps := #[.slice a1 L c1, .slice a2 M c2, undef, undef, .slice none 0 0, .int .i64 0, v, u7, u8, u9, u10, .slice a1 L c1, .int .i64 L, .bool false, .bool false, .slice a2 M c2, .int .i64 M, .bool false, .bool false, .slice a1 L c1, .int .i64 L, .int .i64 (m : Int), u22, u23, u24, u25, u26, u27, u28, u29, u30, u31, u32, u33, u34, u35, u36, u37, u38, u39, u40, u41, u42, u43, u44, undef], defers := ds })
    (fun b _ => L - (intOf (b.tmps.getD 21 undef)).toNat) ?start ?round
  case start => exact ⟨0, _, [], [], _, _, _, _, _, _, _, _, _, _, _, _, _, _, _, _, _, _, _, _, _, _, _, _, _, _, _, Nat.zero_le _, World.ownsRow_nil _ _ _ _, IsCs.nil, Marks.nil _ _, Below.refl _ _, rfl⟩
  case round =>
    rintro b wr ⟨m, v, ps, ds, u7, u8, u9, u10, u22, u23, u24, u25, u26, u27, u28, u29, u30, u31, u32, u33, u34, u35, u36, u37, u38, u39, u40, u41, u42, u43, u44, hmL, hrow, hps, hmk, hB, rfl⟩
    obtain ⟨N, hN⟩ : ∃ N, w.heap.size = N := ⟨_, rfl⟩
    obtain ⟨va, vc, rfl⟩ := hrow.written (n := m) (by rw [cvals_length, hps.1, rcAll_length])
    by_cases hlt : m < L
    · obtain ⟨S, hS⟩ : ∃ S, wr.heap.size = S := ⟨_, rfl⟩
      have hNS : N ≤ S := by rw [← hN, ← hS]; exact hB.size
      obtain ⟨gx, ox, rfl, hgx, hcx, hcm, k1⟩ := (HRX.out.below hB).at hlt
      obtain ⟨⟨p0, q0⟩, hpq⟩ : ∃ z, x.getD m (0, 0) = z := ⟨_, rfl⟩
      rw [hpq] at k1
      have hlt1 : decide (m < L) = true := decide_eq_true hlt
      have hmx := maxLen_int (Nat.le_trans hcx hcm)
      have HROW := Lib.hid hrow
      have HPS := Lib.hid hps
      have HMK := Lib.hid hmk
      have HB := Lib.hid hB
      have HPQ := Lib.hid hpq
      have HN := Lib.hid hN
      have HS := Lib.hid hS
      clear hrow hps hmk hB hpq hN hS
      gi_wp2_with (gi_at_call 27; refine (callsIn_wide.2 (terms_any _ _ _ _)).mono ?_; rintro e w1 ⟨rfl, rfl⟩)
      obtain ⟨W0, hW0⟩ : ∃ W0, ((((wr.alloc (Obj.cells #[Value.int IntKind.i64 ↑m] 3)).alloc (Obj.cells #[Value.complex FloatKind.f64 p0 q0] 32)).alloc (Obj.cells #[Value.slice va m vc, Value.slice a2 M c2] 53)).alloc (Obj.cells #[Value.int IntKind.i64 (↑m - 1)] 3)) = W0 := ⟨_, rfl⟩
      rw [hW0]
      obtain ⟨hsz, k0', k1', k2', k3', hB0⟩ := laid4 wr _ _ _ _ HS.out hW0
      rw [HS.out]
      have b0 : W0.cell? ⟨S, 0, none⟩ = some (.int .i64 m) := cell_of_heap k0' rfl
      have b1 : Boxed W0 (S + 1) 32 (.complex .f64 p0 q0) := k1'
      have b2 : W0.cell? ⟨S + 2, 0, none⟩ = some (.slice va m vc) := cell_of_heap k2' rfl
      have b3 : W0.cell? ⟨S + 2, 1, none⟩ = some (.slice a2 M c2) := cell_of_heap k2' rfl
      have b4 : W0.cell? ⟨S + 3, 0, none⟩ = some (.int .i64 ((m : Int) - 1)) := cell_of_heap k3' rfl
      have hpl : ps.length = m := by rw [HPS.out.1, rcAll_length]
      have hvS : ∀ k, (Value.slice va m vc).ownBlock = some k → k < S := fun k hk => by have := (HROW.out.lt k hk).2; rw [HS.out] at this; exact this
      have hB1 : Below S wr W0 := by rw [← HS.out]; exact hB0
      have hrd : RdO S W0 (.slice va m vc) ps := (RdO.of_row HROW.out hvS).below hB1
      have hra2 : RdO S W0 (.slice a2 M c2) a := ((HRA.out.below HB.out).base (by rw [HN.out]; exact hNS)).below hB1
      have hT : Tells Fence.wide (5 - 1) Try.prog 47 #[.pointer (some ⟨S + 3, 0, none⟩), .pointer (some ⟨S + 2, 0, none⟩)] (cvTold (zsOf ps) (zsOf a) (m - 1)) (KeptBut (S + 4) (S + 1)) W0 := by
        by_cases h0 : m = 0
        · subst h0
          have : zsOf ps = [] := by rw [List.length_eq_zero_iff.1 hpl]; rfl
          rw [this]
          exact cvTerms_tells0 _ _ _ _ _ _ _ a _ _ (by rw [HAL.out]; omega) W0 (by omega) (by omega) (by omega) S hra2 b4 b2 b3
        · refine cvTerms_tells _ _ _ S _ _ ps a (m - 1) _ _ (by omega) (by rw [HAL.out]; omega) (by omega) HPS.out.wf hwa W0 (by omega) (by omega) (by omega) (by omega) (by omega) (by omega) hrd hra2 ?_ b2 b3
          rw [b4, show ((m : Int) - 1) = ((m - 1 : Nat) : Int) by omega]
      have hzx : IsC (p0, q0) ((zsOf x).getD m z0) := by rw [← HPQ.out]; exact isC_getD hwx (by rw [HXL.out]; exact hlt)
      have HI0 : Hid (RcHas S m ((zsOf x).getD m z0) (zsOf ps) (zsOf a) W0 (m - 1, 0) W0) := ⟨p0, q0, b1, .inl ⟨rfl, Nat.zero_le _, hzx⟩, KeptBut.refl _ _ _, by omega⟩
      have hz1 : (zsOf ps).length = m := by rw [zsOf_length]; exact hpl
      have hz2 : (zsOf a).length = M := by rw [zsOf_length]; exact HAL.out
      have HEQ : Hid (zsOf ps = rcAll (zsOf x) (zsOf a) m) := HPS.out.zs
      obtain ⟨made, hmade⟩ : ∃ l, zsOf ps = l := ⟨_, rfl⟩
      obtain ⟨az, haz⟩ : ∃ l, zsOf a = l := ⟨_, rfl⟩
      obtain ⟨xn, hxn⟩ : ∃ l, (zsOf x).getD m z0 = l := ⟨_, rfl⟩
      rw [hmade, haz] at hT
      rw [hxn, hmade, haz] at HI0
      rw [hmade] at hz1 HEQ
      rw [haz] at hz2
      have HHAZ := Lib.hid haz
      have HHXN := Lib.hid hxn
      have HSZ := Lib.hid hsz
      have HB01 := Lib.hid hB1
      have HZ1 := Lib.hid hz1
      have HZ2 := Lib.hid hz2
      have HVS := Lib.hid hvS
      clear hzx hmade haz hxn b1 b2 b3 b4 k0' k1' k2' k3' hB0 hB1 hrd hra2 hW0 hz1 hz2 hpl hvS
      refine wpIn_range_told (T := cvTold made az (m - 1)) rfl (by omega) rfl trivial (enters_of Try.func47 (by kernel_rfl) rfl)
        hT (Below.refl _ _) (fun h k => h.trans k) (fun W l o o' hl _ _ _ => KeptBut.putObj W l o' (by omega)) (fun _ => rfl)
        (RcHas S m xn made az W0) (RcStop S m xn made az W0)
        (fun s A A' row hs hg hr => hs.kept hg (fun r e => by have := (hr r e).1; omega))
        (fun c s A A' row hs hg hr => ⟨hs.1, hs.2.1.kept hg (fun r e => by have := (hr r e).1; omega), hs.2.2⟩)
        ?silent HI0.out
        (fun y => { tmps := #[.slice (some ⟨gx, ox, none⟩) L c1, .slice a2 M c2, undef, undef, .slice none 0 0, .int .i64 0, .slice va m vc, .pointer (some ⟨S, 0, none⟩), .pointer (some ⟨S + 1, 0, none⟩), .int .i64 y.1, .complex .f64 y.2.1 y.2.2, .slice (some ⟨gx, ox, none⟩) L c1, .int .i64 L, .bool false, .bool false, .slice a2 M c2, .int .i64 M, .bool false, .bool false, .slice (some ⟨gx, ox, none⟩) L c1, .int .i64 L, .int .i64 m, .bool true, .int .i64 m, .pointer (some ⟨gx, ox + m, none⟩), .complex .f64 p0 q0, .slice va m vc, .slice a2 M c2, .agg #[.slice va m vc, .slice a2 M c2], .int .i64 m, .int .i64 ((m : Int) - 1), .func (.func 47) #[] #[.pointer (some ⟨S + 1 + 1 + 1, 0, none⟩), .pointer (some ⟨S + 1 + 1, 0, none⟩)], .int .i64 y.1, .complex .f64 y.2.1 y.2.2, u34, u35, u36, u37, u38, u39, u40, u41, u42, u43, u44, undef], defers := [] })
        ?assign ?body ?done ?stop
      case silent =>
        rintro ⟨n, j⟩ s' W ⟨p, q, h1, h2, h3, h4⟩ ⟨e1, e2, rfl⟩
        simp only at e1 e2 h2
        rw [HZ1.out, HZ2.out] at e1 e2
        have hc := cvCnt_pos e1
        have hcl := cvLen_le m M
        refine ⟨p, q, h1, .inr ?_, h3, h4⟩
        rcases h2 with ⟨f1, f2, f3⟩ | ⟨f1, f2, f3, f4⟩
        · have hm0 : m ≠ 0 := fun h => by subst h; rw [cvLen_nil] at e1; omega
          subst f1
          have hcc : cvCnt m M (m - 1) = min m M := by unfold cvCnt; omega
          refine ⟨by simp only; omega, rfl, by omega, ?_⟩
          rw [e2, hcc] at f3
          rw [HZ2.out]; exact f3
        · omega
      case assign =>
        rintro l ⟨n, p, q⟩ W K hK
        dsimp only [cvTold]
        gi_wp2
        exact hK
      case body =>
        rintro l ⟨n', j⟩ s' ⟨nn, ⟨p, q⟩⟩ W ⟨p1, q1, hb, hst, hk, hsW⟩ ⟨e1, e2, e3, e4, rfl⟩
        simp only at e1 e2 e3 e4 hst
        subst e3
        rw [HZ1.out, HZ2.out] at e1 e2
        have d0 : W.cell? ⟨S, 0, none⟩ = some (.int .i64 m) := by rw [hk.cell (by omega) (by omega)]; exact b0
        have d1 : W.cell? ⟨S + 1, 0, none⟩ = some (.complex .f64 p1 q1) := hb.cell
        have d1f : W.frozen? ⟨S + 1, 0, none⟩ = false := hb.frozen
        rcases hst with ⟨f1, f2, f3⟩ | ⟨f1, f2, f3, f4⟩
        · have hm0 : m ≠ 0 := fun h => by subst h; rw [cvLen_nil] at e1; omega
          have hcc : cvCnt m M (m - 1) = min m M := by unfold cvCnt; omega
          have g1 : ((nn : Int) == (m : Int)) = false := by simp; omega
          have hterm : IsC (p, q) (mulZ (az.getD j z0) (made.getD (m - 1 - j) z0)) := by
            have : cvTerm made az nn j = mulZ (az.getD j z0) (made.getD (m - 1 - j) z0) := by
              unfold cvTerm cvLo
              rw [HZ1.out, show nn + 1 - m + j = j by omega, f1]
            rw [← this]; exact e4
          have HFin : Hid (∀ (d u v : Nat), IsC (u, v) (addZ (rcSum xn made az m j) (mulZ (az.getD j z0) (made.getD (m - 1 - j) z0))) →
              KeepsFrom (S + 4) W ((W.drewN d).setCell ⟨S + 1, 0, none⟩ (.complex .f64 u v)) ∧ KeptBut (S + 4) (S + 1) W ((W.drewN d).setCell ⟨S + 1, 0, none⟩ (.complex .f64 u v)) ∧ RcHas S m xn made az W0 (nn, j + 1) ((W.drewN d).setCell ⟨S + 1, 0, none⟩ (.complex .f64 u v))) := fun d u v hc =>
            ⟨KeepsOthers.from (KeepsOthers.trans (KeepsOthers.drewN (KeepsOthers.refl W) d) (KeepsOthers.setCell _ _ _)) _, ((KeptBut.refl _ _ W).drewN d).setCell (S + 1) 0 _ (.inl rfl), u, v, Boxed.set _ (Boxed.drewN hb d),
              .inl ⟨f1, by simp only; rw [f1, hcc] at e2; rw [HZ2.out]; omega, hc⟩, (hk.drewN d).setCell (S + 1) 0 _ (.inl rfl), by simp; exact hsW⟩
          have HF3 := Lib.hid f3
          have HTM := Lib.hid hterm
          clear hb hk f3 e4 hterm hT b0 f1 e1 e2 f2 hcc
          gi_wp2
          rw [HSZ.out]
          exact HFin.out _ _ _ ⟨isF_fres HF3.out.re HTM.out.re _, isF_fres HF3.out.im HTM.out.im _⟩
        · subst f1
          have HF4 : Hid (RcHas S nn xn made az W0 (nn, 0) W) := ⟨p1, q1, hb, .inr ⟨rfl, rfl, f3, f4⟩, hk, hsW⟩
          clear hb hk f4 e4 hT b0 e1 e2
          gi_wp2
          exact ⟨KeepsFrom.refl _ _, ⟨rfl, HF4.out, f3⟩⟩
      case done =>
        rintro D W hD hI hD2
        obtain ⟨p, q, hb, hc, hk, hsW⟩ := hI.whole HZ1.out
        clear hI
        have d1 : W.cell? ⟨S + 1, 0, none⟩ = some (.complex .f64 p q) := hb.cell
        have d1f : W.frozen? ⟨S + 1, 0, none⟩ = false := hb.frozen
        have hrow2 : Row W w.heap.size 32 (.slice va m vc) (cvals ps) := ((HROW.out.below HB01.out HVS.out)).keptBut hk (fun k hk => by have := HVS.out k hk; omega)
        have hmk2 : Marks w.heap.size W ({ target := .collected D, args := #[] } :: ds) := HMK.out.cons (fun k o ho hc => by
          have hk' : k < S := by have := (Array.getElem?_eq_some_iff.1 ho).1; rw [HS.out] at this; exact this
          rw [hk.block k (by omega) (by omega), HB01.out.block k hk']; exact ho) (by rw [HS.out]; omega) (by rw [HN.out]; omega) hD2
        have hb2 : Below w.heap.size w W := gathered_below' HB.out (by rw [HN.out]; exact hNS) HB01.out hk
        have HFin : Hid (∀ (w1 : World) v' g cap tmp, v' = .slice (some ⟨g, 0, none⟩) (m + 1) cap → w1.ownsRow w.heap.size 32 1 v' (m + 1) (cvals ps ++ [.complex .f64 p q]) → (W.alloc tmp).grownBy w1 (Value.slice va m vc).ownBlock →
            Row w1 w.heap.size 32 v' (cvals (ps ++ [(p, q)])) ∧ IsCs (ps ++ [(p, q)]) (rcAll (zsOf x) (zsOf a) (m + 1)) ∧ Marks w.heap.size w1 ({ target := .collected D, args := #[] } :: ds) ∧ Below w.heap.size w w1) := fun w1 v' g cap tmp hv' hown hgrow => by
          have hpl : ps.length = m := by rw [HPS.out.1, rcAll_length]
          refine ⟨?_, ?_, ?_, ?_⟩
          · unfold Row
            rw [cvals_length, List.length_append, hpl, cvals_snoc]
            exact hown
          · rw [rcAll]
            refine HPS.out.snoc ?_
            rw [← HEQ.out, HHAZ.out, HHXN.out]
            exact hc
          · refine hmk2.kept fun k o ho ho2 => ?_
            have h1 : (W.alloc tmp).heap[k]? = some o := (Below.heap_alloc W tmp k (Array.getElem?_eq_some_iff.1 ho).1).trans ho
            rw [hgrow.block k (Array.getElem?_eq_some_iff.1 h1).1 (fun e => by
              have := (hrow2.alloc tmp).isCells e.symm h1
              rw [ho2] at this; cases this)]
            exact h1
          · exact (hb2.alloc hb2.size tmp).grown hgrow (by have := hb2.size; simp; omega) (fun k e => (hrow2.lt k e).1)
        have hsz2 : w.heap.size ≤ W.heap.size := hb2.size
        have HR := Lib.hid (show W.ownsRow w.heap.size 32 1 (.slice va m vc) m (cvals ps) by
          have := hrow2; unfold Row at this; rwa [cvals_length, show ps.length = m by rw [HPS.out.1, rcAll_length]] at this)
        clear hb hk hrow2 hmk2 hb2 hc hT hD2 b0
        gi_wp2_with (gi_at_builtin; refine wpListIn_append_own _ rfl _ _ 24 rfl w.heap.size 32 i0 (.complex .f64 0 0) 1 16 Try.underlying24 hi hz0 hz1 hz2 rfl (by decide) _ _ _ rfl (HR.out.alloc _) ⟨W.heap.size, 0, none⟩ 1 1 [.complex .f64 p q] rfl rfl (cell_one_new _ _ _) (by simp [Value.oneCell']) (by simp [maxLen]; omega) (by omega) (by simp; omega) ?_; intro v' w1 hown' hgrow _; obtain ⟨g', cap', rfl⟩ := ownsRow_succ hown'; have Y3 := Lib.hid (HFin.out _ _ _ _ _ rfl hown' hgrow); clear hown' hgrow)
        exact ⟨⟨m + 1, _, ps ++ [(p, q)], _, _, _, _, _, _, _, _, _, _, _, _, _, _, _, _, _, _, _, _, _, _, _, _, _, _, _, _, by omega, Y3.out.1, Y3.out.2.1, Y3.out.2.2.1, Y3.out.2.2.2, rfl⟩, by simp [intOf]; omega⟩
      case stop =>
        rintro D c s W hD ⟨rfl, hI, hm0⟩ hD2
        obtain ⟨p, q, hb, hc, hk, hsW⟩ := hI.stopped hm0
        clear hI
        have d1 : W.cell? ⟨S + 1, 0, none⟩ = some (.complex .f64 p q) := hb.cell
        have d1f : W.frozen? ⟨S + 1, 0, none⟩ = false := hb.frozen
        have hrow2 : Row W w.heap.size 32 (.slice va m vc) (cvals ps) := ((HROW.out.below HB01.out HVS.out)).keptBut hk (fun k hk => by have := HVS.out k hk; omega)
        have hmk2 : Marks w.heap.size W ({ target := .collected D, args := #[] } :: ds) := HMK.out.cons (fun k o ho hc => by
          have hk' : k < S := by have := (Array.getElem?_eq_some_iff.1 ho).1; rw [HS.out] at this; exact this
          rw [hk.block k (by omega) (by omega), HB01.out.block k hk']; exact ho) (by rw [HS.out]; omega) (by rw [HN.out]; omega) hD2
        have hb2 : Below w.heap.size w W := gathered_below' HB.out (by rw [HN.out]; exact hNS) HB01.out hk
        have HFin : Hid (∀ (w1 : World) v' g cap tmp, v' = .slice (some ⟨g, 0, none⟩) (m + 1) cap → w1.ownsRow w.heap.size 32 1 v' (m + 1) (cvals ps ++ [.complex .f64 p q]) → (W.alloc tmp).grownBy w1 (Value.slice va m vc).ownBlock →
            Row w1 w.heap.size 32 v' (cvals (ps ++ [(p, q)])) ∧ IsCs (ps ++ [(p, q)]) (rcAll (zsOf x) (zsOf a) (m + 1)) ∧ Marks w.heap.size w1 ({ target := .collected D, args := #[] } :: ds) ∧ Below w.heap.size w w1) := fun w1 v' g cap tmp hv' hown hgrow => by
          have hpl : ps.length = m := by rw [HPS.out.1, rcAll_length]
          refine ⟨?_, ?_, ?_, ?_⟩
          · unfold Row
            rw [cvals_length, List.length_append, hpl, cvals_snoc]
            exact hown
          · rw [rcAll]
            refine HPS.out.snoc ?_
            rw [← HEQ.out, HHAZ.out, HHXN.out]
            exact hc
          · refine hmk2.kept fun k o ho ho2 => ?_
            have h1 : (W.alloc tmp).heap[k]? = some o := (Below.heap_alloc W tmp k (Array.getElem?_eq_some_iff.1 ho).1).trans ho
            rw [hgrow.block k (Array.getElem?_eq_some_iff.1 h1).1 (fun e => by
              have := (hrow2.alloc tmp).isCells e.symm h1
              rw [ho2] at this; cases this)]
            exact h1
          · exact (hb2.alloc hb2.size tmp).grown hgrow (by have := hb2.size; simp; omega) (fun k e => (hrow2.lt k e).1)
        have hsz2 : w.heap.size ≤ W.heap.size := hb2.size
        have HR := Lib.hid (show W.ownsRow w.heap.size 32 1 (.slice va m vc) m (cvals ps) by
          have := hrow2; unfold Row at this; rwa [cvals_length, show ps.length = m by rw [HPS.out.1, rcAll_length]] at this)
        clear hb hk hrow2 hmk2 hb2 hc hT hD2 b0
        gi_wp2_with (gi_at_builtin; refine wpListIn_append_own _ rfl _ _ 24 rfl w.heap.size 32 i0 (.complex .f64 0 0) 1 16 Try.underlying24 hi hz0 hz1 hz2 rfl (by decide) _ _ _ rfl (HR.out.alloc _) ⟨W.heap.size, 0, none⟩ 1 1 [.complex .f64 p q] rfl rfl (cell_one_new _ _ _) (by simp [Value.oneCell']) (by simp [maxLen]; omega) (by omega) (by simp; omega) ?_; intro v' w1 hown' hgrow _; obtain ⟨g', cap', rfl⟩ := ownsRow_succ hown'; have Y3 := Lib.hid (HFin.out _ _ _ _ _ rfl hown' hgrow); clear hown' hgrow)
        exact ⟨⟨m + 1, _, ps ++ [(p, q)], _, _, _, _, _, _, _, _, _, _, _, _, _, _, _, _, _, _, _, _, _, _, _, _, _, _, _, _, by omega, Y3.out.1, Y3.out.2.1, Y3.out.2.2.1, Y3.out.2.2.2, rfl⟩, by simp [intOf]; omega⟩
    · obtain rfl : m = L := by omega
      have hlt1 : decide (m < m) = false := decide_eq_false (by omega)
      have HROW := Lib.hid hrow
      have HPS := Lib.hid hps
      have HB := Lib.hid hB
      clear hrow hps hB
      gi_wp2
      refine leaves_marks _ _ hmk fun w' hs => ?_
      have HF : Hid (Row w' w.heap.size 32 (.slice va m vc) (cvals ps) ∧ IsCs ps (rcAll (zsOf x) (zsOf a) m) ∧ Below w.heap.size w w') := ⟨hs.row HROW.out, HPS.out, hs.below (Nat.le_refl _) HB.out⟩
      exact ⟨.tuple #[.slice va m vc, .int .i64 0], (by simp [results, Try.results8, go_sem]), _, ps, rfl, HF.out⟩

end Go.Proofs.Ytnbmbegjpkebmaa
