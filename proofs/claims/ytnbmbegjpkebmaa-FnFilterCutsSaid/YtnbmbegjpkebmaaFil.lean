import Derived.Test.YtnbmbegjpkebmaaCat
/-
  Filters that go on: of the program; whether one is valid, of the model.
-/
set_option linter.unusedVariables false
set_option linter.unusedSimpArgs false
namespace Go.Proofs.Ytnbmbegjpkebmaa
open Go.RowKit Flt Fast
attribute [local go_sem ↓] run_max_word run_max_word3

/-- A block of two cells. -/
def Pair (W : World) (B : Nat) (T : TypeId) (x y : Value) : Prop := W.heap[B]? = some (.cells #[x, y] T (0, 0))
theorem Pair.c0 {W : World} {B : Nat} {T : TypeId} {x y : Value} (h : Pair W B T x y) : W.cell? ⟨B, 0, none⟩ = some x := cell_of_heap h rfl
theorem Pair.c1 {W : World} {B : Nat} {T : TypeId} {x y : Value} (h : Pair W B T x y) : W.cell? ⟨B, 1, none⟩ = some y := cell_of_heap h rfl
theorem Pair.fr {W : World} {B : Nat} {T : TypeId} {x y : Value} (h : Pair W B T x y) (k : Nat) : W.frozen? ⟨B, k, none⟩ = false := by
  have h' : W.heap[B]? = _ := h
  simp [World.frozen?, h']
theorem Pair.lt {W : World} {B : Nat} {T : TypeId} {x y : Value} (h : Pair W B T x y) : B < W.heap.size := (Array.getElem?_eq_some_iff.1 (show W.heap[B]? = _ from h)).1
theorem Pair.set0 {W : World} {B : Nat} {T : TypeId} {x y : Value} (h : Pair W B T x y) (v : Value) : Pair (W.setCell ⟨B, 0, none⟩ v) B T v y := by
  obtain ⟨hlt, hk⟩ := Array.getElem?_eq_some_iff.1 (show W.heap[B]? = _ from h)
  show (W.heap.modify B _)[B]? = _
  rw [Array.getElem?_eq_getElem (by rw [Array.size_modify]; exact hlt), Array.getElem_modify_self, hk]
  rfl
theorem Pair.set1 {W : World} {B : Nat} {T : TypeId} {x y : Value} (h : Pair W B T x y) (v : Value) : Pair (W.setCell ⟨B, 1, none⟩ v) B T x v := by
  obtain ⟨hlt, hk⟩ := Array.getElem?_eq_some_iff.1 (show W.heap[B]? = _ from h)
  show (W.heap.modify B _)[B]? = _
  rw [Array.getElem?_eq_getElem (by rw [Array.size_modify]; exact hlt), Array.getElem_modify_self, hk]
  rfl
theorem Pair.kept {W W' : World} {row : Option Nat} {B : Nat} {T : TypeId} {x y : Value} (h : Pair W B T x y) (hg : W.grownBy W' row) (hne : some B ≠ row) : Pair W' B T x y := (hg.block B h.lt hne).trans h
theorem Pair.below {n : Nat} {W W' : World} {B : Nat} {T : TypeId} {x y : Value} (h : Pair W B T x y) (hb : Below n W W') (hn : B < n) : Pair W' B T x y := (hb.block B hn).trans h
theorem Row.keptNe {w w' : World} {B e k : Nat} {v : Value} {cs : List Value} (h : Row w B e v cs) (hg : w.grownBy w' (some k)) (hk : k < B) : Row w' B e v cs :=
  h.kept hg (by
    cases e' : v.ownBlock with
    | none => exact .inl rfl
    | some j => exact .inr (by have := (h.lt j e').1; simp; omega))

set_option maxRecDepth 100000 in
theorem valid_any (a1 a2 : Option Addr) (n1 c1 n2 c2 : Nat) (h1 : n1 ≤ 256) (h2 : n2 < n1) (w : World) :
    Calls Try.prog 53 #[.agg #[.slice a1 n1 c1, .slice a2 n2 c2]] w fun e w' => e = .returned (.bool true) ∧ Below w.heap.size w w' := by
  have g1 : decide ((n1 : Int) ≤ 256) = true := decide_eq_true (by omega)
  have g2 : decide (n2 < n1) = true := decide_eq_true h2
  go_enter Try.func53, Try.ntmps53
  go_wp2
  go_ret
  exact ⟨rfl, (Below.refl _ _).alloc (Nat.le_refl _) _⟩

set_option maxRecDepth 100000 in
set_option maxHeartbeats 4000000 in
theorem checkFilter_any (a1 a2 a3 : Option Addr) (n1 c1 n2 c2 n3 c3 : Nat) (h1 : n1 ≤ 256) (h2 : n2 < n1) (h3 : n3 ≤ 256) (w : World) :
    Calls Try.prog 33 #[.agg #[.slice a1 n1 c1, .slice a2 n2 c2], .slice a3 n3 c3] w fun e w' => e = .returned (.int .i64 0) ∧ Below w.heap.size w w' := by
  have hm : decide ((256 : Int) < maxI (maxI (n3 : Int) (n1 : Int)) (n2 : Int)) = false := decide_eq_false (by
    have : maxI (maxI (n3 : Int) (n1 : Int)) (n2 : Int) ≤ 256 := maxI_le (maxI_le (by omega) (by omega)) (by omega)
    omega)
  have HV := Lib.hid (fun w => valid_any a1 a2 n1 c1 n2 c2 h1 h2 w)
  go_enter Try.func33, Try.ntmps33
  go_wp2_with fail
  with_reducible refine (HV.out _).mono ?_
  rintro e w2 ⟨rfl, hb⟩
  have HB := Lib.hid (((Below.refl _ w).alloc (Nat.le_refl _) _).trans (hb.mono (by simp)))
  clear hb
  go_wp2
  go_ret
  exact ⟨rfl, HB.out⟩

set_option maxRecDepth 100000 in
set_option maxHeartbeats 4000000 in
theorem newFilter_any (t : List C) (v : Value) (h1 : 0 < t.length) (h2 : t.length ≤ 256) (w : World) (hr : RdO w.heap.size w v t) :
    Calls Try.prog 13 #[v] w fun e w' => ∃ a cap, e = .returned (.tuple #[.agg #[.slice a t.length cap, .slice none 0 0], .int .i64 0]) ∧ Row w' w.heap.size 32 (.slice a t.length cap) (cvals t) ∧ Below w.heap.size w w' := by
  have hb0 : Below w.heap.size w (w.alloc (.cells #[.slice none 0 0, .slice none 0 0] 34)) := (Below.refl _ _).alloc (Nat.le_refl _) _
  have K := Lib.hid (fun W (hb : Below w.heap.size w W) => clone_any ((hr.below hb).rdC hb.size) (by omega))
  obtain ⟨a1, c1, e1, -, -, -⟩ := hr.find
  subst e1
  clear hr
  have g1 : decide ((256 : Int) < (t.length : Int)) = false := decide_eq_false (by omega)
  have g2 : ((t.length : Int) == 0) = false := by simp; intro h; subst h; simp at h1
  have hC : ∀ W, Below (w.heap.size + 1) (w.alloc (.cells #[.slice none 0 0, .slice none 0 0] 34)) W → W.heap[w.heap.size]? = some (.cells #[.slice none 0 0, .slice none 0 0] 34 (0, 0)) := fun W hW => (hW.block w.heap.size (by omega)).trans (World.alloc_heap_new w _)
  have HC := Lib.hid hC
  obtain ⟨n, hn⟩ : ∃ n, t.length = n := ⟨_, rfl⟩
  rw [hn] at h1 h2 g1 g2 K ⊢
  have HNN := Lib.hid hn
  clear hn hC
  have K0 := Lib.hid (K.out _ hb0)
  clear K hb0
  go_enter Try.func13, Try.ntmps13
  go_wp2_with fail
  with_reducible refine K0.out.mono ?_
  rintro e w2 ⟨u, rfl, hr, hb⟩
  obtain ⟨a, cap, rfl⟩ := hr.written (n := n) (by rw [cvals_length]; exact HNN.out)
  have hb1 : Below (w.heap.size + 1) (w.alloc (.cells #[.slice none 0 0, .slice none 0 0] 34)) w2 := hb.mono (by simp)
  have hk : Pair w2 w.heap.size 34 (.slice none 0 0) (.slice none 0 0) := HC.out _ hb1
  have c0 := hk.c0
  have c1' := hk.c1
  have f0 := hk.fr 0
  have f1 := hk.fr 1
  have hr' : Row w2 (w.heap.size + 1) 32 (.slice a n cap) (cvals t) := by simpa using hr
  have HFin : Hid (Row ((w2.setCell ⟨w.heap.size, 0, none⟩ (.slice a n cap)).setCell ⟨w.heap.size, 1, none⟩ (.slice none 0 0)) w.heap.size 32 (.slice a n cap) (cvals t) ∧ Below w.heap.size w ((w2.setCell ⟨w.heap.size, 0, none⟩ (.slice a n cap)).setCell ⟨w.heap.size, 1, none⟩ (.slice none 0 0))) :=
    ⟨((hr'.keptNe (grown_set w2 w.heap.size 0 _) (by omega)).keptNe (grown_set _ w.heap.size 1 _) (by omega)).base (by omega),
      ((((Below.refl _ w).alloc (Nat.le_refl _) _).trans (hb1.mono (by omega))).setCell (p := ⟨w.heap.size, 0, none⟩) (Nat.le_refl _) _).setCell (p := ⟨w.heap.size, 1, none⟩) (Nat.le_refl _) _⟩
  have hp := (hk.set0 (.slice a n cap)).set1 (.slice none 0 0)
  have r0 := hp.c0
  have r1 := hp.c1
  have HR := Lib.hid (And.intro r0 r1)
  clear hr hr' hb hb1 hk hp r0 r1
  go_wp2
  obtain ⟨r0, r1⟩ := HR.out
  exact bodyPost_ret (v := .tuple #[.agg #[.slice a n cap, .slice none 0 0], .int .i64 0]) (by simp [results, Try.results13, go_sem, r0, r1]) rfl ⟨a, cap, rfl, HFin.out.1, HFin.out.2⟩

/-- The last numbers that have come: as many as there are taps less 1, or all. -/
def pastOf (x : List C) (b : Nat) : List C := x.drop (x.length - (b - 1))
theorem pastOf_length (x : List C) (b : Nat) : (pastOf x b).length = min x.length (b - 1) := by simp [pastOf]; omega

theorem RdO.drop {B : Nat} {w : World} {g cap L : Nat} {xs : List C} {k : Nat} (h : RdO B w (.slice (some ⟨g, 0, none⟩) L cap) xs) (hk : k ≤ L) (hm : cap ≤ maxLen) (hc : L ≤ cap) : ∀ a, (k < L → a = some ⟨g, k, none⟩) → RdO B w (.slice a (L - k) (cap - k)) (xs.drop k) := by
  intro a ha
  by_cases hkl : k < L
  · have hl := ha hkl
    subst hl
    have hlen : xs.length = L := by
      obtain ⟨a', c', e, -⟩ := h.find
      simp only [Value.slice.injEq] at e; exact e.2.1.symm
    refine .row g k (cap - k) (L - k) _ (by simp; omega) (by omega) (by omega) (by omega) ?_ fun j hj => ?_
    · obtain ⟨g', o', e, hg, -⟩ := h.at hkl
      cases e; exact hg
    · obtain ⟨g', o', e, hg, -, -, hcell⟩ := h.at (show k + j < L by omega)
      cases e
      rw [show k + j = 0 + (k + j) by omega, hcell]
      simp [cval, List.getD]
  · obtain rfl : k = L := by omega
    have hlen : xs.length = k := by
      obtain ⟨a', c', e, -⟩ := h.find
      simp only [Value.slice.injEq] at e; exact e.2.1.symm
    rw [Nat.sub_self, List.drop_of_length_le (by omega)]
    exact .nil _ _ (by omega)

theorem RdO.keptNe {B k : Nat} {w w' : World} {v : Value} {xs : List C} (h : RdO B w v xs) (hg : w.grownBy w' (some k)) (hne : ∀ j, v.ownBlock = some j → j ≠ k) (hB : B ≤ w.heap.size) : RdO B w' v xs := by
  cases h with
  | nil a cap hm => exact .nil a cap hm
  | row g o cap L xs hL h0 hc hm hgb h =>
    refine .row g o cap L xs hL h0 hc hm hgb fun j hj => ?_
    rw [← h j hj]
    have := hg.block g (by omega) (by have := hne g (by simp [Value.ownBlock]); simpa using this)
    simp [World.cell?, this]

theorem push_fin {w w3 w4 w5 : World} {N : Nat} {T : TypeId} {u pv ov : Value} {t ps past : List C} (hN : w.heap.size = N) (pp : Pair w5 (N + 1) T (.slice none 0 0) (.slice none 0 0))
    (hru : Row w5 w4.heap.size 32 u (cvals t)) (hro : Row w5 w3.heap.size 32 ov (cvals ps)) (hp : RdO w5.heap.size w5 pv past) (hpb : ∀ j, pv.ownBlock = some j → N + 2 ≤ j)
    (hb : Below w.heap.size w w5) (h4 : N + 2 ≤ w4.heap.size) (h3 : N + 2 ≤ w3.heap.size) :
    ((w5.setCell ⟨N + 1, 0, none⟩ u).setCell ⟨N + 1, 1, none⟩ pv).cell? ⟨N + 1, 0, none⟩ = some u ∧ ((w5.setCell ⟨N + 1, 0, none⟩ u).setCell ⟨N + 1, 1, none⟩ pv).cell? ⟨N + 1, 1, none⟩ = some pv ∧
    Row ((w5.setCell ⟨N + 1, 0, none⟩ u).setCell ⟨N + 1, 1, none⟩ pv) w.heap.size 32 u (cvals t) ∧
    RdO ((w5.setCell ⟨N + 1, 0, none⟩ u).setCell ⟨N + 1, 1, none⟩ pv).heap.size ((w5.setCell ⟨N + 1, 0, none⟩ u).setCell ⟨N + 1, 1, none⟩ pv) pv past ∧
    Row ((w5.setCell ⟨N + 1, 0, none⟩ u).setCell ⟨N + 1, 1, none⟩ pv) w.heap.size 32 ov (cvals ps) ∧
    Below w.heap.size w ((w5.setCell ⟨N + 1, 0, none⟩ u).setCell ⟨N + 1, 1, none⟩ pv) := by
  have q := (pp.set0 u).set1 pv
  have hs : ((w5.setCell ⟨N + 1, 0, none⟩ u).setCell ⟨N + 1, 1, none⟩ pv).heap.size = w5.heap.size := by simp
  refine ⟨q.c0, q.c1, ((hru.keptNe (grown_set w5 (N + 1) 0 _) (by omega)).keptNe (grown_set _ (N + 1) 1 _) (by omega)).base (by omega), ?_, ((hro.keptNe (grown_set w5 (N + 1) 0 _) (by omega)).keptNe (grown_set _ (N + 1) 1 _) (by omega)).base (by omega), ?_⟩
  · rw [hs]
    exact (hp.keptNe (grown_set w5 (N + 1) 0 _) (fun j hj => by have := hpb j hj; omega) (Nat.le_refl _)).keptNe (grown_set _ (N + 1) 1 _) (fun j hj => by have := hpb j hj; omega) (by simp)
  · exact (hb.setCell (p := ⟨N + 1, 0, none⟩) (by show w.heap.size ≤ N + 1; omega) _).setCell (p := ⟨N + 1, 1, none⟩) (by show w.heap.size ≤ N + 1; omega) _

set_option maxRecDepth 100000 in
set_option maxHeartbeats 8000000 in
theorem push_any (t p x : List C) (tv pv v : Value) (h1 : t.length ≤ 256) (h2 : p.length < t.length) (h3 : x.length ≤ 256) (hwt : WfC t) (hwp : WfC p) (hwx : WfC x) (w : World) (hrt : RdO w.heap.size w tv t) (hrp : RdO w.heap.size w pv p) (hrx : RdO w.heap.size w v x) :
    Calls Try.prog 15 #[.agg #[tv, pv], v] w fun e w' => ∃ a c a2 c2 ov ps, e = .returned (.tuple #[.agg #[.slice a t.length c, .slice a2 (min (p.length + x.length) (t.length - 1)) c2], ov, .int .i64 0]) ∧
      Row w' w.heap.size 32 (.slice a t.length c) (cvals t) ∧ RdO w'.heap.size w' (.slice a2 (min (p.length + x.length) (t.length - 1)) c2) (pastOf (p ++ x) t.length) ∧ (∀ k, (Value.slice a2 (min (p.length + x.length) (t.length - 1)) c2).ownBlock = some k → w.heap.size ≤ k) ∧
      Row w' w.heap.size 32 ov (cvals ps) ∧ IsCs ps (cvPart (zsOf (p ++ x)) (zsOf t) p.length (p.length + x.length)) ∧ Below w.heap.size w w' := by
  have HRT := Lib.hid hrt
  have HRP := Lib.hid hrp
  have HRX := Lib.hid hrx
  obtain ⟨a1, c1, e1, -, -, -⟩ := hrt.find
  obtain ⟨a2, c2, e2, -, -, -⟩ := hrp.find
  obtain ⟨a3, c3, e3, -, -, -⟩ := hrx.find
  subst e1
  subst e2
  subst e3
  clear hrt hrp hrx
  obtain ⟨b, hb⟩ : ∃ b, t.length = b := ⟨_, rfl⟩
  obtain ⟨m, hm⟩ : ∃ m, p.length = m := ⟨_, rfl⟩
  obtain ⟨n, hn⟩ : ∃ n, x.length = n := ⟨_, rfl⟩
  rw [hb] at h1 h2 HRT ⊢
  rw [hm] at h2 HRP ⊢
  rw [hn] at h3 HRX ⊢
  have HLT := Lib.hid hb
  have HLP := Lib.hid hm
  have HLX := Lib.hid hn
  have HCK := Lib.hid (fun w => checkFilter_any a1 a2 a3 b c1 m c2 n c3 h1 h2 h3 w)
  clear hb hm hn
  go_enter Try.func15, Try.ntmps15
  go_wp2_with fail
  with_reducible refine (HCK.out _).mono ?_
  rintro e w2 ⟨rfl, hb⟩
  obtain ⟨N, hN⟩ : ∃ N, w.heap.size = N := ⟨_, rfl⟩
  have hb' : Below (N + 2) ((w.alloc (.cells #[.slice a1 b c1, .slice a2 m c2] 34)).alloc (.cells #[.slice none 0 0, .slice none 0 0] 34)) w2 := by rw [← hN]; simpa using hb
  have p0 : Pair w2 N 34 (.slice a1 b c1) (.slice a2 m c2) := (hb'.block N (by omega)).trans (by rw [← hN]; exact (Below.heap_alloc _ _ _ (by simp)).trans (World.alloc_heap_new w _))
  have p1 : Pair w2 (N + 1) 34 (.slice none 0 0) (.slice none 0 0) := (hb'.block (N + 1) (by omega)).trans (by have := World.alloc_heap_new (w.alloc (.cells #[.slice a1 b c1, .slice a2 m c2] 34)) (.cells #[.slice none 0 0, .slice none 0 0] 34); rw [World.size_alloc, hN] at this; exact this)
  have hB2 : Below w.heap.size w w2 := (((Below.refl w.heap.size w).alloc (Nat.le_refl _) _).alloc (by simp) _).trans (hb.mono (by simp; omega))
  have hs2 : N + 2 ≤ w2.heap.size := by have := hb.size; rw [← hN]; simpa using this
  have q0 := p0.c0
  have q1 := p0.c1
  rw [← hN] at q0 q1
  -- what has come
  obtain ⟨w2', hw2'⟩ : ∃ z, w2.alloc (.cells #[.slice a2 m c2, .slice a3 n c3] 24) = z := ⟨_, rfl⟩
  have hA : Below w2.heap.size w2 w2' := by rw [← hw2']; exact (Below.refl _ _).alloc (Nat.le_refl _) _
  have hnew : Pair w2' w2.heap.size 24 (.slice a2 m c2) (.slice a3 n c3) := by rw [← hw2']; exact World.alloc_heap_new w2 _
  have hB2' : Below w.heap.size w w2' := below_step hB2 hA hB2.size
  have KC := concat_any p x (.slice a2 m c2) (.slice a3 n c3) (by rw [HLP.out, HLX.out]; omega) w2.heap.size w2' ((HRP.out.below hB2').base hB2'.size) ((HRX.out.below hB2').base hB2'.size) hnew.lt hnew.c0 hnew.c1
  rw [← hw2'] at KC
  have KC := Lib.hid KC
  have HW2' := Lib.hid hw2'
  have hs2' : N + 2 ≤ w2'.heap.size := Nat.le_trans hs2 hA.size
  have HB2' := Lib.hid hB2'
  have HA := Lib.hid hA
  have HP0 := Lib.hid p0
  have HP1 := Lib.hid p1
  have HN := Lib.hid hN
  clear hb hb' hA hnew hB2' hB2 p0 p1 hw2' hN HCK
  go_wp2_with fail
  with_reducible refine KC.out.mono ?_
  rintro e w3 ⟨cv, rfl, hrc, hb3⟩
  rw [HW2'.out] at hrc hb3
  clear KC
  obtain ⟨L, hL⟩ : ∃ L, m + n = L := ⟨_, rfl⟩
  have hpx : (p ++ x).length = L := by rw [List.length_append, HLP.out, HLX.out]; exact hL
  obtain ⟨ca, cc, rfl⟩ := hrc.written (n := L) (by rw [cvals_length]; exact hpx)
  have hA3 : Below w2.heap.size w2 w3 := below_step HA.out hb3 HA.out.size
  have hB3 : Below w.heap.size w w3 := below_step HB2'.out hb3 HB2'.out.size
  have p0 : Pair w3 N 34 (.slice a1 b c1) (.slice a2 m c2) := HP0.out.below hA3 (by omega)
  have p1 : Pair w3 (N + 1) 34 (.slice none 0 0) (.slice none 0 0) := HP1.out.below hA3 (by omega)
  have q0 := p0.c0
  have q1 := p0.c1
  rw [← HN.out] at q0 q1
  have hwpx : WfC (p ++ x) := fun z hz => (List.mem_append.1 hz).elim (hwp z) (hwx z)
  have KN := numbers_any (p ++ x) t m L (.slice ca L cc) (.slice a1 b c1) (by rw [hpx]; omega) (by rw [HLT.out]; omega) (by omega) (by omega) hwpx hwt w3 (RdO.of_row hrc (fun k e => (hrc.lt k e).2)) ((HRT.out.below hB3).base hB3.size)
  have KN := Lib.hid KN
  have HRC := Lib.hid hrc
  have HB3 := Lib.hid hB3
  have hLi : (m : Int) + n = (L : Int) := by omega
  have hs3 : N + 2 ≤ w3.heap.size := Nat.le_trans hs2 hA3.size
  have hsc : N ≤ w2'.heap.size := by have := HB2'.out.size; rw [HN.out] at this; exact this
  have HP0 := Lib.hid p0
  have HP1 := Lib.hid p1
  have HPX := Lib.hid hpx
  clear hrc hb3 hA3 hB3 p0 p1 hpx HA hwpx
  go_wp2_with fail
  with_reducible refine KN.out.mono ?_
  rintro e w4 ⟨ov, ps, rfl, hro, hfo, hb4⟩
  clear KN
  obtain ⟨oa, oc, rfl⟩ := hro.written rfl
  have hB4 : Below w.heap.size w w4 := below_step HB3.out hb4 HB3.out.size
  have p0 : Pair w4 N 34 (.slice a1 b c1) (.slice a2 m c2) := HP0.out.below hb4 (by omega)
  have p1 : Pair w4 (N + 1) 34 (.slice none 0 0) (.slice none 0 0) := HP1.out.below hb4 (by omega)
  have q0 := p0.c0
  have q1 := p0.c1
  rw [← HN.out] at q0 q1
  obtain ⟨k, hk⟩ : ∃ k, L - (b - 1) = k := ⟨_, rfl⟩
  have hmax : maxI 0 ((L : Int) - ((b : Int) - 1)) = (k : Int) := by unfold maxI; split <;> omega
  have hkL : k ≤ L := by omega
  have hmin : L - k = min L (b - 1) := by omega
  have hrc4 : Row w4 w2'.heap.size 32 (.slice ca L cc) (cvals (p ++ x)) := HRC.out.below hb4 (fun j e => (HRC.out.lt j e).2)
  have hpast : pastOf (p ++ x) b = (p ++ x).drop k := by unfold pastOf; rw [HPX.out, hk]
  have KCl := Lib.hid (clone_any (((HRT.out.below hB4).base hB4.size).rdC (Nat.le_refl _)) (by rw [HLT.out]; omega))
  have HRO := Lib.hid hro
  have HFO := Lib.hid hfo
  have HB4 := Lib.hid hB4
  have HP1 := Lib.hid p1
  have HPST := Lib.hid hpast
  have hs4 : N + 2 ≤ w4.heap.size := Nat.le_trans hs3 hb4.size
  have hs34 : w3.heap.size ≤ w4.heap.size := hb4.size
  have hNo : N ≤ w3.heap.size := by omega
  have HMIN := Lib.hid hmin
  have hPR : ∀ a, (k < L → ∀ g, ca = some ⟨g, 0, none⟩ → a = some ⟨g, k, none⟩) → (k = L → ∀ j, (Value.slice a (L - k) (cc - k)).ownBlock = some j → N + 2 ≤ j) → cc ≤ maxLen → ∀ W, Below w4.heap.size w4 W → RdO W.heap.size W (.slice a (L - k) (cc - k)) (pastOf (p ++ x) b) ∧ (∀ j, (Value.slice a (L - k) (cc - k)).ownBlock = some j → N + 2 ≤ j) := fun a ha hblk hccm W hW => by
    rw [HPST.out]
    by_cases hkl : k < L
    · rcases hrc4.shape with ⟨_, _, e, e'⟩ | ⟨g, cap, e, hc0, hgN, hgs, hcc, hcy⟩
      · have := congrArg List.length e'
        rw [cvals_length, HPX.out] at this; simp at this; omega
      rw [cvals_length, HPX.out] at e hcc
      simp only [Value.slice.injEq, true_and] at e
      obtain ⟨rfl, rfl⟩ := e
      obtain rfl := ha hkl g rfl
      refine ⟨((((RdO.of_row hrc4 (fun k e => (hrc4.lt k e).2)).drop hkL hcy hcc) _ (fun _ => rfl)).below hW).base hW.size, fun j hj => ?_⟩
      obtain rfl : g = j := by simpa [Value.ownBlock] using hj
      omega
    · obtain rfl : k = L := by omega
      refine ⟨?_, hblk rfl⟩
      rw [Nat.sub_self, List.drop_of_length_le (by rw [HPX.out]; exact Nat.le_refl _)]
      exact .nil _ _ (by omega)
  have HPR := Lib.hid hPR
  have hcases : (∃ g, ca = some ⟨g, 0, none⟩ ∧ N + 2 ≤ g ∧ L ≤ cc ∧ cc ≤ maxLen) ∨ (ca = none ∧ L = 0 ∧ cc = 0) := by
    rcases HRC.out.2 with ⟨e, h0⟩ | ⟨g, cap, cur, e, hbb, hg, hnc, hcm, _⟩
    · simp only [Value.slice.injEq] at e
      exact .inr ⟨e.1, e.2.1, e.2.2⟩
    · simp only [Value.slice.injEq] at e
      rw [cvals_length, HPX.out] at hnc
      obtain ⟨e1, -, rfl⟩ := e
      exact .inl ⟨g, e1, by omega, hnc, hcm⟩
  clear hb4 hB4 p0 p1 hk hpast hrc4 hro hfo hPR hmin HRC HPX HP0 HB3
  rcases hcases with ⟨g, rfl, hgN, hLc, hcm⟩ | ⟨rfl, rfl, rfl⟩
  · by_cases hck : cc = k
    · obtain rfl : k = L := by omega
      subst hck
      have HP5 := Lib.hid (HPR.out (some ⟨g, 0, none⟩) (fun h => absurd h (Nat.lt_irrefl _)) (fun _ j hj => by simp [Value.ownBlock] at hj; omega) hcm)
      rw [Nat.sub_self] at HP5
      have HBLK := Lib.hid (HP5.out w4 (Below.refl _ _)).2
      clear HPR
      go_wp2_with fail
      with_reducible refine KCl.out.mono ?_
      rintro e w5 ⟨u, rfl, hru, hb5⟩
      obtain ⟨ua, uc, rfl⟩ := hru.written (n := b) (by rw [cvals_length]; exact HLT.out)
      obtain ⟨y1, y2⟩ := HP5.out w5 hb5
      have pp : Pair w5 (N + 1) 34 (.slice none 0 0) (.slice none 0 0) := HP1.out.below hb5 (by omega)
      have z0' := pp.c0
      have z1' := pp.c1
      have f0 := pp.fr 0
      have f1 := pp.fr 1
      have HFin := Lib.hid (push_fin HN.out pp hru (HRO.out.below hb5 (fun j e => Nat.lt_of_lt_of_le (HRO.out.lt j e).2 (Nat.le_refl _))) y1 y2 (below_step HB4.out hb5 HB4.out.size) hs4 hs3)
      rw [← HN.out] at z0' z1' f0 f1 HFin
      clear hru hb5 y1 y2 pp
      go_wp2
      obtain ⟨r0, r1, r2, r3, r4, r5⟩ := HFin.out
      refine bodyPost_ret (v := .tuple #[.agg #[.slice ua b uc, .slice (some ⟨g, 0, none⟩) 0 0], .slice oa (cvals ps).length oc, .int .i64 0]) (by simp [results, Try.results15, go_sem, r0, r1]) rfl ?_
      have hml : 0 = min (m + n) (b - 1) := by have := HMIN.out; omega
      rw [← hml]
      exact ⟨ua, uc, some ⟨g, 0, none⟩, 0, _, ps, rfl, r2, r3, fun j hj => by have := HBLK.out j hj; have := HN.out; omega, r4, by rw [hL]; exact HFO.out, r5⟩
    · have HP5 := Lib.hid (HPR.out (some ⟨g, k, none⟩) (fun _ g' e => by cases e; rfl) (fun _ j hj => by simp [Value.ownBlock] at hj; omega) hcm)
      have HBLK := Lib.hid (HP5.out w4 (Below.refl _ _)).2
      clear HPR
      go_wp2_with fail
      with_reducible refine KCl.out.mono ?_
      rintro e w5 ⟨u, rfl, hru, hb5⟩
      obtain ⟨ua, uc, rfl⟩ := hru.written (n := b) (by rw [cvals_length]; exact HLT.out)
      obtain ⟨y1, y2⟩ := HP5.out w5 hb5
      have pp : Pair w5 (N + 1) 34 (.slice none 0 0) (.slice none 0 0) := HP1.out.below hb5 (by omega)
      have z0' := pp.c0
      have z1' := pp.c1
      have f0 := pp.fr 0
      have f1 := pp.fr 1
      have HFin := Lib.hid (push_fin HN.out pp hru (HRO.out.below hb5 (fun j e => Nat.lt_of_lt_of_le (HRO.out.lt j e).2 (Nat.le_refl _))) y1 y2 (below_step HB4.out hb5 HB4.out.size) hs4 hs3)
      rw [← HN.out] at z0' z1' f0 f1 HFin
      clear hru hb5 y1 y2 pp
      go_wp2
      obtain ⟨r0, r1, r2, r3, r4, r5⟩ := HFin.out
      refine bodyPost_ret (v := .tuple #[.agg #[.slice ua b uc, .slice (some ⟨g, k, none⟩) (L - k) (cc - k)], .slice oa (cvals ps).length oc, .int .i64 0]) (by simp [results, Try.results15, go_sem, r0, r1]) rfl ?_
      have hml : L - k = min (m + n) (b - 1) := by have := HMIN.out; omega
      rw [← hml]
      exact ⟨ua, uc, some ⟨g, k, none⟩, (cc - k), _, ps, rfl, r2, r3, fun j hj => by have := HBLK.out j hj; have := HN.out; omega, r4, by rw [hL]; exact HFO.out, r5⟩
  · obtain rfl : k = 0 := by omega
    have hmax2 : maxI 0 (-((b : Int) - 1)) = 0 := by unfold maxI; split <;> omega
    have HP5 := Lib.hid (HPR.out none (fun h => by omega) (fun _ j hj => by simp [Value.ownBlock] at hj) (by simp))
    rw [Nat.sub_self] at HP5
    have HBLK := Lib.hid (HP5.out w4 (Below.refl _ _)).2
    clear HPR
    go_wp2_with fail
    with_reducible refine KCl.out.mono ?_
    rintro e w5 ⟨u, rfl, hru, hb5⟩
    obtain ⟨ua, uc, rfl⟩ := hru.written (n := b) (by rw [cvals_length]; exact HLT.out)
    obtain ⟨y1, y2⟩ := HP5.out w5 hb5
    have pp : Pair w5 (N + 1) 34 (.slice none 0 0) (.slice none 0 0) := HP1.out.below hb5 (by omega)
    have z0' := pp.c0
    have z1' := pp.c1
    have f0 := pp.fr 0
    have f1 := pp.fr 1
    have HFin := Lib.hid (push_fin HN.out pp hru (HRO.out.below hb5 (fun j e => Nat.lt_of_lt_of_le (HRO.out.lt j e).2 (Nat.le_refl _))) y1 y2 (below_step HB4.out hb5 HB4.out.size) hs4 hs3)
    rw [← HN.out] at z0' z1' f0 f1 HFin
    clear hru hb5 y1 y2 pp
    go_wp2
    obtain ⟨r0, r1, r2, r3, r4, r5⟩ := HFin.out
    refine bodyPost_ret (v := .tuple #[.agg #[.slice ua b uc, .slice none 0 0], .slice oa (cvals ps).length oc, .int .i64 0]) (by simp [results, Try.results15, go_sem, r0, r1]) rfl ?_
    have hml : 0 = min (m + n) (b - 1) := by have := HMIN.out; omega
    rw [← hml]
    exact ⟨ua, uc, none, 0, _, ps, rfl, r2, r3, fun j hj => by have := HBLK.out j hj; have := HN.out; omega, r4, by rw [hL]; exact HFO.out, r5⟩

end Go.Proofs.Ytnbmbegjpkebmaa
