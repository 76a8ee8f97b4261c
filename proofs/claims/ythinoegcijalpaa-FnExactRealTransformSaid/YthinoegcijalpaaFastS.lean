import Derived.Test.YthinoegcijalpaaMul
import Derived.Test.YthinoegcijalpaaListC
import Derived.Deep.RegionLaw
import Derived.Deep.AppendLies
import Derived.Deep.CutRange
import Derived.Deep.CutBlock
import Derived.Test.YthinoegcijalpaaWalkFac
/-
  The walk of the model's fast transform.
-/
set_option linter.unusedVariables false
set_option linter.unusedSimpArgs false
namespace Go.Proofs.Ythinoegcijalpaa
open Go.RowKit Flt Turn Fast
attribute [local go_sem] run_fadd run_fsub run_fmul run_fquo run_cadd run_csub

/-- Rows of different types lie in different blocks. -/
theorem Row.apart {w : World} {B B' : Nat} {e e' : TypeId} {v v' : Value} {cs cs' : List Value} (h : Row w B e v cs) (h' : Row w B' e' v' cs') (hne : e ≠ e') : v.ownBlock = none ∨ v.ownBlock ≠ v'.ownBlock := by
  rcases h.2 with ⟨rfl, _⟩ | ⟨g, cap, cur, rfl, _, hg, _⟩
  · exact .inl rfl
  · right
    rcases h'.2 with ⟨rfl, _⟩ | ⟨g', cap', cur', rfl, _, hg', _⟩
    · simp [Value.ownBlock]
    · intro e2
      simp only [Value.ownBlock, Option.some.injEq] at e2
      subst e2
      rw [hg] at hg'
      simp only [Option.some.injEq, Obj.cells.injEq] at hg'
      exact hne hg'.2.1

theorem info_rows : (Try.prog.info? 23).map (fun i => (i.zero, i.size, i.bytes)) = some (some (.slice none 0 0), 1, 24) := by kernel_rfl

/-- The first i numbers of a part. -/
def partN (xs : List C) (r p i : Nat) : List C := (List.range i).map fun t => xs.getD (r + t * p) (0, 0)
theorem partN_length (xs : List C) (r p i : Nat) : (partN xs r p i).length = i := by simp [partN]
theorem partN_succ (xs : List C) (r p i : Nat) : partN xs r p (i + 1) = partN xs r p i ++ [xs.getD (r + i * p) (0, 0)] := by simp [partN, List.range_succ]
theorem partN_wf {xs : List C} {r p i m : Nat} (hw : WfC xs) (hn : xs.length = p * m) (hr : r < p) (hi : i ≤ m) : WfC (partN xs r p i) := by
  intro q hq
  obtain ⟨t, ht, rfl⟩ := List.mem_map.1 hq
  have ht := List.mem_range.1 ht
  refine hw _ (getD_memC ?_)
  rw [hn]
  have : (t + 1) * p ≤ m * p := Nat.mul_le_mul_right _ (by omega)
  rw [Nat.add_mul, Nat.one_mul, Nat.mul_comm m p] at this
  omega
theorem part_every {xs : List C} {r p m : Nat} (hp : 0 < p) (hn : xs.length = p * m) (hr : r < p) : zsOf (partN xs r p m) = every (zsOf xs) r p := by
  have hl : (every (zsOf xs) r p).length = m := every_length hp (by rw [zsOf_length, hn]) hr
  unfold every at hl ⊢
  rw [List.length_map, List.length_range] at hl
  rw [hl]
  unfold zsOf partN
  rw [List.map_map]
  apply List.map_congr_left
  intro t ht
  have ht := List.mem_range.1 ht
  have hlt : r + t * p < xs.length := by
    rw [hn]
    have : (t + 1) * p ≤ m * p := Nat.mul_le_mul_right _ (by omega)
    rw [Nat.add_mul, Nat.one_mul, Nat.mul_comm m p] at this
    omega
  exact (zsOf_getD hlt).symm

/-- What the fast transform returns. -/
def FastR (xs : List C) (w : World) (e : Ending) (w' : World) : Prop :=
  ∃ v ys, e = .returned v ∧ Row w' w.heap.size 34 v (cvals ys) ∧ WfC ys ∧ Fast (zsOf xs) (zsOf ys) ∧ Below w.heap.size w w'

def FastOK (N : Nat) : Prop := ∀ (xs : List C) (v : Value) (B : Nat) (w : World), xs.length < N → xs.length ≤ 1024 → WfC xs → Row w B 34 v (cvals xs) →
  Calls Try.prog 15 #[v] w (FastR xs w)

set_option maxRecDepth 100000 in
set_option maxHeartbeats 4000000 in
theorem fast_small (xs : List C) (v : Value) (B : Nat) (w : World) (hl : xs.length ≤ 1) (hw : WfC xs) (h : Row w B 34 v (cvals xs)) :
    Calls Try.prog 15 #[v] w (FastR xs w) := by
  obtain ⟨i0, hi, hz0, hz1, hz2⟩ := info_parts info_c128
  have h' := h
  have hlen : (cvals xs).length = xs.length := cvals_length xs
  have HW := Lib.hid hw
  clear hw
  rcases h.2 with ⟨rfl, hn⟩ | ⟨g, cap, cur, rfl, hb, hg, hnc, hcm, _⟩
  · have hx0 : xs = [] := List.eq_nil_of_length_eq_zero (by omega)
    subst hx0
    clear h h' hlen hn hl
    go_enter Try.func15, Try.ntmps15
    go_wp2
    go_ret
    exact ⟨_, [], rfl, World.ownsRow_lit w #[] 0 (Nat.le_refl _) (by unfold maxLen; omega) rfl, HW.out, .small (by simp [zsOf]), (Below.refl _ _).alloc (Nat.le_refl _) _⟩
  · obtain ⟨L, hL⟩ : ∃ L, xs.length = L := ⟨_, rfl⟩
    have hgl : g < w.heap.size := (Array.getElem?_eq_some_iff.1 hg).1
    have hc : ∀ j u, (cvals xs)[j]? = some u → (w.alloc (.cells #[] 34)).cell? ((⟨g, 0, none⟩ : Addr).add j) = some u := fun j u hu => by
      have hj := (List.getElem?_eq_some_iff.1 hu).1
      have e := ((Below.refl w.heap.size w).alloc (Nat.le_refl _) (.cells #[] 34)).cell (p := ⟨g, j, none⟩) hgl
      rw [addr_lit, e, h'.cellAt hj]
      simp [List.getD, hu]
    have HC := Lib.hid hc
    have HX := Lib.hid hL
    rw [hlen, hL]
    rw [hL] at hl
    have hlc : (cvals xs).length = L * 1 := by rw [hlen, hL, Nat.mul_one]
    have hone : ∀ u ∈ cvals xs, u.oneCell' = true := by
      intro u hu
      obtain ⟨q, _, rfl⟩ := List.mem_map.1 hu
      rfl
    have HL1 := Lib.hid hlc
    have HO1 := Lib.hid hone
    clear h h' hlen hc hg hb hnc hcm hL hlc hone hgl
    go_enter Try.func15, Try.ntmps15
    go_wp2_with (at_builtin; refine wpList_append_own _ rfl _ _ 23 rfl w.heap.size 34 i0 (.complex .f64 0 0) 1 16 Try.underlying23 hi hz0 hz1 hz2 rfl (by decide) _ _ _ rfl (World.ownsRow_lit w #[] 0 (Nat.le_refl _) (by unfold maxLen; omega) rfl) ⟨g, 0, none⟩ L cap (cvals xs) rfl HL1.out HC.out HO1.out (by simp only [maxLen]; omega) (by omega) (by simp) ?_)
    intro v' w1 hown' hgrow _
    have hR : Hid (Row w1 w.heap.size 34 v' (cvals xs)) := by
      show w1.ownsRow _ _ _ _ _ _
      rw [cvals_length, HX.out]
      simpa using hown'
    have HB : Hid (Below w.heap.size w w1) := ((Below.refl _ _).alloc (Nat.le_refl _) _).grown hgrow (by simp) (fun b e => by simp [Value.ownBlock] at e; omega)
    clear hown' hgrow HC HL1 HO1
    go_wp2
    go_ret
    exact ⟨_, xs, rfl, hR.out, HW.out, .small (by rw [zsOf_length, HX.out]; exact hl), HB.out⟩

theorem row_one {w : World} {B : Nat} {e : TypeId} {v : Value} {cs : List Value} (h : Row w B e v cs) : v.oneCell' = true := by
  rcases h.2 with ⟨rfl, _⟩ | ⟨g, cap, cur, rfl, _⟩ <;> rfl

/-- A row that is not empty, as the walk reads it. -/
theorem Row.get {w : World} {B : Nat} {e : TypeId} {v : Value} {ys : List C} {m : Nat} (h : Row w B e v (cvals ys)) (hl : ys.length = m) (hm : 0 < m) :
    ∃ g cap, v = .slice (some ⟨g, 0, none⟩) m cap ∧ m ≤ cap ∧ g < w.heap.size ∧ ∀ j, j < m → w.cell? ⟨g, j, none⟩ = some (.complex .f64 (ys.getD j (0, 0)).1 (ys.getD j (0, 0)).2) := by
  have h' := h
  have hl' : (cvals ys).length = m := by rw [cvals_length, hl]
  rcases h.shape with ⟨a, cap, rfl, e⟩ | ⟨g, cap, rfl, h0, _, hg, hc, _⟩
  · rw [e] at hl'; simp at hl'; omega
  · rw [hl'] at hc h' ⊢
    exact ⟨g, cap, rfl, hc, hg, fun j hj => by rw [h'.cellAt hj, cvals_getD (by omega)]⟩

/-- A row of whatever values that is not empty. -/
theorem Row.getV {w : World} {B : Nat} {e : TypeId} {v : Value} {cs : List Value} {m : Nat} (h : Row w B e v cs) (hl : cs.length = m) (hm : 0 < m) :
    ∃ g cap, v = .slice (some ⟨g, 0, none⟩) m cap ∧ m ≤ cap ∧ g < w.heap.size ∧ ∀ j, j < m → w.cell? ⟨g, j, none⟩ = some (cs.getD j undef) := by
  have h' := h
  rcases h.shape with ⟨a, cap, rfl, e⟩ | ⟨g, cap, rfl, h0, _, hg, hc, _⟩
  · rw [e] at hl; simp at hl; omega
  · rw [hl] at hc h' ⊢
    exact ⟨g, cap, rfl, hc, hg, fun j hj => h'.cellAt hj⟩

theorem Row.heap {w w' : World} {B : Nat} {e : TypeId} {v : Value} {cs : List Value} (h : Row w B e v cs) (e2 : w'.heap = w.heap) : Row w' B e v cs := by
  unfold Row World.ownsRow at *
  rw [e2]
  exact h

/-- What the second loop fills. -/
structure Outs (W wr : World) (n m p k : Nat) (zy : Nat → List Z) (os : List C) : Prop where
  len : os.length = n
  row : Row wr W.heap.size 34 (.slice (some ⟨W.heap.size, 0, none⟩) n n) (cvals os)
  wf : WfC os
  good : ∀ i, i < n → i % m < k → (zsOf os).getD i z0 = outP n p zy (i % m) (i / m)
  below : Below W.heap.size W wr

theorem Outs.all {W wr : World} {n m p : Nat} {zy : Nat → List Z} {os : List C} (h : Outs W wr n m p m zy os) (hm : 0 < m) (hd : n / p = m) : zsOf os = joinP n p zy := by
  apply List.ext_getElem (by rw [zsOf_length, h.len, joinP_length])
  intro i h1 h2
  rw [joinP_length] at h2
  have e := h.good i h2 (Nat.mod_lt _ hm)
  have e2 := joinP_getD (p := p) (ys := zy) h2
  rw [hd] at e2
  rw [← e2] at e
  simpa [List.getD, h1, joinP_length, h2] using e

theorem wfC_snoc2 {xs : List C} {p q : Nat} (h : WfC xs) (hp : p < 18446744073709551616) (hq : q < 18446744073709551616) : WfC (xs ++ [(p, q)]) := by
  intro u hu
  rcases List.mem_append.1 hu with h1 | h1
  · exact h u h1
  · rw [List.mem_singleton.1 h1]; exact ⟨hp, hq⟩

/-- The terms of a round. -/
structure Terms (W wr : World) (n k r : Nat) (zy : Nat → List Z) (v : Value) (ts : List C) : Prop where
  len : ts.length = r
  row : Row wr W.heap.size 34 v (cvals ts)
  wf : WfC ts
  good : ∀ i, i < r → (zsOf ts).getD i z0 = term n zy k i
  below : Below W.heap.size W wr

/-- One term more. -/
theorem Terms.next {W wt w2 : World} {n k s nn : Nat} {zy : Nat → List Z} {v v' : Value} {ts : List C} {c d : Nat} {o : Obj} (h : Terms W wt n k s zy v ts) (hown : w2.ownsRow W.heap.size 34 1 v' (s + 1) (cvals ts ++ [.complex .f64 c d]))
    (hgr : ((wt.drewN nn).alloc o).grownBy w2 v.ownBlock) (hcd : IsC (c, d) (term n zy k s)) : Terms W w2 n k (s + 1) zy v' (ts ++ [(c, d)]) := by
  have hl : (cvals ts).length = s := by rw [cvals_length, h.len]
  have hlt := (h.row.alloc o).lt
  refine ⟨by rw [List.length_append, h.len]; rfl, ?_, wfC_snoc2 h.wf hcd.re.lt hcd.im.lt, fun i hi => ?_, ?_⟩
  · show w2.ownsRow _ _ _ _ _ _
    rw [cvals_snoc, List.length_append, hl]
    exact hown
  · have hlz : (zsOf ts).length = s := by rw [zsOf_length, h.len]
    have e : zsOf (ts ++ [(c, d)]) = zsOf ts ++ [zOf (c, d)] := by simp [zsOf]
    rw [e]
    rcases Nat.lt_or_eq_of_le (Nat.le_of_lt_succ hi) with h1 | h1
    · rw [show (zsOf ts ++ [zOf (c, d)]).getD i z0 = (zsOf ts).getD i z0 by simp [List.getD, List.getElem?_append_left, hlz, h1]]
      exact h.good i h1
    · subst h1
      rw [show (zsOf ts ++ [zOf (c, d)]).getD i z0 = zOf (c, d) by simp [List.getD, ← hlz]]
      unfold zOf
      rw [hcd.re.cn, hcd.im.cn]
  · exact (below_draws h.below nn).alloc h.below.size o |>.grown hgr (by have := h.below.size; show _ ≤ (wt.alloc o).heap.size; simp; omega) (fun b e => (hlt b e).1)

/-- What the first loop gathers: the transforms of the parts. -/
structure Parts (w wr : World) (xs : List C) (p r : Nat) (v6 : Value) (vs : List Value) (ys : Nat → List C) : Prop where
  len : vs.length = r
  row : Row wr w.heap.size 23 v6 vs
  each : ∀ i, i < r → Row wr w.heap.size 34 (vs.getD i undef) (cvals (ys i)) ∧ WfC (ys i) ∧ Fast (every (zsOf xs) i p) (zsOf (ys i))
  below : Below w.heap.size w wr

/-- The parts stay while new blocks are made. -/
theorem Parts.below' {w wr wq : World} {xs : List C} {p r : Nat} {v6 : Value} {vs : List Value} {ys : Nat → List C} (h : Parts w wr xs p r v6 vs ys) (hb : Below wr.heap.size wr wq) : Parts w wq xs p r v6 vs ys :=
  ⟨h.len, h.row.below hb (fun k hk => (h.row.lt k hk).2), fun i hi => ⟨(h.each i hi).1.below hb (fun k hk => ((h.each i hi).1.lt k hk).2), (h.each i hi).2⟩, h.below.trans (hb.mono h.below.size)⟩

/-- One part more. -/
theorem Parts.next {w w2 w3 : World} {xs : List C} {p r B2 : Nat} {v6 v6' v' : Value} {vs : List Value} {ys : Nat → List C} {y : List C} (h : Parts w w2 xs p r v6 vs ys)
    (hv : Row w2 B2 34 v' (cvals y)) (hB2 : w.heap.size ≤ B2) (hw : WfC y) (hf : Fast (every (zsOf xs) r p) (zsOf y)) (hr6 : Row w3 w.heap.size 23 v6' (vs ++ [v'])) (hg : w2.grownBy w3 v6.ownBlock) :
    Parts w w3 xs p (r + 1) v6' (vs ++ [v']) (fun i => if i = r then y else ys i) := by
  have ne : (34 : TypeId) ≠ 23 := by decide
  refine ⟨by simp [h.len], hr6, fun i hi => ?_, h.below.grown hg h.below.size (fun b e => (h.row.lt b e).1)⟩
  by_cases hir : i = r
  · subst hir
    rw [if_pos rfl, show (vs ++ [v']).getD i undef = v' by simp [List.getD, ← h.len]]
    exact ⟨(hv.base hB2).kept hg (hv.apart h.row ne), hw, hf⟩
  · rw [if_neg hir, show (vs ++ [v']).getD i undef = vs.getD i undef by simp [List.getD, List.getElem?_append_left, h.len, show i < r by omega]]
    obtain ⟨a, b⟩ := h.each i (by omega)
    exact ⟨a.kept hg (a.apart h.row ne), b⟩

/-- What has been filled of a column. -/
structure OutsQ (W wr : World) (n m p k q : Nat) (zy : Nat → List Z) (os : List C) : Prop where
  len : os.length = n
  row : Row wr W.heap.size 34 (.slice (some ⟨W.heap.size, 0, none⟩) n n) (cvals os)
  wf : WfC os
  good : ∀ i, i < n → (i % m < k ∨ i % m = k ∧ i / m < q) → (zsOf os).getD i z0 = outP n p zy (i % m) (i / m)
  below : Below W.heap.size W wr

theorem Outs.start {W wr wq : World} {n m p k : Nat} {zy : Nat → List Z} {os : List C} (h : Outs W wr n m p k zy os) (hb : Below wr.heap.size wr wq) : OutsQ W wq n m p k 0 zy os :=
  ⟨h.len, h.row.below hb (fun j hj => (h.row.lt j hj).2), h.wf, fun i hi hc => h.good i hi (hc.resolve_right (fun e => Nat.not_lt_zero _ e.2)), h.below.trans (hb.mono h.below.size)⟩

theorem OutsQ.draws {W wr : World} {n m p k q : Nat} {zy : Nat → List Z} {os : List C} (h : OutsQ W wr n m p k q zy os) (nn : Nat) : OutsQ W (wr.drewN nn) n m p k q zy os :=
  ⟨h.len, h.row.drewN nn, h.wf, h.good, below_draws h.below nn⟩

theorem OutsQ.done {W wr : World} {n m p k : Nat} {zy : Nat → List Z} {os : List C} (h : OutsQ W wr n m p k p zy os) (hn : n = p * m) (hm : 0 < m) : Outs W wr n m p (k + 1) zy os :=
  ⟨h.len, h.row, h.wf, fun i hi hc => h.good i hi (by
    have : i / m < p := Nat.div_lt_of_lt_mul (by rw [Nat.mul_comm]; omega)
    omega), h.below⟩

theorem OutsQ.next {W wr : World} {n m p k q : Nat} {zy : Nat → List Z} {os : List C} {c d : Nat} (h : OutsQ W wr n m p k q zy os) (hk : k < m) (hi : k + q * m < n) (hcd : IsC (c, d) (outP n p zy k q)) :
    OutsQ W (wr.setCell ⟨W.heap.size, k + q * m, none⟩ (.complex .f64 c d)) n m p k (q + 1) zy (os.set (k + q * m) (c, d)) := by
  have hS := h.row.set (k + q * m) (.complex .f64 c d)
  have hm : 0 < m := by omega
  have e1 : (k + q * m) % m = k := by rw [Nat.add_mul_mod_self_right, Nat.mod_eq_of_lt hk]
  have e2 : (k + q * m) / m = q := by rw [Nat.add_mul_div_right _ _ hm, Nat.div_eq_of_lt hk, Nat.zero_add]
  refine ⟨by rw [List.length_set, h.len], ?_, fun u hu => ?_, fun i hi' hc => ?_, h.below.setCell (p := ⟨W.heap.size, k + q * m, none⟩) (Nat.le_refl _) _⟩
  · have : cvals (os.set (k + q * m) (c, d)) = (cvals os).set (k + q * m) (.complex .f64 c d) := by simp [cvals, cval, List.map_set]
    rw [this]; exact hS.1
  · rcases List.mem_or_eq_of_mem_set hu with h1 | rfl
    · exact h.wf u h1
    · exact ⟨hcd.re.lt, hcd.im.lt⟩
  · have ez : zsOf (os.set (k + q * m) (c, d)) = (zsOf os).set (k + q * m) (zOf (c, d)) := by simp [zsOf, List.map_set]
    rw [ez]
    by_cases he : k + q * m = i
    · subst he
      rw [e1, e2]
      rw [show ((zsOf os).set (k + q * m) (zOf (c, d))).getD (k + q * m) z0 = zOf (c, d) by simp [List.getD, zsOf_length, h.len, hi]]
      unfold zOf
      rw [hcd.re.cn, hcd.im.cn]
    · rw [show ((zsOf os).set (k + q * m) (zOf (c, d))).getD i z0 = (zsOf os).getD i z0 by simp [List.getD, he]]
      refine h.good i hi' ?_
      rcases hc with h1 | ⟨h1, h2⟩
      · exact .inl h1
      · refine .inr ⟨h1, ?_⟩
        have : i / m ≠ q := fun e => he (by rw [← e, ← h1, Nat.mul_comm]; exact Nat.mod_add_div i m)
        omega

/-- The row of the terms stays while a number of the result is written. -/
theorem Row.far {w : World} {B g j : Nat} {e : TypeId} {v u : Value} {cs : List Value} (h : Row w B e v cs) (hg : g < B) : Row (w.setCell ⟨g, j, none⟩ u) B e v cs := by
  refine ⟨h.1, ?_⟩
  · rcases h.2 with hn | ⟨g', cap, cur, rfl, hb, hc, r⟩
    · exact .inl hn
    · refine .inr ⟨g', cap, cur, rfl, hb, ?_, r⟩
      rw [Below.heap_setCell _ _ _ _ (by show g' ≠ g; omega)]
      exact hc

theorem one_single (a b : Nat) : ∀ u ∈ [Value.complex .f64 a b], u.oneCell' = true := by intro u hu; simp at hu; subst hu; rfl

set_option maxRecDepth 100000 in
set_option maxHeartbeats 16000000 in
theorem fast_step (N : Nat) (ih : FastOK N) (xs : List C) (v : Value) (B : Nat) (w : World) (hN : xs.length < N + 1) (h1 : 1 < xs.length) (h2 : xs.length ≤ 1024) (hw : WfC xs) (h : Row w B 34 v (cvals xs)) :
    Calls Try.prog 15 #[v] w (FastR xs w) := by
  obtain ⟨i0, hi, hz0, hz1, hz2⟩ := info_parts info_c128
  obtain ⟨j0, hj, hy0, hy1, hy2⟩ := info_parts info_rows
  have h' := h
  have hlen : (cvals xs).length = xs.length := cvals_length xs
  have HW := Lib.hid hw
  clear hw
  rcases h.2 with ⟨rfl, hn⟩ | ⟨g, cap, cur, rfl, hb, hg, hnc, hcm, _⟩
  · omega
  · obtain ⟨n, hL⟩ : ∃ n, xs.length = n := ⟨_, rfl⟩
    have hgl : g < w.heap.size := (Array.getElem?_eq_some_iff.1 hg).1
    have HV : Hid (∀ j, j < n → w.cell? ⟨g, j, none⟩ = some (.complex .f64 (xs.getD j (0, 0)).1 (xs.getD j (0, 0)).2)) := fun j hj => by
      rw [h'.cellAt (by rw [hlen, hL]; exact hj), cvals_getD (by omega)]
    have HX := Lib.hid hL
    have HIH := Lib.hid ih
    rw [hlen, hL]
    rw [hL] at h1 h2 hN
    clear h h' hlen hg hb hnc hcm hL ih
    go_enter Try.func15, Try.ntmps15
    go_wp2_with fail
    refine (least_spec n h1 h2 w).mono ?_
    rintro e w' ⟨p, rfl, hp, rfl⟩
    have hp2 := hp.two
    have hpn := hp.le h1
    obtain ⟨m, hm⟩ : ∃ m, n / p = m := ⟨_, rfl⟩
    have hpm : n = p * m := by rw [← hm, Nat.mul_comm]; exact (Nat.div_mul_cancel (Nat.dvd_of_mod_eq_zero hp.dvd)).symm
    have hm1 : 1 ≤ m := by rw [← hm]; exact (Nat.le_div_iff_mul_le (by omega)).2 (by omega)
    have hmn : m < n := by
      have : 2 * m ≤ p * m := Nat.mul_le_mul_right _ hp2
      omega
    have q1 : (n : Int) / (p : Int) = (m : Int) := by rw [← hm]; rfl
    have q2 : (n : Int).tdiv (p : Int) = (m : Int) := by rw [← hm]; rfl
    have HM := Lib.hid hm
    have HPM := Lib.hid hpm
    have HP := Lib.hid hp
    clear hm hpm hp
    go_wp2
    go_loopw [6, 7] (fun v6 i wr => ∃ (r : Nat) (vs : List Value) (ys : Nat → List C), i = .int .i64 r ∧ r ≤ p ∧ Parts w' wr xs p r v6 vs ys) (fun _ i _ => p - (intOf i).toNat)
    case atStart => exact ⟨0, [], fun _ => [], rfl, Nat.zero_le _, ⟨rfl, World.ownsRow_lit w' #[] 0 (Nat.le_refl _) (by unfold maxLen; omega) rfl, fun i hi => by omega, (Below.refl _ _).alloc (Nat.le_refl _) _⟩⟩
    case round =>
      obtain ⟨r, vs, ys, rfl, hr, hP⟩ := hrel
      have HPt := Lib.hid hP
      clear hP
      obtain ⟨wo, rfl⟩ : ∃ x, x = wr := ⟨_, rfl⟩
      by_cases hrp : r < p
      · go_wp2
        go_loopw [8, 9] (fun v8 i wq => ∃ (t J : Nat), i = .int .i64 J ∧ J = r + t * p ∧ t ≤ m ∧ J ≤ n + p ∧ Row wq wo.heap.size 34 v8 (cvals (partN xs r p t)) ∧ Below wo.heap.size wo wq) (fun _ i _ => n - (intOf i).toNat)
        case atStart => exact ⟨0, r, rfl, by omega, Nat.zero_le _, by omega, World.ownsRow_lit wo #[] 0 (Nat.le_refl _) (by unfold maxLen; omega) rfl, (Below.refl _ _).alloc (Nat.le_refl _) _⟩
        case round =>
          obtain ⟨t, J, rfl, hJ, ht, hJn, hrw, hbw⟩ := hrel
          have HJ := Lib.hid hJ
          have HRW := Lib.hid hrw
          have HBW := Lib.hid hbw
          clear hJ hrw hbw
          by_cases hJl : J < n
          · have hgo : g < wo.heap.size := Nat.lt_of_lt_of_le hgl HPt.out.below.size
            have c1 : wr.cell? ⟨g, J, none⟩ = some (.complex .f64 (xs.getD J (0, 0)).1 (xs.getD J (0, 0)).2) := by
              rw [HBW.out.cell hgo, HPt.out.below.cell hgl]
              exact HV.out J hJl
            have htm : t < m := by
              apply Nat.lt_of_not_le
              intro hc
              have : m * p ≤ t * p := Nat.mul_le_mul_right _ hc
              have e1 := HJ.out
              have e2 := HPM.out
              rw [Nat.mul_comm m p] at this
              omega
            have hJ2 : J + p = r + (t + 1) * p := by rw [Nat.add_mul, Nat.one_mul, HJ.out]; omega
            have hps := partN_succ xs r p t
            rw [← HJ.out] at hps
            obtain ⟨⟨a, b⟩, hab⟩ : ∃ q, xs.getD J (0, 0) = q := ⟨_, rfl⟩
            rw [hab] at c1 hps
            have hl8 : (cvals (partN xs r p t)).length = t := by rw [cvals_length, partN_length]
            have HS := Lib.hid hps
            have HJ2 := Lib.hid hJ2
            have HL8 := Lib.hid hl8
            clear hab hps hJ2 hl8
            go_wp2_with (at_builtin; refine wpList_append_own _ rfl _ _ 23 rfl wo.heap.size 34 i0 (.complex .f64 0 0) 1 16 Try.underlying23 hi hz0 hz1 hz2 rfl (by decide) _ _ _ rfl (HRW.out.alloc _) ⟨_, 0, none⟩ 1 1 [.complex .f64 a b] rfl rfl (cell_one_new _ _ _) (by intro u hu; simp at hu; subst hu; rfl) (by rw [HL8.out]; simp only [maxLen]; omega) (by rw [HL8.out]; omega) (by have := HBW.out.size; simp; omega) ?_)
            intro v' w1 hown' hgrow _
            have hlt' := (HRW.out.alloc (.cells #[.complex .f64 a b] 34)).lt
            have HB' : Hid (Below wo.heap.size wo w1) := (HBW.out.alloc HBW.out.size _).grown hgrow (by have := HBW.out.size; simp; omega) (fun b e => (hlt' b e).1)
            have HO' : Hid (Row w1 wo.heap.size 34 v' (cvals (partN xs r p (t + 1)))) := by
              show w1.ownsRow _ _ _ _ _ _
              rw [HS.out, cvals_snoc, List.length_append]
              exact hown'
            clear hown' hgrow hlt' HRW HBW HS HL8
            go_wp2
            go_roundw
            case rel => first | exact ⟨t + 1, J + p, by go_num, HJ2.out, by omega, by omega, HO'.out, HB'.out⟩ | ((repeat apply Exists.intro); refine ⟨?_, rfl⟩; exact ⟨t + 1, J + p, by go_num, HJ2.out, by omega, by omega, HO'.out, HB'.out⟩)
            case measure => simp [intOf]; omega
          · have htm : t = m := by
              have e1 := HJ.out
              have e2 := HPM.out
              apply Nat.le_antisymm ht
              apply Nat.le_of_not_lt
              intro hc
              have : (t + 1) * p ≤ m * p := Nat.mul_le_mul_right _ hc
              rw [Nat.add_mul, Nat.one_mul, Nat.mul_comm m p] at this
              omega
            subst htm
            have hrow := HRW.out
            have hwf := partN_wf HW.out (by rw [HX.out]; exact HPM.out) hrp (Nat.le_refl t)
            have REC := fun v w => HIH.out (partN xs r p t) v wo.heap.size w (by rw [partN_length]; omega) (by rw [partN_length]; omega) hwf
            have HREC := Lib.hid REC
            have hev : zsOf (partN xs r p t) = every (zsOf xs) r p := part_every (by omega) (by rw [HX.out]; exact HPM.out) hrp
            have HEV := Lib.hid hev
            clear hrow hwf REC hev
            go_wp2_with fail
            refine (HREC.out _ _ HRW.out).mono ?_
            rintro e w2 ⟨v', y, rfl, hvr, hyw, hyf, hyb⟩
            rw [HEV.out] at hyf
            have hyl : y.length = t := by
              have e1 := hyf.length
              rwa [zsOf_length, every_length (m := t) (by omega) (by rw [zsOf_length, HX.out]; exact HPM.out) hrp] at e1
            obtain ⟨g', cap', rfl, -, -, -⟩ := hvr.get hyl (by omega)
            have HP2 := Lib.hid ((HPt.out.below' HBW.out).below' hyb)
            have HVR := Lib.hid hvr
            have HYW := Lib.hid hyw
            have HYF := Lib.hid hyf
            have hsz : w'.heap.size ≤ wr.heap.size := Nat.le_trans HPt.out.below.size HBW.out.size
            have hr6 := HP2.out.row
            have hl6 := HP2.out.len
            have HR6 := Lib.hid hr6
            have HL6 := Lib.hid hl6
            have hsz2 := HP2.out.below.size
            clear hvr hyw hyf hyb hr6 hl6 HREC HRW HBW
            go_wp2_with (at_builtin; refine wpList_append_own _ rfl _ _ 44 rfl w'.heap.size 23 j0 (.slice none 0 0) 1 24 Try.underlying44 hj hy0 hy1 hy2 rfl (by decide) _ _ _ rfl (HR6.out.alloc _) ⟨_, 0, none⟩ 1 1 [.slice (some ⟨g', 0, none⟩) t cap'] rfl rfl (cell_one_new _ _ _) (by intro u hu; simp at hu; subst hu; rfl) (by rw [HL6.out]; simp only [maxLen]; omega) (by rw [HL6.out]; omega) (by simp; omega) ?_)
            intro v6' w3 hown' hgrow _
            have hP3 := (HP2.out.below' ((Below.refl _ _).alloc (Nat.le_refl _) (.cells #[.slice (some ⟨g', 0, none⟩) t cap'] 23))).next (HVR.out.alloc _) hsz HYW.out HYF.out (by
              show w3.ownsRow _ _ _ _ _ _
              rw [List.length_append]
              exact hown') hgrow
            have HP3 := Lib.hid hP3
            clear hown' hgrow hP3 HP2 HVR HR6 HL6 HPt
            go_wp2
            go_roundw
            case rel => first | exact ⟨r + 1, _, _, by go_num, by omega, HP3.out⟩ | ((repeat apply Exists.intro); refine ⟨?_, rfl⟩; exact ⟨r + 1, _, _, by go_num, by omega, HP3.out⟩)
            case measure => simp [intOf]; omega
      · have hrp' : r = p := by omega
        subst hrp'
        have hlen : ∀ i, i < r → (ys i).length = m := fun i hi => by
          have e1 := (HPt.out.each i hi).2.2.length
          rw [zsOf_length, every_length (m := m) (by omega) (by rw [zsOf_length, HX.out]; exact HPM.out) hi] at e1
          exact e1
        have HLN := Lib.hid hlen
        have hfst : Fast (zsOf xs) (joinP n r (fun i => zsOf (ys i))) := by
          have := Fast.step (xs := zsOf xs) (p := r) (ys := fun i => zsOf (ys i)) (by rw [zsOf_length, HX.out]; exact h1) (by rw [zsOf_length, HX.out]; exact HP.out) (fun i hi => (HPt.out.each i hi).2.2)
          rwa [zsOf_length, HX.out] at this
        have HFS := Lib.hid hfst
        obtain ⟨g6, cap6, rfl, hc6, hg6, hcell6⟩ := HPt.out.row.getV HPt.out.len (by omega)
        have HC6 := Lib.hid hcell6
        have hpart : ∀ i, i < r → ∃ gi ci, vs.getD i undef = .slice (some ⟨gi, 0, none⟩) m ci ∧ m ≤ ci ∧ gi < wo.heap.size ∧ ∀ j, j < m → wo.cell? ⟨gi, j, none⟩ = some (.complex .f64 ((ys i).getD j (0, 0)).1 ((ys i).getD j (0, 0)).2) := fun i hi => (HPt.out.each i hi).1.get (hlen i hi) (by omega)
        have HPA := Lib.hid hpart
        clear hlen hfst hcell6 hpart
        go_wp2_with (at_make; refine wpList_make_full _ rfl _ _ 23 rfl wo.heap.size 34 i0 (.complex .f64 0 0) 1 Try.underlying23 hi hz0 hz1 .i64 .i64 _ _ n rfl rfl rfl rfl (by rw [hz2]; omega) (by simp only [maxLen]; omega) (Nat.le_refl _) ?_)
        intro w1 hown hg1
        rw [toList_madeCells_one] at hown
        have hO : Outs wo w1 n m r 0 (fun i => zsOf (ys i)) (List.replicate n (0, 0)) := by
          refine ⟨by simp, ?_, fun q hq => ?_, fun i hi hk => by omega, (Below.refl _ _).grown hg1 (Nat.le_refl _) (fun b e => by cases e)⟩
          · show w1.ownsRow _ _ _ _ _ _
            simpa [cvals, cval] using hown
          · rw [List.eq_of_mem_replicate hq]; exact ⟨by omega, by omega⟩
        have HO := Lib.hid hO
        clear hO hown hg1
        go_wp2
        go_loopw [11] (fun i wr => ∃ (k : Nat) (os : List C), i = .int .i64 k ∧ k ≤ m ∧ Outs wo wr n m r k (fun i => zsOf (ys i)) os) (fun i _ => m - (intOf i).toNat)
        case atStart => exact ⟨0, _, rfl, Nat.zero_le _, HO.out⟩
        case round =>
          obtain ⟨k, os, rfl, hk, hO2⟩ := hrel
          have HOs := Lib.hid hO2
          clear hO2
          obtain ⟨wk, rfl⟩ : ∃ x, x = wr := ⟨_, rfl⟩
          by_cases hkm : k < m
          · obtain ⟨gi, ci, hv0, hci, hgi, hcl⟩ := HPA.out 0 (by omega)
            have d6 : wk.cell? ⟨g6, 0, none⟩ = some (.slice (some ⟨gi, 0, none⟩) m ci) := by rw [HOs.out.below.cell hg6, HC6.out 0 (by omega), hv0]
            have d7 : wk.cell? ⟨gi, k, none⟩ = some (.complex .f64 ((ys 0).getD k (0, 0)).1 ((ys 0).getD k (0, 0)).2) := by rw [HOs.out.below.cell hgi, hcl k hkm]
            obtain ⟨⟨ya, yb⟩, hyab⟩ : ∃ q, (ys 0).getD k (0, 0) = q := ⟨_, rfl⟩
            rw [hyab] at d7
            have HYAB := Lib.hid hyab
            clear hv0 hcl hyab
            have hyw := getD_memC (xs := ys 0) (j := k) (by rw [HLN.out 0 (by omega)]; exact hkm)
            rw [HYAB.out] at hyw
            have hyw := (HPt.out.each 0 (by omega)).2.1 _ hyw
            have HYW := Lib.hid hyw
            have hT : ∀ w1, Row w1 wk.heap.size 34 (.slice (some ⟨wk.heap.size, 0, none⟩) 1 1) (cvals [(ya, yb)]) → Below wk.heap.size wk w1 → Terms wk w1 n k 1 (fun i => zsOf (ys i)) (.slice (some ⟨wk.heap.size, 0, none⟩) 1 1) [(ya, yb)] := fun w1 h1 h2 => ⟨rfl, h1, fun q hq => by rw [List.mem_singleton.1 hq]; exact HYW.out, fun i hi => by
              obtain rfl : i = 0 := by omega
              show zOf (ya, yb) = term n _ k 0
              unfold term
              rw [if_pos rfl, zsOf_getD (by rw [HLN.out 0 (by omega)]; exact hkm), HYAB.out], h2⟩
            have HT := Lib.hid hT
            clear hyw hT
            go_wp2
            go_loopw [12, 13] (fun v12 i wq => ∃ (s : Nat) (ts : List C), i = .int .i64 s ∧ 1 ≤ s ∧ s ≤ r ∧ Terms wk wq n k s (fun i => zsOf (ys i)) v12 ts) (fun _ i _ => r - (intOf i).toNat)
            case atStart => exact ⟨1, _, rfl, Nat.le_refl _, by omega, HT.out _ (World.ownsRow_lit wk #[.complex .f64 ya yb] 1 (Nat.le_refl _) (by unfold maxLen; omega) rfl) ((Below.refl _ _).alloc (Nat.le_refl _) _)⟩
            case round =>
              obtain ⟨s, ts, rfl, hs1, hs, hTs⟩ := hrel
              have HTs := Lib.hid hTs
              clear hTs
              obtain ⟨wt, rfl⟩ : ∃ x, x = wr := ⟨_, rfl⟩
              by_cases hsr : s < r
              · have hbt : Below wo.heap.size wo wt := HOs.out.below.trans (HTs.out.below.mono HOs.out.below.size)
                obtain ⟨gs, cs, hvs, hcs, hgs, hcls⟩ := HPA.out s hsr
                have e6 : wt.cell? ⟨g6, s, none⟩ = some (.slice (some ⟨gs, 0, none⟩) m cs) := by rw [hbt.cell hg6, HC6.out s hsr, hvs]
                have e7 : wt.cell? ⟨gs, k, none⟩ = some (.complex .f64 ((ys s).getD k (0, 0)).1 ((ys s).getD k (0, 0)).2) := by rw [hbt.cell hgs, hcls k hkm]
                obtain ⟨⟨yc, yd⟩, hycd⟩ : ∃ q, (ys s).getD k (0, 0) = q := ⟨_, rfl⟩
                rw [hycd] at e7
                have hyw2 := getD_memC (xs := ys s) (j := k) (by rw [HLN.out s hsr]; exact hkm)
                rw [hycd] at hyw2
                have hyw2 := (HPt.out.each s hsr).2.1 _ hyw2
                obtain ⟨Sk, hSk⟩ : ∃ Sk, s * k = Sk := ⟨_, rfl⟩
                have hSk2 : Sk ≤ 1048576 := by rw [← hSk]; exact Nat.le_trans (Nat.mul_le_mul (by omega : s ≤ 1024) (by omega : k ≤ 1024)) (by decide)
                have eM : -(s : Int) * (k : Int) = -(Sk : Int) := by rw [← hSk]; simp [Int.neg_mul]
                have eW : IntKind.i64.wrap (IntKind.i64.wrap (-(s : Int)) * (k : Int)) = -(Sk : Int) := by
                  have a1 : IntKind.i64.wrap (-(s : Int)) = -(s : Int) := by rw [IntKind.wrap_i64]; omega
                  rw [a1, eM, IntKind.wrap_i64]; omega
                have hrest := rest_spec n Sk (by omega) (by omega) (by omega)
                have hrl : rst n Sk ≤ n := by unfold rst; exact Nat.le_of_lt (Nat.mod_lt _ (by omega))
                have hturn := turn_spec4 n (rst n Sk) (by omega) (by omega) hrl
                have hmul := fun a b h2 w => mul_spec yc yd a b _ (turn n (rst n Sk)) (isC_zOf hyw2) h2 w
                have hrow := HTs.out.row
                have hll : (cvals ts).length = s := by rw [cvals_length, HTs.out.len]
                have HROW := Lib.hid hrow
                have HLL := Lib.hid hll
                have HYCD := Lib.hid hycd
                have HSK := Lib.hid hSk
                have HROW2 : Hid (∀ (n : Nat) (o : Obj), ((wt.drewN n).alloc o).ownsRow wk.heap.size 34 1 u12 s (cvals ts)) := fun n o => by
                  have := (HROW.out.drewN n).alloc o
                  unfold Row at this
                  rwa [HLL.out] at this
                have hs63 : s + 1 ≤ maxLen := by simp only [maxLen]; omega
                have hsby : (s + 1) * 16 ≤ 140737488355328 := by omega
                have hsba : ∀ (n : Nat) (o : Obj), wk.heap.size ≤ ((wt.drewN n).alloc o).heap.size := fun n o => by
                  have := HTs.out.below.size
                  show _ ≤ (wt.alloc o).heap.size
                  simp; omega
                clear hbt hvs hcls hycd hyw2 hSk hrow hll hrl
                go_upto_block 7 with fail
                have hterm : term n (fun i => zsOf (ys i)) k s = mulZ (zOf (yc, yd)) (turn n (rst n Sk)) := by
                  unfold term twid
                  rw [if_neg (by omega), zsOf_getD (by rw [HLN.out s hsr]; exact hkm), HYCD.out, HSK.out]
                have HTM := Lib.hid hterm
                clear hterm
                go_cut [12] from 74 to 92 (fun v wx => ∃ ts', Terms wk wx n k (s + 1) (fun i => zsOf (ys i)) v ts')
                case first =>
                  go_wp2_with fail
                  go_region_law (first
                    | (go_simp; go_at_call 27; refine (hrest _).mono ?_; rintro e w' ⟨rfl, rfl⟩)
                    | (go_simp; go_at_call 26; refine (hturn _).mono ?_; rintro e w' ⟨a, b, rfl, ha, hb, n1, rfl⟩; have HA := Lib.hid ha; have HB := Lib.hid hb; clear ha hb)
                    | (go_simp; go_at_call 25; refine (hmul a b ⟨HA.out, HB.out⟩ _).mono ?_; rintro e w' ⟨c, d, rfl, hc, hd, n2, rfl⟩; have HC := Lib.hid hc; have HD := Lib.hid hd; clear hc hd)
                    | (refine step_append_lies _ rfl (.tmp 74) (.tmp 91) 23 rfl wk.heap.size 34 i0 (.complex .f64 0 0) 1 16 Try.underlying23 hi hz0 hz1 hz2 rfl (by decide) u12 s (cvals ts) rfl (HROW2.out _ _) ⟨wt.heap.size, 0, none⟩ 1 1 [.complex .f64 c d] rfl rfl (cell_one_new _ _ _) (one_single _ _) (by decide) hs63 hsby (hsba _ _) _ rfl ?_; intro g' cap' w2 hown hgrow hor hlt2; have HOW := Lib.hid hown; have HGR := Lib.hid hgrow; clear hown hgrow hor hlt2)
                    | (trace "no arm fits"; sorry))
                  all_goals
                    have hnx := HTs.out.next HOW.out HGR.out (by rw [HTM.out]; exact ⟨HC.out, HD.out⟩)
                    have HNX := Lib.hid hnx
                    clear hnx HOW HGR
                    go_wp2_with fail
                    go_meet
                    exact ⟨_, HNX.out⟩
                case rest =>
                  obtain ⟨ts', hT⟩ := hcut
                  have HT2 := Lib.hid hT
                  clear hT HTs HROW HROW2 HLL hmul hturn hrest e6 e7
                  go_wp2
                  go_roundw
                  case rel => first | exact ⟨s + 1, ts', by go_num, by omega, by omega, HT2.out⟩ | ((repeat apply Exists.intro); refine ⟨?_, rfl⟩; exact ⟨s + 1, ts', by go_num, by omega, by omega, HT2.out⟩)
                  case measure => simp [intOf]; omega
              · have e : s = r := by omega
                subst e
                have hwo : wo.heap.size < wk.heap.size := (HOs.out.row.lt _ rfl).2
                have hO3 : OutsQ wo wt n m s k 0 (fun i => zsOf (ys i)) os := HOs.out.start HTs.out.below
                have hterm : ∀ i, i < s → IsC (ts.getD i (0, 0)) (term n (fun i => zsOf (ys i)) k i) := fun i hi => by
                  have h1 := HTs.out.good i hi
                  rw [zsOf_getD (by rw [HTs.out.len]; exact hi)] at h1
                  rw [← h1]
                  exact isC_zOf (HTs.out.wf _ (getD_memC (by rw [HTs.out.len]; exact hi)))
                obtain ⟨gt, ct, rfl, hct, hgt, -⟩ := HTs.out.row.get HTs.out.len (by omega)
                have hgo : wk.heap.size ≤ gt := (HTs.out.row.lt _ rfl).1
                have hrt : ∀ w, Row w wk.heap.size 34 (.slice (some ⟨gt, 0, none⟩) s ct) (cvals ts) → ∀ j, j < s → w.cell? ⟨gt, j, none⟩ = some (.complex .f64 (ts.getD j (0, 0)).1 (ts.getD j (0, 0)).2) := fun w h j hj => by
                  rw [h.cellAt hj, cvals_getD (by rw [HTs.out.len]; exact hj)]
                have HRT := Lib.hid hrt
                have HTE := Lib.hid hterm
                have HO3 := Lib.hid hO3
                have HTR := Lib.hid HTs.out.row
                have HTL := Lib.hid HTs.out.len
                clear hO3 hterm hrt HTs
                by_cases hp2 : s = 2
                · subst hp2
                  have hkn2 : k + m < n := by have := HPM.out; omega
                  have c0 := HRT.out wt HTR.out 0 (by omega)
                  have c1 := HRT.out wt HTR.out 1 (by omega)
                  have t0 := HTE.out 0 (by omega)
                  have t1 := HTE.out 1 (by omega)
                  obtain ⟨⟨a0, b0⟩, h0⟩ : ∃ u, ts.getD 0 (0, 0) = u := ⟨_, rfl⟩
                  obtain ⟨⟨a1, b1⟩, h1⟩ : ∃ u, ts.getD 1 (0, 0) = u := ⟨_, rfl⟩
                  rw [h0] at c0 t0
                  rw [h1] at c1 t1
                  have HT0 := Lib.hid t0
                  have HT1 := Lib.hid t1
                  have hok := HO3.out.row.cellAt (j := k) (by omega)
                  have hfk := HO3.out.row.frozenAt k
                  obtain ⟨u0, hu0⟩ : ∃ u, (cvals os).getD k undef = u := ⟨_, rfl⟩
                  rw [hu0] at hok
                  clear t0 t1 h0 h1 hu0
                  have HE0 : Hid (outP n 2 (fun i => zsOf (ys i)) k 0 = addZ (term n (fun i => zsOf (ys i)) k 0) (term n (fun i => zsOf (ys i)) k 1)) := rfl
                  have HE1 : Hid (outP n 2 (fun i => zsOf (ys i)) k 1 = subZ (term n (fun i => zsOf (ys i)) k 0) (term n (fun i => zsOf (ys i)) k 1)) := rfl
                  go_upto_region 26 with fail
                  go_cut [] from 95 to 104 (fun wx => ∃ os', OutsQ wo wx n m 2 k 1 (fun i => zsOf (ys i)) os' ∧ Row wx wk.heap.size 34 (.slice (some ⟨gt, 0, none⟩) 2 ct) (cvals ts))
                  case first =>
                    go_region
                    all_goals
                      go_wp2_with fail
                      go_meet
                      have hx := (HO3.out.draws (1 + (fcnt .add .f64 a0 a1 + fcnt .add .f64 b0 b1))).next (c := fres .add .f64 a0 a1 wt.drew) (d := fres .add .f64 b0 b1 (wt.drewN (1 + fcnt .add .f64 a0 a1))) hkm (by rw [Nat.zero_mul]; omega) (by rw [HE0.out]; exact ⟨isF_fres HT0.out.re HT1.out.re _, isF_fres HT0.out.im HT1.out.im _⟩)
                      rw [Nat.zero_mul, Nat.add_zero] at hx
                      exact ⟨_, hx, (HTR.out.drewN _).far hwo⟩
                  case rest =>
                    obtain ⟨os1, hO4, hTR4⟩ := hcut
                    have d0 := HRT.out wc hTR4 0 (by omega)
                    have d1 := HRT.out wc hTR4 1 (by omega)
                    obtain ⟨⟨e0, f0⟩, h0⟩ : ∃ u, ts.getD 0 (0, 0) = u := ⟨_, rfl⟩
                    obtain ⟨⟨e1, f1⟩, h1⟩ : ∃ u, ts.getD 1 (0, 0) = u := ⟨_, rfl⟩
                    have t0 := HTE.out 0 (by omega)
                    have t1 := HTE.out 1 (by omega)
                    rw [h0] at d0 t0
                    rw [h1] at d1 t1
                    have HU0 := Lib.hid t0
                    have HU1 := Lib.hid t1
                    have hok2 := hO4.row.cellAt (j := k + m) (by omega)
                    have hfk2 := hO4.row.frozenAt (k + m)
                    obtain ⟨u1, hu1⟩ : ∃ u, (cvals os1).getD (k + m) undef = u := ⟨_, rfl⟩
                    rw [hu1] at hok2
                    have HNX : Hid (∀ (nn p q : Nat), IsC (p, q) (subZ (term n (fun i => zsOf (ys i)) k 0) (term n (fun i => zsOf (ys i)) k 1)) → ∃ os', Outs wo ((wc.drewN nn).setCell ⟨wo.heap.size, k + m, none⟩ (.complex .f64 p q)) n m 2 (k + 1) (fun i => zsOf (ys i)) os') := fun nn p q h => by
                      have hx := (hO4.draws nn).next hkm (by rw [Nat.one_mul]; omega) (show IsC (p, q) (outP n 2 (fun i => zsOf (ys i)) k 1) from h)
                      rw [Nat.one_mul] at hx
                      exact ⟨_, hx.done HPM.out (by omega)⟩
                    clear hO4 hTR4 t0 t1 h0 h1 hu1 c0 c1 hok hfk HT0 HT1 HO3 HTR HRT HTE
                    go_wp2_with fail
                    go_region
                    all_goals
                      go_wp2
                      go_roundw
                      case rel =>
                        obtain ⟨os', ho⟩ := HNX.out _ _ _ ⟨isF_fres HU0.out.re HU1.out.re _, isF_fres HU0.out.im HU1.out.im _⟩
                        first
                          | exact ⟨k + 1, os', by go_num, by omega, ho⟩
                          | ((repeat apply Exists.intro); refine ⟨?_, rfl⟩; exact ⟨k + 1, os', by go_num, by omega, ho⟩)
                      case measure => simp [intOf]; omega
                · have hp2' : ((s : Int) == 2) = false := by simp; omega
                  have HE : Hid (∀ q, outP n s (fun i => zsOf (ys i)) k q = sumT (term n (fun i => zsOf (ys i)) k) s q s) := fun q => by unfold outP; rw [if_neg hp2]
                  have HQS : Hid (∀ q, q < s → k + q * m < n) := fun q hq => by
                    have h1 : (q + 1) * m ≤ s * m := Nat.mul_le_mul_right _ hq
                    rw [Nat.add_mul, Nat.one_mul] at h1
                    have h2 := HPM.out
                    omega
                  go_wp2
                  go_loopw [14] (fun i wr => ∃ (q : Nat) (os' : List C), i = .int .i64 q ∧ q ≤ s ∧ OutsQ wo wr n m s k q (fun i => zsOf (ys i)) os' ∧ Row wr wk.heap.size 34 (.slice (some ⟨gt, 0, none⟩) s ct) (cvals ts)) (fun i _ => s - (intOf i).toNat)
                  case atStart => exact ⟨0, os, rfl, Nat.zero_le _, HO3.out, HTR.out⟩
                  case round =>
                    obtain ⟨q, os', rfl, hq, hOq, hTq⟩ := hrel
                    have HOq := Lib.hid hOq
                    have HTq := Lib.hid hTq
                    clear hOq hTq
                    obtain ⟨wq, rfl⟩ : ∃ x, x = wr := ⟨_, rfl⟩
                    by_cases hqs : q < s
                    · have c0 := HRT.out wq HTq.out 0 (by omega)
                      have t0 := HTE.out 0 (by omega)
                      obtain ⟨⟨a0, b0⟩, h0⟩ : ∃ u, ts.getD 0 (0, 0) = u := ⟨_, rfl⟩
                      rw [h0] at c0 t0
                      have HT0 := Lib.hid t0
                      obtain ⟨P, hP⟩ : ∃ P, k + q * m = P := ⟨_, rfl⟩
                      have hPn : P < n := by rw [← hP]; exact HQS.out q hqs
                      have hPI : (k : Int) + (q : Int) * (m : Int) = (P : Int) := by rw [← hP]; simp
                      have HPP := Lib.hid hP
                      clear t0 h0 hP
                      go_wp2
                      go_loopw [15, 16] (fun v i wr => ∃ (j a b nn : Nat), i = .int .i64 j ∧ v = .complex .f64 a b ∧ 1 ≤ j ∧ j ≤ s ∧ IsC (a, b) (sumT (term n (fun i => zsOf (ys i)) k) s q j) ∧ wr = wq.drewN nn) (fun _ i _ => s - (intOf i).toNat)
                      case atStart => exact ⟨1, a0, b0, 0, rfl, rfl, Nat.le_refl _, by omega, HT0.out, rfl⟩
                      case round =>
                        obtain ⟨j, a, b, nn, rfl, rfl, hj1, hj2, hsm, hw⟩ := hrel
                        have HW := Lib.hid hw
                        have HSM := Lib.hid hsm
                        clear hw hsm
                        by_cases hjs : j < s
                        · have cj : wr.cell? ⟨gt, j, none⟩ = some (.complex .f64 (ts.getD j (0, 0)).1 (ts.getD j (0, 0)).2) := by rw [HW.out]; exact HRT.out wq HTq.out j hjs
                          have tj := HTE.out j hjs
                          obtain ⟨⟨c, d⟩, h1⟩ : ∃ u, ts.getD j (0, 0) = u := ⟨_, rfl⟩
                          rw [h1] at cj tj
                          obtain ⟨J, hJ⟩ : ∃ J, j * q = J := ⟨_, rfl⟩
                          have hJ2 : J ≤ 1048576 := by rw [← hJ]; exact Nat.le_trans (Nat.mul_le_mul (by omega : j ≤ 1024) (by omega : q ≤ 1024)) (by decide)
                          have eM : -(j : Int) * (q : Int) = -(J : Int) := by rw [← hJ]; simp [Int.neg_mul]
                          have eW : IntKind.i64.wrap (IntKind.i64.wrap (-(j : Int)) * (q : Int)) = -(J : Int) := by
                            have a1 : IntKind.i64.wrap (-(j : Int)) = -(j : Int) := by rw [IntKind.wrap_i64]; omega
                            rw [a1, eM, IntKind.wrap_i64]; omega
                          have hrest := rest_spec s J (by omega) (by omega) (by omega)
                          have hrl : rst s J ≤ s := by unfold rst; exact Nat.le_of_lt (Nat.mod_lt _ (by omega))
                          have hturn := turn_spec4 s (rst s J) (by omega) (by omega) hrl
                          have hmul := fun a b h2 w => mul_spec c d a b _ (turn s (rst s J)) tj h2 w
                          have hnext : ∀ a' b' e f : Nat, IsC (e, f) (mulZ (term n (fun i => zsOf (ys i)) k j) (turn s (rst s J))) → IsF a' (fop .add .f64 (sumT (term n (fun i => zsOf (ys i)) k) s q j).1 (mulZ (term n (fun i => zsOf (ys i)) k j) (turn s (rst s J))).1) → IsF b' (fop .add .f64 (sumT (term n (fun i => zsOf (ys i)) k) s q j).2 (mulZ (term n (fun i => zsOf (ys i)) k j) (turn s (rst s J))).2) → IsC (a', b') (sumT (term n (fun i => zsOf (ys i)) k) s q (j + 1)) := fun a' b' e f _ h1 h2 => by
                            rw [sumT, if_neg (by omega)]
                            unfold addZ twid
                            rw [hJ]
                            exact ⟨h1, h2⟩
                          have HNX := Lib.hid hnext
                          have HJ := Lib.hid hJ
                          clear h1 tj hJ hrl hnext
                          go_upto_block 11 with fail
                          go_cut [15] from 130 to 144 (fun v wx => ∃ a' b' nn', v = .complex .f64 a' b' ∧ IsC (a', b') (sumT (term n (fun i => zsOf (ys i)) k) s q (j + 1)) ∧ wx = wq.drewN nn')
                          case first =>
                            go_wp2_with fail
                            go_region_with (first
                              | (go_at_call 27; refine (hrest _).mono ?_; rintro e w' ⟨rfl, rfl⟩)
                              | (go_at_call 26; refine (hturn _).mono ?_; rintro e w' ⟨a5, b5, rfl, ha, hb, n1, rfl⟩; have HA := Lib.hid ha; have HB := Lib.hid hb; clear ha hb)
                              | (go_at_call 25; refine (hmul a5 b5 ⟨HA.out, HB.out⟩ _).mono ?_; rintro e w' ⟨e5, f5, rfl, hc, hd, n2, rfl⟩; have HC := Lib.hid hc; have HD := Lib.hid hd; clear hc hd))
                            all_goals
                              clear cj
                              go_wp2_with fail
                              go_meet
                              exact ⟨_, _, _, rfl, HNX.out _ _ e5 f5 ⟨HC.out, HD.out⟩ (isF_fres HSM.out.re HC.out _) (isF_fres HSM.out.im HD.out _), by rw [HW.out, World.drewN_drewN]⟩
                          case rest =>
                            obtain ⟨a', b', nn', rfl, hs', rfl⟩ := hcut
                            have HS' := Lib.hid hs'
                            clear hs' HSM HW HNX hmul hturn hrest cj
                            go_wp2
                            go_roundw
                            case rel => first | exact ⟨j + 1, a', b', nn', by go_num, rfl, by omega, by omega, HS'.out, rfl⟩ | ((repeat apply Exists.intro); refine ⟨?_, rfl⟩; exact ⟨j + 1, a', b', nn', by go_num, rfl, by omega, by omega, HS'.out, rfl⟩)
                            case measure => simp [intOf]; omega
                        · have e : j = s := by omega
                          subst e
                          have hO5 : OutsQ wo wr n m j k q (fun i => zsOf (ys i)) os' := by rw [HW.out]; exact HOq.out.draws _
                          have hT5 : Row wr wk.heap.size 34 (.slice (some ⟨gt, 0, none⟩) j ct) (cvals ts) := by rw [HW.out]; exact HTq.out.drewN _
                          have hok := hO5.row.cellAt hPn
                          have hfk := hO5.row.frozenAt P
                          have hx := hO5.next hkm (by rw [HPP.out]; exact hPn) (show IsC (a, b) (outP n j (fun i => zsOf (ys i)) k q) by rw [HE.out]; exact HSM.out)
                          rw [HPP.out] at hx
                          obtain ⟨u1, hu1⟩ : ∃ u, (cvals os').getD P undef = u := ⟨_, rfl⟩
                          rw [hu1] at hok
                          have HXX := Lib.hid hx
                          have HT6 : Hid (Row (wr.setCell ⟨wo.heap.size, P, none⟩ (.complex .f64 a b)) wk.heap.size 34 (.slice (some ⟨gt, 0, none⟩) j ct) (cvals ts)) := hT5.far hwo
                          clear hx hO5 hT5 hu1 HSM HW HOq HTq
                          go_wp2
                          go_roundw
                          case rel => first | exact ⟨q + 1, _, by go_num, by omega, HXX.out, HT6.out⟩ | ((repeat apply Exists.intro); refine ⟨?_, rfl⟩; exact ⟨q + 1, _, by go_num, by omega, HXX.out, HT6.out⟩)
                          case measure => simp [intOf]; omega
                    · have e : q = s := by omega
                      subst e
                      have hd := HOq.out.done HPM.out (by omega)
                      have HD := Lib.hid hd
                      clear hd
                      go_wp2
                      go_roundw
                      case rel => first | exact ⟨k + 1, os', by go_num, by omega, HD.out⟩ | ((repeat apply Exists.intro); refine ⟨?_, rfl⟩; exact ⟨k + 1, os', by go_num, by omega, HD.out⟩)
                      case measure => simp [intOf]; omega
          · have e : k = m := by omega
            subst e
            have hall := HOs.out.all (by omega) HM.out
            have hfin : FastR xs w' (.returned (.slice (some ⟨wo.heap.size, 0, none⟩) n n)) wk := ⟨_, os, rfl, HOs.out.row.base HPt.out.below.size, HOs.out.wf, by rw [hall]; exact HFS.out, HPt.out.below.trans (HOs.out.below.mono HPt.out.below.size)⟩
            have HF := Lib.hid hfin
            clear hall hfin
            go_wp2
            go_ret
            exact HF.out

theorem fast_all : ∀ N, FastOK N
  | 0 => fun xs v B w h => absurd h (Nat.not_lt_zero _)
  | N + 1 => fun xs v B w h h2 hw hr => by
    by_cases h1 : xs.length ≤ 1
    · exact fast_small xs v B w h1 hw hr
    · exact fast_step N (fast_all N) xs v B w h (by omega) h2 hw hr

/-- The model's fast transform. -/
theorem fast_spec (xs : List C) (v : Value) (B : Nat) (w : World) (h2 : xs.length ≤ 1024) (hw : WfC xs) (h : Row w B 34 v (cvals xs)) :
    Calls Try.prog 15 #[v] w (FastR xs w) := fast_all (xs.length + 1) xs v B w (by omega) h2 hw h

end Go.Proofs.Ythinoegcijalpaa
