/-
  Several texts of this claim, one behind the other; each says what it holds.
-/
import Derived.Test.YtocjhanehphibaaMConvol6
import Derived.RangeFuncBox
import Derived.Maps.AppendAt
import Derived.Deep.RegionLaw
import Derived.OwnWalk
/-
  numbers: what is gathered of the terms.
-/
set_option linter.unusedVariables false
set_option linter.unusedSimpArgs false
namespace Go.Proofs.Ytocjhanehphibaa
open Go.RowKit Go.Shelf Flt Fast
attribute [local go_sem] Oper.semAt_some wide_fn wide_depth wide_fnR wide_depthR run_fadd run_fsub run_fmul run_fquo run_cadd run_csub
attribute [local go_sem ↓] run_max_word

set_option maxRecDepth 100000 in
theorem terms_any (v1 v2 : Value) (f : Int) (w : World) :
    Calls Try.prog 73 #[.agg #[v1, v2], .int .i64 f] w fun e w' =>
      e = .returned (.func (.func 87) #[] #[.pointer (some ⟨w.heap.size + 1, 0, none⟩), .pointer (some ⟨w.heap.size, 0, none⟩)]) ∧
      w' = (w.alloc (.cells #[v1, v2] 65)).alloc (.cells #[.int .i64 f] 3) := by
  go_enter Try.func73, Try.ntmps73
  go_wp2
  go_ret
  exact ⟨rfl, rfl⟩

/-- The iterator tells the terms. -/
theorem cvTerms_tells (n Bf Bc n₀ n₁ B : Nat) (x h : List C) (f : Nat) (v1 v2 : Value) (hx : x.length ≤ 1000000) (hh : h.length ≤ 1000000) (hf : f ≤ 2000000) (hwx : WfC x) (hwh : WfC h)
    (w : World) (h01 : n₀ ≤ n₁) (h0B : n₀ ≤ B) (hBc : Bc < n₁) (hBf : Bf < n₁) (hBcB : Bc ≠ B) (hn₁ : n₁ ≤ w.heap.size)
    (hrx : RdO n₀ w v1 x) (hrh : RdO n₀ w v2 h) (hcf : w.cell? ⟨Bf, 0, none⟩ = some (.int .i64 (f : Int))) (hc0 : w.cell? ⟨Bc, 0, none⟩ = some v1) (hc1 : w.cell? ⟨Bc, 1, none⟩ = some v2) :
    Tells Fence.wide n Try.prog 87 #[.pointer (some ⟨Bf, 0, none⟩), .pointer (some ⟨Bc, 0, none⟩)] (cvTold (zsOf x) (zsOf h) f) (KeptBut n₁ B) w := by
  intro l J Jx W hW hJ hJx hS hY h0
  have hk : Below n₁ w W := hW.mono hn₁
  refine cvTerms_in n l Bf Bc n₀ n₁ B x h f v1 v2 hx hh hf hwx hwh h01 h0B hBc hBcB J Jx W (Nat.le_trans hn₁ hW.size) ?_ hS hY (hrx.below (hk.mono h01)) (hrh.below (hk.mono h01)) ?_ ?_ ?_ h0
  · intro s A A' hj hb
    exact hJ s A A' none hj (grown_of_below hb) (fun r e => by cases e)
  · rw [hk.cell (p := ⟨Bf, 0, none⟩) hBf]; exact hcf
  · rw [hk.cell (p := ⟨Bc, 0, none⟩) hBc]; exact hc0
  · rw [hk.cell (p := ⟨Bc, 1, none⟩) hBc]; exact hc1

/-- What has been gathered when the terms up to (n, j) have come. -/
def PartC (x h : List Z) (f n j : Nat) (ps : List C) : Prop :=
  ps.length = (n - f) + min j 1 ∧ (∀ i, i < n - f → IsC (ps.getD i (0, 0)) (cvAt x h (f + i))) ∧ (0 < j → IsC (ps.getD (n - f) (0, 0)) (cvSum x h n j))
/-- The numbers from the place f on, up to en. -/
def cvPart (x h : List Z) (f en : Nat) : List Z := (List.range (min en (max f (cvLen x.length h.length)) - f)).map fun i => cvAt x h (f + i)

theorem getD_snoc_lt {ps : List C} {p : C} {i : Nat} (h : i < ps.length) : (ps ++ [p]).getD i (0, 0) = ps.getD i (0, 0) := by
  simp [List.getD, List.getElem?_append_left, h]
theorem getD_snoc_eq {ps : List C} {p : C} {i : Nat} (h : i = ps.length) : (ps ++ [p]).getD i (0, 0) = p := by
  subst h; simp [List.getD]
theorem getD_set_ne {ps : List C} {p : C} {i k : Nat} (h : i ≠ k) : (ps.set k p).getD i (0, 0) = ps.getD i (0, 0) := by
  simp [List.getD, List.getElem?_set_ne (Ne.symm h)]
theorem getD_set_eq {ps : List C} {p : C} {k : Nat} (h : k < ps.length) : (ps.set k p).getD k (0, 0) = p := by
  simp [List.getD, h]

theorem PartC.first {x h : List Z} {f n : Nat} {ps : List C} {p : C} (hp : PartC x h f n 0 ps) (ht : IsC p (cvTerm x h n 0)) (hf : f ≤ n) : PartC x h f n 1 (ps ++ [p]) := by
  obtain ⟨h1, h2, -⟩ := hp
  simp at h1
  refine ⟨by simp [h1], fun i hi => ?_, fun _ => ?_⟩
  · rw [getD_snoc_lt (by omega)]; exact h2 i hi
  · rw [getD_snoc_eq h1.symm, cvSum_one]; exact ht
theorem PartC.more {x h : List Z} {f n j : Nat} {ps : List C} {p : C} (hp : PartC x h f n j ps) (hj : 0 < j) (ht : IsC p (addZ (cvSum x h n j) (cvTerm x h n j))) : PartC x h f n (j + 1) (ps.set (n - f) p) := by
  obtain ⟨h1, h2, -⟩ := hp
  have e : min j 1 = 1 := by omega
  refine ⟨by rw [List.length_set, h1]; omega, fun i hi => ?_, fun _ => ?_⟩
  · rw [getD_set_ne (by omega)]; exact h2 i hi
  · rw [getD_set_eq (by omega), cvSum_succ x h n (by omega)]; exact ht
theorem PartC.next {x h : List Z} {f n : Nat} {ps : List C} (hp : PartC x h f n (cvCnt x.length h.length n) ps) (hn : n < cvLen x.length h.length) (hf : f ≤ n) : PartC x h f (n + 1) 0 ps := by
  obtain ⟨h1, h2, h3⟩ := hp
  have hc := cvCnt_pos hn
  refine ⟨by rw [h1]; omega, fun i hi => ?_, fun h => by omega⟩
  by_cases hlt : i < n - f
  · exact h2 i hlt
  · obtain rfl : i = n - f := by omega
    rw [show f + (n - f) = n by omega]; exact h3 hc
theorem PartC.all {x h : List Z} {f n en : Nat} {ps : List C} (hp : PartC x h f n 0 ps) (hn : n = min en (max f (cvLen x.length h.length))) : IsCs ps (cvPart x h f en) := by
  obtain ⟨h1, h2, -⟩ := hp
  unfold cvPart
  rw [← hn]
  refine ⟨by rw [h1]; simp, fun i hi => ?_⟩
  have hi' : i < n - f := by simpa using hi
  have := h2 i hi'
  simpa [List.getD, hi'] using this

/-- A row is no block that holds something else than cells. -/
theorem row_cells {w : World} {B e r : Nat} {v : Value} {cs : List Value} {o : Obj} (h : Row w B e v cs) (ho : w.heap[r]? = some o) (hc : o.isCells = false) : v.ownBlock = none ∨ v.ownBlock ≠ some r := by
  rcases h.2 with ⟨rfl, _⟩ | ⟨g, cap, cur, rfl, _, hgb, _⟩
  · exact .inl rfl
  · refine .inr fun e' => ?_
    obtain rfl : g = r := by simpa [Value.ownBlock] using e'
    rw [hgb] at ho; cases ho; cases hc
theorem KeptBut.grown {n B : Nat} {X W W' : World} {row : Option Nat} (h : KeptBut n B X W) (hg : W.grownBy W' row) (hr : ∀ r, row = some r → n ≤ r) (hn : n ≤ W.heap.size) : KeptBut n B X W' :=
  ⟨hg.os.trans h.os, hg.tape.trans h.tape, hg.output.trans h.output, Nat.le_trans h.size hg.size, fun k h1 h2 => (hg.block k (by omega) (fun e => by have := hr k e.symm; omega)).trans (h.block k h1 h2)⟩
theorem KeptBut.setCell {n B : Nat} {X W : World} (h : KeptBut n B X W) (b o : Nat) (v : Value) (hb : b = B ∨ n ≤ b) : KeptBut n B X (W.setCell ⟨b, o, none⟩ v) := by
  have hs : (W.setCell ⟨b, o, none⟩ v).heap.size = W.heap.size := by simp
  exact ⟨h.os, h.tape, h.output, by rw [hs]; exact h.size, fun k h1 h2 => (Below.heap_setCell _ _ _ k (by show k ≠ b; rcases hb with rfl | hb <;> omega)).trans (h.block k h1 h2)⟩
theorem KeptBut.drewN {n B : Nat} {X W : World} (h : KeptBut n B X W) (d : Nat) : KeptBut n B X (W.drewN d) := ⟨h.os, h.tape, h.output, h.size, h.block⟩
theorem Boxed.drewN {W : World} {B : Nat} {t : TypeId} {v : Value} (h : Boxed W B t v) (d : Nat) : Boxed (W.drewN d) B t v := h
theorem KeepsOthers.drewN {W W' : World} (h : KeepsOthers W W') (d : Nat) : KeepsOthers W (W'.drewN d) := ⟨h.size, h.same⟩

/-- Six blocks that are laid one after the other. -/
theorem laid6 (w : World) (a b c d e f : Obj) {N : Nat} (hN : w.heap.size = N) {W : World} (hW : (((((w.alloc a).alloc b).alloc c).alloc d).alloc e).alloc f = W) :
    W.heap.size = N + 6 ∧ W.heap[N]? = some a ∧ W.heap[N + 1]? = some b ∧ W.heap[N + 2]? = some c ∧ W.heap[N + 3]? = some d ∧ W.heap[N + 4]? = some e ∧ W.heap[N + 5]? = some f ∧ Below w.heap.size w W := by
  subst hN; subst hW
  have up : ∀ (W : World) (o : Obj) (k : Nat) (x : Obj), W.heap[k]? = some x → (W.alloc o).heap[k]? = some x := fun W o k x h => (Below.heap_alloc W o k (Array.getElem?_eq_some_iff.1 h).1).trans h
  have n0 := World.alloc_heap_new w a
  have n1 := World.alloc_heap_new (w.alloc a) b
  have n2 := World.alloc_heap_new ((w.alloc a).alloc b) c
  have n3 := World.alloc_heap_new (((w.alloc a).alloc b).alloc c) d
  have n4 := World.alloc_heap_new ((((w.alloc a).alloc b).alloc c).alloc d) e
  have n5 := World.alloc_heap_new (((((w.alloc a).alloc b).alloc c).alloc d).alloc e) f
  simp only [World.size_alloc] at n1 n2 n3 n4 n5
  refine ⟨by simp, up _ _ _ _ (up _ _ _ _ (up _ _ _ _ (up _ _ _ _ (up _ _ _ _ n0)))), up _ _ _ _ (up _ _ _ _ (up _ _ _ _ (up _ _ _ _ n1))), up _ _ _ _ (up _ _ _ _ (up _ _ _ _ n2)), up _ _ _ _ (up _ _ _ _ n3), up _ _ _ _ n4, n5, (((((((Below.refl _ w).alloc (Nat.le_refl _) _).alloc (by simp) _).alloc (by simp; omega) _).alloc (by simp; omega) _).alloc (by simp; omega) _).alloc (by simp; omega) _)⟩
theorem cell_of_heap {W : World} {B : Nat} {cs : Array Value} {t : TypeId} {k : Nat} {v : Value} (h : W.heap[B]? = some (.cells cs t (0, 0))) (hv : cs[k]? = some v) : W.cell? ⟨B, k, none⟩ = some v := by
  simp [World.cell?, h, hv]

/-- What the loop keeps. -/
def Gathers (N f en : Nat) (xz hz : List Z) (W0 : World) (s : Nat × Nat) (W : World) : Prop :=
  ∃ v ps, Boxed W (N + 3) 24 v ∧ Row W (N + 6) 30 v (cvals ps) ∧ PartC xz hz f s.1 s.2 ps ∧ f ≤ s.1 ∧ (s.1 < en ∨ s.1 = en ∧ s.2 = 0) ∧ KeptBut (N + 6) (N + 3) W0 W ∧ N + 6 ≤ W.heap.size

theorem Gathers.kept {N f en : Nat} {xz hz : List Z} {W0 A A' : World} {s : Nat × Nat} {row : Option Nat} (h : Gathers N f en xz hz W0 s A) (hg : A.grownBy A' row) (hr : ∀ r, row = some r → N + 6 ≤ r ∧ ∃ o : Obj, A.heap[r]? = some o ∧ o.isCells = false) : Gathers N f en xz hz W0 s A' := by
  obtain ⟨v, ps, h1, h2, h3, h4, h5, h6, h7⟩ := h
  refine ⟨v, ps, h1.kept hg (fun e => ?_), h2.kept hg ?_, h3, h4, h5, h6.grown hg (fun r e => (hr r e).1) h7, Nat.le_trans h7 hg.size⟩
  · have := (hr _ e.symm).1; omega
  · cases row with
    | none => cases h : v.ownBlock with
      | none => exact .inl rfl
      | some k => exact .inr (by simp)
    | some r => obtain ⟨_, o, ho, hc⟩ := hr r rfl; exact row_cells h2 ho hc

/-- How the loop is left ahead of its end. -/
def GStop (N f en L : Nat) (xz hz : List Z) (W0 : World) (c : Code) (s : Nat × Nat) (W : World) : Prop := c = .exit 0 ∧ en < L ∧ Gathers N f en xz hz W0 (en, 0) W
/-- How a round goes on. -/
def GNext (N f en : Nat) (xz hz : List Z) (W0 W : World) (s : Nat × Nat) (W' : World) : Prop := KeepsFrom (N + 6) W W' ∧ KeptBut (N + 6) (N + 3) W W' ∧ Gathers N f en xz hz W0 s W'

theorem Row.isCells {w : World} {B e j : Nat} {v : Value} {cs : List Value} {o : Obj} (h : Row w B e v cs) (hv : v.ownBlock = some j) (ho : w.heap[j]? = some o) : o.isCells = true := by
  rcases h.2 with ⟨rfl, _⟩ | ⟨g, cap, cur, rfl, _, hgb, _⟩
  · simp [Value.ownBlock] at hv
  · obtain rfl : g = j := by simpa [Value.ownBlock] using hv
    rw [hgb] at ho; cases ho; rfl

/-- 'out = append(out, ..)' where out lies in a box below the row's base. -/
theorem boxed_append {W w1 : World} {N₁ B t e : Nat} {v v' : Value} {cs ds : List Value} {tmp : Obj} (hb : Boxed W B t v) (hte : t ≠ e) (hr : Row W N₁ e v cs) (hBN : B < N₁) (hN : N₁ ≤ W.heap.size)
    (hown : Row w1 N₁ e v' ds) (hgrow : (W.alloc tmp).grownBy w1 v.ownBlock) :
    Boxed w1 B t v ∧ Boxed (w1.setCell ⟨B, 0, none⟩ v') B t v' ∧ Row (w1.setCell ⟨B, 0, none⟩ v') N₁ e v' ds ∧ KeepsOthers W (w1.setCell ⟨B, 0, none⟩ v') ∧ KeptBut N₁ B W (w1.setCell ⟨B, 0, none⟩ v') ∧ N₁ ≤ (w1.setCell ⟨B, 0, none⟩ v').heap.size := by
  have hb1 : Boxed w1 B t v := (hb.alloc tmp).kept hgrow (hb.not_row hte hr)
  have hs : W.heap.size + 1 ≤ w1.heap.size := by have := hgrow.size; simpa using this
  refine ⟨hb1, hb1.set v', hown.kept (grownBy_setCell' w1 B v') (.inr (hb1.not_row hte hown).symm), ?_, ?_, by simp; omega⟩
  · refine ((KeepsOthers.alloc W tmp).trans (KeepsOthers.of_grownBy hgrow fun j o ej hj => ?_)).trans (KeepsOthers.setCell _ _ _)
    exact (hr.alloc tmp).isCells ej hj
  · refine KeptBut.setCell ?_ B 0 v' (.inl rfl)
    refine KeptBut.grown (KeptBut.of_below ((Below.refl _ W).alloc (Nat.le_refl _) tmp) hN) hgrow (fun r e => (hr.lt r e).1) (by simp; omega)

theorem gathered_below {n B D : Nat} {w W0 W : World} {o : Obj} (h : Below w.heap.size w W0) (hk : KeptBut n B W0 W) (hD : n ≤ D) (hn : w.heap.size ≤ n) (hB : w.heap.size ≤ B) : Below w.heap.size w (W.putObj D o) :=
  ⟨hk.os.trans h.os, hk.tape.trans h.tape, hk.output.trans h.output, by simp; exact Nat.le_trans h.size hk.size, fun k hlt => by
    rw [World.putObj_heap_other (by omega), hk.block k (by omega) (by omega)]; exact h.block k hlt⟩

set_option maxRecDepth 100000 in
set_option maxHeartbeats 8000000 in
theorem numbers_any (x h : List C) (f en : Nat) (v1 v2 : Value) (hx : x.length ≤ 100000) (hh : h.length ≤ 100000) (hf : f ≤ en) (hen : en ≤ 200000) (hwx : WfC x) (hwh : WfC h)
    (w : World) (hrx : RdO w.heap.size w v1 x) (hrh : RdO w.heap.size w v2 h) :
    Calls Try.prog 46 #[.agg #[v1, v2], .int .i64 f, .int .i64 en] w fun e w' =>
      ∃ v ps, e = .returned v ∧ Row w' w.heap.size 30 v (cvals ps) ∧ IsCs ps (cvPart (zsOf x) (zsOf h) f en) ∧ Below w.heap.size w w' := by
  obtain ⟨i0, hi, hz0, hz1, hz2⟩ := info_parts info_c128
  refine (callsIn_wide (n := 5)).1 ?_
  refine callsIn_of_wp_marks Try.func46 rfl trivial ?_ rfl
  simp only [Try.ntmps46, List.size_toArray, List.length_cons, List.length_nil, Nat.reduceAdd, Nat.reduceSub, Array.replicate_succ, Array.replicate_zero, List.push_toArray, List.append_toArray, List.nil_append, List.cons_append]
  obtain ⟨N, hN⟩ : ∃ N, w.heap.size = N := ⟨_, rfl⟩
  obtain ⟨s1, rfl⟩ : ∃ s, v1 = s := ⟨_, rfl⟩
  have HRX := Lib.hid hrx
  have HRH := Lib.hid hrh
  have HLE : Hid ((zsOf x).length = x.length ∧ (zsOf h).length = h.length) := ⟨zsOf_length _, zsOf_length _⟩
  obtain ⟨xz, hxz⟩ : ∃ l, zsOf x = l := ⟨_, rfl⟩
  obtain ⟨hz, hhz⟩ : ∃ l, zsOf h = l := ⟨_, rfl⟩
  obtain ⟨a1, c1, e1, -, -, -⟩ := hrx.find
  obtain ⟨a2, c2, e2, -, -, -⟩ := hrh.find
  subst e1
  subst e2
  clear hrx hrh
  gi_wp2
  refine wpIn_wide.2 (wp_scope_straight ((wpIn_wide (n := 5)).1 ?_))
  gi_wp2
  refine wpIn_label ?_
  gi_wp2_with (gi_at_call 73; refine (callsIn_wide.2 (terms_any _ _ _ _)).mono ?_; rintro e w1 ⟨rfl, rfl⟩)
  try simp only [World.size_alloc, hN]
  obtain ⟨W0, hW0⟩ : ∃ W0, ((((((w.alloc (Obj.cells #[Value.slice a1 x.length c1, Value.slice a2 h.length c2] 65)).alloc (Obj.cells #[Value.int IntKind.i64 ↑f] 3)).alloc (Obj.cells #[Value.int IntKind.i64 ↑en] 3)).alloc (Obj.cells #[Value.slice none 0 0] 24)).alloc (Obj.cells #[Value.slice a1 x.length c1, Value.slice a2 h.length c2] 65)).alloc (Obj.cells #[Value.int IntKind.i64 ↑f] 3)) = W0 := ⟨_, rfl⟩
  rw [hW0]
  obtain ⟨hsz, -, k1, k2, k3, k4, k5, hB0⟩ := laid6 w _ _ _ _ _ _ hN hW0
  have b1 : W0.cell? ⟨N + 1, 0, none⟩ = some (.int .i64 f) := cell_of_heap k1 rfl
  have b2 : W0.cell? ⟨N + 2, 0, none⟩ = some (.int .i64 en) := cell_of_heap k2 rfl
  have b3 : Boxed W0 (N + 3) 24 (.slice none 0 0) := k3
  have b4 : W0.cell? ⟨N + 4, 0, none⟩ = some (.slice a1 x.length c1) := cell_of_heap k4 rfl
  have b5 : W0.cell? ⟨N + 4, 1, none⟩ = some (.slice a2 h.length c2) := cell_of_heap k4 rfl
  have b6 : W0.cell? ⟨N + 5, 0, none⟩ = some (.int .i64 f) := cell_of_heap k5 rfl
  have hT := cvTerms_tells (5 - 1) (N + 5) (N + 4) N (N + 6) (N + 3) x h f _ _ (by omega) (by omega) (by omega) hwx hwh W0 (by omega) (by omega) (by omega) (by omega) (by omega) (by omega)
    (by rw [← hN]; exact HRX.out.below hB0) (by rw [← hN]; exact HRH.out.below hB0) b6 b4 b5
  rw [hxz, hhz] at hT
  have HE := HLE.out
  rw [hxz, hhz] at HE
  obtain ⟨L, hL⟩ : ∃ L, cvLen xz.length hz.length = L := ⟨_, rfl⟩
  have hLle : L ≤ 200000 := by rw [← hL, HE.1, HE.2]; have := cvLen_le x.length h.length; omega
  have HB0 := Lib.hid hB0
  have HS := Lib.hid hsz
  have HN := Lib.hid hN
  have HL := Lib.hid hL
  have hI0 : Gathers N f en xz hz W0 (f, 0) W0 := ⟨_, [], b3, World.ownsRow_nil _ _ _ _, ⟨by simp, fun i hi => by omega, fun h => by omega⟩, Nat.le_refl _, by simp; omega, KeptBut.refl _ _ _, by omega⟩
  have HI0 := Lib.hid hI0
  have HXZ := Lib.hid hxz
  have HHZ := Lib.hid hhz
  clear hB0 HRX HRH hxz hhz HLE HE hI0 b3 b4 b5 b6 k1 k2 k3 k4 k5 hL hW0
  refine wpIn_range_told (T := cvTold xz hz f) rfl (by omega) rfl trivial (enters_of Try.func87 (by kernel_rfl) rfl)
    hT (Below.refl _ _) (fun h k => h.trans k) (fun W l o o' hl _ _ _ => KeptBut.putObj W l o' (by omega)) (fun _ => rfl)
    (Gathers N f en xz hz W0) (GStop N f en L xz hz W0)
    (fun s A A' row hs hg hr => hs.kept hg (fun r e => ⟨by have := (hr r e).1; omega, (hr r e).2⟩))
    (fun c s A A' row hs hg hr => ⟨hs.1, hs.2.1, hs.2.2.kept hg (fun r e => ⟨by have := (hr r e).1; omega, (hr r e).2⟩)⟩)
    ?silent HI0.out
    (fun y => { tmps := #[.agg #[.slice a1 x.length c1, .slice a2 h.length c2], .int .i64 f, .int .i64 en, .pointer (some ⟨N, 0, none⟩), .pointer (some ⟨N + 1, 0, none⟩), .pointer (some ⟨N + 1 + 1, 0, none⟩), .slice none 0 0, .pointer (some ⟨N + 1 + 1 + 1, 0, none⟩), .int .i64 y.1, .complex .f64 y.2.1 y.2.2, .agg #[.slice a1 x.length c1, .slice a2 h.length c2], .int .i64 f, .func (.func 87) #[] #[.pointer (some ⟨N + 1 + 1 + 1 + 1 + 1, 0, none⟩), .pointer (some ⟨N + 1 + 1 + 1 + 1, 0, none⟩)], .int .i64 y.1, .complex .f64 y.2.1 y.2.2, undef, undef, undef, undef, undef, undef, undef, undef, undef, undef, undef, undef, undef, undef, undef, undef, undef, undef, undef, undef, undef, undef, undef, undef, undef], defers := [] })
    ?assign ?body ?done ?stop
  case silent =>
    rintro ⟨n, j⟩ s' W ⟨v, ps, h1, h2, h3, h4, h5, h6, h7⟩ ⟨e1, e2, rfl⟩
    simp only at e1 e2 h3 h4 h5
    have hc := cvCnt_pos e1
    exact ⟨v, ps, h1, h2, (by subst e2; exact h3.next e1 h4), (by simp only; omega), (by have h : n < en := (by omega); rcases Nat.lt_or_eq_of_le h with h | h; exact .inl h; exact .inr ⟨h, rfl⟩), h6, h7⟩
  case assign =>
    rintro l ⟨n, p, q⟩ W K hK
    dsimp only [cvTold]
    gi_wp2
    exact hK
  case body =>
    rintro l ⟨n, j⟩ s' ⟨n', ⟨p, q⟩⟩ W ⟨v, ps, hb, hr, hp, hfn, hend, hk, hsW⟩ ⟨e1, e2, e3, e4, rfl⟩
    simp only at e1 e2 e3 e4 hp hfn hend
    subst e3
    rw [HL.out] at e1
    have d1 : W.cell? ⟨N + 1, 0, none⟩ = some (.int .i64 f) := by rw [hk.cell (by omega) (by omega)]; exact b1
    have d2 : W.cell? ⟨N + 1 + 1, 0, none⟩ = some (.int .i64 en) := by rw [hk.cell (by omega) (by omega)]; exact b2
    have d3 : W.cell? ⟨N + 1 + 1 + 1, 0, none⟩ = some v := hb.cell
    have d3f : W.frozen? ⟨N + 1 + 1 + 1, 0, none⟩ = false := hb.frozen
    have hpl := hp.1
    have hn2 : n' ≤ 200000 := by omega
    by_cases hen' : n' = en
    · subst hen'
      obtain rfl : j = 0 := by omega
      have HG : Hid (Gathers N f n' xz hz W0 (n', 0) W) := ⟨v, ps, hb, hr, hp, hfn, .inr ⟨rfl, rfl⟩, hk, hsW⟩
      clear hb hr hp hk d3 hT
      gi_wp2
      exact ⟨KeepsFrom.refl _ _, ⟨rfl, e1, HG.out⟩⟩
    · have g1 : ((n' : Int) == (en : Int)) = false := by simp; omega
      by_cases hj : j = 0
      · subst hj
        have hl : ps.length = n' - f := by simpa using hpl
        obtain ⟨M, hM⟩ : ∃ M, ps.length = M := ⟨_, rfl⟩
        have hMf : (n' : Int) = (f : Int) + (M : Int) := by omega
        have hcl : (cvals ps).length = M := by rw [cvals_length]; exact hM
        have hlt : n' < en := by omega
        have HFin : Hid (∀ (w1 : World) v' g cap tmp, v' = .slice (some ⟨g, 0, none⟩) (M + 1) cap → w1.ownsRow (N + 6) 30 1 v' (M + 1) (cvals ps ++ [.complex .f64 p q]) → (W.alloc tmp).grownBy w1 v.ownBlock →
            w1.cell? ⟨N + 1 + 1 + 1, 0, none⟩ = some v ∧ w1.frozen? ⟨N + 1 + 1 + 1, 0, none⟩ = false ∧ GNext N f en xz hz W0 W (n', 1) (w1.setCell ⟨N + 1 + 1 + 1, 0, none⟩ v')) := fun w1 v' g cap tmp hv' hown hgrow => by
          have hown' : Row w1 (N + 6) 30 v' (cvals (ps ++ [(p, q)])) := by
            unfold Row
            rw [cvals_length, List.length_append, hM, cvals_snoc]
            exact hown
          obtain ⟨x1, x2, x3, x4, x5, x6⟩ := boxed_append hb (by decide) hr (by omega) hsW hown' hgrow
          exact ⟨x1.cell, x1.frozen, x4.from _, x5, v', ps ++ [(p, q)], x2, x3, hp.first e4 hfn, hfn, .inl hlt, hk.trans x5, x6⟩
        have g2 : ((n' : Int) == (f : Int) + (M : Int)) = true := by simp; omega
        have hrow : W.ownsRow (N + 6) 30 1 v M (cvals ps) := by have := hr; unfold Row at this; rwa [hcl] at this
        have hln : ∃ a cap, v = .slice a M cap := by
          rcases hr.shape with ⟨a, cap, e, e'⟩ | ⟨g, cap, e, _⟩
          · refine ⟨a, cap, ?_⟩
            rw [e, ← hcl, e']; rfl
          · exact ⟨_, cap, by rw [e, hcl]⟩
        obtain ⟨va, vc, rfl⟩ := hln
        have HR := Lib.hid hrow
        have hsz1 : N + 6 ≤ W.heap.size + 1 := by omega
        have hM2 : M ≤ 200000 := by omega
        clear hb hr hp hk hT hrow hl hpl hM hcl e4 b1 b2
        gi_wp2_with (gi_at_builtin; refine wpListIn_append_own _ rfl _ _ 24 rfl (N + 6) 30 i0 (.complex .f64 0 0) 1 16 Try.underlying24 hi hz0 hz1 hz2 rfl (by decide) _ _ _ rfl (HR.out.alloc _) ⟨W.heap.size, 0, none⟩ 1 1 [.complex .f64 p q] rfl rfl (cell_one_new _ _ _) (by simp [Value.oneCell']) (by simp [maxLen]; omega) (by omega) (by simp; omega) ?_; intro v' w1 hown' hgrow _; obtain ⟨g', cap', rfl⟩ := ownsRow_succ hown'; obtain ⟨y1, y2, y3⟩ := HFin.out _ _ _ _ _ rfl hown' hgrow; have Y3 := Lib.hid y3; clear y3)
        exact Y3.out
      · have hj0 : 0 < j := by omega
        have hl : ps.length = n' - f + 1 := by rw [hpl]; omega
        obtain ⟨M, hM⟩ : ∃ M, n' - f = M := ⟨_, rfl⟩
        rw [hM] at hl
        have hMf : (n' : Int) - f = (M : Int) := by omega
        have hlt : n' < en := by omega
        have hcl : (cvals ps).length = M + 1 := by rw [cvals_length]; exact hl
        rcases hr.shape with ⟨a, cap, e, e'⟩ | ⟨g, cap, rfl, hc0, hgN, hgs, hcc, hcm⟩
        · rw [e'] at hcl; simp at hcl
        rw [hcl] at hr hcc d3 hb
        have k1 := hr.cellAt (show M < M + 1 by omega)
        rw [cvals_getD (by omega)] at k1
        have k1f := hr.frozenAt M
        have hfit := hp.2.2 hj0
        rw [hM] at hfit
        obtain ⟨⟨u, v⟩, huv⟩ : ∃ z, ps.getD M (0, 0) = z := ⟨_, rfl⟩
        rw [huv] at k1 hfit
        have HFin : Hid (∀ (d u' v' : Nat), IsC (u', v') (addZ (cvSum xz hz n' j) (cvTerm xz hz n' j)) → GNext N f en xz hz W0 W (n', j + 1) ((W.drewN d).setCell ⟨g, M, none⟩ (.complex .f64 u' v'))) := fun d u' v' hc => by
          have h1 := (hr.drewN d).set M (.complex .f64 u' v')
          rw [show (cvals ps).set M (.complex .f64 u' v') = cvals (ps.set M (u', v')) by simp [cvals, List.map_set, cval]] at h1
          have h2 : Boxed ((W.drewN d).setCell ⟨g, M, none⟩ (.complex .f64 u' v')) (N + 3) 24 (.slice (some ⟨g, 0, none⟩) (M + 1) cap) := Boxed.kept (Boxed.drewN hb d) h1.2 (by simp; omega)
          have h3 := hp.more hj0 hc
          rw [hM] at h3
          exact ⟨KeepsOthers.from (KeepsOthers.trans (KeepsOthers.drewN (KeepsOthers.refl W) d) (KeepsOthers.setCell _ _ _)) _, ((KeptBut.refl _ _ W).drewN d).setCell g M _ (.inr (by omega)), _, _, h2, h1.1, h3, hfn, .inl hlt, (hk.drewN d).setCell g M _ (.inr (by omega)), by simp; exact hsW⟩
        have g2 : ((n' : Int) == (f : Int) + ((M + 1 : Nat) : Int)) = false := by simp; omega
        have g3 : ((n' : Int) == (f : Int) + ((M : Int) + 1)) = false := by simp; omega
        have HFit := Lib.hid hfit
        have HE4 := Lib.hid e4
        have hM2 : M ≤ 200000 := by omega
        have hmx := maxLen_int (Nat.le_trans hcc hcm)
        clear hb hr hp hk hT hl hpl hM hcl e4 b1 b2 hfit huv
        gi_wp2
        exact HFin.out _ _ _ ⟨isF_fres HFit.out.re HE4.out.re _, isF_fres HFit.out.im HE4.out.im _⟩
  case done =>
    rintro D W hD ⟨v, ps, hb, hr, hp, hfn, hend, hk, hsW⟩ hK
    have hD' : N + 6 ≤ D := by omega
    have d3 : W.cell? ⟨N + 1 + 1 + 1, 0, none⟩ = some v := hb.cell
    have hE : max f (cvLen xz.length hz.length) = min en (max f (cvLen xz.length hz.length)) := by simp only [cvTold] at hend; omega
    have HFin : Hid (Row (W.putObj D (.deferred none)) w.heap.size 30 v (cvals ps) ∧ IsCs ps (cvPart xz hz f en) ∧ Below w.heap.size w (W.putObj D (.deferred none))) :=
      ⟨Row.base (ownsRow_putObj hr _ hK rfl) (by omega), hp.all hE, gathered_below HB0.out hk hD' (by rw [HN.out]; omega) (by omega)⟩
    clear hb hr hp hk hT b1 b2 hend hE
    gi_wp2
    dsimp only [Exit.noGoto]
    refine ⟨by simp, .inl ⟨_, _, rfl, run_takeDeferred hK, ?_⟩⟩
    exact ⟨_, results_tmp rfl _ _ _, v, ps, rfl, HFin.out.1, by rw [HXZ.out, HHZ.out]; exact HFin.out.2.1, HFin.out.2.2⟩
  case stop =>
    rintro D c s W hD ⟨rfl, hlt, v, ps, hb, hr, hp, hfn, hend, hk, hsW⟩ hK
    have hD' : N + 6 ≤ D := by omega
    have d3 : W.cell? ⟨N + 1 + 1 + 1, 0, none⟩ = some v := hb.cell
    have hE : en = min en (max f (cvLen xz.length hz.length)) := by rw [HL.out]; omega
    have HFin : Hid (Row (W.putObj D (.deferred none)) w.heap.size 30 v (cvals ps) ∧ IsCs ps (cvPart xz hz f en) ∧ Below w.heap.size w (W.putObj D (.deferred none))) :=
      ⟨Row.base (ownsRow_putObj hr _ hK rfl) (by omega), hp.all hE, gathered_below HB0.out hk hD' (by rw [HN.out]; omega) (by omega)⟩
    clear hb hr hp hk hT b1 b2 hend hE
    gi_wp2
    refine ⟨by simp, .inl ⟨_, _, rfl, run_takeDeferred hK, ?_⟩⟩
    exact ⟨_, results_tmp rfl _ _ _, v, ps, rfl, HFin.out.1, by rw [HXZ.out, HHZ.out]; exact HFin.out.2.1, HFin.out.2.2⟩

end Go.Proofs.Ytocjhanehphibaa
/-
  Signals that come back to themselves, pure; marks that ranges over functions leave.
-/
set_option linter.unusedVariables false
set_option linter.unusedSimpArgs false
namespace Go.Proofs.Ytocjhanehphibaa
open Go.RowKit Go.Shelf Flt Fast

/-- The number at a place, when j terms of what comes back have been added. -/
def rcSum (xn : Z) (made a : List Z) (n : Nat) : Nat → Z
  | 0 => xn
  | j + 1 => addZ (rcSum xn made a n j) (mulZ (a.getD j z0) (made.getD (n - 1 - j) z0))
/-- The first numbers of the signal that comes back. -/
def rcAll (x a : List Z) : Nat → List Z
  | 0 => []
  | n + 1 => rcAll x a n ++ [rcSum (x.getD n z0) (rcAll x a n) a n (min n a.length)]

theorem rcAll_length (x a : List Z) : ∀ n, (rcAll x a n).length = n
  | 0 => rfl
  | n + 1 => by simp [rcAll, rcAll_length x a n]
/-- It depends on what has been there alone. -/
theorem rcAll_take (x a : List Z) (m : Nat) : ∀ n, n ≤ m → rcAll (x.take m) a n = rcAll x a n
  | 0, _ => rfl
  | n + 1, h => by
    rw [rcAll, rcAll, rcAll_take x a m n (by omega)]
    congr 3
    simp [List.getD, show n < m by omega]
theorem rcAll_prefix (x a : List Z) : ∀ m n, n ≤ m → (rcAll x a m).take n = rcAll x a n
  | 0, n, h => by obtain rfl : n = 0 := by omega
                  rfl
  | m + 1, n, h => by
    by_cases e : n = m + 1
    · subst e; rw [List.take_of_length_le (by rw [rcAll_length]; exact Nat.le_refl _)]
    · rw [rcAll, List.take_append_of_le_length (by rw [rcAll_length]; omega)]; exact rcAll_prefix x a m n (by omega)
/-- With nothing to come back it is the signal. -/
theorem rcAll_nil (x : List Z) : ∀ n, n ≤ x.length → rcAll x [] n = x.take n
  | 0, _ => rfl
  | n + 1, h => by
    rw [rcAll, rcAll_nil x n (by omega), List.take_add_one]
    congr 1
    simp [rcSum, List.getD, List.getElem?_eq_getElem (show n < x.length by omega)]

theorem IsCs.nil : IsCs [] [] := ⟨rfl, fun i hi => absurd hi (by simp)⟩
theorem IsCs.snoc {ps : List C} {zs : List Z} {p : C} {z : Z} (h : IsCs ps zs) (hp : IsC p z) : IsCs (ps ++ [p]) (zs ++ [z]) := by
  refine ⟨by simp [h.1], fun i hi => ?_⟩
  by_cases e : i < zs.length
  · rw [getD_snoc_lt (by rw [h.1]; exact e), show (zs ++ [z]).getD i z0 = zs.getD i z0 by simp [List.getD, List.getElem?_append_left, e]]; exact h.2 i e
  · have : i = zs.length := by simp at hi; omega
    rw [getD_snoc_eq (by rw [h.1]; exact this), show (zs ++ [z]).getD i z0 = z by subst this; simp [List.getD]]; exact hp
theorem IsCs.zs {ps : List C} {zs : List Z} (h : IsCs ps zs) : zsOf ps = zs := by
  apply List.ext_getElem?
  intro i
  by_cases hi : i < zs.length
  · have h2 := h.2 i hi
    have e1 : ps.getD i (0, 0) = ps[i]'(by rw [h.1]; exact hi) := by simp [List.getD, show i < ps.length by rw [h.1]; exact hi]
    have e2 : zs.getD i z0 = zs[i] := by simp [List.getD, hi]
    rw [e1, e2] at h2
    rw [List.getElem?_eq_getElem hi, List.getElem?_eq_getElem (by rw [zsOf_length, h.1]; exact hi)]
    simp only [zsOf, List.getElem_map]
    congr 1
    exact Prod.ext h2.re.cn h2.im.cn
  · rw [List.getElem?_eq_none (by rw [zsOf_length, h.1]; omega), List.getElem?_eq_none (by omega)]
theorem IsCs.wf {ps : List C} {zs : List Z} (h : IsCs ps zs) : WfC ps := by
  intro p hp
  obtain ⟨i, hi, rfl⟩ := List.getElem_of_mem hp
  have h2 := h.2 i (by rw [← h.1]; exact hi)
  have e1 : ps.getD i (0, 0) = ps[i] := by simp [List.getD, hi]
  rw [e1] at h2
  exact ⟨h2.re.lt, h2.im.lt⟩
theorem IsCs.of_wf {ps : List C} (h : WfC ps) : IsCs ps (zsOf ps) := ⟨(zsOf_length ps).symm, fun i hi => isC_getD h (by rw [zsOf_length] at hi; exact hi)⟩

/-- Marks of ranges over functions: blocks from n on. -/
def Marks (n : Nat) (w : World) (ds : List Deferred) : Prop :=
  ∃ Ds : List Nat, ds = Ds.map (fun D => { target := .collected D, args := #[] }) ∧ Ds.Nodup ∧ ∀ D ∈ Ds, n ≤ D ∧ w.heap[D]? = some (.deferred (some []))
theorem Marks.nil (n : Nat) (w : World) : Marks n w [] := ⟨[], rfl, List.nodup_nil, fun D h => by cases h⟩
theorem Marks.lt {n : Nat} {w : World} {ds : List Deferred} (h : Marks n w ds) : ∃ Ds : List Nat, ds = Ds.map (fun D => { target := .collected D, args := #[] }) ∧ Ds.Nodup ∧ ∀ D ∈ Ds, n ≤ D ∧ D < w.heap.size ∧ w.heap[D]? = some (.deferred (some [])) := by
  obtain ⟨Ds, e, hn, h⟩ := h
  exact ⟨Ds, e, hn, fun D hD => ⟨(h D hD).1, (Array.getElem?_eq_some_iff.1 (h D hD).2).1, (h D hD).2⟩⟩
theorem Marks.cons {n D : Nat} {w W : World} {ds : List Deferred} (h : Marks n w ds) (hk : ∀ (k : Nat) (o : Obj), w.heap[k]? = some o → o.isCells = false → W.heap[k]? = some o) (hD : w.heap.size ≤ D) (hn : n ≤ D) (hb : W.heap[D]? = some (.deferred (some []))) :
    Marks n W ({ target := .collected D, args := #[] } :: ds) := by
  obtain ⟨Ds, e, hnd, h⟩ := h.lt
  refine ⟨D :: Ds, by simp [e], List.nodup_cons.2 ⟨fun hm => by have := (h D hm).2.1; omega, hnd⟩, fun k hk' => ?_⟩
  rcases List.mem_cons.1 hk' with rfl | hk'
  · exact ⟨hn, hb⟩
  · exact ⟨(h k hk').1, hk k _ (h k hk').2.2 rfl⟩
theorem Marks.kept {n : Nat} {w W : World} {ds : List Deferred} (h : Marks n w ds) (hk : ∀ (k : Nat) (o : Obj), w.heap[k]? = some o → o.isCells = false → W.heap[k]? = some o) : Marks n W ds := by
  obtain ⟨Ds, e, hnd, h⟩ := h
  exact ⟨Ds, e, hnd, fun D hD => ⟨(h D hD).1, hk D _ (h D hD).2 rfl⟩⟩

/-- The marks' blocks are shut; all that is cells lies as it lay. -/
structure Shut (n : Nat) (w w' : World) : Prop where
  os : w'.os = w.os
  tape : w'.tape = w.tape
  output : w'.output = w.output
  size : w'.heap.size = w.heap.size
  low : ∀ k, k < n → w'.heap[k]? = w.heap[k]?
  cells : ∀ (k : Nat) (o : Obj), w.heap[k]? = some o → o.isCells = true → w'.heap[k]? = some o
theorem Shut.refl (n : Nat) (w : World) : Shut n w w := ⟨rfl, rfl, rfl, rfl, fun _ _ => rfl, fun _ _ h _ => h⟩
theorem Shut.row {n B e : Nat} {w w' : World} {v : Value} {cs : List Value} (hs : Shut n w w') (h : Row w B e v cs) : Row w' B e v cs := by
  refine ⟨h.1, ?_⟩
  rcases h.2 with hn | ⟨g, cap, cur, rfl, hb, hg, rest⟩
  · exact .inl hn
  · exact .inr ⟨g, cap, cur, rfl, hb, hs.cells g _ hg rfl, rest⟩
theorem Shut.below {n : Nat} {w0 w w' : World} (hs : Shut n w w') (hn : w0.heap.size ≤ n) (h : Below w0.heap.size w0 w) : Below w0.heap.size w0 w' :=
  ⟨hs.os.trans h.os, hs.tape.trans h.tape, hs.output.trans h.output, by rw [hs.size]; exact h.size, fun k hk => (hs.low k (by omega)).trans (h.block k hk)⟩

/-- A function leaves by its marks. -/
theorem leaves_marks {F : Fence} {m n : Nat} {P : Program} {fn : Func} {tmps : Array Value} {R : Ending → World → Prop} (w : World) (ds : List Deferred) (h : Marks n w ds)
    (hR : ∀ w', Shut n w w' → LeavesIn F m P fn tmps R [] .returning w') : LeavesInM F m P fn tmps R ds .returning w := by
  obtain ⟨Ds, rfl, hnd, h⟩ := h
  suffices H : ∀ (Ds : List Nat) (w1 : World), Ds.Nodup → Shut n w w1 → (∀ D ∈ Ds, n ≤ D ∧ w1.heap[D]? = some (.deferred (some []))) → LeavesInM F m P fn tmps R (Ds.map (fun D => { target := .collected D, args := #[] })) .returning w1 from H Ds w hnd (Shut.refl _ _) h
  intro Ds
  induction Ds with
  | nil => exact fun w1 _ hs _ => hR w1 hs
  | cons D Ds ih =>
    intro w1 hnd hs h
    obtain ⟨hD, hnd⟩ := List.nodup_cons.1 hnd
    have hb := (h D (by simp)).2
    refine ⟨by simp, .inl ⟨D, _, rfl, run_takeDeferred hb, ih _ hnd ⟨hs.os, hs.tape, hs.output, by simp; exact hs.size, fun k hk => ?_, fun k o hk hc => ?_⟩ fun D' hD' => ?_⟩⟩
    · rw [World.putObj_heap_other (by have := (h D (by simp)).1; omega)]; exact hs.low k hk
    · have hw := hs.cells k o hk hc
      rw [World.putObj_heap_other (fun e => by subst e; rw [hw] at hb; cases hb; cases hc)]; exact hw
    · have := h D' (by simp [hD'])
      exact ⟨this.1, (World.putObj_heap_other (fun e => hD (by rw [← e]; exact hD'))).trans this.2⟩

end Go.Proofs.Ytocjhanehphibaa
/-
  RecurSignal of the program.
-/
set_option linter.unusedVariables false
set_option linter.unusedSimpArgs false
namespace Go.Proofs.Ytocjhanehphibaa
open Go.RowKit Go.Shelf Flt Fast
attribute [local go_sem] Oper.semAt_some wide_fn wide_depth wide_fnR wide_depthR run_fadd run_fsub run_fmul run_fquo run_cadd run_csub
attribute [local go_sem ↓] run_max_word

set_option maxRecDepth 100000 in
set_option maxHeartbeats 4000000 in
/-- No terms of an empty signal, also from the place -1 on. -/
theorem cvTerms_tells0 (n Bf Bc n₁ B : Nat) (a : List Z) (v2 : Value) (b : List C) (a1 : Option Addr) (c1 : Nat) (hb : b.length ≤ 1000000)
    (w : World) (hBc : Bc < n₁) (hBf : Bf < n₁) (hn₁ : n₁ ≤ w.heap.size) (n₀ : Nat) (hrb : RdO n₀ w v2 b)
    (hcf : w.cell? ⟨Bf, 0, none⟩ = some (.int .i64 (-1))) (hc0 : w.cell? ⟨Bc, 0, none⟩ = some (.slice a1 0 c1)) (hc1 : w.cell? ⟨Bc, 1, none⟩ = some v2) :
    Tells Fence.wide n Try.prog 87 #[.pointer (some ⟨Bf, 0, none⟩), .pointer (some ⟨Bc, 0, none⟩)] (cvTold [] a 0) (KeptBut n₁ B) w := by
  intro l J Jx W hW hJ hJx hS hY h0
  obtain ⟨a2, c2, rfl, -, -, -⟩ := hrb.find
  have hk : Below n₁ w W := hW.mono hn₁
  have d0 : W.cell? ⟨Bf, 0, none⟩ = some (.int .i64 (-1)) := by rw [hk.cell (p := ⟨Bf, 0, none⟩) hBf]; exact hcf
  have d1 : W.cell? ⟨Bc, 0, none⟩ = some (.slice a1 0 c1) := by rw [hk.cell (p := ⟨Bc, 0, none⟩) hBc]; exact hc0
  have d2 : W.cell? ⟨Bc, 1, none⟩ = some (.slice a2 b.length c2) := by rw [hk.cell (p := ⟨Bc, 1, none⟩) hBc]; exact hc1
  have hBW : Bc < W.heap.size := Nat.lt_of_lt_of_le hBc (Nat.le_trans hn₁ hW.size)
  have HLen := Lib.hid (fun w => cvLength_any a1 a2 0 c1 b.length c2 (by omega) hb w)
  have H0 : Hid (∀ W', Below W.heap.size W W' → J (cvTold [] a 0).last W') := fun W' hb => by
    have : (cvTold [] a 0).last = (0, 0) := by simp [cvTold, cvLen]
    rw [this]; exact hJ _ _ _ none h0 (grown_of_below hb) (fun r e => by cases e)
  have hmx : maxI 0 (-1 - 0 + 1) = 0 := by decide
  clear h0 hJ hJx hS hY hW hk hcf hc0 hc1 hrb
  refine callsIn_of_wp Try.func87 rfl trivial ?_ rfl
  simp only [Try.ntmps87, List.size_toArray, List.length_cons, List.length_nil, Nat.reduceAdd, Nat.reduceSub, Array.replicate_succ, Array.replicate_zero, List.push_toArray, List.append_toArray, List.nil_append, List.cons_append]
  gi_wp2
  refine wpIn_loop_rounds 2 ?_
  rw [roundsIn_succ]
  gi_wp2_with (gi_at_call 57; refine (callsIn_wide.2 (HLen.out _)).mono ?_; rw [cvLen_nil]; rintro e w1 ⟨rfl, hb1⟩; have e0 : w1.cell? ⟨Bc, 0, none⟩ = some (.slice a1 0 c1) := (by rw [hb1.cell hBW]; exact d1); have e1 : w1.cell? ⟨Bc, 1, none⟩ = some (.slice a2 b.length c2) := (by rw [hb1.cell hBW]; exact d2); have HB1 := Lib.hid hb1; clear hb1)
  refine wpIn_loop_rounds 1 ?_
  rw [roundsIn_succ]
  gi_wp2
  rw [roundsIn_succ]
  gi_wp2_with (gi_at_call 57; refine (callsIn_wide.2 (HLen.out _)).mono ?_; rw [cvLen_nil]; rintro e w2 ⟨rfl, hb2⟩; have HB2 := Lib.hid hb2; clear hb2)
  go_end0
  exact ⟨⟨_, rfl⟩, .inl (H0.out _ (below_step HB1.out HB2.out HB1.out.size))⟩

/-- Four blocks that are laid one after the other. -/
theorem laid4 (w : World) (a b c d : Obj) {N : Nat} (hN : w.heap.size = N) {W : World} (hW : (((w.alloc a).alloc b).alloc c).alloc d = W) :
    W.heap.size = N + 4 ∧ W.heap[N]? = some a ∧ W.heap[N + 1]? = some b ∧ W.heap[N + 2]? = some c ∧ W.heap[N + 3]? = some d ∧ Below w.heap.size w W := by
  subst hN; subst hW
  have up : ∀ (W : World) (o : Obj) (k : Nat) (x : Obj), W.heap[k]? = some x → (W.alloc o).heap[k]? = some x := fun W o k x h => (Below.heap_alloc W o k (Array.getElem?_eq_some_iff.1 h).1).trans h
  have n0 := World.alloc_heap_new w a
  have n1 := World.alloc_heap_new (w.alloc a) b
  have n2 := World.alloc_heap_new ((w.alloc a).alloc b) c
  have n3 := World.alloc_heap_new (((w.alloc a).alloc b).alloc c) d
  simp only [World.size_alloc] at n1 n2 n3
  refine ⟨by simp, up _ _ _ _ (up _ _ _ _ (up _ _ _ _ n0)), up _ _ _ _ (up _ _ _ _ n1), up _ _ _ _ n2, n3, (((((Below.refl _ w).alloc (Nat.le_refl _) _).alloc (by simp) _).alloc (by simp; omega) _).alloc (by simp; omega) _)⟩

theorem Row.keptBut {n B e b : Nat} {w w' : World} {v : Value} {cs : List Value} (h : Row w b e v cs) (hk : KeptBut n B w w') (hv : ∀ k, v.ownBlock = some k → k < n ∧ k ≠ B) : Row w' b e v cs := by
  refine ⟨h.1, ?_⟩
  rcases h.2 with hn | ⟨g, cap, cur, rfl, hbb, hgg, rest⟩
  · exact .inl hn
  · refine .inr ⟨g, cap, cur, rfl, hbb, ?_, rest⟩
    obtain ⟨h1, h2⟩ := hv g (by simp [Value.ownBlock])
    rw [hk.block g h1 h2]
    exact hgg

/-- What the loop over the terms keeps: the sum so far. -/
def RcHas (S m : Nat) (xn : Z) (made az : List Z) (W0 : World) (s : Nat × Nat) (W : World) : Prop :=
  ∃ p q, Boxed W (S + 1) 30 (.complex .f64 p q) ∧ ((s.1 = m - 1 ∧ s.2 ≤ min m az.length ∧ IsC (p, q) (rcSum xn made az m s.2)) ∨ (s.1 = m ∧ s.2 = 0 ∧ 0 < m ∧ IsC (p, q) (rcSum xn made az m (min m az.length)))) ∧ KeptBut (S + 4) (S + 1) W0 W ∧ S + 4 ≤ W.heap.size
def RcStop (S m : Nat) (xn : Z) (made az : List Z) (W0 : World) (c : Code) (s : Nat × Nat) (W : World) : Prop :=
  c = .exit 2 ∧ RcHas S m xn made az W0 (m, 0) W ∧ 0 < m
theorem RcHas.kept {S m : Nat} {xn : Z} {made az : List Z} {W0 A A' : World} {s : Nat × Nat} {row : Option Nat} (h : RcHas S m xn made az W0 s A) (hg : A.grownBy A' row) (hr : ∀ r, row = some r → S + 4 ≤ r) : RcHas S m xn made az W0 s A' := by
  obtain ⟨p, q, h1, h2, h3, h4⟩ := h
  exact ⟨p, q, h1.kept hg (fun e => by have := hr _ e.symm; omega), h2, h3.grown hg hr h4, Nat.le_trans h4 hg.size⟩
/-- At the end the sum is whole. -/
theorem RcHas.whole {S m : Nat} {xn : Z} {made az : List Z} {W0 W : World} (h : RcHas S m xn made az W0 (max (m - 1) (cvLen made.length az.length), 0) W) (hm : made.length = m) :
    ∃ p q, Boxed W (S + 1) 30 (.complex .f64 p q) ∧ IsC (p, q) (rcSum xn made az m (min m az.length)) ∧ KeptBut (S + 4) (S + 1) W0 W ∧ S + 4 ≤ W.heap.size := by
  obtain ⟨p, q, h1, h2, h3, h4⟩ := h
  refine ⟨p, q, h1, ?_, h3, h4⟩
  rcases h2 with ⟨e1, e2, e3⟩ | ⟨e1, e2, e3, e4⟩
  · simp only at e1 e2 e3
    have : min m az.length = 0 := by
      by_cases h0 : m = 0
      · omega
      · by_cases h1 : az.length = 0
        · omega
        · have := cvLen_pos (a := made.length) (b := az.length) (by omega) h1
          omega
    rw [this]; exact e3
  · exact e4
theorem RcHas.stopped {S m : Nat} {xn : Z} {made az : List Z} {W0 W : World} (h : RcHas S m xn made az W0 (m, 0) W) (hm : 0 < m) :
    ∃ p q, Boxed W (S + 1) 30 (.complex .f64 p q) ∧ IsC (p, q) (rcSum xn made az m (min m az.length)) ∧ KeptBut (S + 4) (S + 1) W0 W ∧ S + 4 ≤ W.heap.size := by
  obtain ⟨p, q, h1, h2, h3, h4⟩ := h
  refine ⟨p, q, h1, ?_, h3, h4⟩
  rcases h2 with ⟨e1, e2, e3⟩ | ⟨e1, e2, e3, e4⟩
  · simp only at e1; omega
  · exact e4

theorem gathered_below' {S : Nat} {n B : Nat} {w wr W0 W : World} (h : Below w.heap.size w wr) (hS : w.heap.size ≤ S) (h0 : Below S wr W0) (hk : KeptBut (S + n) (S + B) W0 W) : Below w.heap.size w W :=
  ⟨hk.os.trans (h0.os.trans h.os), hk.tape.trans (h0.tape.trans h.tape), hk.output.trans (h0.output.trans h.output), Nat.le_trans h.size (Nat.le_trans h0.size hk.size), fun k hlt => by
    rw [hk.block k (by omega) (by omega), h0.block k (by omega)]; exact h.block k hlt⟩

theorem Row.written {w : World} {B e n : Nat} {v : Value} {cs : List Value} (h : Row w B e v cs) (hn : cs.length = n) : ∃ a cap, v = .slice a n cap := by
  rcases h.shape with ⟨a, cap, e, e'⟩ | ⟨g, cap, e, _⟩
  · refine ⟨a, cap, ?_⟩
    rw [e, ← hn, e']; rfl
  · exact ⟨_, cap, by rw [e, hn]⟩

end Go.Proofs.Ytocjhanehphibaa
/-
  RecurSignal of the model.
-/
set_option linter.unusedVariables false
set_option linter.unusedSimpArgs false
namespace Go.Proofs.Ytocjhanehphibaa
open Go.RowKit Flt Fast
attribute [local go_sem] run_fadd run_fsub run_fmul run_fquo run_cadd run_csub

end Go.Proofs.Ytocjhanehphibaa
