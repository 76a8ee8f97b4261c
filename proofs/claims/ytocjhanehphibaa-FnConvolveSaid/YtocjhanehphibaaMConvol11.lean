/-
  Several texts of this claim, one behind the other; each says what it holds.
-/
import Derived.Test.YtocjhanehphibaaMConvol10
import Derived.RangeFuncBox
import Derived.Maps.AppendAt
import Derived.Deep.RegionHeld3
/-
  NarrowConvolve of the program. (Written by gennar.py from the wide texts.)
-/
set_option linter.unusedVariables false
set_option linter.unusedSimpArgs false
namespace Go.Proofs.Ytocjhanehphibaa
open Go.RowKit Go.Shelf Flt Fast
attribute [local go_sem] Oper.semAt_some wide_fn wide_depth wide_fnR wide_depthR run_fadd run_fsub run_fmul run_fquo run_cadd run_csub
attribute [local go_sem ↓] run_max_word

set_option maxRecDepth 100000 in
theorem termsN_any (v1 v2 : Value) (f : Int) (w : World) :
    Calls Try.prog 86 #[.agg #[v1, v2], .int .i64 f] w fun e w' =>
      e = .returned (.func (.func 100) #[] #[.pointer (some ⟨w.heap.size + 1, 0, none⟩), .pointer (some ⟨w.heap.size, 0, none⟩)]) ∧
      w' = (w.alloc (.cells #[v1, v2] 85)).alloc (.cells #[.int .i64 f] 3) := by
  go_enter Try.func86, Try.ntmps86
  go_wp2
  go_ret
  exact ⟨rfl, rfl⟩

/-- The iterator tells the terms. -/
theorem cvTermsN_tells (n Bf Bc n₀ n₁ B : Nat) (x h : List C) (f : Nat) (v1 v2 : Value) (hx : x.length ≤ 1000000) (hh : h.length ≤ 1000000) (hf : f ≤ 2000000) (hwx : PlainN x) (hwh : PlainN h)
    (w : World) (h01 : n₀ ≤ n₁) (h0B : n₀ ≤ B) (hBc : Bc < n₁) (hBf : Bf < n₁) (hBcB : Bc ≠ B) (hn₁ : n₁ ≤ w.heap.size)
    (hrx : RdN n₀ w v1 x) (hrh : RdN n₀ w v2 h) (hcf : w.cell? ⟨Bf, 0, none⟩ = some (.int .i64 (f : Int))) (hc0 : w.cell? ⟨Bc, 0, none⟩ = some v1) (hc1 : w.cell? ⟨Bc, 1, none⟩ = some v2) :
    Tells Fence.wide n Try.prog 100 #[.pointer (some ⟨Bf, 0, none⟩), .pointer (some ⟨Bc, 0, none⟩)] (cvToldK (wsOf x) (wsOf h) f) (KeptBut n₁ B) w := by
  intro l J Jx W hW hJ hJx hS hY h0
  have hk : Below n₁ w W := hW.mono hn₁
  refine cvTermsN_in n l Bf Bc n₀ n₁ B x h f v1 v2 hx hh hf hwx hwh h01 h0B hBc hBcB J Jx W (Nat.le_trans hn₁ hW.size) ?_ hS hY (hrx.below (hk.mono h01)) (hrh.below (hk.mono h01)) ?_ ?_ ?_ h0
  · intro s A A' hj hb
    exact hJ s A A' none hj (grown_of_below hb) (fun r e => by cases e)
  · rw [hk.cell (p := ⟨Bf, 0, none⟩) hBf]; exact hcf
  · rw [hk.cell (p := ⟨Bc, 0, none⟩) hBc]; exact hc0
  · rw [hk.cell (p := ⟨Bc, 1, none⟩) hBc]; exact hc1

/-- What has been gathered when the terms up to (n, j) have come. -/
def PartK (x h : List KW) (f n j : Nat) (ps : List C) : Prop :=
  ps.length = (n - f) + min j 1 ∧ (∀ i, i < n - f → IsN (ps.getD i (0, 0)) (cvAtK x h (f + i))) ∧ (0 < j → IsN (ps.getD (n - f) (0, 0)) (cvSumK x h n j))
/-- The numbers from the place f on, up to en. -/
def cvPartK (x h : List KW) (f en : Nat) : List KW := (List.range (min en (max f (cvLen x.length h.length)) - f)).map fun i => cvAtK x h (f + i)

theorem PartK.first {x h : List KW} {f n : Nat} {ps : List C} {p : C} (hp : PartK x h f n 0 ps) (ht : IsN p (cvTermK x h n 0)) (hf : f ≤ n) : PartK x h f n 1 (ps ++ [p]) := by
  obtain ⟨h1, h2, -⟩ := hp
  simp at h1
  refine ⟨by simp [h1], fun i hi => ?_, fun _ => ?_⟩
  · rw [getD_snoc_lt (by omega)]; exact h2 i hi
  · rw [getD_snoc_eq h1.symm, cvSumK_one]; exact ht
theorem PartK.more {x h : List KW} {f n j : Nat} {ps : List C} {p : C} (hp : PartK x h f n j ps) (hj : 0 < j) (ht : IsN p (addW (cvSumK x h n j) (cvTermK x h n j))) : PartK x h f n (j + 1) (ps.set (n - f) p) := by
  obtain ⟨h1, h2, -⟩ := hp
  have e : min j 1 = 1 := by omega
  refine ⟨by rw [List.length_set, h1]; omega, fun i hi => ?_, fun _ => ?_⟩
  · rw [getD_set_ne (by omega)]; exact h2 i hi
  · rw [getD_set_eq (by omega), cvSumK_succ x h n (by omega)]; exact ht
theorem PartK.next {x h : List KW} {f n : Nat} {ps : List C} (hp : PartK x h f n (cvCnt x.length h.length n) ps) (hn : n < cvLen x.length h.length) (hf : f ≤ n) : PartK x h f (n + 1) 0 ps := by
  obtain ⟨h1, h2, h3⟩ := hp
  have hc := cvCnt_pos hn
  refine ⟨by rw [h1]; omega, fun i hi => ?_, fun h => by omega⟩
  by_cases hlt : i < n - f
  · exact h2 i hlt
  · obtain rfl : i = n - f := by omega
    rw [show f + (n - f) = n by omega]; exact h3 hc
theorem PartK.all {x h : List KW} {f n en : Nat} {ps : List C} (hp : PartK x h f n 0 ps) (hn : n = min en (max f (cvLen x.length h.length))) : IsNs ps (cvPartK x h f en) := by
  obtain ⟨h1, h2, -⟩ := hp
  unfold cvPartK
  rw [← hn]
  refine ⟨by rw [h1]; simp, fun i hi => ?_⟩
  have hi' : i < n - f := by simpa using hi
  have := h2 i hi'
  simpa [List.getD, hi'] using this

/-- What the loop keeps. -/
def GathersN (N f en : Nat) (xz hz : List KW) (W0 : World) (s : Nat × Nat) (W : World) : Prop :=
  ∃ v ps, Boxed W (N + 3) 31 v ∧ Row W (N + 6) 36 v (nvals ps) ∧ PartK xz hz f s.1 s.2 ps ∧ f ≤ s.1 ∧ (s.1 < en ∨ s.1 = en ∧ s.2 = 0) ∧ KeptBut (N + 6) (N + 3) W0 W ∧ N + 6 ≤ W.heap.size

theorem GathersN.kept {N f en : Nat} {xz hz : List KW} {W0 A A' : World} {s : Nat × Nat} {row : Option Nat} (h : GathersN N f en xz hz W0 s A) (hg : A.grownBy A' row) (hr : ∀ r, row = some r → N + 6 ≤ r ∧ ∃ o : Obj, A.heap[r]? = some o ∧ o.isCells = false) : GathersN N f en xz hz W0 s A' := by
  obtain ⟨v, ps, h1, h2, h3, h4, h5, h6, h7⟩ := h
  refine ⟨v, ps, h1.kept hg (fun e => ?_), h2.kept hg ?_, h3, h4, h5, h6.grown hg (fun r e => (hr r e).1) h7, Nat.le_trans h7 hg.size⟩
  · have := (hr _ e.symm).1; omega
  · cases row with
    | none => cases h : v.ownBlock with
      | none => exact .inl rfl
      | some k => exact .inr (by simp)
    | some r => obtain ⟨_, o, ho, hc⟩ := hr r rfl; exact row_cells h2 ho hc

/-- How the loop is left ahead of its end. -/
def GStopN (N f en L : Nat) (xz hz : List KW) (W0 : World) (c : Code) (s : Nat × Nat) (W : World) : Prop := c = .exit 0 ∧ en < L ∧ GathersN N f en xz hz W0 (en, 0) W
/-- How a round goes on. -/
def GNextN (N f en : Nat) (xz hz : List KW) (W0 W : World) (s : Nat × Nat) (W' : World) : Prop := KeepsFrom (N + 6) W W' ∧ KeptBut (N + 6) (N + 3) W W' ∧ GathersN N f en xz hz W0 s W'

set_option maxRecDepth 100000 in
set_option maxHeartbeats 8000000 in
theorem numbersN_any (x h : List C) (f en : Nat) (v1 v2 : Value) (hx : x.length ≤ 100000) (hh : h.length ≤ 100000) (hf : f ≤ en) (hen : en ≤ 200000) (hwx : PlainN x) (hwh : PlainN h) (hsm : ∀ n j, j ≤ (wsOf h).length → Small (cvSumK (wsOf x) (wsOf h) n j))
    (w : World) (hrx : RdN w.heap.size w v1 x) (hrh : RdN w.heap.size w v2 h) :
    Calls Try.prog 69 #[.agg #[v1, v2], .int .i64 f, .int .i64 en] w fun e w' =>
      ∃ v ps, e = .returned v ∧ Row w' w.heap.size 36 v (nvals ps) ∧ IsNs ps (cvPartK (wsOf x) (wsOf h) f en) ∧ Below w.heap.size w w' := by
  obtain ⟨i0, hi, hz0, hz1, hz2⟩ := info_parts info_c64
  refine (callsIn_wide (n := 5)).1 ?_
  refine callsIn_of_wp_marks Try.func69 rfl trivial ?_ rfl
  simp only [Try.ntmps69, List.size_toArray, List.length_cons, List.length_nil, Nat.reduceAdd, Nat.reduceSub, Array.replicate_succ, Array.replicate_zero, List.push_toArray, List.append_toArray, List.nil_append, List.cons_append]
  obtain ⟨N, hN⟩ : ∃ N, w.heap.size = N := ⟨_, rfl⟩
  obtain ⟨s1, rfl⟩ : ∃ s, v1 = s := ⟨_, rfl⟩
  have HRX := Lib.hid hrx
  have HRH := Lib.hid hrh
  have HLE : Hid ((wsOf x).length = x.length ∧ (wsOf h).length = h.length) := ⟨wsOf_length _, wsOf_length _⟩
  obtain ⟨xz, hxz⟩ : ∃ l, wsOf x = l := ⟨_, rfl⟩
  obtain ⟨hz, hhz⟩ : ∃ l, wsOf h = l := ⟨_, rfl⟩
  rw [hxz, hhz] at hsm
  have HSM0 := Lib.hid hsm
  clear hsm
  obtain ⟨a1, c1, e1, -, -, -⟩ := hrx.find
  obtain ⟨a2, c2, e2, -, -, -⟩ := hrh.find
  subst e1
  subst e2
  clear hrx hrh
  gi_wp2
  refine wpIn_wide.2 (wp_scope_straight ((wpIn_wide (n := 5)).1 ?_))
  gi_wp2
  refine wpIn_label ?_
  gi_wp2_with (gi_at_call 86; refine (callsIn_wide.2 (termsN_any _ _ _ _)).mono ?_; rintro e w1 ⟨rfl, rfl⟩)
  try simp only [World.size_alloc, hN]
  obtain ⟨W0, hW0⟩ : ∃ W0, ((((((w.alloc (Obj.cells #[Value.slice a1 x.length c1, Value.slice a2 h.length c2] 85)).alloc (Obj.cells #[Value.int IntKind.i64 ↑f] 3)).alloc (Obj.cells #[Value.int IntKind.i64 ↑en] 3)).alloc (Obj.cells #[Value.slice none 0 0] 31)).alloc (Obj.cells #[Value.slice a1 x.length c1, Value.slice a2 h.length c2] 85)).alloc (Obj.cells #[Value.int IntKind.i64 ↑f] 3)) = W0 := ⟨_, rfl⟩
  rw [hW0]
  obtain ⟨hsz, -, k1, k2, k3, k4, k5, hB0⟩ := laid6 w _ _ _ _ _ _ hN hW0
  have b1 : W0.cell? ⟨N + 1, 0, none⟩ = some (.int .i64 f) := cell_of_heap k1 rfl
  have b2 : W0.cell? ⟨N + 2, 0, none⟩ = some (.int .i64 en) := cell_of_heap k2 rfl
  have b3 : Boxed W0 (N + 3) 31 (.slice none 0 0) := k3
  have b4 : W0.cell? ⟨N + 4, 0, none⟩ = some (.slice a1 x.length c1) := cell_of_heap k4 rfl
  have b5 : W0.cell? ⟨N + 4, 1, none⟩ = some (.slice a2 h.length c2) := cell_of_heap k4 rfl
  have b6 : W0.cell? ⟨N + 5, 0, none⟩ = some (.int .i64 f) := cell_of_heap k5 rfl
  have hT := cvTermsN_tells (5 - 1) (N + 5) (N + 4) N (N + 6) (N + 3) x h f _ _ (by omega) (by omega) (by omega) hwx hwh W0 (by omega) (by omega) (by omega) (by omega) (by omega) (by omega)
    (by rw [← hN]; exact HRX.out.below hB0) (by rw [← hN]; exact HRH.out.below hB0) b6 b4 b5
  rw [hxz, hhz] at hT
  have HE := HLE.out
  rw [hxz, hhz] at HE
  obtain ⟨L, hL⟩ : ∃ L, cvLen xz.length hz.length = L := ⟨_, rfl⟩
  have hLle : L ≤ 200000 := by rw [← hL, HE.1, HE.2]; have := cvLen_le x.length h.length; omega
  have HB0 := Lib.hid hB0
  have HS := Lib.hid hsz
  have HN := Lib.hid hN
  have HL := Lib.hid hL
  have hI0 : GathersN N f en xz hz W0 (f, 0) W0 := ⟨_, [], b3, World.ownsRow_nil _ _ _ _, ⟨by simp, fun i hi => by omega, fun h => by omega⟩, Nat.le_refl _, by simp; omega, KeptBut.refl _ _ _, by omega⟩
  have HI0 := Lib.hid hI0
  have HXZ := Lib.hid hxz
  have HHZ := Lib.hid hhz
  clear hB0 HRX HRH hxz hhz HLE HE hI0 b3 b4 b5 b6 k1 k2 k3 k4 k5 hL hW0
  refine wpIn_range_told (T := cvToldK xz hz f) rfl (by omega) rfl trivial (enters_of Try.func100 (by kernel_rfl) rfl)
    hT (Below.refl _ _) (fun h k => h.trans k) (fun W l o o' hl _ _ _ => KeptBut.putObj W l o' (by omega)) (fun _ => rfl)
    (GathersN N f en xz hz W0) (GStopN N f en L xz hz W0)
    (fun s A A' row hs hg hr => hs.kept hg (fun r e => ⟨by have := (hr r e).1; omega, (hr r e).2⟩))
    (fun c s A A' row hs hg hr => ⟨hs.1, hs.2.1, hs.2.2.kept hg (fun r e => ⟨by have := (hr r e).1; omega, (hr r e).2⟩)⟩)
    ?silent HI0.out
    (fun y => { tmps := #[.agg #[.slice a1 x.length c1, .slice a2 h.length c2], .int .i64 f, .int .i64 en, .pointer (some ⟨N, 0, none⟩), .pointer (some ⟨N + 1, 0, none⟩), .pointer (some ⟨N + 1 + 1, 0, none⟩), .slice none 0 0, .pointer (some ⟨N + 1 + 1 + 1, 0, none⟩), .int .i64 y.1, .complex .f32 y.2.1 y.2.2, .agg #[.slice a1 x.length c1, .slice a2 h.length c2], .int .i64 f, .func (.func 100) #[] #[.pointer (some ⟨N + 1 + 1 + 1 + 1 + 1, 0, none⟩), .pointer (some ⟨N + 1 + 1 + 1 + 1, 0, none⟩)], .int .i64 y.1, .complex .f32 y.2.1 y.2.2, undef, undef, undef, undef, undef, undef, undef, undef, undef, undef, undef, undef, undef, undef, undef, undef, undef, undef, undef, undef, undef, undef, undef, undef, undef], defers := [] })
    ?assign ?body ?done ?stop
  case silent =>
    rintro ⟨n, j⟩ s' W ⟨v, ps, h1, h2, h3, h4, h5, h6, h7⟩ ⟨e1, e2, rfl⟩
    simp only at e1 e2 h3 h4 h5
    have hc := cvCnt_pos e1
    exact ⟨v, ps, h1, h2, (by subst e2; exact h3.next e1 h4), (by simp only; omega), (by have h : n < en := (by omega); rcases Nat.lt_or_eq_of_le h with h | h; exact .inl h; exact .inr ⟨h, rfl⟩), h6, h7⟩
  case assign =>
    rintro l ⟨n, p, q⟩ W K hK
    dsimp only [cvToldK]
    gi_wp2
    exact hK
  case body =>
    rintro l ⟨n, j⟩ s' ⟨n', ⟨p, q⟩⟩ W ⟨v, ps, hb, hr, hp, hfn, hend, hk, hsW⟩ ⟨e1, e2, e3, e4, rfl⟩
    simp only at e1 e2 e3 e4 hp hfn hend
    subst e3
    rw [HL.out] at e1
    have d1 : W.cell? ⟨N + 1, 0, none⟩ = some (.int .i64 f) := by rw [hk.cell (by omega) (by omega)]; exact b1
    have d2 : W.cell? ⟨N + 1 + 1, 0, none⟩ = some (.int .i64 en) := by rw [hk.cell (by omega) (by omega)]; exact b2
    have d3 : W.cell? ⟨N + 1 + 1 + 1, 0, none⟩ = some v := hb.cell
    have d3f : W.frozen? ⟨N + 1 + 1 + 1, 0, none⟩ = false := hb.frozen
    have hpl := hp.1
    have hn2 : n' ≤ 200000 := by omega
    by_cases hen' : n' = en
    · subst hen'
      obtain rfl : j = 0 := by omega
      have HG : Hid (GathersN N f n' xz hz W0 (n', 0) W) := ⟨v, ps, hb, hr, hp, hfn, .inr ⟨rfl, rfl⟩, hk, hsW⟩
      clear hb hr hp hk d3 hT
      gi_wp2
      exact ⟨KeepsFrom.refl _ _, ⟨rfl, e1, HG.out⟩⟩
    · have g1 : ((n' : Int) == (en : Int)) = false := by simp; omega
      by_cases hj : j = 0
      · subst hj
        have hl : ps.length = n' - f := by simpa using hpl
        obtain ⟨M, hM⟩ : ∃ M, ps.length = M := ⟨_, rfl⟩
        have hMf : (n' : Int) = (f : Int) + (M : Int) := by omega
        have hcl : (nvals ps).length = M := by rw [nvals_length]; exact hM
        have hlt : n' < en := by omega
        have HFin : Hid (∀ (w1 : World) v' g cap tmp, v' = .slice (some ⟨g, 0, none⟩) (M + 1) cap → w1.ownsRow (N + 6) 36 1 v' (M + 1) (nvals ps ++ [.complex .f32 p q]) → (W.alloc tmp).grownBy w1 v.ownBlock →
            w1.cell? ⟨N + 1 + 1 + 1, 0, none⟩ = some v ∧ w1.frozen? ⟨N + 1 + 1 + 1, 0, none⟩ = false ∧ GNextN N f en xz hz W0 W (n', 1) (w1.setCell ⟨N + 1 + 1 + 1, 0, none⟩ v')) := fun w1 v' g cap tmp hv' hown hgrow => by
          have hown' : Row w1 (N + 6) 36 v' (nvals (ps ++ [(p, q)])) := by
            unfold Row
            rw [nvals_length, List.length_append, hM, nvals_snoc]
            exact hown
          obtain ⟨x1, x2, x3, x4, x5, x6⟩ := boxed_append hb (by decide) hr (by omega) hsW hown' hgrow
          exact ⟨x1.cell, x1.frozen, x4.from _, x5, v', ps ++ [(p, q)], x2, x3, hp.first e4 hfn, hfn, .inl hlt, hk.trans x5, x6⟩
        have g2 : ((n' : Int) == (f : Int) + (M : Int)) = true := by simp; omega
        have hrow : W.ownsRow (N + 6) 36 1 v M (nvals ps) := by have := hr; unfold Row at this; rwa [hcl] at this
        have hln : ∃ a cap, v = .slice a M cap := by
          rcases hr.shape with ⟨a, cap, e, e'⟩ | ⟨g, cap, e, _⟩
          · refine ⟨a, cap, ?_⟩
            rw [e, ← hcl, e']; rfl
          · exact ⟨_, cap, by rw [e, hcl]⟩
        obtain ⟨va, vc, rfl⟩ := hln
        have HR := Lib.hid hrow
        have hsz1 : N + 6 ≤ W.heap.size + 1 := by omega
        have hM2 : M ≤ 200000 := by omega
        clear hb hr hp hk hT hrow hl hpl hM hcl e4 b1 b2
        gi_wp2_with (gi_at_builtin; refine wpListIn_append_own _ rfl _ _ 31 rfl (N + 6) 36 i0 (.complex .f32 0 0) 1 8 Try.underlying31 hi hz0 hz1 hz2 rfl (by decide) _ _ _ rfl (HR.out.alloc _) ⟨W.heap.size, 0, none⟩ 1 1 [.complex .f32 p q] rfl rfl (cell_one_new _ _ _) (by simp [Value.oneCell']) (by simp [maxLen]; omega) (by omega) (by simp; omega) ?_; intro v' w1 hown' hgrow _; obtain ⟨g', cap', rfl⟩ := ownsRow_succ hown'; obtain ⟨y1, y2, y3⟩ := HFin.out _ _ _ _ _ rfl hown' hgrow; have Y3 := Lib.hid y3; clear y3)
        exact Y3.out
      · have hj0 : 0 < j := by omega
        have hl : ps.length = n' - f + 1 := by rw [hpl]; omega
        obtain ⟨M, hM⟩ : ∃ M, n' - f = M := ⟨_, rfl⟩
        rw [hM] at hl
        have hMf : (n' : Int) - f = (M : Int) := by omega
        have hlt : n' < en := by omega
        have hcl : (nvals ps).length = M + 1 := by rw [nvals_length]; exact hl
        rcases hr.shape with ⟨a, cap, e, e'⟩ | ⟨g, cap, rfl, hc0, hgN, hgs, hcc, hcm⟩
        · rw [e'] at hcl; simp at hcl
        rw [hcl] at hr hcc d3 hb
        have k1 := hr.cellAt (show M < M + 1 by omega)
        rw [nvals_getD (by omega)] at k1
        have k1f := hr.frozenAt M
        have hfit := hp.2.2 hj0
        rw [hM] at hfit
        obtain ⟨⟨u, v⟩, huv⟩ : ∃ z, ps.getD M (0, 0) = z := ⟨_, rfl⟩
        rw [huv] at k1 hfit
        have HFin : Hid (∀ (d u' v' : Nat), IsN (u', v') (addW (cvSumK xz hz n' j) (cvTermK xz hz n' j)) → GNextN N f en xz hz W0 W (n', j + 1) ((W.drewN d).setCell ⟨g, M, none⟩ (.complex .f32 u' v'))) := fun d u' v' hc => by
          have h1 := (hr.drewN d).set M (.complex .f32 u' v')
          rw [show (nvals ps).set M (.complex .f32 u' v') = nvals (ps.set M (u', v')) by simp [nvals, List.map_set, nval]] at h1
          have h2 : Boxed ((W.drewN d).setCell ⟨g, M, none⟩ (.complex .f32 u' v')) (N + 3) 31 (.slice (some ⟨g, 0, none⟩) (M + 1) cap) := Boxed.kept (Boxed.drewN hb d) h1.2 (by simp; omega)
          have h3 := hp.more hj0 hc
          rw [hM] at h3
          exact ⟨KeepsOthers.from (KeepsOthers.trans (KeepsOthers.drewN (KeepsOthers.refl W) d) (KeepsOthers.setCell _ _ _)) _, ((KeptBut.refl _ _ W).drewN d).setCell g M _ (.inr (by omega)), _, _, h2, h1.1, h3, hfn, .inl hlt, (hk.drewN d).setCell g M _ (.inr (by omega)), by simp; exact hsW⟩
        have g2 : ((n' : Int) == (f : Int) + ((M + 1 : Nat) : Int)) = false := by simp; omega
        have g3 : ((n' : Int) == (f : Int) + ((M : Int) + 1)) = false := by simp; omega
        have HFit := Lib.hid hfit
        have HSM : Hid (Small (addW (cvSumK xz hz n' j) (cvTermK xz hz n' j))) := Lib.hid (by have h := HSM0.out n' (j + 1) (by have := cvCnt_le xz.length hz.length n'; omega); rwa [cvSumK_succ _ _ _ (by omega)] at h)
        have HE4 := Lib.hid e4
        have hM2 : M ≤ 200000 := by omega
        have hmx := maxLen_int (Nat.le_trans hcc hcm)
        clear hb hr hp hk hT hl hpl hM hcl e4 b1 b2 hfit huv
        gi_wp2
        exact HFin.out _ _ _ (isN_add HFit.out HE4.out HSM.out _ _)
  case done =>
    rintro D W hD ⟨v, ps, hb, hr, hp, hfn, hend, hk, hsW⟩ hK
    have hD' : N + 6 ≤ D := by omega
    have d3 : W.cell? ⟨N + 1 + 1 + 1, 0, none⟩ = some v := hb.cell
    have hE : max f (cvLen xz.length hz.length) = min en (max f (cvLen xz.length hz.length)) := by simp only [cvToldK] at hend; omega
    have HFin : Hid (Row (W.putObj D (.deferred none)) w.heap.size 36 v (nvals ps) ∧ IsNs ps (cvPartK xz hz f en) ∧ Below w.heap.size w (W.putObj D (.deferred none))) :=
      ⟨Row.base (ownsRow_putObj hr _ hK rfl) (by omega), hp.all hE, gathered_below HB0.out hk hD' (by rw [HN.out]; omega) (by omega)⟩
    clear hb hr hp hk hT b1 b2 hend hE
    gi_wp2
    dsimp only [Exit.noGoto]
    refine ⟨by simp, .inl ⟨_, _, rfl, run_takeDeferred hK, ?_⟩⟩
    exact ⟨_, results_tmp rfl _ _ _, v, ps, rfl, HFin.out.1, by rw [HXZ.out, HHZ.out]; exact HFin.out.2.1, HFin.out.2.2⟩
  case stop =>
    rintro D c s W hD ⟨rfl, hlt, v, ps, hb, hr, hp, hfn, hend, hk, hsW⟩ hK
    have hD' : N + 6 ≤ D := by omega
    have d3 : W.cell? ⟨N + 1 + 1 + 1, 0, none⟩ = some v := hb.cell
    have hE : en = min en (max f (cvLen xz.length hz.length)) := by rw [HL.out]; omega
    have HFin : Hid (Row (W.putObj D (.deferred none)) w.heap.size 36 v (nvals ps) ∧ IsNs ps (cvPartK xz hz f en) ∧ Below w.heap.size w (W.putObj D (.deferred none))) :=
      ⟨Row.base (ownsRow_putObj hr _ hK rfl) (by omega), hp.all hE, gathered_below HB0.out hk hD' (by rw [HN.out]; omega) (by omega)⟩
    clear hb hr hp hk hT b1 b2 hend hE
    gi_wp2
    refine ⟨by simp, .inl ⟨_, _, rfl, run_takeDeferred hK, ?_⟩⟩
    exact ⟨_, results_tmp rfl _ _ _, v, ps, rfl, HFin.out.1, by rw [HXZ.out, HHZ.out]; exact HFin.out.2.1, HFin.out.2.2⟩


end Go.Proofs.Ytocjhanehphibaa
namespace Go.Proofs.Ytocjhanehphibaa
open Go.RowKit Flt Fast
attribute [local go_sem ↓] run_max_word run_max_word3

set_option maxRecDepth 100000 in
set_option maxHeartbeats 4000000 in
theorem cvCheckN_any (a1 a2 : Option Addr) (n1 c1 n2 c2 : Nat) (h1 : n1 ≤ 256) (h2 : n2 ≤ 256) (hl : cvLen n1 n2 ≤ 256) (w : World) :
    Calls Try.prog 68 #[.agg #[.slice a1 n1 c1, .slice a2 n2 c2]] w fun e w' => e = .returned (.int .i64 0) ∧ Below w.heap.size w w' := by
  have HLen := Lib.hid (fun w => cvLengthN_any a1 a2 n1 c1 n2 c2 (by omega) (by omega) w)
  obtain ⟨L, hL⟩ : ∃ L, cvLen n1 n2 = L := ⟨_, rfl⟩
  rw [hL] at HLen hl
  clear hL
  have hm : decide ((256 : Int) < maxI (maxI (n1 : Int) (n2 : Int)) (L : Int)) = false := decide_eq_false (by
    have : maxI (maxI (n1 : Int) (n2 : Int)) (L : Int) ≤ 256 := maxI_le (maxI_le (by omega) (by omega)) (by omega)
    omega)
  obtain ⟨N, hN⟩ : ∃ N, w.heap.size = N := ⟨_, rfl⟩
  have HC : Hid (∀ W, Below (N + 1) (w.alloc (.cells #[.slice a1 n1 c1, .slice a2 n2 c2] 85)) W → W.cell? ⟨N, 0, none⟩ = some (.slice a1 n1 c1) ∧ W.cell? ⟨N, 1, none⟩ = some (.slice a2 n2 c2)) := fun W hW => by
    subst hN
    have hn := World.alloc_heap_new w (.cells #[.slice a1 n1 c1, .slice a2 n2 c2] 85)
    exact ⟨by rw [hW.cell (by simp)]; exact cell_of_heap hn rfl, by rw [hW.cell (by simp)]; exact cell_of_heap hn rfl⟩
  obtain ⟨w1, hw1⟩ : ∃ w1, w.alloc (.cells #[.slice a1 n1 c1, .slice a2 n2 c2] 85) = w1 := ⟨_, rfl⟩
  have hs1 : w1.heap.size = N + 1 := by rw [← hw1, ← hN]; simp
  have HB1 : Hid (Below w.heap.size w w1) := by rw [← hw1]; exact (Below.refl _ _).alloc (Nat.le_refl _) _
  have HW1 := Lib.hid hw1
  rw [hw1] at HC
  have d := HC.out w1.drew (below_draws (Below.refl _ _) 1)
  have d0 := d.1
  have d1 := d.2
  have HS1 := Lib.hid hs1
  have HN := Lib.hid hN
  clear d hw1 hs1
  go_enter Try.func68, Try.ntmps68
  go_wp2_with fail
  rw [HW1.out]
  try rw [HN.out]
  clear hN
  go_region_held3 (fun w' => w'.cell? ⟨N, 0, none⟩ = some (.slice a1 n1 c1) ∧ w'.cell? ⟨N, 1, none⟩ = some (.slice a2 n2 c2))
    (first
      | exact ⟨d0, d1⟩
      | exact HC.out _ HB2.out
      | go_keep)
    (first
      | (go_at_call 70; refine (HLen.out _).mono ?_; rintro e w2 ⟨rfl, hb⟩; have HB2 : Hid (Below (N + 1) w1 w2) := (below_draws (Below.refl _ _) 1).trans (hb.mono (by rw [← HS1.out]; exact Nat.le_refl _)); clear hb))
  all_goals
    go_wp2
    go_ret
    exact ⟨rfl, HB1.out.trans (HB2.out.mono (by rw [HN.out]; omega))⟩

theorem cvPartK_all (x h : List KW) : cvPartK x h 0 (cvLen x.length h.length) = cvAllK x h := by
  unfold cvPartK cvAllK
  rw [show min (cvLen x.length h.length) (max 0 (cvLen x.length h.length)) - 0 = cvLen x.length h.length by omega]
  simp

set_option maxRecDepth 100000 in
set_option maxHeartbeats 4000000 in
theorem convolvedN_any (x h : List C) (v1 v2 : Value) (hx : x.length ≤ 256) (hh : h.length ≤ 256) (hl : cvLen x.length h.length ≤ 256) (hwx : PlainN x) (hwh : PlainN h) (hsm : ∀ n j, j ≤ (wsOf h).length → Small (cvSumK (wsOf x) (wsOf h) n j)) (w : World) (hrx : RdN w.heap.size w v1 x) (hrh : RdN w.heap.size w v2 h) :
    Calls Try.prog 40 #[v1, v2] w fun e w' =>
      ∃ v ps, e = .returned (.tuple #[v, .int .i64 0]) ∧ Row w' w.heap.size 36 v (nvals ps) ∧ IsNs ps (cvAllK (wsOf x) (wsOf h)) ∧ Below w.heap.size w w' := by
  have hnum : ∀ w1, Below w.heap.size w w1 → Calls Try.prog 69 #[.agg #[v1, v2], .int .i64 0, .int .i64 (cvLen x.length h.length)] w1 fun e w' =>
      ∃ v ps, e = .returned v ∧ Row w' w.heap.size 36 v (nvals ps) ∧ IsNs ps (cvAllK (wsOf x) (wsOf h)) ∧ Below w1.heap.size w1 w' := fun w1 hb => by
    refine (numbersN_any x h 0 (cvLen x.length h.length) v1 v2 (by omega) (by omega) (Nat.zero_le _) (by omega) hwx hwh hsm w1 ((hrx.below hb).base hb.size) ((hrh.below hb).base hb.size)).mono ?_
    rintro e w' ⟨v, ps, rfl, hr, hf, hB⟩
    refine ⟨v, ps, rfl, hr.base hb.size, ?_, hB⟩
    rw [← cvPartK_all, wsOf_length, wsOf_length]; exact hf
  have HNUM := Lib.hid hnum
  obtain ⟨a1, c1, e1, -, -, -⟩ := hrx.find
  obtain ⟨a2, c2, e2, -, -, -⟩ := hrh.find
  subst e1
  subst e2
  clear hrx hrh hnum hsm
  have HCK := Lib.hid (fun w => cvCheckN_any a1 a2 x.length c1 h.length c2 hx hh hl w)
  have HLen := Lib.hid (fun w => cvLengthN_any a1 a2 x.length c1 h.length c2 (by omega) (by omega) w)
  obtain ⟨T, hT⟩ : ∃ T, cvLen x.length h.length = T := ⟨_, rfl⟩
  rw [hT] at HNUM HLen
  clear hT hl
  obtain ⟨L, hL⟩ : ∃ L, x.length = L := ⟨_, rfl⟩
  obtain ⟨M, hM⟩ : ∃ M, h.length = M := ⟨_, rfl⟩
  rw [hL] at hx HNUM HCK HLen ⊢
  rw [hM] at hh HNUM HCK HLen ⊢
  clear hL hM
  have HC : Hid (∀ W, Below (w.heap.size + 1) (w.alloc (.cells #[.slice a1 L c1, .slice a2 M c2] 85)) W → W.cell? ⟨w.heap.size, 0, none⟩ = some (.slice a1 L c1) ∧ W.cell? ⟨w.heap.size, 1, none⟩ = some (.slice a2 M c2)) := fun W hW => by
    have hn := World.alloc_heap_new w (.cells #[.slice a1 L c1, .slice a2 M c2] 85)
    exact ⟨by rw [hW.cell (by simp)]; exact cell_of_heap hn rfl, by rw [hW.cell (by simp)]; exact cell_of_heap hn rfl⟩
  go_enter Try.func40, Try.ntmps40
  go_wp2_with fail
  with_reducible refine (HCK.out _).mono ?_
  rintro e w2 ⟨rfl, hb⟩
  have HB2 : Hid (Below (w.heap.size + 1) (w.alloc (.cells #[.slice a1 L c1, .slice a2 M c2] 85)) w2) := hb.mono (by simp)
  have HW2 : Hid (Below w.heap.size w w2) := ((Below.refl _ _).alloc (Nat.le_refl _) _).trans (HB2.out.mono (by omega))
  have hs2 : w.heap.size + 1 ≤ w2.heap.size := by have := hb.size; simpa using this
  have d := HC.out w2.drew (below_draws HB2.out 1)
  have d0 := d.1
  have d1 := d.2
  clear d hb
  go_wp2_with fail
  go_region_held3 (fun w' => w'.cell? ⟨w.heap.size, 0, none⟩ = some (.slice a1 L c1) ∧ w'.cell? ⟨w.heap.size, 1, none⟩ = some (.slice a2 M c2))
    (first
      | exact ⟨d0, d1⟩
      | exact HC.out _ HB3.out
      | exact HC.out _ HB4.out
      | go_keep)
    (first
      | (go_at_call 70; refine (HLen.out _).mono ?_; rintro e w3 ⟨rfl, hb⟩; have HB3 : Hid (Below (w.heap.size + 1) (w.alloc (.cells #[.slice a1 L c1, .slice a2 M c2] 85)) w3) := (below_draws HB2.out 1).trans (hb.mono hs2); have HW3 : Hid (Below w.heap.size w w3) := (below_draws HW2.out 1).trans (hb.mono (by show w.heap.size ≤ w2.heap.size; omega)); have hs3 : w.heap.size + 1 ≤ w3.heap.size := Nat.le_trans hs2 hb.size; clear hb)
      | (go_at_call 69; refine (HNUM.out _ HW3.out).mono ?_; rintro e w4 ⟨v, ps, rfl, hr, hf, hb⟩; obtain ⟨va, vc, rfl⟩ := hr.written rfl; have HE := Lib.hid (And.intro hr (And.intro hf (below_step HW3.out hb HW3.out.size))); have HB4 : Hid (Below (w.heap.size + 1) (w.alloc (.cells #[.slice a1 L c1, .slice a2 M c2] 85)) w4) := HB3.out.trans (hb.mono hs3); clear hr hf hb))
  all_goals
    go_wp2
    go_ret2
    exact ⟨_, ps, rfl, HE.out.1, HE.out.2.1, HE.out.2.2⟩

theorem narrowConvolve_impl (x h : List C) (v1 v2 : Value) (hx : x.length ≤ 256) (hh : h.length ≤ 256) (hl : cvLen x.length h.length ≤ 256) (hwx : PlainN x) (hwh : PlainN h) (hsm : ∀ n j, j ≤ (wsOf h).length → Small (cvSumK (wsOf x) (wsOf h) n j)) (w : World) (hrx : RdN w.heap.size w v1 x) (hrh : RdN w.heap.size w v2 h) :
    Calls Try.prog 13 #[v1, v2] w fun e w' =>
      ∃ v ps, e = .returned (.tuple #[v, .int .i64 0]) ∧ Row w' w.heap.size 36 v (nvals ps) ∧ IsNs ps (cvAllK (wsOf x) (wsOf h)) ∧ Below w.heap.size w w' := by
  have K := Lib.hid (convolvedN_any x h v1 v2 hx hh hl hwx hwh hsm w hrx hrh)
  obtain ⟨a1, c1, e1, -, -, -⟩ := hrx.find
  obtain ⟨a2, c2, e2, -, -, -⟩ := hrh.find
  subst e1
  subst e2
  clear hrx hrh hsm
  go_enter Try.func13, Try.ntmps13
  go_wp2_with fail
  with_reducible refine K.out.mono ?_
  rintro e w1 ⟨v, ps, rfl, hr, hf, hb⟩
  obtain ⟨va, vc, rfl⟩ := hr.written rfl
  have HE := Lib.hid (And.intro hr (And.intro hf hb))
  clear hr hf hb
  go_wp2
  go_ret2
  exact ⟨_, ps, rfl, HE.out.1, HE.out.2.1, HE.out.2.2⟩


end Go.Proofs.Ytocjhanehphibaa
/-
  The model's narrow signals: NarrowProduct, NarrowSignal, NarrowConvolve.
-/
set_option linter.unusedVariables false
set_option linter.unusedSimpArgs false
namespace Go.Proofs.Ytocjhanehphibaa
open Go.RowKit Flt Fast
attribute [local go_sem] run_fadd run_fsub run_fmul run_fquo run_cadd run_csub

set_option maxRecDepth 100000 in
theorem narrowProduct_spec (a b c d : Nat) (x y : KW) (h1 : IsSW (a, b) x) (h2 : IsSW (c, d) y) (w : World) :
    Calls Try.prog 42 #[.complex .f32 a b, .complex .f32 c d] w fun e w' => ∃ u v n, e = .returned (.complex .f32 u v) ∧ IsN (u, v) (mulW x y) ∧ w' = w.drewN n := by
  have H1 := Lib.hid h1.2
  have H2 := Lib.hid h2.2
  have HE1 := Lib.hid h1.1
  have HE2 := Lib.hid h2.1
  clear h1 h2
  go_enter Try.func42, Try.ntmps42
  go_wp2_with (first
    | (refine wpList_widenC _ rfl 36 30 (.tmp 5) rfl a b rfl (by kernel_rfl) Try.underlying30 ?_; intro r s n1 hr hs lr ls; have HW1 := Lib.hid (wid_of H1.out hr hs lr ls); clear hr hs lr ls)
    | (refine wpList_widenC _ rfl 36 30 (.tmp 7) rfl c d rfl (by kernel_rfl) Try.underlying30 ?_; intro t u n2 hr hs lr ls; have HW2 := Lib.hid (wid_of H2.out hr hs lr ls); clear hr hs lr ls))
  obtain ⟨i1, v1⟩ := HW1.out
  obtain ⟨i2, v2⟩ := HW2.out
  rw [HE1.out] at i1 v1
  rw [HE2.out] at i2 v2
  refine (mul_spec _ _ _ _ _ _ i1 i2 _).mono ?_
  rintro e w1 ⟨p, q, rfl, hp, hq, n3, rfl⟩
  have HP : Hid (IsC (p, q) (mulZ (zw x.1) (zw y.1))) := Lib.hid ⟨hp, hq⟩
  have HV : Hid (IVC 8 8192 (mulZ (zw x.1) (zw y.1)) (mulK x.2 y.2)) := Lib.hid (v1.mul v2 (by decide) (by decide))
  clear i1 i2 v1 v2 hp hq HW1 HW2
  go_wp2_with (refine wpList_narrowD _ rfl 30 36 _ rfl _ _ rfl (by kernel_rfl) Try.underlying36 ?_; intro u' v' n hu hv; have HN := Lib.hid (isN_of HP.out HV.out hu hv); clear hu hv)
  go_ret
  exact ⟨_, _, _, rfl, HN.out, rfl⟩

theorem c_readsN {w : World} {v : Value} {xs : List C} (h : Reads w v (cvals xs)) : ∀ a n cap, v = .slice a n cap → ∀ k, k < n → ∃ g, a = some ⟨g, 0, none⟩ ∧ g < w.heap.size ∧ w.cell? ⟨g, k, none⟩ = some (.complex .f64 (xs.getD k (0, 0)).1 (xs.getD k (0, 0)).2) := by
  intro a n cap e k hk
  generalize hcs : cvals xs = cs at h
  cases h with
  | none a cap => simp only [Value.slice.injEq] at e; omega
  | row g cap L cs hL h0 hc hm hh =>
    simp only [Value.slice.injEq] at e
    obtain ⟨e1, e2, -⟩ := e
    have hl : xs.length = L := by rw [← hL, ← hcs, cvals_length]
    have hc := hh k (by omega)
    refine ⟨g, e1.symm, World.block_lt_of_cell? _ _ hc, ?_⟩
    rw [hc, ← hcs]
    simp [cvals, cval, List.getD, show k < xs.length by omega]

theorem narrow_sx {a b u v : Nat} (ha : Sx a) (hb : Sx b) (hu : Narrows a u) (hv : Narrows b v) : IsS (u, v) (kOf a, kOf b) := by
  have e1 : IsF a (cn .f64 a) := ⟨rfl, ha.lt⟩
  have e2 : IsF b (cn .f64 b) := ⟨rfl, hb.lt⟩
  exact ⟨⟨ha.1, (narrow_iv e1 (ha.iv.mono (by decide)) (by decide) hu).1⟩, hb.1, (narrow_iv e2 (hb.iv.mono (by decide)) (by decide) hv).1⟩

set_option maxRecDepth 100000 in
theorem l01Narrow_sx (a b : Nat) (ha : Sx a) (hb : Sx b) (w : World) :
    Calls Try.prog 39 #[.complex .f64 a b] w fun e w' => ∃ u v n, e = .returned (.complex .f32 u v) ∧ IsS (u, v) (kOf a, kOf b) ∧ w' = w.drewN n := by
  have HA := Lib.hid ha
  have HB := Lib.hid hb
  clear ha hb
  go_enter Try.func39, Try.ntmps39
  go_wp2_with (refine wpList_narrowD _ rfl 30 36 _ rfl a b rfl (by kernel_rfl) Try.underlying36 ?_; intro r s n hr hs; have HR := Lib.hid (narrow_sx HA.out HB.out hr hs); clear hr hs)
  go_ret
  exact ⟨_, _, _, rfl, HR.out, rfl⟩

set_option maxRecDepth 100000 in
set_option maxHeartbeats 4000000 in
theorem narrowSignal_spec {v : Value} {xs : List C} {w : World} (h : Reads w v (cvals xs)) (hp : PlainC xs) (hl : xs.length ≤ 256) :
    Calls Try.prog 12 #[v] w fun e w' => ∃ u us, e = .returned (.tuple #[u, .int .i64 0]) ∧ Row w' w.heap.size 36 u (nvals us) ∧ us.length = xs.length ∧ (∀ i, i < xs.length → IsS (us.getD i (0, 0)) (kAt xs i)) ∧ Below w.heap.size w w' := by
  obtain ⟨i0, hi, hz0, hz1, hz2⟩ := info_parts info_c64
  have hrd := c_readsN h
  obtain ⟨a, cap, rfl⟩ := cform h
  have HPL : Hid (∀ i, i < xs.length → Sx (xs.getD i (0, 0)).1 ∧ Sx (xs.getD i (0, 0)).2) := Lib.hid fun i hi => hp _ (getD_memC hi)
  have HKA : Hid (∀ i, kAt xs i = (kOf (xs.getD i (0, 0)).1, kOf (xs.getD i (0, 0)).2)) := Lib.hid fun i => rfl
  rw [cvals_length] at hrd ⊢
  replace hrd := hrd _ _ _ rfl
  obtain ⟨ka, hka⟩ : ∃ ka, kAt xs = ka := ⟨_, rfl⟩
  rw [hka] at HKA ⊢
  obtain ⟨L, hL⟩ : ∃ L, xs.length = L := ⟨_, rfl⟩
  rw [hL] at hrd hl HPL ⊢
  have HRD := Lib.hid hrd
  have g : decide ((256 : Int) < (L : Int)) = false := by simp <;> omega
  clear h hp hrd hL hka
  go_enter Try.func12, Try.ntmps12
  go_wp2
  go_loopw [4, 5] (fun u i wr => ∃ (k : Nat) (us : List C), i = .int .i64 k ∧ k ≤ L ∧ us.length = k ∧ Row wr w.heap.size 36 u (nvals us) ∧ (∀ j, j < k → IsS (us.getD j (0, 0)) (ka j)) ∧ Below w.heap.size w wr) (fun _ i _ => L - (intOf i).toNat)
  case atStart => exact ⟨0, [], rfl, Nat.zero_le _, rfl, World.ownsRow_lit w #[] 0 (Nat.le_refl _) (by unfold maxLen; omega) rfl, fun j hj => by omega, (Below.refl _ _).alloc (Nat.le_refl _) _⟩
  case round =>
    obtain ⟨k, us, rfl, hk, hx, hrw, hgd, hb⟩ := hrel
    have HX := Lib.hid hx
    have HRW := Lib.hid hrw
    have HGD := Lib.hid hgd
    have HB := Lib.hid hb
    clear hx hrw hgd hb
    by_cases hlt : k < L
    · obtain ⟨g, rfl, hg, hc⟩ := HRD.out k hlt
      have c1 : wr.cell? ⟨g, k, none⟩ = some (.complex .f64 (xs.getD k (0, 0)).1 (xs.getD k (0, 0)).2) := by rw [HB.out.cell hg]; exact hc
      obtain ⟨hs1, hs2⟩ := HPL.out k hlt
      have hkk := HKA.out k
      obtain ⟨⟨x, y⟩, hxy⟩ : ∃ q, xs.getD k (0, 0) = q := ⟨_, rfl⟩
      rw [hxy] at c1 hs1 hs2 hkk
      have S := Lib.hid (fun w => l01Narrow_sx x y hs1 hs2 w)
      rw [← hkk] at S
      clear hs1 hs2 hkk hxy hc hg
      go_wp2_with fail
      refine (S.out _).mono ?_
      rintro e w2 ⟨p, q, n2, rfl, hpq, rfl⟩
      have HF := Lib.hid (snocGood (d := ((0, 0) : Nat × Nat)) (G := fun j p' => IsS p' (ka j)) (p := (p, q)) HX.out HGD.out hpq)
      clear hpq
      have hl' : (nvals us).length = k := by rw [nvals_length, HX.out]
      go_wp2_with (at_builtin; refine wpList_append_own _ rfl _ _ 31 rfl w.heap.size 36 i0 (.complex .f32 0 0) 1 8 Try.underlying31 hi hz0 hz1 hz2 rfl (by decide) _ _ _ rfl ((HRW.out.drewN n2).alloc _) ⟨_, 0, none⟩ 1 1 [.complex .f32 p q] rfl rfl (cell_one_new _ _ _) (by intro u hu; simp at hu; subst hu; rfl) (by rw [hl']; simp only [maxLen]; omega) (by rw [hl']; omega) (by have := HB.out.size; simp; omega) ?_)
      intro v' w1 hown' hgrow _
      have hlt' := ((HRW.out.drewN n2).alloc (.cells #[.complex .f32 p q] 36)).lt
      have HB' : Hid (Below w.heap.size w w1) := ((below_draws HB.out n2).alloc HB.out.size _).grown hgrow (by have := HB.out.size; simp; omega) (fun b e => (hlt' b e).1)
      have HO' : Hid (Row w1 w.heap.size 36 v' (nvals (us ++ [(p, q)]))) := by
        show w1.ownsRow _ _ _ _ _ _
        rw [nvals_snoc, List.length_append, hl']
        (try rw [hl'] at hown')
        exact hown'
      clear hown' hgrow hlt' HRW HB hl'
      go_wp2
      go_roundw
      case rel => first | exact ⟨k + 1, us ++ [(p, q)], by go_num, by omega, HF.out.1, HO'.out, HF.out.2, HB'.out⟩ | ((repeat apply Exists.intro); refine ⟨?_, rfl⟩; exact ⟨k + 1, us ++ [(p, q)], by go_num, by omega, HF.out.1, HO'.out, HF.out.2, HB'.out⟩)
      case measure => simp [intOf]; omega
    · have e : k = L := by omega
      subst e
      obtain ⟨ua, uc, rfl⟩ := HRW.out.written rfl
      go_wp2
      go_ret2
      exact ⟨_, us, rfl, HRW.out, HX.out, HGD.out, HB.out⟩

end Go.Proofs.Ytocjhanehphibaa
/-
  NarrowConvolve of the model.
-/
set_option linter.unusedVariables false
set_option linter.unusedSimpArgs false
namespace Go.Proofs.Ytocjhanehphibaa
open Go.RowKit Flt Fast
attribute [local go_sem] run_fadd run_fsub run_fmul run_fquo run_cadd run_csub

set_option maxRecDepth 100000 in
set_option maxHeartbeats 16000000 in
theorem narrowConvolve_spec (x h : List C) (v1 v2 : Value) (hx : x.length ≤ 256) (hh : h.length ≤ 256) (hl : cvLen x.length h.length ≤ 256) (hwx : PlainN x) (hwh : PlainN h) (hsm : ∀ n j, j ≤ (wsOf h).length → Small (cvSumK (wsOf x) (wsOf h) n j)) (w : World) (hrx : RdN w.heap.size w v1 x) (hrh : RdN w.heap.size w v2 h) :
    Calls Try.prog 14 #[v1, v2] w fun e w' =>
      ∃ v ps, e = .returned (.tuple #[v, .int .i64 0]) ∧ Row w' w.heap.size 36 v (nvals ps) ∧ IsNs ps (cvAllK (wsOf x) (wsOf h)) ∧ Below w.heap.size w w' := by
  obtain ⟨i0, hi, hz0, hz1, hz2⟩ := info_parts info_c64
  have HRX := Lib.hid hrx
  have HRH := Lib.hid hrh
  obtain ⟨a1, c1, e1, -, -, -⟩ := hrx.find
  obtain ⟨a2, c2, e2, -, -, -⟩ := hrh.find
  subst e1
  subst e2
  clear hrx hrh
  have HLong := Lib.hid (fun w => cvLong_spec x.length h.length hx hh hl w)
  have HLen := Lib.hid (fun w => cvLength_spec x.length h.length (by omega) (by omega) w)
  have HCNT : Hid (∀ n, n < cvLen x.length h.length → 0 < cvCnt x.length h.length n ∧ cvLo x.length n + cvCnt x.length h.length n = min (n + 1) h.length) := Lib.hid fun n hn => ⟨cvCnt_pos hn, cvLo_cnt hn⟩
  have HAT : Hid (∀ n, cvAtK (wsOf x) (wsOf h) n = cvSumK (wsOf x) (wsOf h) n (cvCnt x.length h.length n)) := Lib.hid fun n => by unfold cvAtK; rw [wsOf_length, wsOf_length]
  have HEND : Hid ((cvAllK (wsOf x) (wsOf h)).length = cvLen x.length h.length ∧ ∀ n, n < cvLen x.length h.length → (cvAllK (wsOf x) (wsOf h)).getD n w0 = cvAtK (wsOf x) (wsOf h) n) := Lib.hid ⟨by rw [cvAllK_length, wsOf_length, wsOf_length], fun n hn => cvAllK_getD (by rw [wsOf_length, wsOf_length]; exact hn)⟩
  have HTERM : Hid (∀ n k, cvLo x.length n ≤ k → cvTermK (wsOf x) (wsOf h) n (k - cvLo x.length n) = mulW ((wsOf h).getD k w0) ((wsOf x).getD (n - k) w0)) := Lib.hid fun n k hk => by
    unfold cvTermK
    rw [wsOf_length, show cvLo x.length n + (k - cvLo x.length n) = k by omega]
  have HSH : Hid (∀ j, j < h.length → IsSW (h.getD j (0, 0)) ((wsOf h).getD j w0)) := Lib.hid fun j hj => isS_getD hwh hj
  have HSX : Hid (∀ j, j < x.length → IsSW (x.getD j (0, 0)) ((wsOf x).getD j w0)) := Lib.hid fun j hj => isS_getD hwx hj
  rw [wsOf_length] at hsm
  have HSM := Lib.hid hsm
  obtain ⟨X, hX⟩ : ∃ X, wsOf x = X := ⟨_, rfl⟩
  obtain ⟨H, hH⟩ : ∃ H, wsOf h = H := ⟨_, rfl⟩
  rw [hX] at HSX
  rw [hH] at HSH
  rw [hX, hH] at HAT HEND HTERM HSM ⊢
  obtain ⟨T, hT⟩ : ∃ T, cvLen x.length h.length = T := ⟨_, rfl⟩
  rw [hT] at HLen HCNT HEND hl
  obtain ⟨L, hL⟩ : ∃ L, x.length = L := ⟨_, rfl⟩
  obtain ⟨M, hM⟩ : ∃ M, h.length = M := ⟨_, rfl⟩
  rw [hL] at hx HLen HLong HRX HCNT HAT HTERM HSX ⊢
  rw [hM] at hh HLen HLong HRH HCNT HAT HSH HSM ⊢
  clear hX hH hT hL hM hwx hwh hsm
  have HR0 : Hid (Row (w.alloc (.cells #[] 36)) w.heap.size 36 (.slice (some ⟨w.heap.size, 0, none⟩) 0 0) (nvals [])) := World.ownsRow_lit w #[] 0 (Nat.le_refl _) (by unfold maxLen; omega) rfl
  go_enter Try.func14, Try.ntmps14
  go_wp2_with fail
  with_reducible refine (HLong.out _).mono ?_
  rintro e w' ⟨rfl, rfl⟩
  go_wp2
  go_loopw [6, 7] (fun v i wr => ∃ (m : Nat) (ps : List C), i = .int .i64 (m : Int) ∧ m ≤ T ∧ Row wr w'.heap.size 36 v (nvals ps) ∧ ps.length = m ∧ (∀ j, j < m → IsN (ps.getD j (0, 0)) (cvAtK X H j)) ∧ Below w'.heap.size w' wr) (fun _ i _ => T - (intOf i).toNat)
  case atStart => exact ⟨0, [], rfl, Nat.zero_le _, HR0.out, rfl, fun j hj => by omega, (Below.refl _ _).alloc (Nat.le_refl _) _⟩
  case round =>
    clear HR0
    obtain ⟨n, ps, rfl, hnL, hrow, hpl, hps, hB⟩ := hrel
    have HROW := Lib.hid hrow
    have HPS := Lib.hid hps
    have HB := Lib.hid hB
    have HPL := Lib.hid hpl
    clear hrow hps hB hpl
    by_cases hlt : n < T
    · have g1 : decide (n < T) = true := decide_eq_true hlt
      obtain ⟨hcp, hlc⟩ := HCNT.out n hlt
      have hat := HAT.out n
      have hterm := HTERM.out n
      obtain ⟨lo, hlo⟩ : ∃ k, cvLo L n = k := ⟨_, rfl⟩
      obtain ⟨ct, hct⟩ : ∃ k, cvCnt L M n = k := ⟨_, rfl⟩
      have hlo' : lo = n + 1 - L := by rw [← hlo]; rfl
      rw [hct] at hcp hat
      rw [hlo, hct] at hlc
      rw [hlo] at hterm
      have HATn := Lib.hid hat
      have HTn := Lib.hid hterm
      obtain ⟨wo, hwo⟩ : ∃ x, x = wr := ⟨_, rfl⟩
      have HWO := Lib.hid hwo
      have HLOW := Lib.hid hlo'
      clear hlo hct hat hterm hwo hlo'
      go_wp2_with fail
      with_reducible refine (HLen.out _).mono ?_
      rintro e w2 ⟨rfl, rfl⟩
      go_wp2
      go_loopw [8, 9, 10] (fun s b i wq => ∃ (k p q t : Nat), i = .int .i64 (k : Int) ∧ s = .complex .f32 p q ∧ b = .bool (decide (lo < k)) ∧ k ≤ min M (n + 1) ∧ (lo < k → IsN (p, q) (cvSumK X H n (k - lo))) ∧ wq = wo.drewN t) (fun _ _ i _ => min M (n + 1) - (intOf i).toNat)
      case atStart => exact ⟨0, 0, 0, 0, rfl, rfl, by rw [decide_eq_false (by omega)], Nat.zero_le _, fun h => by omega, HWO.out.symm⟩
      case round =>
        obtain ⟨k, p, q, t, rfl, rfl, rfl, hk, hs, hw⟩ := hrel
        have HS := Lib.hid hs
        have HW := Lib.hid hw
        clear hs hw
        by_cases hkk : k < min M (n + 1)
        · have hkM : k < M := by omega
          have g3 : decide (k < M) = true := decide_eq_true hkM
          have g4 : decide (k ≤ n) = true := decide_eq_true (by omega)
          obtain ⟨D, hD⟩ : ∃ D, n - k = D := ⟨_, rfl⟩
          have hDi : (n : Int) - (k : Int) = (D : Int) := by omega
          by_cases hin : D < L
          · have g5 : decide (L ≤ D) = false := decide_eq_false (by omega)
            have hlok : lo ≤ k := by have := HLOW.out; omega
            have hbq : Below w'.heap.size w' wr := by rw [HW.out, HWO.out]; exact below_draws HB.out t
            obtain ⟨ga, oa, rfl, hga, hca, hcma, k2⟩ := (HRH.out.below hbq).at hkM
            obtain ⟨gx, ox, rfl, hgx, hcx, hcmx, k3⟩ := (HRX.out.below hbq).at hin
            have hs1 := HSH.out k hkM
            have hs2 := HSX.out D hin
            obtain ⟨⟨r1, s1⟩, hq1⟩ : ∃ z, h.getD k (0, 0) = z := ⟨_, rfl⟩
            obtain ⟨⟨r2, s2⟩, hq2⟩ : ∃ z, x.getD D (0, 0) = z := ⟨_, rfl⟩
            rw [hq1] at k2 hs1
            rw [hq2] at k3 hs2
            have ht := HTn.out k hlok
            rw [hD] at ht
            have HMUL := Lib.hid (fun w => narrowProduct_spec r1 s1 r2 s2 _ _ hs1 hs2 w)
            rw [← ht] at HMUL
            have c2' : wr.drew.cell? ⟨ga, oa + k, none⟩ = some (.complex .f32 r1 s1) := k2
            have c3' : wr.drew.cell? ⟨gx, ox + D, none⟩ = some (.complex .f32 r2 s2) := k3
            have hmxa := maxLen_int (Nat.le_trans hca hcma)
            have hmxx := maxLen_int (Nat.le_trans hcx hcmx)
            have hsm := HSM.out n (k + 1 - lo) (by omega)
            have HSMk := Lib.hid hsm
            clear hbq hs1 hs2 hq1 hq2 k2 k3 hD ht hsm
            have y0 : IntKind.i64.wrap (D : Int) = (D : Int) := IntWalk.i64_in _ (by omega)
            have y2' : IntKind.i64.wrap ((n : Int) - (k : Int)) = (D : Int) := by rw [hDi]; exact y0
            by_cases hlk : lo < k
            · rw [decide_eq_true hlk]
              have HSk := Lib.hid (HS.out hlk)
              go_wp2_with fail
              go_region_held3 (fun w' => w'.cell? ⟨ga, oa + k, none⟩ = some (.complex .f32 r1 s1) ∧ w'.cell? ⟨gx, ox + D, none⟩ = some (.complex .f32 r2 s2))
                (first | exact ⟨c2', c3'⟩ | go_keep)
                (first
                  | (go_at_call 42; refine (HMUL.out _).mono ?_; rintro e w3 ⟨x1, y1, nn, rfl, hxy, rfl⟩; have HXY := Lib.hid hxy; clear hxy))
              all_goals
                go_wp2
                go_roundw
                case rel =>
                  refine ⟨k + 1, _, _, _, by go_num, rfl, by rw [decide_eq_true (show lo < k + 1 by omega)], by omega, fun _ => ?_, by rw [HW.out]; simp only [World.drewN_drewN]; rfl⟩
                  rw [show k + 1 - lo = (k - lo) + 1 by omega, cvSumK_succ _ _ _ (by omega)]
                  have hsm := HSMk.out
                  rw [show k + 1 - lo = (k - lo) + 1 by omega, cvSumK_succ _ _ _ (by omega)] at hsm
                  exact isN_add HSk.out HXY.out hsm _ _
                case measure => simp [intOf]; omega
            · rw [decide_eq_false hlk]
              obtain rfl : k = lo := by omega
              go_wp2_with fail
              go_region_held3 (fun w' => w'.cell? ⟨ga, oa + k, none⟩ = some (.complex .f32 r1 s1) ∧ w'.cell? ⟨gx, ox + D, none⟩ = some (.complex .f32 r2 s2))
                (first | exact ⟨c2', c3'⟩ | go_keep)
                (first
                  | (go_at_call 42; refine (HMUL.out _).mono ?_; rintro e w3 ⟨x1, y1, nn, rfl, hxy, rfl⟩; have HXY := Lib.hid hxy; clear hxy))
              all_goals
                go_wp2
                go_roundw
                case rel =>
                  refine ⟨k + 1, _, _, _, by go_num, rfl, by rw [decide_eq_true (show k < k + 1 by omega)], by omega, fun _ => ?_, by rw [HW.out]; simp only [World.drewN_drewN]; rfl⟩
                  rw [show k + 1 - k = 1 by omega, cvSumK_one]
                  have := HXY.out
                  rwa [Nat.sub_self] at this
                case measure => simp [intOf]; omega
          · have g5 : decide (L ≤ D) = true := decide_eq_true (by omega)
            have hnk : ¬ lo < k := by have := HLOW.out; omega
            have hnk2 : ¬ lo < k + 1 := by have := HLOW.out; omega
            rw [decide_eq_false hnk]
            clear hD
            go_wp2
            go_roundw
            case rel => exact ⟨k + 1, p, q, t, by go_num, rfl, by rw [decide_eq_false hnk2], by omega, fun h => absurd h hnk2, HW.out⟩
            case measure => simp [intOf]; omega
        · have hke : k = min M (n + 1) := by omega
          have hkl : k - lo = ct := by omega
          have hsf := HS.out (by omega)
          rw [hkl, ← HATn.out] at hsf
          have HF := Lib.hid (snocGood (d := ((0, 0) : Nat × Nat)) (G := fun j p' => IsN p' (cvAtK X H j)) (p := (p, q)) HPL.out HPS.out hsf)
          have hrw : Row wr w'.heap.size 36 u6 (nvals ps) := by rw [HW.out, HWO.out]; exact HROW.out.drewN t
          have hbw : Below w'.heap.size w' wr := by rw [HW.out, HWO.out]; exact below_draws HB.out t
          have HRW := Lib.hid hrw
          have HBW := Lib.hid hbw
          have hl' : (nvals ps).length = n := by rw [nvals_length, HPL.out]
          have hsz : w'.heap.size ≤ wr.heap.size := hbw.size
          have hgg : decide (k < M) = false ∨ (decide (k < M) = true ∧ decide (k ≤ n) = false) := by
            by_cases h : k < M
            · exact .inr ⟨decide_eq_true h, decide_eq_false (by omega)⟩
            · exact .inl (decide_eq_false h)
          clear hsf hrw hbw hke hkl hcp hlc
          rcases hgg with g3 | ⟨g3, g4⟩
          all_goals
            go_wp2_with (at_builtin; refine wpList_append_own _ rfl _ _ 31 rfl w'.heap.size 36 i0 (.complex .f32 0 0) 1 8 Try.underlying31 hi hz0 hz1 hz2 rfl (by decide) _ _ _ rfl (HRW.out.alloc _) ⟨_, 0, none⟩ 1 1 [.complex .f32 p q] rfl rfl (cell_one_new _ _ _) (by intro u hu; simp at hu; subst hu; rfl) (by rw [hl']; simp only [maxLen]; omega) (by rw [hl']; omega) (by simp; omega) ?_)
            intro v' w1 hown' hgrow _
            have hlt' := (HRW.out.alloc (.cells #[.complex .f32 p q] 36)).lt
            have HB' : Hid (Below w'.heap.size w' w1) := (HBW.out.alloc HBW.out.size _).grown hgrow (by have := HBW.out.size; simp; omega) (fun b e => (hlt' b e).1)
            have HO' : Hid (Row w1 w'.heap.size 36 v' (nvals (ps ++ [(p, q)]))) := by
              show w1.ownsRow _ _ _ _ _ _
              rw [nvals_snoc, List.length_append, hl']
              (try rw [hl'] at hown')
              exact hown'
            clear hown' hgrow hlt' HRW HBW hl'
            go_wp2
            go_roundw
            case rel => first | exact ⟨n + 1, ps ++ [(p, q)], by go_num, by omega, HO'.out, HF.out.1, HF.out.2, HB'.out⟩ | ((repeat apply Exists.intro); refine ⟨?_, rfl⟩; exact ⟨n + 1, ps ++ [(p, q)], by go_num, by omega, HO'.out, HF.out.1, HF.out.2, HB'.out⟩)
            case measure => simp [intOf]; omega
    · obtain rfl : n = T := by omega
      have g1 : decide (n < n) = false := decide_eq_false (by omega)
      obtain ⟨va, vc, rfl⟩ := HROW.out.written rfl
      go_wp2_with fail
      with_reducible refine (HLen.out _).mono ?_
      rintro e w2 ⟨rfl, rfl⟩
      go_wp2
      go_ret2
      exact ⟨_, ps, rfl, HROW.out, ⟨by rw [HEND.out.1]; exact HPL.out, fun i hi => by rw [HEND.out.1] at hi; rw [HEND.out.2 i hi]; exact HPS.out i hi⟩, HB.out⟩

end Go.Proofs.Ytocjhanehphibaa
/-
  What the laws of chapters 4 and on begin with.
-/
set_option linter.unusedVariables false
set_option linter.unusedSimpArgs false
namespace Go.Proofs.Ytocjhanehphibaa
open Go.RowKit Flt Fast

set_option maxRecDepth 100000 in
theorem f6big_f (a : Option Addr) (n cap : Nat) (hn : n ≤ 4096) (w : World) : Calls Try.prog 6 #[.slice a n cap] w fun e w' => e = .returned (.bool false) ∧ w' = w := by
  have g : decide (4096 < (n : Int)) = false := decide_eq_false (by omega)
  go_enter Try.func6, Try.ntmps6
  go_wp2
  go_ret
  exact ⟨rfl, rfl⟩
set_option maxRecDepth 100000 in
theorem f6big_t (a : Option Addr) (n cap : Nat) (hn : 4096 < n) (hm : (n : Int) ≤ 9223372036854775807) (w : World) : Calls Try.prog 6 #[.slice a n cap] w fun e w' => e = .returned (.bool true) ∧ w' = w := by
  have g : decide (4096 < (n : Int)) = true := decide_eq_true (by omega)
  go_enter Try.func6, Try.ntmps6
  go_wp2
  go_ret
  exact ⟨rfl, rfl⟩

theorem Row.up {w w' : World} {B e : Nat} {v : Value} {cs : List Value} (h : Row w B e v cs) (hb : Below w.heap.size w w') : Row w' B e v cs := h.below hb (fun k e => (h.lt k e).2)

end Go.Proofs.Ytocjhanehphibaa
/-
  slices.Concat of two signals.
-/
set_option linter.unusedVariables false
set_option linter.unusedSimpArgs false
namespace Go.Proofs.Ytocjhanehphibaa
open Go.RowKit Flt Fast

theorem run_app_zeros {P : Program} {w : World} (t u ty e : TypeId) (i : TypeInfo) (z : Value) (ht : P.underlying t = some (.slice e)) (hu : P.underlying u = some (.int .i64)) (hi : P.info? e = some i) (hz : i.zero = some z) (hsz : i.size = 1) (hby : i.bytes = 16)
    (n : Nat) (h0 : 0 < n) (h1 : n ≤ 1000000) :
    (Builtin.append_ #[t, u] ty #[.slice none 0 0, .int .i64 n]).run P w =
      .ok (.slice (some ⟨w.heap.size, 0, none⟩) n (grownCap w n 0 e)) (w.drew.alloc (.cells (Builtin.zeroCells z.cells n ++ Builtin.zeroCells z.cells (grownCap w n 0 e - n)) e)) := by
  have hn : n ≠ 0 := by omega
  have h63' : ¬ (9223372036854775807 < (n : Int)) := by omega
  have h48' : ¬ (281474976710656 < Builtin.nextslicecap n 0 * i.bytes) := by rw [nextslicecap_zero h0, hby]; omega
  have h48'' : ¬ (281474976710656 < (n : Int) * (i.bytes : Int)) := by rw [hby]; omega
  have hw : IntKind.i64.wrap (n : Int) = (n : Int) := IntWalk.i64_in _ (by omega)
  have hneg : ¬ ((n : Int) < 0) := by omega
  have hle : ¬ ((n : Int) ≤ 0) := by omega
  have hmax : max (n : Int) 0 = (n : Int) := by omega
  simp [Builtin.append_, run_underlying ht, run_underlying hu, sizeOf, typeInfo, zeroValue, hi, hz, Builtin.lenOf, hn, h63', h48', h48'', hw, hneg, hsz, Question.forced, run_firstCells_none, newRow, grownCap, asInt, asIntOf, hle, hmax]

theorem row_room (w : World) (n : Nat) (cur : Array Value) (e : TypeId) (cap : Nat) (hcur : cur.size = cap) (hcap : cap ≤ maxLen) :
    Row (w.drew.alloc (.cells cur e)) w.heap.size e (.slice (some ⟨w.heap.size, 0, none⟩) 0 cap) [] :=
  ⟨by simp, .inr ⟨w.heap.size, cap, cur, rfl, Nat.le_refl _, World.alloc_heap_new w.drew _, Nat.zero_le _, hcap, by simpa using hcur, by simp⟩⟩

theorem under_int : Try.prog.underlying 3 = some (.int .i64) := by kernel_rfl

theorem wpList_zeros {P : Program} {w : World} {ops : Array Oper} {rest : List Oper} {o : Oper} {a : Act} {Q : Exit → Act → World → Prop} (hw : Region.wanted o (yielded ops a.tmps) = true) (s x : Operand)
    (ho : o.op = .call { callee := .builtin .append, args := #[s, x], argTypes := #[24, 3] }) (v u v' : Value) (w' : World) (hs : a.eval s = v) (hx : a.eval x = u)
    (hrun : ∀ ty, (Builtin.append_ #[24, 3] ty #[v, u]).run P w = .ok v' w') (h : wpList P ops Q rest (a.put o.dst v') w') : wpList P ops Q (o :: rest) a w := by
  refine BigFrame.wpList_want hw fun K hK => ?_
  unfold Oper.wp execOp
  simp only [ho, resolve, invoke, builtin, Sem.run_bind, Sem.run_pure, Result.andThen_ok, List.map_toArray, List.map_cons, List.map_nil, hs, hx, hrun]
  exact hK _ _ h

set_option maxRecDepth 100000 in
set_option maxHeartbeats 4000000 in
theorem grow_any (n : Nat) (hn : n ≤ 1000000) (w : World) :
    Calls Try.prog 72 #[.slice none 0 0, .int .i64 n] w fun e w' => ∃ a cap, e = .returned (.slice a 0 cap) ∧ Row w' w.heap.size 30 (.slice a 0 cap) (cvals []) ∧ Below w.heap.size w w' := by
  obtain ⟨i0, hi, hz0, hz1, hz2⟩ := info_parts info_c128
  by_cases h0 : n = 0
  · subst h0
    go_enter Try.func72, Try.ntmps72
    go_wp2
    go_ret
    exact ⟨none, 0, rfl, World.ownsRow_nil _ _ _ _, Below.refl _ _⟩
  · have hpos : decide ((0 : Int) < (n : Int)) = true := decide_eq_true (by omega)
    have hrun : ∀ (W : World) (ty : TypeId), (Builtin.append_ #[24, 3] ty #[.slice none 0 0, .int .i64 (n : Int)]).run Try.prog W = .ok (.slice (some ⟨W.heap.size, 0, none⟩) n (grownCap W n 0 30)) (W.drew.alloc (.cells (Builtin.zeroCells (Value.complex .f64 0 0).cells n ++ Builtin.zeroCells (Value.complex .f64 0 0).cells (grownCap W n 0 30 - n)) 30)) := fun W ty =>
      run_app_zeros _ _ ty _ i0 _ Try.underlying24 under_int hi hz0 hz1 hz2 n (by omega) hn
    have hge := grownCap_ge w n 0 30
    have hmx := grownCap_le_maxLen w n 0 30 (by simp only [maxLen]; omega)
    have HFin : Hid (Row (w.drew.alloc (.cells (Builtin.zeroCells (Value.complex .f64 0 0).cells n ++ Builtin.zeroCells (Value.complex .f64 0 0).cells (grownCap w n 0 30 - n)) 30)) w.heap.size 30 (.slice (some ⟨w.heap.size, 0, none⟩) 0 (grownCap w n 0 30)) (cvals []) ∧
        Below w.heap.size w (w.drew.alloc (.cells (Builtin.zeroCells (Value.complex .f64 0 0).cells n ++ Builtin.zeroCells (Value.complex .f64 0 0).cells (grownCap w n 0 30 - n)) 30))) :=
      ⟨row_room w n _ _ _ (by rw [Array.size_append, size_zeroCells, size_zeroCells]; simp [Value.cells]; omega) hmx, (below_draws (Below.refl _ _) 1).alloc (Nat.le_refl _) _⟩
    obtain ⟨cap, hcap⟩ : ∃ c, grownCap w n 0 30 = c := ⟨_, rfl⟩
    have hrun1 := hrun w
    rw [hcap] at hrun1 HFin hge hmx
    obtain ⟨W1, hW1⟩ : ∃ W1, w.drew.alloc (.cells (Builtin.zeroCells (Value.complex .f64 0 0).cells n ++ Builtin.zeroCells (Value.complex .f64 0 0).cells (cap - n)) 30) = W1 := ⟨_, rfl⟩
    rw [hW1] at hrun1 HFin
    clear hrun hcap hW1
    go_enter Try.func72, Try.ntmps72
    go_wp2_with (at_builtin; refine wpList_zeros rfl _ _ rfl _ _ _ _ rfl rfl hrun1 ?_)
    go_ret
    exact ⟨_, cap, rfl, HFin.out.1, HFin.out.2⟩

set_option maxRecDepth 100000 in
set_option maxHeartbeats 4000000 in
/-- Two signals, one behind the other. -/
theorem concat_any (x y : List C) (v1 v2 : Value) (hl : x.length + y.length ≤ 1000000) (g : Nat) (w : World) (hrx : RdO w.heap.size w v1 x) (hry : RdO w.heap.size w v2 y) (hg : g < w.heap.size)
    (hc0 : w.cell? ⟨g, 0, none⟩ = some v1) (hc1 : w.cell? ⟨g, 1, none⟩ = some v2) :
    Calls Try.prog 45 #[.slice (some ⟨g, 0, none⟩) 2 2] w fun e w' => ∃ v, e = .returned v ∧ Row w' w.heap.size 30 v (cvals (x ++ y)) ∧ Below w.heap.size w w' := by
  obtain ⟨i0, hi, hz0, hz1, hz2⟩ := info_parts info_c128
  have HRX := Lib.hid hrx
  have HRY := Lib.hid hry
  obtain ⟨a1, c1, e1, -, -, -⟩ := hrx.find
  obtain ⟨a2, c2, e2, -, -, -⟩ := hry.find
  subst e1
  subst e2
  clear hrx hry
  have hl0 : x.length ≤ 1000000 := by omega
  have HG := Lib.hid (fun w => grow_any (x.length + y.length) hl w)
  have n1 : ((x.length : Int) + (y.length : Int) < 0) = False := by first | (simp; done) | (simp; omega)
  have n2 : ((x.length : Int) < 0) = False := by first | (simp; done) | (simp; omega)
  have hsum : (x.length : Int) + (y.length : Int) = ((x.length + y.length : Nat) : Int) := by omega
  have HSUM := Lib.hid hsum
  clear hsum
  go_enter Try.func45, Try.ntmps45
  go_wp2
  refine wp_loop_rounds 3 ?_
  rw [rounds_succ]
  go_wp2
  rw [rounds_succ]
  go_wp2
  rw [rounds_succ]
  go_wp2_with fail
  rw [HSUM.out]
  with_reducible refine (HG.out _).mono ?_
  rintro e w1 ⟨b, cb, rfl, hr, hb⟩
  have hx1 := (HRX.out.below hb).rdC hb.size
  have hy1 := (HRY.out.below hb)
  have d0 : w1.cell? ⟨g, 0, none⟩ = some (.slice a1 x.length c1) := by rw [hb.cell hg]; exact hc0
  have d1 : w1.cell? ⟨g, 1, none⟩ = some (.slice a2 y.length c2) := by rw [hb.cell hg]; exact hc1
  have HR1 := Lib.hid hr
  have HX1 := Lib.hid hx1
  have HB1 := Lib.hid hb
  have hs1 := hb.size
  clear hr hb hx1 hy1 hc0 hc1
  go_wp2
  refine wp_loop_rounds 3 ?_
  rw [rounds_succ]
  go_wp2_with (at_builtin; refine wpList_app rfl _ _ rfl Try.underlying24 i0 hi hz0 hz1 hz2 w.heap.size _ _ [] x rfl rfl HR1.out HX1.out hs1 (by simp; omega) ?_; intro v' w2 hr2 hg2; obtain ⟨e1, e2, rfl⟩ := hr2.written rfl; have hb2 : Below w.heap.size w w2 := HB1.out.grown hg2 hs1 (fun k e => (HR1.out.lt k e).1); have hs2 := hb2.size; have HY2 := Lib.hid ((HRY.out.below hb2).rdC hs2); have HR2 := Lib.hid hr2; have HB2 := Lib.hid hb2; have d2 : w2.cell? ⟨g, 1, none⟩ = some (.slice a2 y.length c2) := (by rw [hb2.cell hg, ← HB1.out.cell hg]; exact d1); clear hr2 hg2 hb2)
  rw [rounds_succ]
  go_wp2_with (at_builtin; refine wpList_app rfl _ _ rfl Try.underlying24 i0 hi hz0 hz1 hz2 w.heap.size _ _ ([] ++ x) y rfl rfl HR2.out HY2.out hs2 (by simp; omega) ?_; intro v' w3 hr3 hg3; obtain ⟨e3, e4, rfl⟩ := hr3.written rfl; have HB3 := Lib.hid (HB2.out.grown hg3 hs2 (fun k e => (HR2.out.lt k e).1)); have HR3 := Lib.hid hr3; clear hr3 hg3)
  rw [rounds_succ]
  go_wp2
  go_ret
  exact ⟨_, rfl, HR3.out, HB3.out⟩

end Go.Proofs.Ytocjhanehphibaa
