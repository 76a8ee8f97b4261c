import Derived.Test.YtfdmohnmilecnaaDoorNedK
import Derived.Test.YtfdmohnmilecnaaDoorBwd
/-
  stepList.neededFor of the program: a range over the steps from the last one on.
-/
set_option linter.unusedVariables false
set_option linter.unusedSimpArgs false
namespace Go.Proofs.YtfdmohnmilecnaaDoor
open Go.RowKit Go.Shelf
attribute [local go_sem] Oper.semAt_some wide_fn wide_depth wide_fnR wide_depthR

theorem backward_any (a : Option Addr) (L cap : Nat) (w : World) :
    Calls Tryd.prog 118 #[.slice a L cap] w fun e w' =>
      e = .returned (.func (.func 140) #[] #[.pointer (some ⟨w.heap.size, 0, none⟩)]) ∧ w' = w.alloc (.cells #[.slice a L cap] 100) := by
  go_enter Tryd.func118, Tryd.ntmps118
  go_wp2
  go_ret
  exact ⟨rfl, rfl⟩

/-- What the loop keeps: the number that is wanted still. -/
def NdHas (N : Nat) (ss : List St) (R : Int × Int) (W0 : World) (k : Nat) (W : World) : Prop :=
  ∃ x, Boxed W N 2 (.int .i64 x) ∧ (0 ≤ x ∧ x ≤ 1000000) ∧ ndGo ss k x = R ∧ KeptBut (N + 4) N W0 W ∧ N + 4 ≤ W.heap.size
def NdStop (N : Nat) (R : Int × Int) (W0 : World) (c : Code) (k : Nat) (W : World) : Prop :=
  c = .ret ∧ R = (0, 3) ∧ Boxed W (N + 1) 2 (.int .i64 0) ∧ Boxed W (N + 2) 2 (.int .i64 3) ∧ Below N W0 W
theorem NdHas.kept {N : Nat} {ss : List St} {R : Int × Int} {W0 A A' : World} {k : Nat} {row : Option Nat} (h : NdHas N ss R W0 k A) (hg : A.grownBy A' row) (hr : ∀ r, row = some r → N + 4 ≤ r) : NdHas N ss R W0 k A' := by
  obtain ⟨x, h1, h2, h3, h4, h5⟩ := h
  exact ⟨x, h1.kept hg (fun e => by have := hr _ e.symm; omega), h2, h3, h4.grown hg hr h5, Nat.le_trans h5 hg.size⟩
theorem NdStop.kept {N : Nat} {R : Int × Int} {W0 A A' : World} {c : Code} {k : Nat} {row : Option Nat} (h : NdStop N R W0 c k A) (hN : N ≤ W0.heap.size) (hg : A.grownBy A' row) (hr : ∀ r, row = some r → N + 4 ≤ r) : NdStop N R W0 c k A' := by
  obtain ⟨h1, h2, h3, h4, h5⟩ := h
  exact ⟨h1, h2, h3.kept hg (fun e => by have := hr _ e.symm; omega), h4.kept hg (fun e => by have := hr _ e.symm; omega), h5.grown hg (Nat.le_trans hN h5.size) (fun k e => by have := hr _ e; omega)⟩

set_option maxRecDepth 100000 in
set_option maxHeartbeats 8000000 in
theorem neededFor_chain {w : World} {B : Nat} {V : Value} {ss : List St} {tv : Nat → Value} (h : Row w B 109 V (ifVs ss tv ss.length)) (hsb : ∀ j, j < ss.length → StB (ss.getD j default)) (n : Int) (hn : 0 ≤ n ∧ n ≤ 1000000) :
    Calls Tryd.prog 85 #[V, .int .i64 n] w fun e w' => e = .returned (.tuple #[.int .i64 (ndGo ss ss.length n).1, .int .i64 (ndGo ss ss.length n).2]) ∧ Below w.heap.size w w' := by
  obtain ⟨R, hR⟩ : ∃ R, ndGo ss ss.length n = R := ⟨_, rfl⟩
  rw [hR]
  have HLE := Lib.hid (fun (W : World) (hw : Row W B 109 V (ifVs ss tv ss.length)) (x : Int) (hx : 0 ≤ x ∧ x ≤ 1000000) => lengthAfter_chain hw hsb x hx)
  have HROW := Lib.hid h
  have HSB := Lib.hid hsb
  obtain ⟨L, hL⟩ : ∃ L, ss.length = L := ⟨_, rfl⟩
  rw [hL] at h hR HLE HROW HSB
  have hrd : ∀ j, j < L → ∃ g, ∃ cap, V = .slice (some ⟨g, 0, none⟩) L cap ∧ g < w.heap.size ∧ L ≤ cap ∧ cap ≤ maxLen ∧ w.cell? ⟨g, j, none⟩ = some (ifV (ss.getD j default) (tv j)) := fun j hj => by
    have h' := h
    rcases h.shape with ⟨a, cap, rfl, e⟩ | ⟨g, cap, rfl, h0, _, hg, h1, h2⟩
    · have := congrArg List.length e
      rw [ifVs_length] at this
      simp at this
      omega
    · rw [ifVs_length] at h1 h' ⊢
      refine ⟨g, cap, rfl, hg, h1, h2, ?_⟩
      rw [h'.cellAt hj, ifVs_getD hj]
  have hVS : ∀ k, V.ownBlock = some k → k < w.heap.size := fun k e => (h.lt k e).2
  obtain ⟨a, cap, rfl⟩ := h.form
  rw [ifVs_length] at hrd HROW HLE hVS ⊢
  have HRD := Lib.hid hrd
  have HVS := Lib.hid hVS
  have HR := Lib.hid hR
  have HN0 := Lib.hid hn
  have HLL := Lib.hid hL
  clear h hrd hR hL hsb hVS hn
  refine (callsIn_wide (n := 5)).1 ?_
  refine callsIn_of_wp_marks Tryd.func85 rfl trivial ?_ rfl
  simp only [Tryd.ntmps85, List.size_toArray, List.length_cons, List.length_nil, Nat.reduceAdd, Nat.reduceSub, Array.replicate_succ, Array.replicate_zero, List.push_toArray, List.append_toArray, List.nil_append, List.cons_append]
  gi_wp2_with (gi_at_call 118; refine (callsIn_wide.2 (backward_any _ _ _ _)).mono ?_; rintro e w1 ⟨rfl, rfl⟩)
  obtain ⟨W0, hW0⟩ : ∃ W0, ((((w.alloc (.cells #[.int .i64 n] 2)).alloc (.cells #[.int .i64 0] 2)).alloc (.cells #[.int .i64 0] 2)).alloc (.cells #[.slice a L cap] 100)) = W0 := ⟨_, rfl⟩
  obtain ⟨N, hN⟩ : ∃ N, w.heap.size = N := ⟨_, rfl⟩
  obtain ⟨hsz, k0, k1, k2, k3, hB0⟩ := laid4 w _ _ _ _ hN hW0
  rw [hW0, hN]
  simp only [Nat.add_assoc, Nat.reduceAdd]
  have hVL : ∀ j, j < L → ∃ g, a = some ⟨g, 0, none⟩ ∧ g < N + 4 ∧ g ≠ N ∧ L ≤ cap ∧ cap ≤ maxLen ∧ W0.cell? ⟨g, j, none⟩ = some (ifV (ss.getD j default) (tv j)) := fun j hj => by
    obtain ⟨g, cp, e, hg, h1, h2, h3⟩ := HRD.out j hj
    simp only [Value.slice.injEq] at e
    obtain ⟨rfl, -, rfl⟩ := e
    rw [hN] at hg
    exact ⟨g, rfl, by omega, by omega, h1, h2, by rw [hB0.cell (p := ⟨g, j, none⟩) (by rw [hN]; exact hg)]; exact h3⟩
  have hT : Tells Fence.wide (5 - 1) Tryd.prog 140 #[.pointer (some ⟨N + 3, 0, none⟩)] (bwTold L (fun j => ifV (ss.getD j default) (tv j))) (KeptBut (N + 4) N) W0 :=
    backward_tells _ _ _ _ L cap _ a W0 (by omega) (by omega) (by omega) (show Boxed W0 (N + 3) 100 (.slice a L cap) from k3).cell hVL
  have HI0 : Hid (NdHas N ss R W0 L W0) := ⟨n, k0, HN0.out, HR.out, KeptBut.refl _ _ _, by omega⟩
  have HK1 : Hid (Boxed W0 (N + 1) 2 (.int .i64 0)) := k1
  have HK2 : Hid (Boxed W0 (N + 2) 2 (.int .i64 0)) := k2
  have HSZ := Lib.hid hsz
  have HN := Lib.hid hN
  have HB0 := Lib.hid hB0
  clear hW0 hN hsz k0 k1 k2 k3 hB0 hVL
  refine wpIn_range_told (T := bwTold L (fun j => ifV (ss.getD j default) (tv j))) rfl (by omega) rfl trivial (enters_of Tryd.func140 (by kernel_rfl) rfl)
    hT (Below.refl _ _) (fun h k => h.trans k) (fun W l o o' hl _ _ _ => KeptBut.putObj W l o' (by have := HSZ.out; omega)) (fun _ => rfl)
    (NdHas N ss R W0) (NdStop N R W0)
    (fun s A A' row hs hg hr => hs.kept hg (fun r e => by have := (hr r e).1; have := HSZ.out; omega))
    (fun c s A A' row hs hg hr => hs.kept (by have := HSZ.out; omega) hg (fun r e => by have := (hr r e).1; have := HSZ.out; omega))
    (fun _ _ _ _ h => h.elim) HI0.out
    (fun y => { tmps := #[.slice a L cap, .int .i64 n, undef, .pointer (some ⟨N, 0, none⟩), .pointer (some ⟨N + 1, 0, none⟩), .pointer (some ⟨N + 2, 0, none⟩), undef, y.2, undef, undef, .slice a L cap, .func (.func 140) #[] #[.pointer (some ⟨N + 3, 0, none⟩)], .int .i64 y.1, y.2, undef, undef, undef, undef, undef, undef, undef, undef, undef, undef, undef, undef, undef, undef, undef], defers := [] })
    ?assign ?body ?done ?stop
  case assign =>
    rintro l ⟨i, v⟩ W K hK
    dsimp only [bwTold]
    gi_wp2
    exact hK
  case body =>
    rintro l k m ⟨i, v⟩ W ⟨x, hb, hx, hg, hk, hsW⟩ ⟨e1, e2, e3⟩
    subst e1
    obtain ⟨rfl, rfl⟩ := Prod.mk.inj e3
    obtain ⟨T, u, f, rv, hif, hm, hent, hcall⟩ := need_of (ss.getD i default) (HSB.out i e2) (tv i) x hx
    have hyb := ndSt_bounds (HSB.out i e2) hx.1 hx.2
    simp only [ndGo] at hg
    obtain ⟨y, hy⟩ : ∃ y, ndSt (ss.getD i default) x = y := ⟨_, rfl⟩
    simp only [hy] at hcall hg hyb
    dsimp only
    rw [hif]
    have HCALL := Lib.hid hcall
    have HG := Lib.hid hg
    have HK := Lib.hid hk
    have HB := Lib.hid hb
    have h1 : Boxed W (N + 1) 2 (.int .i64 0) := (hk.block (N + 1) (by omega) (by omega)).trans HK1.out
    have h2 : Boxed W (N + 2) 2 (.int .i64 0) := (hk.block (N + 2) (by omega) (by omega)).trans HK2.out
    have d0 : W.cell? ⟨N, 0, none⟩ = some (.int .i64 x) := hb.cell
    have HFin : Hid (∀ w2, Below W.heap.size W w2 →
        (w2.cell? ⟨N, 0, none⟩ = some (.int .i64 x) ∧ w2.frozen? ⟨N, 0, none⟩ = false ∧ w2.cell? ⟨N + 1, 0, none⟩ = some (.int .i64 0) ∧ w2.frozen? ⟨N + 1, 0, none⟩ = false ∧ w2.cell? ⟨N + 2, 0, none⟩ = some (.int .i64 0) ∧ w2.frozen? ⟨N + 2, 0, none⟩ = false) ∧
        (∀ z : Int, KeepsFrom W0.heap.size W (w2.setCell ⟨N, 0, none⟩ (.int .i64 z)) ∧ KeptBut (N + 4) N W (w2.setCell ⟨N, 0, none⟩ (.int .i64 z)) ∧ ((0 ≤ z ∧ z ≤ 1000000) → ndGo ss i z = R → NdHas N ss R W0 i (w2.setCell ⟨N, 0, none⟩ (.int .i64 z)))) ∧
        (∀ z : Int, KeepsFrom W0.heap.size W (((w2.setCell ⟨N, 0, none⟩ (.int .i64 z)).setCell ⟨N + 1, 0, none⟩ (.int .i64 0)).setCell ⟨N + 2, 0, none⟩ (.int .i64 3)) ∧ (R = (0, 3) → NdStop N R W0 .ret i (((w2.setCell ⟨N, 0, none⟩ (.int .i64 z)).setCell ⟨N + 1, 0, none⟩ (.int .i64 0)).setCell ⟨N + 2, 0, none⟩ (.int .i64 3))))) := fun w2 hb2 => by
      have b0 : Boxed w2 N 2 (.int .i64 x) := (hb2.block N (by omega)).trans hb
      have b1 : Boxed w2 (N + 1) 2 (.int .i64 0) := (hb2.block (N + 1) (by omega)).trans h1
      have b2 : Boxed w2 (N + 2) 2 (.int .i64 0) := (hb2.block (N + 2) (by omega)).trans h2
      have kf : KeepsOthers W w2 := KeepsOthers.of_grownBy (grown_of_below hb2) (fun j o e => by cases e)
      have kb : KeptBut (N + 4) N W w2 := KeptBut.of_below hb2 hsW
      have lowW : Below N W0 W := ⟨hk.os, hk.tape, hk.output, hk.size, fun j hj => hk.block j (by omega) (by omega)⟩
      have low : Below N W0 w2 := lowW.trans (hb2.mono (by omega))
      refine ⟨⟨b0.cell, b0.frozen, b1.cell, b1.frozen, b2.cell, b2.frozen⟩, fun z => ⟨(kf.trans (KeepsOthers.setCell _ _ _)).from _, kb.setCell N 0 _ (.inl rfl), fun hz hgz => ⟨z, b0.set _, hz, hgz, (hk.trans kb).setCell N 0 _ (.inl rfl), ?_⟩⟩, fun z => ⟨(((kf.trans (KeepsOthers.setCell _ _ _)).trans (KeepsOthers.setCell _ _ _)).trans (KeepsOthers.setCell _ _ _)).from _, fun hr => ⟨rfl, hr, ?_, ?_, ?_⟩⟩⟩
      · have := hb2.size
        simp
        omega
      · exact (((b1.kept (grownBy_setCell' _ _ _) (by simp))).set _).kept (grownBy_setCell' _ _ _) (by simp)
      · exact ((b2.kept (grownBy_setCell' _ _ _) (by simp)).kept (grownBy_setCell' _ _ _) (by simp)).set _
      · exact ((low.setCell (p := ⟨N, 0, none⟩) (Nat.le_refl _) _).setCell (p := ⟨N + 1, 0, none⟩) (by show N ≤ N + 1; omega) _).setCell (p := ⟨N + 2, 0, none⟩) (by show N ≤ N + 2; omega) _
    clear hcall hg hk hb h1 h2 hif hy e3 HI0 hT
    gi_wp2
    refine (CallsIn.inRound l (callsIn_wide.2 (HCALL.out _))).mono ?_
    rintro e w2 ⟨rfl, hb2⟩
    obtain ⟨⟨c0, f0, c1, f1, c2, f2⟩, hgoes, hstops⟩ := HFin.out w2 hb2
    have HGO := Lib.hid hgoes
    have HST := Lib.hid hstops
    clear hgoes hstops hb2 HFin d0
    by_cases hbig : 1000000 < y
    · have e : R = (0, 3) := by have := HG.out; rw [if_pos hbig] at this; exact this.symm
      have HE := Lib.hid e
      have gb : decide (1000000 < y) = true := decide_eq_true hbig
      clear e HG
      gi_wp2
      exact ⟨(HST.out y).1, (HST.out y).2 HE.out⟩
    · have e : ndGo ss i y = R := by have := HG.out; rwa [if_neg hbig] at this
      have HE := Lib.hid e
      have gb : decide (1000000 < y) = false := decide_eq_false hbig
      clear e HG
      gi_wp2
      exact ⟨(HGO.out y).1, (HGO.out y).2.1, (HGO.out y).2.2 ⟨hyb.1, by omega⟩ HE.out⟩
  case done =>
    rintro D W hD ⟨x, hb, hx, hg, hk, hsW⟩ hD2
    have hE : ndEnd ss x = R := hg
    unfold ndEnd at hE
    have hwN := HN.out
    have hszN := HSZ.out
    have hrow : Row W B 109 (.slice a L cap) (ifVs ss tv L) := (HROW.out.below HB0.out HVS.out).keptBut hk (fun k e => by have := HVS.out k e; omega)
    have LC := HLE.out W hrow x hx
    obtain ⟨r1, h1⟩ : ∃ r, (lenGo ss x).1 = r := ⟨_, rfl⟩
    obtain ⟨r2, h2⟩ : ∃ r, (lenGo ss x).2 = r := ⟨_, rfl⟩
    rw [h1, h2] at LC
    rw [h2] at hE
    have LC := Lib.hid LC
    have HE := Lib.hid hE
    have d0 : W.cell? ⟨N, 0, none⟩ = some (.int .i64 x) := hb.cell
    have b1 : Boxed W (N + 1) 2 (.int .i64 0) := (hk.block (N + 1) (by omega) (by omega)).trans HK1.out
    have b2 : Boxed W (N + 2) 2 (.int .i64 0) := (hk.block (N + 2) (by omega) (by omega)).trans HK2.out
    have hDW : D < W.heap.size := (Array.getElem?_eq_some_iff.1 hD2).1
    have HFin : Hid (∀ w3, Below W.heap.size W w3 →
        (w3.cell? ⟨N, 0, none⟩ = some (.int .i64 x) ∧ w3.cell? ⟨N + 1, 0, none⟩ = some (.int .i64 0) ∧ w3.frozen? ⟨N + 1, 0, none⟩ = false ∧ w3.cell? ⟨N + 2, 0, none⟩ = some (.int .i64 0) ∧ w3.frozen? ⟨N + 2, 0, none⟩ = false) ∧
        ∀ p q : Value, Marks N ((w3.setCell ⟨N + 1, 0, none⟩ p).setCell ⟨N + 2, 0, none⟩ q) [{ target := .collected D, args := #[] }] ∧
          ∀ w', Shut N ((w3.setCell ⟨N + 1, 0, none⟩ p).setCell ⟨N + 2, 0, none⟩ q) w' → w'.cell? ⟨N + 1, 0, none⟩ = some p ∧ w'.cell? ⟨N + 2, 0, none⟩ = some q ∧ Below w.heap.size w w') := fun w3 hb3 => by
      have x0 : Boxed w3 N 2 (.int .i64 x) := (hb3.block N (by omega)).trans hb
      have x1 : Boxed w3 (N + 1) 2 (.int .i64 0) := (hb3.block (N + 1) (by omega)).trans b1
      have x2 : Boxed w3 (N + 2) 2 (.int .i64 0) := (hb3.block (N + 2) (by omega)).trans b2
      refine ⟨⟨x0.cell, x1.cell, x1.frozen, x2.cell, x2.frozen⟩, fun p q => ⟨⟨[D], rfl, by simp, fun D' h => ?_⟩, fun w' hs => ?_⟩⟩
      · simp only [List.mem_singleton] at h
        subst h
        refine ⟨by omega, ?_⟩
        exact (KeepsOthers.setCell _ _ _).same D' _ ((KeepsOthers.setCell _ _ _).same D' _ ((hb3.block D' hDW).trans hD2) rfl) rfl
      · have y1 : Boxed ((w3.setCell ⟨N + 1, 0, none⟩ p).setCell ⟨N + 2, 0, none⟩ q) (N + 1) 2 p := (x1.set _).kept (grownBy_setCell' _ _ _) (by simp)
        have y2 : Boxed ((w3.setCell ⟨N + 1, 0, none⟩ p).setCell ⟨N + 2, 0, none⟩ q) (N + 2) 2 q := (x2.kept (grownBy_setCell' _ _ _) (by simp)).set _
        have z1 : Boxed w' (N + 1) 2 p := hs.cells _ _ y1 rfl
        have z2 : Boxed w' (N + 2) 2 q := hs.cells _ _ y2 rfl
        have low : Below w.heap.size w w3 := by
          rw [hwN]
          have lw : Below N W0 W := ⟨hk.os, hk.tape, hk.output, hk.size, fun j hj => hk.block j (by omega) (by omega)⟩
          have l0 : Below N w W0 := by have := HB0.out; rwa [hwN] at this
          exact (l0.trans lw).trans (hb3.mono (by omega))
        exact ⟨z1.cell, z2.cell, hs.below (by omega) ((low.setCell (p := ⟨N + 1, 0, none⟩) (by show w.heap.size ≤ N + 1; omega) _).setCell (p := ⟨N + 2, 0, none⟩) (by show w.heap.size ≤ N + 2; omega) _)⟩
    clear hrow hE h1 h2 hb hg hk b1 b2 hD2 hT HI0 hDW
    gi_wp2
    refine (callsIn_wide.2 LC.out).mono ?_
    rintro e w3 ⟨rfl, hb3⟩
    obtain ⟨⟨c0, c1, f1, c2, f2⟩, hend⟩ := HFin.out w3 hb3
    have HEND := Lib.hid hend
    clear hend hb3 HFin d0 LC
    by_cases h0 : r2 = 0
    · subst h0
      have e : R = (x, 0) := HE.out.symm
      subst e
      clear HE
      gi_wp2
      refine leaves_marks _ _ (HEND.out _ _).1 fun w' hs => ?_
      obtain ⟨q1, q2, q3⟩ := (HEND.out _ _).2 w' hs
      have HQ := Lib.hid q3
      exact ⟨.tuple #[.int .i64 x, .int .i64 0], (by simp [results, Tryd.results85, go_sem, q1, q2]), rfl, (by have := HQ.out; rwa [HN.out] at this)⟩
    · have e : R = (0, r2) := by rw [← HE.out, if_neg h0]
      subst e
      have g0 : (r2 == 0) = false := by simpa using h0
      clear HE
      gi_wp2
      refine leaves_marks _ _ (HEND.out _ _).1 fun w' hs => ?_
      obtain ⟨q1, q2, q3⟩ := (HEND.out _ _).2 w' hs
      have HQ := Lib.hid q3
      exact ⟨.tuple #[.int .i64 0, .int .i64 r2], (by simp [results, Tryd.results85, go_sem, q1, q2]), rfl, (by have := HQ.out; rwa [HN.out] at this)⟩
  case stop =>
    rintro D c s W hD ⟨rfl, rfl, hb1, hb2, hlow⟩ hD2
    have hwN := HN.out
    have hszN := HSZ.out
    have HMK : Hid (Marks N W [{ target := .collected D, args := #[] }]) := ⟨[D], rfl, by simp, fun D' h => by
      simp only [List.mem_singleton] at h
      subst h
      exact ⟨by omega, hD2⟩⟩
    have HFin : Hid (∀ w', Shut N W w' → w'.cell? ⟨N + 1, 0, none⟩ = some (.int .i64 0) ∧ w'.cell? ⟨N + 2, 0, none⟩ = some (.int .i64 3) ∧ Below w.heap.size w w') := fun w' hs => by
      have z1 : Boxed w' (N + 1) 2 (.int .i64 0) := hs.cells _ _ hb1 rfl
      have z2 : Boxed w' (N + 2) 2 (.int .i64 3) := hs.cells _ _ hb2 rfl
      have low : Below w.heap.size w W := by
        rw [hwN]
        have l0 : Below N w W0 := by have := HB0.out; rwa [hwN] at this
        exact l0.trans hlow
      exact ⟨z1.cell, z2.cell, hs.below (by omega) low⟩
    clear hb1 hb2 hlow hD2 hT HI0
    gi_wp2
    refine leaves_marks _ _ HMK.out fun w' hs => ?_
    obtain ⟨q1, q2, q3⟩ := HFin.out w' hs
    have HQ := Lib.hid q3
    exact ⟨.tuple #[.int .i64 0, .int .i64 3], (by simp [results, Tryd.results85, go_sem, q1, q2]), rfl, (by have := HQ.out; rwa [HN.out] at this)⟩

end Go.Proofs.YtfdmohnmilecnaaDoor
