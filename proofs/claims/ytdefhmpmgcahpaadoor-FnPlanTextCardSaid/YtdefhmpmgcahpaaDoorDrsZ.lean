import Derived.Test.YtdefhmpmgcahpaaDoorMPlanTeL9
import Derived.Test.YtdefhmpmgcahpaaDoorMPlanTeL17
import Derived.Test.YtdefhmpmgcahpaaDoorSt4
import Derived.Test.YtdefhmpmgcahpaaDoorMPlanTeL10
import Derived.Test.YtdefhmpmgcahpaaDoorRsoZ
import Derived.Deep.AppendLies
import Derived.Deep.RegionLaw
import Derived.Deep.CutRange
import Derived.Deep.CutBlock
/-
  A step that is drawn: l07Drawn.
-/
set_option linter.unusedVariables false
set_option linter.unusedSimpArgs false
namespace Go.Proofs.YtdefhmpmgcahpaaDoor
open Go.RowKit Flt

theorem grownBy_at (W : World) (b o : Nat) (v : Value) : W.grownBy (W.setCell ⟨b, o, none⟩ v) (some b) :=
  ⟨rfl, rfl, rfl, by simp, fun k _ hk => Below.heap_setCell _ _ _ k (by intro e; exact hk (by rw [e]))⟩
/-- One of some integers has been drawn. -/
theorem among_any (w0 : World) (B : Nat) (a : Option Addr) (len cap : Nat) (hr : Bytes w0 a len cap) (i : Int) (hi : i < 4611686018427387903) (g : Nat) (zs : List Int) (n : Nat) (hn : zs.length = n) (h1 : 1 < n) (h2 : n ≤ 100) (w : World) (hg : g ≠ B) (hgw : g < w.heap.size) (hc : ∀ j, j < n → w.cell? ⟨g, j, none⟩ = some (.int .i64 (zs.getD j 0))) (h : Src w0 B a len cap i w) :
    Calls Tryd.prog 66 #[.pointer (some ⟨B, 0, none⟩), .slice (some ⟨g, 0, none⟩) n n] w fun e w' => ∃ q j, q < n ∧ e = .returned (.int .i64 (zs.getD q 0)) ∧ i ≤ j ∧ j ≤ i + 2 ∧ Src w0 B a len cap j w' ∧ w.grownBy w' (some B) := by
  have PK := Lib.hid (pick_any w0 B a len cap hr i hi (n : Int) (by omega) (by omega) w h)
  have HC := Lib.hid hc
  have HGB : Hid (∀ w1, w.grownBy w1 (some B) → ∀ j, j < n → w1.cell? ⟨g, j, none⟩ = some (.int .i64 (zs.getD j 0))) := fun w1 hg1 j hj => by
    refine (World.cell?_of_block (w := w) (hg1.block g hgw (fun e => hg (by simpa using e)))).trans (hc j hj)
  have hn8 : (n : Int) ≤ 9223372036854775807 := by omega
  clear hc h hr hi hgw
  go_enter Tryd.func66, Tryd.ntmps66
  go_wp2_with fail
  refine PK.out.mono ?_
  rintro e w1 ⟨r, j, r0, r1, rfl, j0, j1, hs, hg1⟩
  obtain ⟨q, rfl⟩ : ∃ q : Nat, r = q := ⟨r.toNat, by omega⟩
  have hq : q < n := by omega
  have hqi : (q : Int) < (n : Int) := by omega
  have hq0 : (0 : Int) ≤ (q : Int) := by omega
  have c0 := HGB.out w1 hg1 q hq
  have HS := Lib.hid hs
  have HG := Lib.hid hg1
  have HQ := Lib.hid hq
  have HJ := Lib.hid (And.intro j0 j1)
  clear hs hg1 j0 j1 r0 r1 hn hg
  go_wp2
  go_ret
  exact ⟨q, j, HQ.out, rfl, HJ.out.1, HJ.out.2, HS.out, HG.out⟩

/-- While a step is drawn: the source at j, the place of the result (R) still empty, the step's place (X). -/
structure DS (w0 w : World) (B R X : Nat) (a : Option Addr) (len cap : Nat) (j : Int) (u0 u1 u2 u3 : Value) (W : World) : Prop where
  src : Src w0 B a len cap j W
  grown : w.grownBy W (some B)
  r : Has4 W R (.int .i64 0) (.int .i64 0) (.int .i64 0) (.slice none 0 0)
  rf : ∀ o, W.frozen? ⟨R, o, none⟩ = false
  x : Has4 W X u0 u1 u2 u3
  xf : ∀ o, W.frozen? ⟨X, o, none⟩ = false
  hB : B < w.heap.size
  hR : R = w.heap.size
  hX : R < X
  hW : X < W.heap.size

section
variable {w0 w W W' : World} {B R X : Nat} {a : Option Addr} {len cap : Nat} {j j' : Int} {u0 u1 u2 u3 : Value}
theorem Has4.blk {V : Nat} {a0 a1 a2 a3 : Value} (h : Has4 W V a0 a1 a2 a3) (hb : W'.heap[V]? = W.heap[V]?) : Has4 W' V a0 a1 a2 a3 := by
  obtain ⟨h0, h1, h2, h3⟩ := h
  have hc : ∀ o, W'.cell? ⟨V, o, none⟩ = W.cell? ⟨V, o, none⟩ := fun o => World.cell?_of_block (w := W) hb
  exact ⟨(hc 0).trans h0, (hc 1).trans h1, (hc 2).trans h2, (hc 3).trans h3⟩
theorem frz_blk {V : Nat} (h : ∀ o, W.frozen? ⟨V, o, none⟩ = false) (hb : W'.heap[V]? = W.heap[V]?) : ∀ o, W'.frozen? ⟨V, o, none⟩ = false := fun o => (World.frozen?_of_block (w := W) hb).trans (h o)
theorem DS.picked (h : DS w0 w B R X a len cap j u0 u1 u2 u3 W) (hs : Src w0 B a len cap j' W') (hg : W.grownBy W' (some B)) : DS w0 w B R X a len cap j' u0 u1 u2 u3 W' := by
  have hR := h.hR
  have hX := h.hX
  have hB := h.hB
  have hW := h.hW
  have bR : W'.heap[R]? = W.heap[R]? := hg.block R (by omega) (by simp; omega)
  have bX : W'.heap[X]? = W.heap[X]? := hg.block X hW (by simp; omega)
  exact ⟨hs, grown_trans h.grown hg, h.r.blk bR, frz_blk h.rf bR, h.x.blk bX, frz_blk h.xf bX, hB, hR, hX, Nat.lt_of_lt_of_le hW hg.size⟩
theorem DS.alloc (h : DS w0 w B R X a len cap j u0 u1 u2 u3 W) (o : Obj) : DS w0 w B R X a len cap j u0 u1 u2 u3 (W.alloc o) := by
  have hW := h.hW
  have hX := h.hX
  have bR : (W.alloc o).heap[R]? = W.heap[R]? := Below.heap_alloc W o R (by omega)
  have bX : (W.alloc o).heap[X]? = W.heap[X]? := Below.heap_alloc W o X hW
  exact ⟨h.src.alloc o, grown_trans h.grown (World.grownBy_alloc W o (some B)), h.r.blk bR, frz_blk h.rf bR, h.x.blk bX, frz_blk h.xf bX, h.hB, h.hR, hX, by simp; omega⟩
theorem grownBy_far {b o : Nat} {v : Value} (hb : w.heap.size ≤ b) (h : w.grownBy W (some B)) : w.grownBy (W.setCell ⟨b, o, none⟩ v) (some B) :=
  ⟨h.os, h.tape, h.output, by simpa using h.size, fun k hk hn => (Below.heap_setCell _ _ _ k (by show k ≠ b; omega)).trans (h.block k hk hn)⟩
theorem DS.set1 (h : DS w0 w B R X a len cap j u0 u1 u2 u3 W) (v : Value) : DS w0 w B R X a len cap j u0 v u2 u3 (W.setCell ⟨X, 1, none⟩ v) := by
  obtain ⟨src, grown, r, rf, ⟨x0, x1, x2, x3⟩, xf, hB, hR, hX, hW⟩ := h
  have g : W.grownBy (W.setCell ⟨X, 1, none⟩ v) (some X) := grownBy_at _ _ _ _
  have bR : (W.setCell ⟨X, 1, none⟩ v).heap[R]? = W.heap[R]? := g.block R (by omega) (by simp; omega)
  exact ⟨src.other g (by simp; omega) (fun k e => by cases e; have := src.new; have := src.below.size; omega), grownBy_far (by omega) grown, r.blk bR, frz_blk rf bR, ⟨by go_simp, by go_simp, by go_simp, by go_simp⟩, fun o => by rw [World.frozen?_setCell]; exact xf o, hB, hR, hX, by simpa using hW⟩
theorem DS.set2 (h : DS w0 w B R X a len cap j u0 u1 u2 u3 W) (v : Value) : DS w0 w B R X a len cap j u0 u1 v u3 (W.setCell ⟨X, 2, none⟩ v) := by
  obtain ⟨src, grown, r, rf, ⟨x0, x1, x2, x3⟩, xf, hB, hR, hX, hW⟩ := h
  have g : W.grownBy (W.setCell ⟨X, 2, none⟩ v) (some X) := grownBy_at _ _ _ _
  have bR : (W.setCell ⟨X, 2, none⟩ v).heap[R]? = W.heap[R]? := g.block R (by omega) (by simp; omega)
  exact ⟨src.other g (by simp; omega) (fun k e => by cases e; have := src.new; have := src.below.size; omega), grownBy_far (by omega) grown, r.blk bR, frz_blk rf bR, ⟨by go_simp, by go_simp, by go_simp, by go_simp⟩, fun o => by rw [World.frozen?_setCell]; exact xf o, hB, hR, hX, by simpa using hW⟩
theorem DS.set3 (h : DS w0 w B R X a len cap j u0 u1 u2 u3 W) (v : Value) : DS w0 w B R X a len cap j u0 u1 u2 v (W.setCell ⟨X, 3, none⟩ v) := by
  obtain ⟨src, grown, r, rf, ⟨x0, x1, x2, x3⟩, xf, hB, hR, hX, hW⟩ := h
  have g : W.grownBy (W.setCell ⟨X, 3, none⟩ v) (some X) := grownBy_at _ _ _ _
  have bR : (W.setCell ⟨X, 3, none⟩ v).heap[R]? = W.heap[R]? := g.block R (by omega) (by simp; omega)
  exact ⟨src.other g (by simp; omega) (fun k e => by cases e; have := src.new; have := src.below.size; omega), grownBy_far (by omega) grown, r.blk bR, frz_blk rf bR, ⟨by go_simp, by go_simp, by go_simp, by go_simp⟩, fun o => by rw [World.frozen?_setCell]; exact xf o, hB, hR, hX, by simpa using hW⟩
/-- What is returned lies at R. -/
theorem DS.done (h : DS w0 w B R X a len cap j u0 u1 u2 u3 W) (v0 v1 v2 v3 : Value) : (loadVar 36 ⟨R, 0, none⟩).run Tryd.prog (st4 W R v0 v1 v2 v3) = .ok (.agg #[v0, v1, v2, v3]) (st4 W R v0 v1 v2 v3) ∧ Src w0 B a len cap j (st4 W R v0 v1 v2 v3) ∧ w.grownBy (st4 W R v0 v1 v2 v3) (some B) := by
  have hz := h.r.set v0 v1 v2 v3
  have hR := h.hR
  have hB := h.hB
  have hw : w.heap.size ≤ R := by omega
  refine ⟨load4S hz.c0 hz.c1 hz.c2 hz.c3, ?_, grownBy_far hw (grownBy_far hw (grownBy_far hw (grownBy_far hw h.grown)))⟩
  have gg : ∀ (A : World) (o : Nat) (u : Value), Src w0 B a len cap j A → Src w0 B a len cap j (A.setCell ⟨R, o, none⟩ u) := fun A o u hs => hs.other (row := some R) (grownBy_at _ _ _ _) (by simp; omega) (fun k e => by cases e; have := hs.new; omega)
  exact gg _ _ _ (gg _ _ _ (gg _ _ _ (gg _ _ _ h.src)))
end

theorem DS.drew {w0 w W : World} {B R X : Nat} {a : Option Addr} {len cap : Nat} {j : Int} {u0 u1 u2 u3 : Value} (h : DS w0 w B R X a len cap j u0 u1 u2 u3 W) : DS w0 w B R X a len cap j u0 u1 u2 u3 W.drew :=
  ⟨h.src.draws 1, grown_draws h.grown 1, ⟨h.r.c0, h.r.c1, h.r.c2, h.r.c3⟩, h.rf, ⟨h.x.c0, h.x.c1, h.x.c2, h.x.c3⟩, h.xf, h.hB, h.hR, h.hX, h.hW⟩
theorem DS.row {w0 w W W' : World} {B R X : Nat} {a : Option Addr} {len cap : Nat} {j : Int} {u0 u1 u2 u3 : Value} {row : Option Nat} (h : DS w0 w B R X a len cap j u0 u1 u2 u3 W) (hg : W.grownBy W' row) (hr : ∀ k, row = some k → X < k) : DS w0 w B R X a len cap j u0 u1 u2 u3 W' := by
  obtain ⟨src, grown, r, rf, x, xf, hB, hR, hX, hW⟩ := h
  have hn := src.new
  have bR : W'.heap[R]? = W.heap[R]? := hg.block R (by omega) (fun e => by have := hr _ e.symm; omega)
  have bX : W'.heap[X]? = W.heap[X]? := hg.block X hW (fun e => by have := hr _ e.symm; omega)
  refine ⟨src.other hg (fun e => by have := hr _ e; omega) (fun k e => by have := hr k e; omega), ?_, r.blk bR, frz_blk rf bR, x.blk bX, frz_blk xf bX, hB, hR, hX, Nat.lt_of_lt_of_le hW hg.size⟩
  exact ⟨hg.os.trans grown.os, hg.tape.trans grown.tape, hg.output.trans grown.output, Nat.le_trans grown.size hg.size, fun k hk hn => (hg.block k (Nat.lt_of_lt_of_le hk grown.size) (fun e => by have := hr _ e.symm; omega)).trans (grown.block k hk hn)⟩
theorem drawn_valid {zs : List Int} (h1 : 1 ≤ 0 + zs.length) (h2 : 0 + zs.length ≤ 4) (h : ∀ z ∈ zs, -32 ≤ z ∧ z ≤ 32) : validSt ⟨3, 0, 0, zs⟩ = true := by
  have hp : partsB zs = true := by
    unfold partsB
    rw [List.all_eq_true]
    intro z hz
    have := h z hz
    simp [inZ]
    omega
  simp [validSt, inZ, hp]
  omega
theorem drawn_row {w0 w W : World} {B R X : Nat} {a : Option Addr} {len cap : Nat} {j : Int} {u0 u1 u2 : Value} {u3 : Value} {zs : List Int} (hr : Row W (X + 1) 2 u3 (ints zs)) (h : DS w0 w B R X a len cap j u0 u1 u2 u3 W) (v0 v1 v2 v3 : Value) : Row (st4 W R v0 v1 v2 v3) w.heap.size 2 u3 (ints zs) := by
  have hR := h.hR
  have hX := h.hX
  have hne : u3.ownBlock ≠ some R := fun e => by have := (hr.lt _ e).1; omega
  exact ((((hr.base' (by omega)).other _ hne).other _ hne).other _ hne).other _ hne

/-- A valid step has been drawn. -/
def DrawnSt (w0 : World) (B : Nat) (a : Option Addr) (len cap : Nat) (i : Int) (w : World) (e : Ending) (w' : World) : Prop :=
  ∃ s v tv j, validSt s = true ∧ e = .returned v ∧ StepO w' w.heap.size v s tv ∧ i ≤ j ∧ j ≤ i + 12 ∧ Src w0 B a len cap j w' ∧ w.grownBy w' (some B)

set_option maxRecDepth 100000 in
set_option maxHeartbeats 8000000 in
theorem drawn_any (w0 : World) (B : Nat) (a : Option Addr) (len cap : Nat) (hr : Bytes w0 a len cap) (i : Int) (hi : i < 4611686018427380000) (w : World) (hB : B < w.heap.size) (h : Src w0 B a len cap i w) :
    Calls Tryd.prog 64 #[.pointer (some ⟨B, 0, none⟩)] w (DrawnSt w0 B a len cap i w) := by
  have HBY := Lib.hid hr
  go_enter Tryd.func64, Tryd.ntmps64
  go_wp2_with fail
  refine (pick_any w0 B a len cap hr i (by omega) 13 (by omega) (by omega) _ (h.alloc _)).mono ?_
  rintro e w1 ⟨r, j, r0, r1, rfl, j0, j1, hs, hg⟩
  obtain ⟨q, hq⟩ : ∃ q : Int, 1 + r = q := ⟨_, rfl⟩
  have ew : IntKind.i64.wrap (1 + r) = q := by rw [hq]; exact IntWalk.i64_in _ (by omega)
  have hD : DS w0 w B w.heap.size w1.heap.size a len cap j (.int .i64 q) (.int .i64 0) (.int .i64 0) (.slice none 0 0) (w1.alloc (.cells #[.int .i64 q, .int .i64 0, .int .i64 0, .slice none 0 0] 36)) := by
    have hsz := hg.size
    simp at hsz
    have hc : ∀ o, w1.cell? ⟨w.heap.size, o, none⟩ = (w.alloc (.cells #[.int .i64 0, .int .i64 0, .int .i64 0, .slice none 0 0] 36)).cell? ⟨w.heap.size, o, none⟩ := fun o => World.cell?_of_block (w := w.alloc _) (hg.block w.heap.size (by simp) (by simp; omega))
    have hf : ∀ o, w1.frozen? ⟨w.heap.size, o, none⟩ = (w.alloc (.cells #[.int .i64 0, .int .i64 0, .int .i64 0, .slice none 0 0] 36)).frozen? ⟨w.heap.size, o, none⟩ := fun o => World.frozen?_of_block (w := w.alloc _) (hg.block w.heap.size (by simp) (by simp; omega))
    have bR : (w1.alloc (.cells #[.int .i64 q, .int .i64 0, .int .i64 0, .slice none 0 0] 36)).heap[w.heap.size]? = w1.heap[w.heap.size]? := Below.heap_alloc _ _ _ (by omega)
    have hr4 : Has4 w1 w.heap.size (.int .i64 0) (.int .i64 0) (.int .i64 0) (.slice none 0 0) := ⟨by rw [hc]; go_simp, by rw [hc]; go_simp, by rw [hc]; go_simp, by rw [hc]; go_simp⟩
    refine ⟨hs.alloc _, grown_trans (grown_trans (World.grownBy_alloc w _ (some B)) hg) (World.grownBy_alloc _ _ _), hr4.blk bR, frz_blk (fun o => by rw [hf]; go_simp) bR, ⟨by go_simp, by go_simp, by go_simp, by go_simp⟩, fun o => by go_simp, hB, rfl, by omega, by simp⟩
  have hcase : q = 1 ∨ q = 2 ∨ q = 3 ∨ q = 4 ∨ (q = 5 ∨ q = 6) ∨ (q = 7 ∨ q = 8 ∨ q = 9 ∨ q = 10) ∨ (q = 11 ∨ q = 12 ∨ q = 13) := by omega
  obtain ⟨R, hR⟩ : ∃ R, w.heap.size = R := ⟨_, rfl⟩
  obtain ⟨X, hX⟩ : ∃ X, w1.heap.size = X := ⟨_, rfl⟩
  have hXR : ¬ X = R := by have := hD.hX; omega
  have hRX : ¬ R = X := fun e => hXR e.symm
  have HX := Lib.hid hX
  have HRR := Lib.hid hR
  have HJ := Lib.hid (And.intro j0 j1)
  rw [hR, hX] at hD
  have HD := Lib.hid hD
  clear hD hs hg h r0 r1 hq j0 j1 hr hB
  have x0 := HD.out.x.c0
  have x1 := HD.out.x.c1
  have x2 := HD.out.x.c2
  have x3 := HD.out.x.c3
  have f0 := HD.out.xf 0
  have f1 := HD.out.xf 1
  have f2 := HD.out.xf 2
  have f3 := HD.out.xf 3
  have y0 := HD.out.r.c0
  have y1 := HD.out.r.c1
  have y2 := HD.out.r.c2
  have y3 := HD.out.r.c3
  have yf := HD.out.rf
  rcases hcase with rfl | rfl | rfl | rfl | hk | hk | hk
  · clear hX hR
    go_wp2_with fail
    rw [HX.out, HRR.out]
    refine (pick_any w0 B a len cap HBY.out j (by have := HJ.out; omega) 65 (by omega) (by omega) _ HD.out.src).mono ?_
    rintro e w2 ⟨r2, j2, p0, p1, rfl, p2, p3, hs2, hg2⟩
    have hD2 := Lib.hid (HD.out.picked hs2 hg2)
    obtain ⟨n, hn⟩ : ∃ n : Int, r2 - 32 = n := ⟨_, rfl⟩
    have ew2 : IntKind.i64.wrap (r2 - 32) = n := by rw [hn]; exact IntWalk.i64_in _ (by omega)
    have HN0 : Hid (-32 ≤ n ∧ n ≤ 32 ∧ i ≤ j2 ∧ j2 ≤ i + 4) := by have := HJ.out; exact ⟨by omega, by omega, by omega, by omega⟩
    clear hs2 hg2 p0 p1 p2 p3 hn
    clear x0 x1 x2 x3 f0 f1 f2 f3 y0 y1 y2 y3 yf
    have x0 := hD2.out.x.c0
    have x1 := hD2.out.x.c1
    have x2 := hD2.out.x.c2
    have x3 := hD2.out.x.c3
    have f0 := hD2.out.xf 0
    have f1 := hD2.out.xf 1
    have f2 := hD2.out.xf 2
    have f3 := hD2.out.xf 3
    have y0 := hD2.out.r.c0
    have y1 := hD2.out.r.c1
    have y2 := hD2.out.r.c2
    have y3 := hD2.out.r.c3
    have yf := hD2.out.rf
    go_wp2_with fail
    have hD3 := Lib.hid ((hD2.out.set1 (.int .i64 n)).alloc (.cells #[.int .i64 0, .int .i64 0, .int .i64 16, .int .i64 (-8), .int .i64 3] 2))
    refine (among_any w0 B a len cap HBY.out j2 (by have := HN0.out; omega) w2.heap.size [0, 0, 16, -8, 3] 5 rfl (by omega) (by omega) _ (by have := block_of_cell hD2.out.src.code; omega) (by simp) (fun j hj => ?_) hD3.out.src).mono ?_
    · rcases j with _ | _ | _ | _ | _ | j <;> first | omega | go_simp
    rintro e w3 ⟨q, j3, hq, rfl, p2, p3, hs3, hg3⟩
    have hD4 := Lib.hid (hD3.out.picked hs3 hg3)
    have hk : -8 ≤ [(0 : Int), 0, 16, -8, 3].getD q 0 ∧ [(0 : Int), 0, 16, -8, 3].getD q 0 ≤ 16 := by rcases q with _ | _ | _ | _ | _ | q <;> first | omega | decide
    generalize [(0 : Int), 0, 16, -8, 3].getD q 0 = m at hk ⊢
    have HN : Hid (-32 ≤ n ∧ n ≤ 32 ∧ i ≤ j3 ∧ j3 ≤ i + 12 ∧ -8 ≤ m ∧ m ≤ 16) := by have := HN0.out; exact ⟨by omega, by omega, by omega, by omega, by omega, by omega⟩
    clear hs3 hg3 p2 p3 hq hk
    clear x0 x1 x2 x3 f0 f1 f2 f3 y0 y1 y2 y3 yf
    have x0 := hD4.out.x.c0
    have x1 := hD4.out.x.c1
    have x2 := hD4.out.x.c2
    have x3 := hD4.out.x.c3
    have f0 := hD4.out.xf 0
    have f1 := hD4.out.xf 1
    have f2 := hD4.out.xf 2
    have f3 := hD4.out.xf 3
    have y0 := hD4.out.r.c0
    have y1 := hD4.out.r.c1
    have y2 := hD4.out.r.c2
    have y3 := hD4.out.r.c3
    have yf := hD4.out.rf
    go_wp2
    (try simp only [Exit.inBlock, Exit.then])
    obtain ⟨d1, d2, d3⟩ := (hD4.out.set2 (.int .i64 m)).done _ _ _ _
    refine bodyPost_ret (res_cell1' rfl _ _ _ rfl d1) rfl ?_
    have hv := HN.out
    exact ⟨⟨1, n, m, []⟩, _, _, j3, by simp [validSt, inZ]; omega, rfl, ⟨rfl, rfl, .inl ⟨rfl, rfl⟩⟩, by omega, by omega, d2, d3⟩
  · clear hX hR
    go_wp2_with fail
    rw [HX.out, HRR.out]
    have hD3 := Lib.hid (HD.out.alloc (.cells #[.int .i64 0, .int .i64 1, .int .i64 2, .int .i64 3, .int .i64 5] 2))
    refine (among_any w0 B a len cap HBY.out j (by have := HJ.out; omega) (X + 1) [0, 1, 2, 3, 5] 5 rfl (by omega) (by omega) _ (by have := block_of_cell HD.out.src.code; have := HX.out; have := HRR.out; have := HD.out.hB; have := HD.out.hX; omega) (by have := HX.out; simp; omega) (fun j hj => ?_) hD3.out.src).mono ?_
    · have e1 : w1.heap.size + 1 = X + 1 := by rw [HX.out]
      rw [← e1]
      rcases j with _ | _ | _ | _ | _ | j <;> first | omega | go_simp
    rintro e w3 ⟨q, j3, hq, rfl, p2, p3, hs3, hg3⟩
    have hD4 := Lib.hid (hD3.out.picked hs3 hg3)
    have hk : 0 ≤ [(0 : Int), 1, 2, 3, 5].getD q 0 ∧ [(0 : Int), 1, 2, 3, 5].getD q 0 ≤ 5 := by rcases q with _ | _ | _ | _ | _ | q <;> first | omega | decide
    generalize [(0 : Int), 1, 2, 3, 5].getD q 0 = m at hk ⊢
    have HN : Hid (i ≤ j3 ∧ j3 ≤ i + 12 ∧ 0 ≤ m ∧ m ≤ 5) := by have := HJ.out; exact ⟨by omega, by omega, by omega, by omega⟩
    clear hs3 hg3 p2 p3 hq hk
    clear x0 x1 x2 x3 f0 f1 f2 f3 y0 y1 y2 y3 yf
    have x0 := hD4.out.x.c0
    have x1 := hD4.out.x.c1
    have x2 := hD4.out.x.c2
    have x3 := hD4.out.x.c3
    have f0 := hD4.out.xf 0
    have f1 := hD4.out.xf 1
    have f2 := hD4.out.xf 2
    have f3 := hD4.out.xf 3
    have y0 := hD4.out.r.c0
    have y1 := hD4.out.r.c1
    have y2 := hD4.out.r.c2
    have y3 := hD4.out.r.c3
    have yf := hD4.out.rf
    go_wp2
    (try simp only [Exit.inBlock, Exit.then])
    obtain ⟨d1, d2, d3⟩ := (hD4.out.set1 (.int .i64 m)).done _ _ _ _
    refine bodyPost_ret (res_cell1' rfl _ _ _ rfl d1) rfl ?_
    have hv := HN.out
    exact ⟨⟨2, m, 0, []⟩, _, _, j3, by simp [validSt, inZ]; omega, rfl, ⟨rfl, rfl, .inl ⟨rfl, rfl⟩⟩, by omega, by omega, d2, d3⟩
  · clear hX hR
    go_wp2_with fail
    rw [HX.out, HRR.out]
    refine (pick_any w0 B a len cap HBY.out j (by have := HJ.out; omega) 4 (by omega) (by omega) _ HD.out.src).mono ?_
    rintro e w2 ⟨r2, j2, p0, p1, rfl, p2, p3, hs2, hg2⟩
    have hD2 := Lib.hid (HD.out.picked hs2 hg2)
    obtain ⟨n, hn⟩ : ∃ n : Nat, 1 + r2 = (n : Int) := ⟨(1 + r2).toNat, by omega⟩
    have ew2 : IntKind.i64.wrap (1 + r2) = (n : Int) := by rw [hn]; exact IntWalk.i64_in _ (by omega)
    have HN : Hid (1 ≤ n ∧ n ≤ 4 ∧ i ≤ j2 ∧ j2 ≤ i + 4) := by have := HJ.out; exact ⟨by omega, by omega, by omega, by omega⟩
    obtain ⟨i0, hi0, hz0, hz1, hz2⟩ := info_parts' info_i64
    clear hs2 hg2 p0 p1 p2 p3 hn
    clear x0 x1 x2 x3 f0 f1 f2 f3 y0 y1 y2 y3 yf
    go_wp2_with fail
    go_loopw [4] (fun k wr => ∃ (m : Nat) (zs : List Int) (j : Int) (ta : Option Addr) (tc : Nat), k = .int .i64 m ∧ 1 ≤ m + zs.length ∧ m + zs.length ≤ 4 ∧ i ≤ j ∧ j ≤ i + 4 + 2 * (zs.length : Int) ∧ (∀ z ∈ zs, -32 ≤ z ∧ z ≤ 32) ∧ DS w0 w B R X a len cap j (.int .i64 3) (.int .i64 0) (.int .i64 0) (.slice ta zs.length tc) wr ∧ Row wr (X + 1) 2 (.slice ta zs.length tc) (ints zs)) (fun k _ => (intOf k).toNat)
    case atStart => have hv := HN.out; exact ⟨n, [], j2, none, 0, rfl, by simp; omega, by simp; omega, by omega, by simp; omega, (fun z hz => by cases hz), hD2.out, ⟨rfl, .inl ⟨rfl, rfl⟩⟩⟩
    case round =>
      clear HD hD2 HN
      obtain ⟨m, zs, j3, ta, tc, rfl, hm1, hm4, hj1, hj2, hz, hD3, hrow⟩ := hrel
      by_cases hlt : 0 < m
      · have g1 : decide ((0 : Int) < (m : Int)) = true := decide_eq_true (by omega)
        obtain ⟨L, hL⟩ : ∃ L, zs.length = L := ⟨_, rfl⟩
        rw [hL] at hD3 hrow hm1 hm4 hj2
        have hDd := Lib.hid hD3.drew
        have HRW : Hid (∀ wn, wr.grownBy wn (some B) → wn.ownsRow (X + 1) 2 1 (.slice ta L tc) L (ints zs)) := fun wn hg => by
          have h := hrow.kept hg (.inr (fun e => by have := (hrow.lt _ e).1; have := hD3.hB; have := hD3.hR; have := hD3.hX; omega))
          unfold Row at h
          rwa [ints_length, hL] at h
        have HNX : Hid (∀ (z : Int) (jn : Int) (wn : World) (v' : Value) (w' : World), wr.grownBy wn (some B) → DS w0 w B R X a len cap jn (.int .i64 3) (.int .i64 0) (.int .i64 0) (.slice ta L tc) wn → w'.ownsRow (X + 1) 2 1 v' (L + 1) (ints zs ++ [.int .i64 z]) → wn.grownBy w' (Value.slice ta L tc).ownBlock →
            DS w0 w B R X a len cap jn (.int .i64 3) (.int .i64 0) (.int .i64 0) (.slice ta L tc) w' ∧ DS w0 w B R X a len cap jn (.int .i64 3) (.int .i64 0) (.int .i64 0) v' (w'.setCell ⟨X, 3, none⟩ v') ∧ Row (w'.setCell ⟨X, 3, none⟩ v') (X + 1) 2 v' (ints (zs ++ [z]))) := fun z jn wn v' w' hg hd ho hgr => by
          have hd2 := hd.row hgr (fun k e => by have := (hrow.lt k e).1; omega)
          have hr2 : Row w' (X + 1) 2 v' (ints (zs ++ [z])) := by
            show w'.ownsRow _ _ _ _ _ _
            rw [ints_snoc, List.length_append, ints_length, hL]
            exact ho
          exact ⟨hd2, hd2.set3 v', hr2.other v' (fun e => by have := (hr2.lt _ e).1; omega)⟩
        have HJM := Lib.hid (And.intro hm1 (And.intro hm4 (And.intro hj1 (And.intro hj2 hz))))
        have HLL := Lib.hid hL
        have hs63 : L + 1 ≤ maxLen := by simp only [maxLen]; omega
        have hsby : (L + 1) * 8 ≤ 140737488355328 := by omega
        have HXW : Hid (∀ wn, wr.grownBy wn (some B) → X + 1 ≤ wn.heap.size) := fun wn hg => by have := hg.size; have := hD3.hW; omega
        have HJ3 : Hid (j3 < 4611686018427387903) := by have := HJ.out; show _ < _; omega
        have x0 := hD3.x.c0
        have x1 := hD3.x.c1
        have x2 := hD3.x.c2
        have x3 := hD3.x.c3
        have f0 := hD3.xf 0
        have f1 := hD3.xf 1
        have f2 := hD3.xf 2
        have f3 := hD3.xf 3
        have y0 := hD3.r.c0
        have y1 := hD3.r.c1
        have y2 := hD3.r.c2
        have y3 := hD3.r.c3
        have yf := hD3.rf
        clear hD3 hrow hm1 hm4 hj1 hj2 hz hL
        have x3d := hDd.out.x.c3
        have f3d := hDd.out.xf 3
        go_upto_block 2 with fail
        go_cut [] from 36 to 43 (fun wx => ∃ (zs' : List Int) (j' : Int) (ta' : Option Addr) (tc' : Nat), zs'.length = L + 1 ∧ i ≤ j' ∧ j' ≤ i + 4 + 2 * ((L + 1 : Nat) : Int) ∧ (∀ z ∈ zs', -32 ≤ z ∧ z ≤ 32) ∧ DS w0 w B R X a len cap j' (.int .i64 3) (.int .i64 0) (.int .i64 0) (.slice ta' zs'.length tc') wx ∧ Row wx (X + 1) 2 (.slice ta' zs'.length tc') (ints zs'))
        case first =>
          go_wp2_with fail
          go_region_law (first
            | (go_simp; go_at_call 63; refine (pick_any w0 B a len cap HBY.out j3 HJ3.out 65 (by omega) (by omega) _ hDd.out.src).mono ?_; rintro e w4 ⟨r4, j4, p0, p1, rfl, p2, p3, hs4, hg4⟩; have hD5 := Lib.hid (hDd.out.picked hs4 hg4); have HG4 := Lib.hid (grown_trans (show wr.grownBy wr.drew (some B) from ⟨rfl, rfl, rfl, Nat.le_refl _, fun _ _ _ => rfl⟩) hg4); obtain ⟨z, hz4⟩ : ∃ z : Int, r4 - 32 = z := ⟨_, rfl⟩; have ew4 : IntKind.i64.wrap (r4 - 32) = z := (by rw [hz4]; exact IntWalk.i64_in _ (by omega)); have HZ4 : Hid (-32 ≤ z ∧ z ≤ 32 ∧ j3 ≤ j4 ∧ j4 ≤ j3 + 2) := ⟨by omega, by omega, p2, p3⟩; have x3' := hD5.out.x.c3; have f3' := hD5.out.xf 3; have x3a := (fun o : Obj => (hD5.out.alloc o).x.c3); have f3a := (fun o : Obj => (hD5.out.alloc o).xf 3); clear hs4 hg4 hz4 p0 p1 p2 p3)
            | (refine step_append_lies _ rfl (.tmp 37) (.tmp 41) 34 rfl (X + 1) 2 i0 (.int .i64 0) 1 8 Tryd.underlying34 hi0 hz0 hz1 hz2 rfl (by decide) (.slice ta L tc) L (ints zs) rfl (HRW.out _ (grown_trans HG4.out (World.grownBy_alloc _ _ _))) ⟨_, 0, none⟩ 1 1 [.int .i64 z] rfl rfl (cell_one_new _ _ _) (by intro u hu; simp at hu; subst hu; rfl) (by decide) hs63 hsby (HXW.out _ (grown_trans HG4.out (World.grownBy_alloc _ _ _))) _ rfl ?_; intro g' cap' w5 hown hgrow hor hlt2; obtain ⟨q1, q2, q3⟩ := HNX.out z j4 _ _ w5 (grown_trans HG4.out (World.grownBy_alloc _ _ _)) (hD5.out.alloc _) hown hgrow; have x3'' := q1.x.c3; have f3'' := q1.xf 3; have HQ2 := Lib.hid q2; have HQ3 := Lib.hid q3; clear hown hgrow hor hlt2 q1 q2 q3)
            | (trace_state; fail))
          all_goals
            go_wp2_with fail
            go_meet
            have hv := HZ4.out
            obtain ⟨v1, v2, v3, v4, v5⟩ := HJM.out
            have hlz : (zs ++ [z]).length = L + 1 := by rw [List.length_append, HLL.out]; rfl
            refine ⟨zs ++ [z], j4, _, _, hlz, by omega, by omega, fun u hu => ?_, (by rw [hlz]; exact HQ2.out), (by rw [hlz]; exact HQ3.out)⟩
            rcases List.mem_append.1 hu with hu | hu
            · exact v5 u hu
            · simp at hu
              subst hu
              omega
        case rest =>
          obtain ⟨zs', j', ta', tc', hl', q1, q2, q3, q4, q5⟩ := hcut
          have HC := Lib.hid (And.intro hl' (And.intro q1 (And.intro q2 (And.intro q3 (And.intro q4 q5)))))
          have ewm : IntKind.i64.wrap ((m : Int) - 1) = ((m - 1 : Nat) : Int) := by have hv := HJM.out; rw [IntWalk.i64_in _ (by omega)]; omega
          clear hl' q1 q2 q3 q4 q5 x0 x1 x2 x3 f0 f1 f2 f3 y0 y1 y2 y3 yf x3d f3d
          go_wp2
          go_roundw
          case rel => obtain ⟨hl', q1, q2, q3, q4, q5⟩ := HC.out; obtain ⟨v1, v2, -⟩ := HJM.out; exact ⟨m - 1, zs', j', ta', tc', rfl, by omega, by omega, q1, by rw [hl']; exact q2, q3, q4, q5⟩
          case measure => simp [intOf]; omega
      · obtain rfl : m = 0 := by omega
        have HV := Lib.hid (And.intro hm1 (And.intro hm4 (And.intro hj1 (And.intro hj2 hz))))
        have HR3 := Lib.hid hrow
        have hD4 := Lib.hid hD3
        clear hD3 hrow hm1 hm4 hj1 hj2 hz
        have x0 := hD4.out.x.c0
        have x1 := hD4.out.x.c1
        have x2 := hD4.out.x.c2
        have x3 := hD4.out.x.c3
        have f0 := hD4.out.xf 0
        have f1 := hD4.out.xf 1
        have f2 := hD4.out.xf 2
        have f3 := hD4.out.xf 3
        have y0 := hD4.out.r.c0
        have y1 := hD4.out.r.c1
        have y2 := hD4.out.r.c2
        have y3 := hD4.out.r.c3
        have yf := hD4.out.rf
        go_wp2
        (try simp only [Exit.inBlock, Exit.then])
        obtain ⟨d1, d2, d3⟩ := hD4.out.done _ _ _ _
        refine bodyPost_ret (res_cell1' rfl _ _ _ rfl d1) rfl ?_
        obtain ⟨v1, v2, v3, v4, v5⟩ := HV.out
        exact ⟨⟨3, 0, 0, zs⟩, _, _, j3, drawn_valid v1 v2 v5, rfl, ⟨rfl, drawn_row HR3.out hD4.out _ _ _ _⟩, by omega, by omega, d2, d3⟩
  · clear hX hR
    go_wp2_with fail
    rw [HX.out, HRR.out]
    refine (pick_any w0 B a len cap HBY.out j (by have := HJ.out; omega) 12 (by omega) (by omega) _ HD.out.src).mono ?_
    rintro e w2 ⟨r2, j2, p0, p1, rfl, p2, p3, hs2, hg2⟩
    have hD2 := Lib.hid (HD.out.picked hs2 hg2)
    obtain ⟨n, hn⟩ : ∃ n : Int, 1 + r2 = n := ⟨_, rfl⟩
    have ew2 : IntKind.i64.wrap (1 + r2) = n := by rw [hn]; exact IntWalk.i64_in _ (by omega)
    have HN0 : Hid (1 ≤ n ∧ n ≤ 12 ∧ i ≤ j2 ∧ j2 ≤ i + 4) := by have := HJ.out; exact ⟨by omega, by omega, by omega, by omega⟩
    clear hs2 hg2 p0 p1 p2 p3 hn
    clear x0 x1 x2 x3 f0 f1 f2 f3 y0 y1 y2 y3 yf
    have x0 := hD2.out.x.c0
    have x1 := hD2.out.x.c1
    have x2 := hD2.out.x.c2
    have x3 := hD2.out.x.c3
    have f0 := hD2.out.xf 0
    have f1 := hD2.out.xf 1
    have f2 := hD2.out.xf 2
    have f3 := hD2.out.xf 3
    have y0 := hD2.out.r.c0
    have y1 := hD2.out.r.c1
    have y2 := hD2.out.r.c2
    have y3 := hD2.out.r.c3
    have yf := hD2.out.rf
    go_wp2_with fail
    have hD3 := Lib.hid (hD2.out.set1 (.int .i64 n))
    by_cases h1 : n ≤ 1
    · refine (pick_one _ B n h1).mono ?_
      rintro e w3 ⟨rfl, rfl⟩
      have HN : Hid (n = 1 ∧ i ≤ j2 ∧ j2 ≤ i + 12) := by have := HN0.out; exact ⟨by omega, by omega, by omega⟩
      clear h1
      go_wp2
      (try simp only [Exit.inBlock, Exit.then])
      obtain ⟨d1, d2, d3⟩ := (hD3.out.set2 (.int .i64 0)).done _ _ _ _
      refine bodyPost_ret (res_cell1' rfl _ _ _ rfl d1) rfl ?_
      have hv := HN.out
      exact ⟨⟨4, n, 0, []⟩, _, _, j2, by simp [validSt, inZ]; omega, rfl, ⟨rfl, rfl, .inl ⟨rfl, rfl⟩⟩, by omega, by omega, d2, d3⟩
    · refine (pick_any w0 B a len cap HBY.out j2 (by have := HN0.out; omega) n (by omega) (by have := HN0.out; omega) _ hD3.out.src).mono ?_
      rintro e w3 ⟨r3, j3, p0, p1, rfl, p2, p3, hs3, hg3⟩
      have hD4 := Lib.hid (hD3.out.picked hs3 hg3)
      have HN : Hid (1 ≤ n ∧ n ≤ 12 ∧ 0 ≤ r3 ∧ r3 ≤ n - 1 ∧ i ≤ j3 ∧ j3 ≤ i + 12) := by have := HN0.out; exact ⟨by omega, by omega, by omega, by omega, by omega, by omega⟩
      clear hs3 hg3 p0 p1 p2 p3 h1
      clear x0 x1 x2 x3 f0 f1 f2 f3 y0 y1 y2 y3 yf
      have x0 := hD4.out.x.c0
      have x1 := hD4.out.x.c1
      have x2 := hD4.out.x.c2
      have x3 := hD4.out.x.c3
      have f0 := hD4.out.xf 0
      have f1 := hD4.out.xf 1
      have f2 := hD4.out.xf 2
      have f3 := hD4.out.xf 3
      have y0 := hD4.out.r.c0
      have y1 := hD4.out.r.c1
      have y2 := hD4.out.r.c2
      have y3 := hD4.out.r.c3
      have yf := hD4.out.rf
      go_wp2
      (try simp only [Exit.inBlock, Exit.then])
      obtain ⟨d1, d2, d3⟩ := (hD4.out.set2 (.int .i64 r3)).done _ _ _ _
      refine bodyPost_ret (res_cell1' rfl _ _ _ rfl d1) rfl ?_
      have hv := HN.out
      exact ⟨⟨4, n, r3, []⟩, _, _, j3, by simp [validSt, inZ]; omega, rfl, ⟨rfl, rfl, .inl ⟨rfl, rfl⟩⟩, by omega, by omega, d2, d3⟩
  · rcases hk with rfl | rfl
    all_goals
      clear hX hR
      go_wp2_with fail
      rw [HX.out, HRR.out]
      refine (pick_any w0 B a len cap HBY.out j (by have := HJ.out; omega) 3 (by omega) (by omega) _ HD.out.src).mono ?_
      rintro e w2 ⟨r2, j2, p0, p1, rfl, p2, p3, hs2, hg2⟩
      have hD2 := Lib.hid (HD.out.picked hs2 hg2)
      obtain ⟨n, hn⟩ : ∃ n : Int, 1 + r2 = n := ⟨_, rfl⟩
      have ew2 : IntKind.i64.wrap (1 + r2) = n := by rw [hn]; exact IntWalk.i64_in _ (by omega)
      have HN : Hid (1 ≤ n ∧ n ≤ 16 ∧ i ≤ j2 ∧ j2 ≤ i + 12) := by have := HJ.out; exact ⟨by omega, by omega, by omega, by omega⟩
      clear hs2 hg2 p0 p1 p2 p3 hn
      clear x0 x1 x2 x3 f0 f1 f2 f3 y0 y1 y2 y3 yf
      have x0 := hD2.out.x.c0
      have x1 := hD2.out.x.c1
      have x2 := hD2.out.x.c2
      have x3 := hD2.out.x.c3
      have f0 := hD2.out.xf 0
      have f1 := hD2.out.xf 1
      have f2 := hD2.out.xf 2
      have f3 := hD2.out.xf 3
      have y0 := hD2.out.r.c0
      have y1 := hD2.out.r.c1
      have y2 := hD2.out.r.c2
      have y3 := hD2.out.r.c3
      have yf := hD2.out.rf
      go_wp2
      (try simp only [Exit.inBlock, Exit.then])
      obtain ⟨d1, d2, d3⟩ := (hD2.out.set1 (.int .i64 n)).done _ _ _ _
      refine bodyPost_ret (res_cell1' rfl _ _ _ rfl d1) rfl ?_
      have hv := HN.out
      exact ⟨⟨_, n, 0, []⟩, _, _, j2, by simp [validSt, inZ]; omega, rfl, ⟨rfl, rfl, .inl ⟨rfl, rfl⟩⟩, by omega, by omega, d2, d3⟩
  · rcases hk with rfl | rfl | rfl | rfl
    all_goals
      clear hX hR
      go_wp2_with fail
      rw [HX.out, HRR.out]
      refine (pick_any w0 B a len cap HBY.out j (by have := HJ.out; omega) 5 (by omega) (by omega) _ HD.out.src).mono ?_
      rintro e w2 ⟨r2, j2, p0, p1, rfl, p2, p3, hs2, hg2⟩
      have hD2 := Lib.hid (HD.out.picked hs2 hg2)
      obtain ⟨n, hn⟩ : ∃ n : Int, 1 + r2 = n := ⟨_, rfl⟩
      have ew2 : IntKind.i64.wrap (1 + r2) = n := by rw [hn]; exact IntWalk.i64_in _ (by omega)
      have HN : Hid (1 ≤ n ∧ n ≤ 16 ∧ i ≤ j2 ∧ j2 ≤ i + 12) := by have := HJ.out; exact ⟨by omega, by omega, by omega, by omega⟩
      clear hs2 hg2 p0 p1 p2 p3 hn
      clear x0 x1 x2 x3 f0 f1 f2 f3 y0 y1 y2 y3 yf
      have x0 := hD2.out.x.c0
      have x1 := hD2.out.x.c1
      have x2 := hD2.out.x.c2
      have x3 := hD2.out.x.c3
      have f0 := hD2.out.xf 0
      have f1 := hD2.out.xf 1
      have f2 := hD2.out.xf 2
      have f3 := hD2.out.xf 3
      have y0 := hD2.out.r.c0
      have y1 := hD2.out.r.c1
      have y2 := hD2.out.r.c2
      have y3 := hD2.out.r.c3
      have yf := hD2.out.rf
      go_wp2
      (try simp only [Exit.inBlock, Exit.then])
      obtain ⟨d1, d2, d3⟩ := (hD2.out.set1 (.int .i64 n)).done _ _ _ _
      refine bodyPost_ret (res_cell1' rfl _ _ _ rfl d1) rfl ?_
      have hv := HN.out
      exact ⟨⟨_, n, 0, []⟩, _, _, j2, by simp [validSt, inZ]; omega, rfl, ⟨rfl, rfl, .inl ⟨rfl, rfl⟩⟩, by omega, by omega, d2, d3⟩
  · rcases hk with rfl | rfl | rfl
    all_goals
      subst hX
      subst hR
      go_wp2
      (try simp only [Exit.inBlock, Exit.then])
      obtain ⟨d1, d2, d3⟩ := HD.out.done _ _ _ _
      refine bodyPost_ret (res_cell1' rfl _ _ _ rfl d1) rfl ?_
      have hv := HJ.out
      exact ⟨⟨_, 0, 0, []⟩, _, _, j, by simp [validSt], rfl, ⟨rfl, rfl, .inl ⟨rfl, rfl⟩⟩, by omega, by omega, d2, d3⟩

end Go.Proofs.YtdefhmpmgcahpaaDoor
