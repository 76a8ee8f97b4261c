import Derived.Test.YtpphmolfhogepaaDoorDdp
import Derived.Test.YtpphmolfhogepaaDoorSt4
import Derived.Defers
import Derived.Recover
import Derived.Laws.Pointers
/-
  A text is scanned: a panic on the way is an error.
-/
set_option linter.unusedVariables false
set_option linter.unusedSimpArgs false
namespace Go.Proofs.YtpphmolfhogepaaDoor
open Go.RowKit

theorem sc_mono {w : World} {v : Value} {c : Nat} (h : w.cell? ⟨c, 0, none⟩ = some v) : c < w.heap.size := World.block_lt_of_cell? _ _ h

set_option maxRecDepth 100000 in
set_option maxHeartbeats 4000000 in
theorem catch_idle (V C : Nat) (w : World) :
    CallsD Tryd.prog 25 #[.pointer (some ⟨V, 0, none⟩), .pointer (some ⟨C, 0, none⟩)] .returning w fun e u' w' => e = .returned (.tuple #[]) ∧ u' = .returning ∧ w' = w := by
  refine callsD_of_wpS Tryd.func25 rfl fun c₀ cs hu => ?_
  apply wpS_seq
  apply wpS_region
  simp [wpOpsS, go_sem, recoverD, hu, Tryd.ntmps25, Exit.thenS]
  refine wpS_cond (t := false) (by simp [Act.eval, Array.replicate]) ?_
  simp only [Bool.false_eq_true, if_false]
  refine wpS_of_wp (wp_skip ?_)
  cases c₀
  simp_all [bodyPostS, results, Tryd.results25]

set_option maxRecDepth 100000 in
set_option maxHeartbeats 4000000 in
theorem catch_panicking (V C : Nat) (hVC : V < C) (u : TypeId) (pv : Value) (older : List PanicEntry) (w : World) (a0 a1 a2 a3 c0 : Value) (h0 : w.cell? ⟨V, 0, none⟩ = some a0) (h1 : w.cell? ⟨V, 1, none⟩ = some a1) (h2 : w.cell? ⟨V, 2, none⟩ = some a2) (h3 : w.cell? ⟨V, 3, none⟩ = some a3) (hc : w.cell? ⟨C, 0, none⟩ = some c0)
    (f : ∀ j, w.frozen? ⟨V, j, none⟩ = false) (fc : w.frozen? ⟨C, 0, none⟩ = false) :
    CallsD Tryd.prog 25 #[.pointer (some ⟨V, 0, none⟩), .pointer (some ⟨C, 0, none⟩)] (.panicking ({ v := .iface u pv, recovered := false } :: older)) w fun e u' w' =>
      e = .returned (.tuple #[]) ∧ u' = .panicking ({ v := .iface u pv, recovered := true } :: older) ∧ w'.cell? ⟨V, 0, none⟩ = some (.int .i64 0) ∧ w'.cell? ⟨V, 1, none⟩ = some (.int .i64 0) ∧ w'.cell? ⟨V, 2, none⟩ = some (.int .i64 0) ∧ w'.cell? ⟨V, 3, none⟩ = some (.int .i64 0) ∧ w'.cell? ⟨C, 0, none⟩ = some (.int .i64 5) ∧ Below V w w' := by
  have lV := World.block_lt_of_cell? _ _ h0
  have lC := World.block_lt_of_cell? _ _ hc
  refine callsD_of_wpS Tryd.func25 rfl fun c₀ cs hu => ?_
  apply wpS_seq
  apply wpS_region
  simp [wpOpsS, go_sem, recoverD, hu, Tryd.ntmps25, Exit.thenS]
  refine wpS_cond (t := true) (by simp [Act.eval, Array.replicate]) ?_
  simp only [if_true]
  have al : ∀ (x : Obj) (p : Addr) (z : Value), p.block < w.heap.size → w.cell? p = some z → (w.alloc x).cell? p = some z := fun x p z hp hz => (World.cell?_alloc_old _ _ _ (Nat.ne_of_lt hp)).trans hz
  have b0 := fun x => al x ⟨V, 0, none⟩ _ lV h0
  have b1 := fun x => al x ⟨V, 1, none⟩ _ lV h1
  have b2 := fun x => al x ⟨V, 2, none⟩ _ lV h2
  have b3 := fun x => al x ⟨V, 3, none⟩ _ lV h3
  have bc := fun x => al x ⟨C, 0, none⟩ _ lC hc
  clear al
  have f0 := f 0
  have f1 := f 1
  have f2 := f 2
  have f3 := f 3
  have hV : V ≠ w.heap.size := Nat.ne_of_lt lV
  have hC : C ≠ w.heap.size := Nat.ne_of_lt lC
  refine wpS_of_wp ?_
  go_wp2
  have hne : V ≠ C := Nat.ne_of_lt hVC
  have hne' : C ≠ V := Ne.symm hne
  have KEY : Hid (∀ w' : World, w' = (((((w.setCell ⟨V, 0, none⟩ (.int .i64 0)).setCell ⟨V, 1, none⟩ (.int .i64 0)).setCell ⟨V, 2, none⟩ (.int .i64 0)).setCell ⟨V, 3, none⟩ (.int .i64 0)).setCell ⟨C, 0, none⟩ (.int .i64 5)).alloc (.cells #[.int .i64 0, .int .i64 0, .int .i64 0, .int .i64 0] 25) → w'.cell? ⟨V, 0, none⟩ = some (.int .i64 0) ∧ w'.cell? ⟨V, 1, none⟩ = some (.int .i64 0) ∧ w'.cell? ⟨V, 2, none⟩ = some (.int .i64 0) ∧ w'.cell? ⟨V, 3, none⟩ = some (.int .i64 0) ∧ w'.cell? ⟨C, 0, none⟩ = some (.int .i64 5) ∧ Below V w w') := fun w' e => by
    subst e
    refine ⟨by go_simp, by go_simp, by go_simp, by go_simp, by go_simp, ?_⟩
    refine ((((((Below.refl V w).setCell ?_ _).setCell ?_ _).setCell ?_ _).setCell ?_ _).setCell ?_ _).alloc ?_ _ <;> first | exact Nat.le_refl _ | exact Nat.le_of_lt hVC | (simp; omega)
  simp [bodyPostS, results, Tryd.results25]
  exact KEY.out _ rfl

set_option maxRecDepth 100000 in
set_option maxHeartbeats 8000000 in
theorem scanned_any (t : List UInt8) (ht : t.length ≤ 1048576) (w : World) (hG : Glo w) :
    Calls Tryd.prog 22 #[.string (strOf t), .func (.func 23) #[] #[]] w fun e w' => ∃ r, ReadsDd t r ∧ e = .returned (.tuple #[rV r, .int .i64 (rC r)]) ∧ Below w.heap.size w w' := by
  have hmf : ∀ (fn : Fn) (first cap : Array Value) (w : World), (Instr.makeFunc fn first cap).run Tryd.prog w = .ok (.func fn first cap) w := fun _ _ _ _ => rfl
  obtain ⟨W, hW⟩ : ∃ W, W = (w.alloc (.cells #[.int .i64 0, .int .i64 0, .int .i64 0, .int .i64 0] 25)).alloc (.cells #[.int .i64 0] 2) := ⟨_, rfl⟩
  have hB : Below w.heap.size w W := by rw [hW]; exact ((Below.refl _ _).alloc (Nat.le_refl _) _).alloc (by simp) _
  have SP := Lib.hid (split_any t (by omega) W (hG.below hB).env)
  have HG := Lib.hid hG
  have HW := Lib.hid hW.symm
  have HB := Lib.hid hB
  clear hW hB hG
  go_enter_defers Tryd.func22, Tryd.ntmps22
  go_wp2_with fail
  rw [HW.out]
  refine SP.out.mono ?_
  rintro e w1 ⟨rfl, hw1⟩
  obtain ⟨ws, hws⟩ : ∃ ws, splitL 32 t = ws := ⟨_, rfl⟩
  have hlen : ws.length ≤ 1048577 := by rw [← hws]; exact Nat.le_trans (split_len 32 t) (by omega)
  have hn1 : 1 ≤ ws.length := by
    rw [← hws]
    exact List.length_pos_iff.2 (splitL_ne 32 t)
  have hpl : ∀ p ∈ ws, p.length ≤ 2000000 := fun p hp => by
    rw [← hws] at hp
    have := split_len_mem 32 hp
    omega
  have HR1 := Lib.hid (fun (d : Dd) (hd : validDd d = true) (e : ws = ddWords d) => reads_all (t := t) hd (hws.trans e))
  have HR2 := Lib.hid (fun (h : ∀ d, validDd d = true → ws ≠ ddWords d) => reads_no (t := t) (by rw [hws]; exact h))
  have HR3 := Lib.hid (fun (d : Dd) (k : Nat) (hd : validDd d = true) (hk : k = 1 + ddCnt d.kind.toNat) (hl : k < ws.length) (h : ws.take k = ddWords d) => reads_more (t := t) hd hk (by rw [hws]; exact hl) (by rw [hws]; exact h))
  rw [hws] at hw1 ⊢
  have hWs : W.heap.size = w.heap.size + 1 + 1 := by rw [← HW.out]; simp
  obtain ⟨b, hb⟩ : ∃ b, W.heap.size = b := ⟨_, rfl⟩
  have hw1s : w1.heap.size = b + 1 := by rw [hw1, ← hb]; simp
  have hB1 : Below W.heap.size W w1 := by rw [hw1]; exact (Below.refl _ _).alloc (Nat.le_refl _) _
  have hword : ∀ j, j < ws.length → w1.cell? ⟨b, j, none⟩ = some (.string (strOf (ws.getD j []))) := fun j hj => by
    rw [hw1, ← hb, World.cell?_alloc_new]
    simp [strs, hj]
  obtain ⟨W0, hW0⟩ : ∃ W0, W0 = w1.alloc (.cells #[.slice (some ⟨b, 0, none⟩) ws.length ws.length] 54) := ⟨_, rfl⟩
  have hB2 : Below w1.heap.size w1 W0 := by rw [hW0]; exact (Below.refl _ _).alloc (Nat.le_refl _) _
  have hBW : Below W.heap.size W W0 := below_step' hB1 hB2 hB1.size
  have hW0s : W0.heap.size = b + 1 + 1 := by rw [hW0, ← hw1s]; simp
  have hS : Scan W0 (b + 1) b ws 0 W0 := by
    refine ⟨KeptBut.refl _ _ _, by omega, by omega, by omega, by omega, Nat.zero_le _, fun j hj => ?_, ⟨some ⟨b, 0, none⟩, ?_, fun _ => rfl⟩, ?_, (HG.out.below HB.out).below hBW, ⟨w, HG.out, by omega⟩⟩
    · rw [hB2.cell (show (⟨b, j, none⟩ : Addr).block < w1.heap.size by show b < _; omega)]; exact hword j hj
    · rw [hW0, ← hw1s]; go_simp
    · rw [hW0, ← hw1s]; go_simp
  have DA := Lib.hid (deed_any hS hn1 hpl)
  have v0 : W.cell? ⟨w.heap.size, 0, none⟩ = some (.int .i64 0) := by rw [← HW.out]; go_simp
  have v1 : W.cell? ⟨w.heap.size, 1, none⟩ = some (.int .i64 0) := by rw [← HW.out]; go_simp
  have v2 : W.cell? ⟨w.heap.size, 2, none⟩ = some (.int .i64 0) := by rw [← HW.out]; go_simp
  have v3 : W.cell? ⟨w.heap.size, 3, none⟩ = some (.int .i64 0) := by rw [← HW.out]; go_simp
  have vc : W.cell? ⟨w.heap.size + 1, 0, none⟩ = some (.int .i64 0) := by rw [← HW.out]; go_simp
  have vf : ∀ j, W.frozen? ⟨w.heap.size, j, none⟩ = false := fun j => by rw [← HW.out]; go_simp
  have vg : W.frozen? ⟨w.heap.size + 1, 0, none⟩ = false := by rw [← HW.out]; go_simp
  have HC : Hid (∀ w', KeptBut W0.heap.size (b + 1) W0 w' → (w'.cell? ⟨w.heap.size, 0, none⟩ = some (.int .i64 0) ∧ w'.cell? ⟨w.heap.size, 1, none⟩ = some (.int .i64 0) ∧ w'.cell? ⟨w.heap.size, 2, none⟩ = some (.int .i64 0) ∧ w'.cell? ⟨w.heap.size, 3, none⟩ = some (.int .i64 0) ∧ w'.cell? ⟨w.heap.size + 1, 0, none⟩ = some (.int .i64 0)) ∧ (∀ j, w'.frozen? ⟨w.heap.size, j, none⟩ = false) ∧ w'.frozen? ⟨w.heap.size + 1, 0, none⟩ = false ∧ Below w.heap.size w w') := fun w' hk => by
    have l1 : w.heap.size < W.heap.size := by omega
    have l2 : w.heap.size + 1 < W.heap.size := by omega
    have c : ∀ p o, p < W.heap.size → w'.cell? ⟨p, o, none⟩ = W.cell? ⟨p, o, none⟩ := fun p o hp => by
      rw [hk.cell (by omega) (by omega), hBW.cell (show (⟨p, o, none⟩ : Addr).block < _ from hp)]
    have f : ∀ p o, p < W.heap.size → w'.frozen? ⟨p, o, none⟩ = W.frozen? ⟨p, o, none⟩ := fun p o hp => by
      rw [hk.frozen (by omega) (by omega), hBW.frozen (show (⟨p, o, none⟩ : Addr).block < _ from hp)]
    refine ⟨⟨(c _ _ l1).trans v0, (c _ _ l1).trans v1, (c _ _ l1).trans v2, (c _ _ l1).trans v3, (c _ _ l2).trans vc⟩, fun j => (f _ _ l1).trans (vf j), (f _ _ l2).trans vg, ?_⟩
    exact (below_step' HB.out hBW HB.out.size).trans ((hk.low (by omega)).mono (by omega))
  have HWS : Hid (w1.heap.size = b + 1) := hw1s
  have HW0 := Lib.hid hW0.symm
  have HN1 := Lib.hid hn1
  have hlen2 : (ws.length : Int) ≤ 9223372036854775807 := by omega
  clear hws hpl hw1 hWs hB1 hword hW0 hB2 hBW hW0s hS v0 v1 v2 v3 vc vf vg hn1 hlen
  rw [hb]
  go_wp2_with fail
  rw [HW0.out]
  refine DA.out.mono ?_
  rintro e w5 hD
  rcases hD with ⟨d, k, rfl, hv, hk, hkl, htk, hS⟩ | ⟨⟨u, pv, rfl⟩, ⟨k, hS⟩, hno⟩
  · obtain ⟨⟨x0, x1, x2, x3, xc⟩, xf, xg, hB5⟩ := HC.out _ hS.kept
    obtain ⟨a, hg, -⟩ := hS.cell
    have hgl := hS.hg
    have hsz := hS.kept.size
    have hb1 : w.heap.size + 1 < b + 1 := by
      have := HN1.out
      have h2 : w.heap.size < W.heap.size := Nat.lt_of_lt_of_le (Nat.lt_succ_self _) (by rw [← HW.out]; simp)
      have : W.heap.size = w.heap.size + 1 + 1 := by rw [← HW.out]; simp
      omega
    obtain ⟨kd, z0, z1, z2⟩ := d
    unfold ddV
    simp only
    have HX : Hid (k = ws.length → ReadsDd t (some ⟨kd, z0, z1, z2⟩)) := fun e => HR1.out _ hv (by rw [← htk, e, List.take_length])
    have HY : Hid (k < ws.length → ReadsDd t none) := fun e => HR3.out _ k hv hk e htk
    have f0 := xf 0
    have f1 := xf 1
    have f2 := xf 2
    have f3 := xf 3
    have EF := Lib.hid expect_f
    have ET := Lib.hid expect_t
    have HB5 := Lib.hid hB5
    have HKL : Hid (k ≤ ws.length) := hkl
    obtain ⟨L, hL⟩ : ∃ L, ws.length - k = L := ⟨_, rfl⟩
    rw [hL] at hg
    have HL := Lib.hid hL
    clear hv hk hkl htk hS hsz hgl hL
    by_cases hL0 : L = 0
    · subst hL0
      go_wp2_with (go_at_call 27; refine (ET.out _).mono ?_; rintro e w3 ⟨rfl, hw3⟩)
      have hne : w.heap.size + 1 ≠ w.heap.size := by omega
      have hz : Has4 w5 w.heap.size (.int .i64 0) (.int .i64 0) (.int .i64 0) (.int .i64 0) := ⟨x0, x1, x2, x3⟩
      have KEY : Hid (∀ Wf : World, Wf = (st4 (st4 w5 w.heap.size (.int .i64 kd) (.int .i64 z0) (.int .i64 z1) (.int .i64 z2)) w.heap.size (.int .i64 kd) (.int .i64 z0) (.int .i64 z1) (.int .i64 z2)).setCell ⟨w.heap.size + 1, 0, none⟩ (.int .i64 0) → Has4 Wf w.heap.size (.int .i64 kd) (.int .i64 z0) (.int .i64 z1) (.int .i64 z2) ∧ Wf.cell? ⟨w.heap.size + 1, 0, none⟩ = some (.int .i64 0) ∧ Below w.heap.size w Wf) := fun Wf e => by
        subst e
        have h2 := (hz.set (.int .i64 kd) (.int .i64 z0) (.int .i64 z1) (.int .i64 z2)).set (.int .i64 kd) (.int .i64 z0) (.int .i64 z1) (.int .i64 z2)
        refine ⟨⟨?_, ?_, ?_, ?_⟩, ?_, (st4_below (st4_below HB5.out _ _ _ _) _ _ _ _).setCell (Nat.le_succ _) _⟩
        · rw [World.cell?_setCell_far _ _ _ _ hne]; exact h2.c0
        · rw [World.cell?_setCell_far _ _ _ _ hne]; exact h2.c1
        · rw [World.cell?_setCell_far _ _ _ _ hne]; exact h2.c2
        · rw [World.cell?_setCell_far _ _ _ _ hne]; exact h2.c3
        · exact World.cell?_setCell_same _ _ _ (u := .int .i64 0) (by rw [st4_other _ (Ne.symm hne), st4_other _ (Ne.symm hne)]; exact xc)
      generalize hWf : (((((((((w5.setCell ⟨w.heap.size, 0, none⟩ (.int .i64 kd)).setCell ⟨w.heap.size, 1, none⟩ (.int .i64 z0)).setCell ⟨w.heap.size, 2, none⟩ (.int .i64 z1)).setCell ⟨w.heap.size, 3, none⟩ (.int .i64 z2)).setCell ⟨w.heap.size, 0, none⟩ (.int .i64 kd)).setCell ⟨w.heap.size, 1, none⟩ (.int .i64 z0)).setCell ⟨w.heap.size, 2, none⟩ (.int .i64 z1)).setCell ⟨w.heap.size, 3, none⟩ (.int .i64 z2)).setCell ⟨w.heap.size + 1, 0, none⟩ (.int .i64 0)) = Wf
      obtain ⟨⟨y0, y1, y2, y3⟩, yc, hBB⟩ := KEY.out Wf (by rw [← hWf]; unfold st4; with_reducible rfl)
      clear hWf
      refine leaves_cons (f := 25) (args := #[.pointer (some ⟨w.heap.size, 0, none⟩), .pointer (some ⟨w.heap.size + 1, 0, none⟩)]) (by simp) (by simp [go_sem]) ?_
      refine (catch_idle w.heap.size (w.heap.size + 1) _).mono ?_
      rintro e u' w'' ⟨rfl, rfl, rfl⟩
      have hr := HX.out (by have := HL.out; have := HKL.out; omega)
      simp [Leaves, settle, results, Tryd.results22, go_sem, y0, y1, y2, y3, yc]
      exact ⟨some ⟨kd, z0, z1, z2⟩, hr, ⟨rfl, rfl⟩, hBB⟩
    · have g1 : ((L : Int) == 0) = false := by simp; omega
      have g2 : (L == 0) = false := by simp; omega
      go_wp2_with (go_at_call 27; refine (EF.out _).mono ?_; rintro e w3 ⟨⟨u, pv, rfl⟩, hw3⟩)
      have hz : Has4 w5 w.heap.size (.int .i64 0) (.int .i64 0) (.int .i64 0) (.int .i64 0) := ⟨x0, x1, x2, x3⟩
      have hne : w.heap.size ≠ w.heap.size + 1 := by omega
      have KEY : Hid (∀ Wf : World, Wf = st4 w5 w.heap.size (.int .i64 kd) (.int .i64 z0) (.int .i64 z1) (.int .i64 z2) → Has4 Wf w.heap.size (.int .i64 kd) (.int .i64 z0) (.int .i64 z1) (.int .i64 z2) ∧ Wf.cell? ⟨w.heap.size + 1, 0, none⟩ = some (.int .i64 0) ∧ (∀ p, Wf.frozen? p = w5.frozen? p) ∧ Below w.heap.size w Wf) := fun Wf e => by
        subst e
        exact ⟨hz.set (.int .i64 kd) (.int .i64 z0) (.int .i64 z1) (.int .i64 z2), by rw [st4_other _ hne]; exact xc, fun p => st4_frozen _ _ _ _ _ _ _, st4_below HB5.out _ _ _ _⟩
      generalize hWf : (((w5.setCell ⟨w.heap.size, 0, none⟩ (.int .i64 kd)).setCell ⟨w.heap.size, 1, none⟩ (.int .i64 z0)).setCell ⟨w.heap.size, 2, none⟩ (.int .i64 z1)).setCell ⟨w.heap.size, 3, none⟩ (.int .i64 z2) = Wf
      obtain ⟨⟨y0, y1, y2, y3⟩, yc, yf, hBB⟩ := KEY.out Wf (by rw [← hWf]; unfold st4; with_reducible rfl)
      clear hWf
      refine leaves_cons (f := 25) (args := #[.pointer (some ⟨w.heap.size, 0, none⟩), .pointer (some ⟨w.heap.size + 1, 0, none⟩)]) (by simp) (by simp [go_sem]) ?_
      refine (catch_panicking w.heap.size (w.heap.size + 1) (by omega) u pv [] Wf _ _ _ _ _ y0 y1 y2 y3 yc (fun j => by rw [yf]; exact xf j) (by rw [yf]; exact xg)).mono ?_
      rintro e u' w'' ⟨rfl, rfl, q0, q1, q2, q3, qc, hb6⟩
      have hr := HY.out (by have := HL.out; have := HKL.out; omega)
      have hBZ : Below w.heap.size w w'' := hBB.trans hb6
      simp [Leaves, settle, results, Tryd.results22, go_sem, q0, q1, q2, q3, qc]
      exact ⟨none, hr, ⟨rfl, rfl⟩, hBZ⟩
  · obtain ⟨⟨x0, x1, x2, x3, xc⟩, xf, xg, hB5⟩ := HC.out _ hS.kept
    have hb5 : w.heap.size + 1 < w5.heap.size := World.block_lt_of_cell? _ _ xc
    refine leaves_cons (f := 25) (args := #[.pointer (some ⟨w.heap.size, 0, none⟩), .pointer (some ⟨w.heap.size + 1, 0, none⟩)]) (by simp) (by simp [go_sem]) ?_
    refine (catch_panicking w.heap.size (w.heap.size + 1) (by omega) u pv [] w5 _ _ _ _ _ x0 x1 x2 x3 xc xf xg).mono ?_
    rintro e u' w'' ⟨rfl, rfl, y0, y1, y2, y3, yc, hb6⟩
    have hBB : Below w.heap.size w w'' := hB5.trans hb6
    have hno' := HR2.out hno
    simp [Leaves, settle, results, Tryd.results22, go_sem, y0, y1, y2, y3, yc]
    exact ⟨none, hno', ⟨rfl, rfl⟩, hBB⟩

end Go.Proofs.YtpphmolfhogepaaDoor
