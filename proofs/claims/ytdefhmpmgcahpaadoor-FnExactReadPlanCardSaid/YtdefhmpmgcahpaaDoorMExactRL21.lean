/-
  Several texts of this claim, one behind the other; each says what it holds.
-/
import Derived.Test.YtdefhmpmgcahpaaDoorMExactRL8
import Derived.Test.YtdefhmpmgcahpaaDoorRsoZ
import Derived.Test.YtdefhmpmgcahpaaDoorMExactRL3
import Derived.Test.YtdefhmpmgcahpaaDoorMExactRL19
import Derived.Test.YtdefhmpmgcahpaaDoorMExactRL4
/-
  ReadPlan of the model.
-/
set_option linter.unusedVariables false
set_option linter.unusedSimpArgs false
namespace Go.Proofs.YtdefhmpmgcahpaaDoor
open Go.RowKit

/-- What the model's loop keeps: the steps that have been read. -/
def RpM (ws : List (List UInt8)) (W0 : World) (k : Nat) (W : World) : Prop :=
  ∃ ss tv a cap, W.cell? ⟨W0.heap.size, 0, none⟩ = some (.slice a k cap) ∧ W.frozen? ⟨W0.heap.size, 0, none⟩ = false ∧ StepsO W (W0.heap.size + 1) (.slice a k cap) k k ss tv ∧ ss.length = k ∧ (∀ j, j < k → ReadsSt (ws.getD j []) (some (ss.getD j default))) ∧ Below W0.heap.size W0 W ∧ W0.heap.size + 1 ≤ W.heap.size

theorem load_planC {w : World} {b : Nat} {v : Value} (h : w.cell? ⟨b, 0, none⟩ = some v) : (loadVar 26 ⟨b, 0, none⟩).run Tryd.prog w = .ok (.agg #[v]) w := by
  refine run_loadVar_mid _ _ _ _ [v] _ ?_ Tryd.underlying26 rfl infoPlan
  intro j u hu
  rcases j with _ | j <;> simp at hu <;> subst hu
  exact h

set_option maxRecDepth 100000 in
set_option maxHeartbeats 8000000 in
theorem readPlan_spec (t : List UInt8) (ht : t.length ≤ 1048576) (w : World) :
    Calls Tryd.prog 21 #[.string (strOf t)] w (ReadPlTo t w) := by
  by_cases hlong : 4000 < t.length
  · have hs : (strOf t).size = t.length := rfl
    have g1 : decide ((4000 : Int) < (t.length : Int)) = true := decide_eq_true (by omega)
    have g2 : decide (4000 < t.length) = true := decide_eq_true hlong
    have HRD : Hid (ReadsP t [] 2) := .inl ⟨hlong, rfl, rfl⟩
    generalize strOf t = T at hs ⊢
    obtain ⟨TL, hTL⟩ : ∃ TL, t.length = TL := ⟨_, rfl⟩
    rw [hTL] at hs g1 g2
    have HB : Hid (Below w.heap.size w (w.alloc (.cells #[.slice none 0 0] 26))) := (Below.refl _ _).alloc (Nat.le_refl _) _
    clear hTL hlong ht
    go_enter Tryd.func21, Tryd.ntmps21
    go_wp2
    (try simp only [Exit.inBlock, Exit.then])
    refine bodyPost_ret (res_cell_tmpS rfl _ _ _ rfl (load_planC (v := .slice none 0 0) (by go_simp))) rfl ?_
    exact ⟨[], 2, .slice none 0 0, fun _ => undef, HRD.out, rfl, ⟨⟨[], ⟨rfl, .inl ⟨rfl, rfl⟩⟩, fun j hj => by simp at hj⟩, fun j hj => by simp at hj, fun i j _ hj => by simp at hj⟩, HB.out⟩
  have hs : (strOf t).size = t.length := rfl
  have g1 : decide ((4000 : Int) < (t.length : Int)) = false := decide_eq_false (by omega)
  have g2 : decide (4000 < t.length) = false := decide_eq_false hlong
  have HSP := Lib.hid (fun W => splitN_any t ht W)
  have HRS := Lib.hid (fun (p : List UInt8) (hp : p.length ≤ 1048576) (W : World) => readStep_spec p hp W)
  have HWL := Lib.hid (show (splitL 10 t).length ≤ 4001 by have := split_len 10 t; omega)
  have HW1 := Lib.hid (List.length_pos_iff.2 (splitL_ne 10 t))
  have HBAD := Lib.hid (fun j => @pl_bad t (by omega) j)
  have HALL := Lib.hid (fun ss => @pl_model t (by omega) ss)
  have HCG := Lib.hid (cnt_ge (splitL 10 t))
  have HPL : Hid (∀ k, k < (splitL 10 t).length → ((splitL 10 t).getD k []).length ≤ 1048576) := fun k hk => by
    have := split_len_mem 10 (getD_mem (ws := splitL 10 t) (k := k) hk)
    omega
  obtain ⟨T, hT⟩ : ∃ T, strOf t = T := ⟨_, rfl⟩
  obtain ⟨TL, hTL⟩ : ∃ TL, t.length = TL := ⟨_, rfl⟩
  obtain ⟨ws, hws⟩ : ∃ ws, splitL 10 t = ws := ⟨_, rfl⟩
  rw [hT, hTL] at hs
  rw [hTL] at g1 g2
  simp only [hws] at HSP HBAD HALL HPL HWL HW1 HCG
  rw [hT] at HSP ⊢
  have HT := Lib.hid hT
  clear ht hlong hT hTL hws
  have b0 : Below w.heap.size w (w.alloc (.cells #[.slice none 0 0] 26)) := (Below.refl _ _).alloc (Nat.le_refl _) _
  obtain ⟨N, hN⟩ : ∃ N, w.heap.size = N := ⟨_, rfl⟩
  go_enter Tryd.func21, Tryd.ntmps21
  go_wp2_with fail
  refine (HSP.out _).mono ?_
  rintro e w1 ⟨u, rfl, hrow, hb1⟩
  obtain ⟨ua, uc, rfl, hfind⟩ := strs_find hrow
  have hb1' : Below w.heap.size w w1 := below_step' b0 hb1 b0.size
  have hlt1 : N < w1.heap.size := by have := hb1.size; simp at this; omega
  have x0 : w1.cell? ⟨N, 0, none⟩ = some (.slice none 0 0) := by
    rw [hb1.cell (p := ⟨N, 0, none⟩) (by simp; omega), ← hN]
    go_simp
  have x1 : w1.frozen? ⟨N, 0, none⟩ = false := by
    rw [hb1.frozen (p := ⟨N, 0, none⟩) (by simp; omega), ← hN]
    go_simp
  obtain ⟨L, hL⟩ : ∃ L, ws.length = L := ⟨_, rfl⟩
  rw [hL] at hfind HWL HW1 HCG
  have HP : Hid (∀ W, Below w1.heap.size w1 W → W.cell? ⟨N, 0, none⟩ = some (.slice none 0 0) ∧ W.frozen? ⟨N, 0, none⟩ = false ∧ ∀ j, j < L → ∃ g, ua = some ⟨g, 0, none⟩ ∧ W.cell? ⟨g, j, none⟩ = some (.string (strOf (ws.getD j [])))) := fun W hb => by
    refine ⟨(hb.cell (by exact hlt1)).trans x0, (hb.frozen (by exact hlt1)).trans x1, fun j hj => ?_⟩
    obtain ⟨g, e, h1, h2⟩ := hfind j hj
    exact ⟨g, e, (hb.cell (by exact h1)).trans h2⟩
  have HLL := Lib.hid hL
  have HB1 := Lib.hid hb1'
  have HNN := Lib.hid hN
  have HM0 : Hid (RpM ws w1 0 (w1.alloc (.cells #[.slice none 0 0] 26))) := ⟨[], fun _ => undef, none, 0, by go_simp, by go_simp, ⟨⟨[], ⟨rfl, .inl ⟨rfl, rfl⟩⟩, fun j hj => by omega⟩, fun j hj => by omega, fun i j _ hj => by omega⟩, rfl, fun j hj => by omega, (Below.refl _ _).alloc (Nat.le_refl _) _, by simp⟩
  have hL1 : 1 ≤ L := HW1.out
  have hLm : L ≤ 4001 := HWL.out
  have hlm : (L : Int) ≤ 9223372036854775807 := by omega
  rw [hL]
  obtain ⟨i0, hi, hz0, hz1, hz2⟩ := info_parts' info_step
  clear hb1 hrow hfind hb1' hlt1 x0 x1 hL hN b0
  go_wp2_with fail
  go_loopw [6] (fun i wr => ∃ k : Nat, i = .int .i64 k ∧ k + 1 ≤ L ∧ RpM ws w1 k wr) (fun i _ => L - (intOf i).toNat)
  case atStart => exact ⟨0, rfl, hL1, HM0.out⟩
  case round =>
    obtain ⟨k, rfl, hk, ss, tv, a, cap, h1, h2, h3, h4, h5, h6, h7⟩ := hrel
    obtain ⟨p0, p1, hpc⟩ := HP.out wr h6
    have e1 : IntKind.i64.wrap ((k : Int) + 1) = ((k + 1 : Nat) : Int) := by rw [IntWalk.i64_in _ (by omega)]; omega
    by_cases hlt : k + 1 < L
    · have g1 : decide (((k + 1 : Nat) : Int) < (L : Int)) = true := decide_eq_true (by omega)
      have g2 : decide (k + 1 < L) = true := decide_eq_true hlt
      have g3 : decide ((k : Int) + 1 < (L : Int)) = true := decide_eq_true (by omega)
      obtain ⟨g, rfl, hc⟩ := hpc k (by omega)
      have RS := Lib.hid (HRS.out (ws.getD k []) (HPL.out k (by rw [HLL.out]; omega)) wr)
      have HRT : Hid (∀ W, Below wr.heap.size wr W →
          (W.cell? ⟨N, 0, none⟩ = some (.slice none 0 0) ∧ W.frozen? ⟨N, 0, none⟩ = false ∧ W.cell? ⟨w1.heap.size, 0, none⟩ = some (.slice a k cap) ∧ W.frozen? ⟨w1.heap.size, 0, none⟩ = false) ∧ Below w.heap.size w (W.setCell ⟨N, 0, none⟩ (.slice none 0 0))) := fun W hb => by
        obtain ⟨y0, y1, -⟩ := HP.out W (below_step' h6 hb h6.size)
        exact ⟨⟨y0, y1, (hb.cell (by exact h7)).trans h1, (hb.frozen (by exact h7)).trans h2⟩, (below_step' HB1.out (below_step' h6 hb h6.size) HB1.out.size).setCell (p := ⟨N, 0, none⟩) (by show w.heap.size ≤ N; rw [HNN.out]; exact Nat.le_refl _) _⟩
      have HPUSH : Hid (∀ (S : St) (u : Value) (WB : World), ReadsSt (ws.getD k []) (some S) → Row WB wr.heap.size 2 u (ints S.taps) → Below wr.heap.size wr WB →
          ∃ cs, WB.ownsRow (w1.heap.size + 1) 36 4 (.slice a k cap) k cs ∧ ∀ a' cap' w3, w3.ownsRow (w1.heap.size + 1) 36 4 (.slice a' (k + 1) cap') (k + 1) (cs ++ [.int .i64 S.kind, .int .i64 S.n, .int .i64 S.k, u]) → WB.grownBy w3 (Value.slice a k cap).ownBlock →
            (w3.cell? ⟨w1.heap.size, 0, none⟩ = some (.slice a k cap) ∧ w3.frozen? ⟨w1.heap.size, 0, none⟩ = false) ∧ RpM ws w1 (k + 1) (w3.setCell ⟨w1.heap.size, 0, none⟩ (.slice a' (k + 1) cap'))) := fun S u WB hS hu hb => by
        obtain ⟨cs, c1, c2⟩ := h3.snoc h4 hb hu (by omega) (Nat.le_refl _)
        refine ⟨cs, c1, fun a' cap' w3 ho hg => ?_⟩
        obtain ⟨tv2, hO⟩ := c2 _ _ ho hg
        have hV : ∀ r, (Value.slice a k cap).ownBlock = some r → w1.heap.size + 1 ≤ r ∧ r < wr.heap.size := fun r e => h3.lt r e
        have xc : w3.cell? ⟨w1.heap.size, 0, none⟩ = some (.slice a k cap) := by
          rw [hg.cell ((hb.cell (by exact h7)).trans h1) (fun e => by have h9 := (hV _ e.symm).1; exact absurd h9 (by show ¬ w1.heap.size + 1 ≤ w1.heap.size; omega))]
        have xf : w3.frozen? ⟨w1.heap.size, 0, none⟩ = false := by
          have hx := World.frozen?_of_block (w := WB) (w' := w3) (a := ⟨w1.heap.size, 0, none⟩) (hg.block w1.heap.size (by have := hb.size; omega) (fun e => by have := hV _ e.symm; omega))
          rw [hx]
          exact (hb.frozen (by exact h7)).trans h2
        have lo : Below w1.heap.size w1 w3 := (below_step' h6 hb h6.size).grown hg (by have := hb.size; omega) (fun r e => by have := hV r e; omega)
        refine ⟨⟨xc, xf⟩, _, tv2, a', cap', by go_simp, by go_simp, hO.other _ (by omega), by rw [List.length_append, h4]; rfl, fun j hj => ?_, lo.setCell (p := ⟨w1.heap.size, 0, none⟩) (Nat.le_refl _) _, ?_⟩
        · obtain ⟨e1, e2⟩ := getD_snoc (S := S) h4
          by_cases hj' : j < k
          · rw [← e2 j hj']; exact h5 j hj'
          · obtain rfl : j = k := by omega
            rw [e1]; exact hS
        · have h8 := hb.size
          have h9 := hg.size
          simp
          omega
      have hszr := h7
      have HKL := Lib.hid hlt
      have HBAD2 : Hid (ReadsSt (ws.getD k []) none → ReadsP t [] 5) := fun h => HBAD.out k (by have := HCG.out; omega) h
      clear h1 h2 h3 h4 h5 h6 h7 hpc p0 p1 HM0
      go_wp2_with fail
      refine RS.out.mono ?_
      rintro e w2 ⟨r, v, tv', hr, rfl, ⟨rfl, hrow⟩, hb2⟩
      obtain ⟨ta, tc, rfl⟩ := hrow.form
      have hs2 := hb2.size
      cases r with
      | none =>
        dsimp only [stR, rdC] at hrow ⊢
        rw [ints_length, List.length_nil]
        obtain ⟨⟨y0, y1, -⟩, hfin⟩ := HRT.out _ (hb2.alloc hb2.size (.cells #[.int .i64 0, .int .i64 0, .int .i64 0, .slice ta 0 tc] 36))
        have HFIN := Lib.hid hfin
        have HRD := Lib.hid (HBAD2.out hr)
        clear hfin hrow hb2 hr
        go_wp2
        (try simp only [Exit.inBlock, Exit.then])
        refine bodyPost_ret (res_cell_tmpS rfl _ _ _ rfl (load_planC (v := .slice none 0 0) (by go_simp))) rfl ?_
        exact ⟨[], 5, .slice none 0 0, fun _ => undef, HRD.out, rfl, ⟨⟨[], ⟨rfl, .inl ⟨rfl, rfl⟩⟩, fun j hj => by simp at hj⟩, fun j hj => by simp at hj, fun i j _ hj => by simp at hj⟩, HFIN.out⟩
      | some S =>
        obtain ⟨K, hK⟩ : ∃ K, S.kind = K := ⟨_, rfl⟩
        obtain ⟨NN, hNN⟩ : ∃ n, S.n = n := ⟨_, rfl⟩
        obtain ⟨KK, hKK⟩ : ∃ n, S.k = n := ⟨_, rfl⟩
        obtain ⟨TT, hTT⟩ : ∃ n, (ints S.taps).length = n := ⟨_, rfl⟩
        dsimp only [stR, rdC] at hrow ⊢
        rw [hTT] at hrow
        rw [hK, hNN, hKK, hTT]
        have hb3 : Below wr.heap.size wr (w2.alloc (.cells #[.int .i64 K, .int .i64 NN, .int .i64 KK, .slice ta TT tc] 36)) := hb2.alloc hb2.size _
        have hb4 : Below wr.heap.size wr ((w2.alloc (.cells #[.int .i64 K, .int .i64 NN, .int .i64 KK, .slice ta TT tc] 36)).alloc (.cells #[.int .i64 K, .int .i64 NN, .int .i64 KK, .slice ta TT tc] 36)) := hb3.alloc hb3.size _
        obtain ⟨⟨-, -, c2, f2⟩, -⟩ := HRT.out _ hb3
        have y0 : ∀ (j : Nat) (x : Value), ([.int .i64 K, .int .i64 NN, .int .i64 KK, .slice ta TT tc] : List Value)[j]? = some x → ((w2.alloc (.cells #[.int .i64 K, .int .i64 NN, .int .i64 KK, .slice ta TT tc] 36)).alloc (.cells #[.int .i64 K, .int .i64 NN, .int .i64 KK, .slice ta TT tc] 36)).cell? ((⟨w2.heap.size + 1, 0, none⟩ : Addr).add j) = some x := fun j x hx => by
          rw [show (⟨w2.heap.size + 1, 0, none⟩ : Addr).add j = ⟨w2.heap.size + 1, j, none⟩ by unfold Addr.add; split <;> simp_all]
          rcases j with _ | _ | _ | _ | j <;> simp at hx <;> subst hx <;> go_simp
        obtain ⟨WB, hWB⟩ : ∃ WB, (w2.alloc (.cells #[.int .i64 K, .int .i64 NN, .int .i64 KK, .slice ta TT tc] 36)).alloc (.cells #[.int .i64 K, .int .i64 NN, .int .i64 KK, .slice ta TT tc] 36) = WB := ⟨_, rfl⟩
        have hrowB : Row WB wr.heap.size 2 (.slice ta TT tc) (ints S.taps) := by rw [← hWB]; exact (hrow.alloc _).alloc _
        rw [hWB] at hb4
        simp only [hWB] at y0
        obtain ⟨cs, hown, hpush⟩ := HPUSH.out S _ WB hr hrowB hb4
        rw [hK, hNN, hKK] at hpush
        have HPU := Lib.hid hpush
        have HX0 := Lib.hid y0
        have H1 := Lib.hid hown
        have HONE : Hid (∀ x ∈ ([.int .i64 K, .int .i64 NN, .int .i64 KK, .slice ta TT tc] : List Value), x.oneCell' = true) := by
          intro x hx
          simp only [List.mem_cons, List.mem_nil_iff, or_false] at hx
          rcases hx with rfl | rfl | rfl | rfl <;> rfl
        have hszB : w1.heap.size + 1 ≤ WB.heap.size := by have := hb4.size; omega
        have HWB := Lib.hid hWB
        clear hrow hb2 hr hrowB hb4 hpush y0 hown hb3 hWB hK hNN hKK hTT hs2
        go_wp2_with (at_builtin; rw [HWB.out]; refine wpList_append_own _ rfl _ _ 24 rfl (w1.heap.size + 1) 36 i0 _ 4 48 Tryd.underlying24 hi hz0 hz1 hz2 rfl (by decide) _ k cs rfl H1.out ⟨w2.heap.size + 1, 0, none⟩ 1 1 [.int .i64 K, .int .i64 NN, .int .i64 KK, .slice ta TT tc] rfl rfl HX0.out HONE.out (by simp only [maxLen]; omega) (by omega) (by omega) ?_; intro v' w3 hown' hgrow _; obtain ⟨g', cap', rfl⟩ := ownsRow_succ hown'; obtain ⟨⟨e3, f3⟩, hfin⟩ := HPU.out _ _ _ hown' hgrow; have HFIN := Lib.hid hfin; clear hown' hgrow hfin)
        go_roundw
        case rel => exact ⟨k + 1, rfl, by have := HKL.out; omega, HFIN.out⟩
        case measure => have := HKL.out; simp [intOf]; omega
    · obtain rfl : L = k + 1 := by omega
      obtain ⟨g, rfl, hc⟩ := hpc k (by omega)
      have g1 : decide (((k + 1 : Nat) : Int) < ((k + 1 : Nat) : Int)) = false := decide_eq_false (by omega)
      have g2 : decide (k + 1 < k + 1) = false := decide_eq_false (by omega)
      have g3 : decide ((k : Int) + 1 < ((k + 1 : Nat) : Int)) = false := decide_eq_false (by omega)
      have g4 : decide ((k : Int) + 1 < (k : Int) + 1) = false := decide_eq_false (by omega)
      have e2 : IntKind.i64.wrap (((k + 1 : Nat) : Int) - 1) = (k : Int) := by rw [IntWalk.i64_in _ (by omega)]; omega
      have e3 : IntKind.i64.wrap ((k : Int) + 1 - 1) = (k : Int) := by rw [IntWalk.i64_in _ (by omega)]; omega
      obtain ⟨A1, A2⟩ := HALL.out ss (by rw [h4, HLL.out]) (fun j hj => h5 j (by omega))
      rw [h4] at A1 A2
      rw [← h4] at h3 h1
      have OKC := Lib.hid (l07Ok_any h3 h1)
      have HO := Lib.hid h3
      have hwr : Below w.heap.size w wr := below_step' HB1.out h6 HB1.out.size
      have HFIN : Hid (∀ W u, Below wr.heap.size wr W → (W.cell? ⟨N, 0, none⟩ = some (.slice none 0 0) ∧ W.frozen? ⟨N, 0, none⟩ = false ∧ W.cell? ⟨w1.heap.size, 0, none⟩ = some (.slice a ss.length cap)) ∧ Below w.heap.size w (W.setCell ⟨N, 0, none⟩ u) ∧ StepsO (W.setCell ⟨N, 0, none⟩ u) w.heap.size (.slice a ss.length cap) ss.length ss.length ss tv) := fun W u hb => by
        obtain ⟨y0, y1, -⟩ := HP.out W (below_step' h6 hb h6.size)
        have q1 := HB1.out.size
        have q2 := HNN.out
        exact ⟨⟨y0, y1, (hb.cell (by exact h7)).trans h1⟩, (below_step' hwr hb hwr.size).setCell (p := ⟨N, 0, none⟩) (by show w.heap.size ≤ N; omega) _, ((h3.below hb (Nat.le_refl _)).other _ (by omega)).base (by omega)⟩
      have hbq : ((strOf (ws.getD k [])).toList == []) = decide (ws.getD k [] = []) := by
        have hz : (strOf []).toList = [] := by rw [ByteArray.toList_eq, strOf_list]
        have hq := strOf_beq (ws.getD k []) []
        rwa [hz] at hq
      have h1' : wr.cell? ⟨w1.heap.size, 0, none⟩ = some (.slice a ss.length cap) := h1
      obtain ⟨pc, hpcs⟩ : ∃ pc, strOf (ws.getD k []) = pc := ⟨_, rfl⟩
      rw [hpcs] at hc hbq
      by_cases he : ws.getD k [] = []
      · rw [decide_eq_true he] at hbq
        have A1 := A1 he
        have A2 := fun h => A2 (.inr h)
        obtain ⟨v, hv⟩ : ∃ v, validPl ss = v := ⟨_, rfl⟩
        rw [hv] at OKC A1 A2
        cases v
        · have HRD := Lib.hid (A2 rfl)
          clear h1 h2 h3 h4 h5 h6 hpc A1 A2 he hpcs HM0 hwr hv
          go_wp2_with fail
          with_reducible refine OKC.out.mono ?_
          rintro e w2 ⟨rfl, hb2⟩
          obtain ⟨⟨y0, y1, y2⟩, hl, -⟩ := HFIN.out w2 (.slice none 0 0) hb2
          have HBL := Lib.hid hl
          clear hb2 hl
          go_wp2
          (try simp only [Exit.inBlock, Exit.then])
          refine bodyPost_ret (res_cell_tmpS rfl _ _ _ rfl (load_planC (v := .slice none 0 0) (by go_simp))) rfl ?_
          exact ⟨[], 5, .slice none 0 0, fun _ => undef, HRD.out, rfl, ⟨⟨[], ⟨rfl, .inl ⟨rfl, rfl⟩⟩, fun j hj => by simp at hj⟩, fun j hj => by simp at hj, fun i j _ hj => by simp at hj⟩, HBL.out⟩
        · have HRD := Lib.hid (A1 rfl)
          clear h1 h2 h3 h4 h5 h6 hpc A1 A2 he hpcs HM0 hwr hv
          go_wp2_with fail
          with_reducible refine OKC.out.mono ?_
          rintro e w2 ⟨rfl, hb2⟩
          obtain ⟨⟨y0, y1, y2⟩, hl, hO⟩ := HFIN.out w2 (.slice a ss.length cap) hb2
          have HBL := Lib.hid hl
          have HOO := Lib.hid hO
          clear hb2 hl hO
          go_wp2
          (try simp only [Exit.inBlock, Exit.then])
          refine bodyPost_ret (res_cell_tmpS rfl _ _ _ rfl (load_planC (v := .slice a ss.length cap) (by go_simp))) rfl ?_
          exact ⟨ss, 0, _, tv, HRD.out, rfl, HOO.out, HBL.out⟩
      · rw [decide_eq_false he] at hbq
        have HRD := Lib.hid (A2 (.inl he))
        obtain ⟨⟨y0, y1, y2⟩, hl, -⟩ := HFIN.out wr (.slice none 0 0) (Below.refl _ _)
        have HBL := Lib.hid hl
        clear h1 h2 h3 h4 h5 h6 hpc A1 A2 he hpcs HM0 hwr hl
        go_wp2
        (try simp only [Exit.inBlock, Exit.then])
        refine bodyPost_ret (res_cell_tmpS rfl _ _ _ rfl (load_planC (v := .slice none 0 0) (by go_simp))) rfl ?_
        exact ⟨[], 5, .slice none 0 0, fun _ => undef, HRD.out, rfl, ⟨⟨[], ⟨rfl, .inl ⟨rfl, rfl⟩⟩, fun j hj => by simp at hj⟩, fun j hj => by simp at hj, fun i j _ hj => by simp at hj⟩, HBL.out⟩

end Go.Proofs.YtdefhmpmgcahpaaDoor
/-
  The law of ReadPlan.
-/
set_option linter.unusedVariables false
set_option linter.unusedSimpArgs false
namespace Go.Proofs.YtdefhmpmgcahpaaDoor
open Go.RowKit

theorem valid_taps {ss : List St} (h : validPl ss = true) : ∀ j, j < ss.length → (ss.getD j default).taps.length ≤ 8 := fun j hj => by
  have hv := validPl_each h (ss.getD j default) (by
    rw [List.getD_eq_getElem?_getD, List.getElem?_eq_getElem hj]
    exact List.getElem_mem hj)
  have hn := (valid_nums hv).1
  have hw := with_nums hv
  by_cases h3 : (ss.getD j default).kind.toNat = 3
  · unfold numsOf at hn
    rw [if_pos h3] at hn
    exact hn
  · unfold withSt at hw
    rw [if_neg h3] at hw
    rw [← hw]
    simp

set_option maxRecDepth 100000 in
set_option maxHeartbeats 4000000 in
theorem exactReadPlan_law (s : ByteArray) (w : World) (hs : s.size ≤ maxLen) (hG : GloS w) :
    Calls Tryd.prog 5 #[.string s] w fun e w' => e = .returned (.bool true) ∧ Below w.heap.size w w' := by
  by_cases hl : 1048576 < s.size
  · have g1 : decide ((1048576 : Int) < (s.size : Int)) = true := decide_eq_true (by omega)
    have g1' : decide (1048576 < s.size) = true := decide_eq_true hl
    clear hl hs
    go_enter Tryd.func5, Tryd.ntmps5
    go_wp2
    go_ret
    exact ⟨rfl, Below.refl _ _⟩
  have g1 : decide ((1048576 : Int) < (s.size : Int)) = false := decide_eq_false (by omega)
  have g1' : decide (1048576 < s.size) = false := decide_eq_false hl
  have SP := Lib.hid (readPlan_spec s.data.toList (show s.size ≤ 1048576 by omega) w)
  have IM := Lib.hid (fun (W : World) (hb : Below w.heap.size w W) => readPlan_impl s.data.toList (show s.size ≤ 1048576 by omega) W (hG.below hb))
  simp only [strOf_self] at SP IM
  clear hG hs hl
  go_enter Tryd.func5, Tryd.ntmps5
  go_wp2_with fail
  refine SP.out.mono ?_
  rintro e w1 ⟨Z, D, V6, t6, hr, rfl, hO6, hb1⟩
  obtain ⟨a6, c6, rfl⟩ := hO6.form
  have HR := Lib.hid hr
  have hZv := hr.valid
  have HZB : Hid (mkN Z 1 ≤ 10000000000000) := by
    have h1 := mkN_bound Z 1 (fun j hj => Nat.le_trans (valid_taps hZv j hj) (by omega))
    have h2 := validPl_len8 hZv
    show mkN Z 1 ≤ _
    omega
  have HB1 := Lib.hid hb1
  have HO6 := Lib.hid hO6
  have hbx : ∀ x : Obj, Below w.heap.size w (w1.alloc x) := fun x => hb1.alloc hb1.size x
  have IM2 := Lib.hid (fun x => IM.out (w1.alloc x) (hbx x))
  have hUs : w1.heap.size + 1 = (w1.alloc (.cells #[.slice a6 Z.length c6] 26)).heap.size := by simp
  have HUS := Lib.hid hUs
  clear hO6 hr hb1 SP hZv hbx hUs
  go_wp2_with (go_at_call 10; refine (IM2.out _).mono ?_)
  rintro e w2 ⟨Z', D', V9, t9, hr', rfl, hO9, hb2⟩
  obtain ⟨rfl, rfl⟩ := HR.out.unique hr'
  obtain ⟨a9, c9, rfl⟩ := hO9.form
  obtain ⟨X, hX⟩ : ∃ X, X = w2.alloc (.cells #[.slice a9 Z.length c9] 26) := ⟨_, rfl⟩
  have hP : P2 w Z w1.heap.size w2.heap.size (w1.heap.size + 1) (w1.heap.size + 1) (.slice a6 Z.length c6) (.slice a9 Z.length c9) t6 t9 Z X := by
    have q := HUS.out
    have q2 := hb2.size
    have hbX : Below (w1.heap.size + 1) (w1.alloc (.cells #[.slice a6 Z.length c6] 26)) X := by rw [hX, q]; exact hb2.alloc hb2.size _
    have hb0 : Below w1.heap.size w1 X := (show Below w1.heap.size w1 (w1.alloc (.cells #[.slice a6 Z.length c6] 26)) from (Below.refl _ _).alloc (Nat.le_refl _) _).trans (hbX.mono (by omega))
    have hu6 := HO6.out.under
    have hu9 := hO9.under
    refine ⟨below_step' HB1.out hb0 HB1.out.size, ?_, by rw [hX]; go_simp, HO6.out.below hb0 (Nat.le_refl _), ?_, ⟨fun b e => by have := hu6.1 b e; omega, fun j hj b e => by have := hu6.2 j hj b e; omega⟩, hu9, HB1.out.size, by omega, Nat.le_refl _, by omega, by rw [hX]; simp⟩
    · rw [hbX.cell (p := ⟨w1.heap.size, 0, none⟩) (by show w1.heap.size < _; omega)]
      go_simp
    · rw [hX, q]
      exact hO9.below ((Below.refl w2.heap.size w2).alloc (Nat.le_refl _) _) (Nat.le_refl _)
  have k1 : (w2.alloc (.cells #[.slice a9 Z.length c9] 26)).cell? ⟨w2.heap.size, 0, none⟩ = some (.slice a9 Z.length c9) := by rw [← hX]; exact hP.kg
  have k2 : (w2.alloc (.cells #[.slice a9 Z.length c9] 26)).cell? ⟨w1.heap.size, 0, none⟩ = some (.slice a6 Z.length c6) := by rw [← hX]; exact hP.k6
  have P := Lib.hid hP
  have HX := Lib.hid hX.symm
  clear hO9 hb2 hr' hP hX IM2 HO6 HUS
  go_wp2_with fail
  rw [HX.out]
  clear k1 k2
  refine (eqPlan_any P.out.s9 P.out.s6).mono ?_
  rintro e w3 ⟨rfl, hb3⟩
  have P := Lib.hid (P.out.on hb3)
  have kg := P.out.kg
  have k6 := P.out.k6
  have MK := Lib.hid (markPlan_any (m := 1) P.out.s9 HZB.out)
  have HZ2 := Lib.hid HZB.out
  obtain ⟨M, hM⟩ : ∃ M, mkN Z 1 = M := ⟨_, rfl⟩
  have HM := Lib.hid hM
  rw [hM] at MK HZ2
  have gM : decide ((M : Int) < 0) = false := decide_eq_false (by omega)
  clear hb3 hM
  go_wp2_with fail
  refine MK.out.mono ?_
  rintro e w4 ⟨rfl, ⟨Zg, hmk, hs4⟩, ho4⟩
  have P4 := Lib.hid (P.out.mark ho4 hs4)
  have HMK := Lib.hid hmk
  clear ho4 hs4 hmk MK P kg k6
  have kg := P4.out.kg
  have k6 := P4.out.k6
  have HD := heldPlan_any (m := 1) P4.out.s9 HMK.out HZB.out
  rw [HM.out] at HD
  have HD := Lib.hid HD
  go_wp2_with fail
  refine HD.out.mono ?_
  rintro e w5 ⟨rfl, hb5⟩
  have P5 := Lib.hid (P4.out.on hb5)
  clear hb5 P4 HD kg k6
  have kg := P5.out.kg
  have k6 := P5.out.k6
  have IM5 := Lib.hid (IM.out w5 P5.out.below)
  go_wp2_with fail
  refine IM5.out.mono ?_
  rintro e w6 ⟨Z', D', VA, tA, hr', rfl, hOA, hb6⟩
  obtain ⟨rfl, rfl⟩ := HR.out.unique hr'
  obtain ⟨aA, cA, rfl⟩ := hOA.form
  have hba : Below w6.heap.size w6 (w6.alloc (.cells #[.slice aA Z.length cA] 26)) := (Below.refl _ _).alloc (Nat.le_refl _) _
  have P6 := Lib.hid (P5.out.on (below_step' hb6 hba hb6.size))
  obtain ⟨X6, hX6⟩ : ∃ X, X = w6.alloc (.cells #[.slice aA Z.length cA] 26) := ⟨_, rfl⟩
  have hOA6 := hOA.below hba (Nat.le_refl _)
  have k1 : (w6.alloc (.cells #[.slice aA Z.length cA] 26)).cell? ⟨w6.heap.size, 0, none⟩ = some (.slice aA Z.length cA) := by go_simp
  have k2 := P6.out.k6
  rw [← hX6] at hOA6 P6
  have HOA := Lib.hid hOA6
  have HX6 := Lib.hid hX6.symm
  clear hr' hOA hb6 hba hX6 hOA6 IM5 P5 kg k6
  go_wp2_with fail
  rw [HX6.out]
  clear k1 k2
  refine (eqPlan_any HOA.out P6.out.s6).mono ?_
  rintro e w7 ⟨rfl, hb7⟩
  have P7 := Lib.hid (P6.out.on hb7)
  clear hb7 P6 HOA
  have kg := P7.out.kg
  have HD := heldPlan_any (m := 1) P7.out.s9 HMK.out HZB.out
  rw [HM.out] at HD
  have HD := Lib.hid HD
  go_wp2_with fail
  refine HD.out.mono ?_
  rintro e w8 ⟨rfl, hb8⟩
  have HB := Lib.hid (P7.out.on hb8).below
  clear hb8 P7 HD kg
  go_wp2
  go_ret
  exact ⟨rfl, HB.out⟩

end Go.Proofs.YtdefhmpmgcahpaaDoor
