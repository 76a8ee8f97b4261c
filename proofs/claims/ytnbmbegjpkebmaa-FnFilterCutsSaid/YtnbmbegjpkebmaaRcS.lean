import Derived.Test.YtnbmbegjpkebmaaRcI
import Derived.Deep.RegionLaw
import Derived.OwnWalk
/-
  RecurSignal of the model.
-/
set_option linter.unusedVariables false
set_option linter.unusedSimpArgs false
namespace Go.Proofs.Ytnbmbegjpkebmaa
open Go.RowKit Flt Fast
attribute [local go_sem] run_fadd run_fsub run_fmul run_fquo run_cadd run_csub

set_option maxRecDepth 100000 in
set_option maxHeartbeats 4000000 in
theorem recur_spec (x a : List C) (v1 v2 : Value) (hx : x.length ≤ 256) (ha : a.length ≤ 256) (hwx : WfC x) (hwa : WfC a) (w : World) (hrx : RdO w.heap.size w v1 x) (hra : RdO w.heap.size w v2 a) :
    Calls Try.prog 9 #[v1, v2] w fun e w' =>
      ∃ v ps, e = .returned (.tuple #[v, .int .i64 0]) ∧ Row w' w.heap.size 32 v (cvals ps) ∧ IsCs ps (rcAll (zsOf x) (zsOf a) x.length) ∧ Below w.heap.size w w' := by
  obtain ⟨i0, hi, hz0, hz1, hz2⟩ := info_parts info_c128
  have HRX := Lib.hid hrx
  have HRA := Lib.hid hra
  obtain ⟨a1, c1, e1, -, -, -⟩ := hrx.find
  obtain ⟨a2, c2, e2, -, -, -⟩ := hra.find
  subst e1
  subst e2
  clear hrx hra
  have g1 : decide ((256 : Int) < (x.length : Int)) = false := decide_eq_false (by omega)
  have g2 : decide ((256 : Int) < (a.length : Int)) = false := decide_eq_false (by omega)
  obtain ⟨L, hL⟩ : ∃ L, x.length = L := ⟨_, rfl⟩
  obtain ⟨M, hM⟩ : ∃ M, a.length = M := ⟨_, rfl⟩
  rw [hL] at hx g1 HRX ⊢
  rw [hM] at ha g2 HRA ⊢
  have HXL := Lib.hid hL
  have HAL := Lib.hid hM
  clear hL hM
  have HR0 : Hid (Row (w.alloc (.cells #[] 32)) w.heap.size 32 (.slice (some ⟨w.heap.size, 0, none⟩) 0 0) (cvals [])) := World.ownsRow_lit w #[] 0 (Nat.le_refl _) (by unfold maxLen; omega) rfl
  go_enter Try.func9, Try.ntmps9
  go_wp2
  go_loopw [6, 7] (fun v i wr => ∃ (m : Nat) (ps : List C), i = .int .i64 (m : Int) ∧ m ≤ L ∧ Row wr w.heap.size 32 v (cvals ps) ∧ IsCs ps (rcAll (zsOf x) (zsOf a) m) ∧ Below w.heap.size w wr) (fun _ i _ => L - (intOf i).toNat)
  case atStart => exact ⟨0, [], rfl, Nat.zero_le _, HR0.out, IsCs.nil, (Below.refl _ _).alloc (Nat.le_refl _) _⟩
  case round =>
    clear HR0
    obtain ⟨m, ps, rfl, hmL, hrow, hps, hB⟩ := hrel
    obtain ⟨va, vc, rfl⟩ := hrow.written (n := m) (by rw [cvals_length, hps.1, rcAll_length])
    by_cases hlt : m < L
    · obtain ⟨gx, ox, rfl, hgx, hcx, hcm, k1⟩ := (HRX.out.below hB).at hlt
      obtain ⟨⟨p0, q0⟩, hpq⟩ : ∃ z, x.getD m (0, 0) = z := ⟨_, rfl⟩
      rw [hpq] at k1
      have hzx : IsC (p0, q0) ((zsOf x).getD m z0) := by rw [← hpq]; exact isC_getD hwx (by rw [HXL.out]; exact hlt)
      have hlt1 : decide (m < L) = true := decide_eq_true hlt
      have hmx := maxLen_int (Nat.le_trans hcx hcm)
      have HROW := Lib.hid hrow
      have HPS := Lib.hid hps
      have HB := Lib.hid hB
      have HZX := Lib.hid hzx
      have hpl : ps.length = m := by rw [hps.1, rcAll_length]
      have HPL := Lib.hid hpl
      clear hrow hps hB hpq hzx hpl
      obtain ⟨wo, rfl⟩ : ∃ z, z = wr := ⟨_, rfl⟩
      go_wp2
      go_loopw [8, 9] (fun s k w2 => ∃ (j p q n : Nat), k = .int .i64 (j : Int) ∧ s = .complex .f64 p q ∧ j ≤ min m M ∧ IsC (p, q) (rcSum ((zsOf x).getD m z0) (zsOf ps) (zsOf a) m j) ∧ w2 = wo.drewN n) (fun _ k _ => min m M - (intOf k).toNat)
      case atStart => exact ⟨0, p0, q0, 0, rfl, rfl, Nat.zero_le _, HZX.out, rfl⟩
      case round =>
        obtain ⟨j, p, q, n, rfl, rfl, hj, hs, hw⟩ := hrel
        have HSM := Lib.hid hs
        have HW := Lib.hid hw
        have hm2 : m ≤ 256 := by omega
        clear hs hw
        by_cases hj2 : j < min m M
        · obtain ⟨D, hD⟩ : ∃ D, m - 1 - j = D := ⟨_, rfl⟩
          have hDi : (m : Int) - 1 - (j : Int) = (D : Int) := by omega
          have hjM : j < M := by omega
          have hDm : D < m := by omega
          obtain ⟨ga, oa, rfl, hga, hca, hcma, k2⟩ := (HRA.out.below HB.out).at hjM
          rcases HROW.out.shape with ⟨_, _, e, e'⟩ | ⟨gy, cy, e, hc0, hgN, hgs, hcc, hcy⟩
          · have := congrArg List.length e'
            rw [cvals_length, HPL.out] at this; simp at this; omega
          rw [cvals_length, HPL.out] at e hcc
          simp only [Value.slice.injEq, true_and] at e
          obtain ⟨rfl, rfl⟩ := e
          have k3 := HROW.out.cellAt hDm
          rw [cvals_getD (by rw [HPL.out]; exact hDm)] at k3
          obtain ⟨⟨r, s⟩, hq1⟩ : ∃ z, a.getD j (0, 0) = z := ⟨_, rfl⟩
          obtain ⟨⟨t, u⟩, hq2⟩ : ∃ z, ps.getD D (0, 0) = z := ⟨_, rfl⟩
          rw [hq1] at k2
          rw [hq2] at k3
          have hza : IsC (r, s) ((zsOf a).getD j z0) := by rw [← hq1]; exact isC_getD hwa (by rw [HAL.out]; exact hjM)
          have hzy : IsC (t, u) ((zsOf ps).getD D z0) := by rw [← hq2]; exact isC_getD HPS.out.wf (by rw [HPL.out]; exact hDm)
          have HMUL := Lib.hid (fun w => mul_spec r s t u _ _ hza hzy w)
          have g3 : decide (j < M) = true := decide_eq_true hjM
          have g4 : decide ((0 : Int) ≤ (m : Int) - 1 - (j : Int)) = true := decide_eq_true (by omega)
          have g5 : decide ((j : Int) ≤ (m : Int) - 1) = true := decide_eq_true (by omega)
          have hwD : IntKind.i64.wrap (D : Int) = (D : Int) := IntWalk.i64_in _ (by omega)
          have hmxa := maxLen_int (Nat.le_trans hca hcma)
          have hmxy := maxLen_int (Nat.le_trans hcc hcy)
          have c2' : wr.cell? ⟨ga, oa + j, none⟩ = some (.complex .f64 r s) := by rw [HW.out]; exact k2
          have c3' : wr.cell? ⟨gy, D, none⟩ = some (.complex .f64 t u) := by rw [HW.out]; exact k3
          have HDD := Lib.hid hD
          clear hza hzy hq1 hq2 k1 k2 k3 hD
          go_wp2_with fail
          have d2 : wr.drew.cell? ⟨ga, oa + j, none⟩ = some (.complex .f64 r s) := c2'
          have d3 : wr.drew.cell? ⟨gy, D, none⟩ = some (.complex .f64 t u) := c3'
          have y1' : IntKind.i64.wrap ((m : Int) - 1) = (m : Int) - 1 := IntWalk.i64_in _ (by omega)
          have y2' : IntKind.i64.wrap ((m : Int) - 1 - (j : Int)) = (D : Int) := by rw [hDi]; exact hwD
          have y3' : (D : Int) < (m : Int) := by omega
          go_region_law (go_simp; first | (go_at_call 28; refine (HMUL.out _).mono ?_; rintro e w3 ⟨x1, y1, rfl, hx1, hy1, nn, rfl⟩; have HX1 := Lib.hid hx1; have HY1 := Lib.hid hy1; clear hx1 hy1))
          all_goals
            go_wp2
            go_roundw
            case rel =>
              exact ⟨j + 1, _, _, _, by go_num, rfl, by omega, by rw [rcSum, HDD.out]; exact ⟨isF_fres HSM.out.re HX1.out _, isF_fres HSM.out.im HY1.out _⟩, by rw [HW.out, World.drewN_drewN]⟩
            case measure => simp [intOf]; omega
        · have hjm : j = min m M := by omega
          have HFin : Hid (∀ (w1 : World) v' g cap tmp, v' = .slice (some ⟨g, 0, none⟩) (m + 1) cap → w1.ownsRow w.heap.size 32 1 v' (m + 1) (cvals ps ++ [.complex .f64 p q]) → (wr.alloc tmp).grownBy w1 (Value.slice va m vc).ownBlock →
              Row w1 w.heap.size 32 v' (cvals (ps ++ [(p, q)])) ∧ IsCs (ps ++ [(p, q)]) (rcAll (zsOf x) (zsOf a) (m + 1)) ∧ Below w.heap.size w w1) := fun w1 v' g cap tmp hv' hown hgrow => by
            have hB2 : Below w.heap.size w wr := by rw [HW.out]; exact below_draws HB.out n
            refine ⟨?_, ?_, ?_⟩
            · unfold Row
              rw [cvals_length, List.length_append, HPL.out, cvals_snoc]
              exact hown
            · rw [rcAll]
              refine HPS.out.snoc ?_
              rw [← HPS.out.zs]
              have := HSM.out
              rw [hjm, ← HAL.out, ← zsOf_length a] at this
              exact this
            · exact (hB2.alloc hB2.size tmp).grown hgrow (by have := hB2.size; simp; omega) (fun k e => (HROW.out.lt k e).1)
          have hsz : w.heap.size ≤ wr.heap.size := by rw [HW.out]; exact HB.out.size
          have HR := Lib.hid (show wr.ownsRow w.heap.size 32 1 (.slice va m vc) m (cvals ps) by
            have := HROW.out.drewN n; rw [← HW.out] at this; unfold Row at this; rwa [cvals_length, HPL.out] at this)
          clear hjm
          by_cases hcase : j < M
          · have g3 : decide (j < M) = true := decide_eq_true hcase
            have g4 : decide ((0 : Int) ≤ (m : Int) - 1 - (j : Int)) = false := decide_eq_false (by omega)
            have g5 : decide ((j : Int) ≤ (m : Int) - 1) = false := decide_eq_false (by omega)
            go_wp2_with (at_builtin; refine wpList_append_own _ rfl _ _ 24 rfl w.heap.size 32 i0 (.complex .f64 0 0) 1 16 Try.underlying24 hi hz0 hz1 hz2 rfl (by decide) _ _ _ rfl (HR.out.alloc _) ⟨wr.heap.size, 0, none⟩ 1 1 [.complex .f64 p q] rfl rfl (cell_one_new _ _ _) (by simp [Value.oneCell']) (by simp only [maxLen]; omega) (by omega) (by simp; omega) ?_; intro v' w1 hown' hgrow _; obtain ⟨g', cap', rfl⟩ := ownsRow_succ hown'; have Y3 := Lib.hid (HFin.out _ _ _ _ _ rfl hown' hgrow); clear hown' hgrow)
            go_roundw
            case rel => exact ⟨m + 1, ps ++ [(p, q)], by go_num, by omega, Y3.out.1, Y3.out.2.1, Y3.out.2.2⟩
            case measure => simp [intOf]; omega
          · have g3 : decide (j < M) = false := decide_eq_false hcase
            go_wp2_with (at_builtin; refine wpList_append_own _ rfl _ _ 24 rfl w.heap.size 32 i0 (.complex .f64 0 0) 1 16 Try.underlying24 hi hz0 hz1 hz2 rfl (by decide) _ _ _ rfl (HR.out.alloc _) ⟨wr.heap.size, 0, none⟩ 1 1 [.complex .f64 p q] rfl rfl (cell_one_new _ _ _) (by simp [Value.oneCell']) (by simp only [maxLen]; omega) (by omega) (by simp; omega) ?_; intro v' w1 hown' hgrow _; obtain ⟨g', cap', rfl⟩ := ownsRow_succ hown'; have Y3 := Lib.hid (HFin.out _ _ _ _ _ rfl hown' hgrow); clear hown' hgrow)
            go_roundw
            case rel => exact ⟨m + 1, ps ++ [(p, q)], by go_num, by omega, Y3.out.1, Y3.out.2.1, Y3.out.2.2⟩
            case measure => simp [intOf]; omega
    · obtain rfl : m = L := by omega
      have hlt1 : decide (m < m) = false := decide_eq_false (by omega)
      have HROW := Lib.hid hrow
      have HPS := Lib.hid hps
      have HB := Lib.hid hB
      clear hrow hps hB
      go_wp2
      go_ret2
      exact ⟨_, ps, rfl, HROW.out, HPS.out, HB.out⟩

end Go.Proofs.Ytnbmbegjpkebmaa
