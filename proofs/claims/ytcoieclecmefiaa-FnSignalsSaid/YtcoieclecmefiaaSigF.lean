import Derived.Test.YtcoieclecmefiaaSums
/-
  AddSignals, EnergyOf, DotOf, SumOf, NarrowSignal, WidenSignal, ScaleSignal of the program.
-/
set_option linter.unusedVariables false
set_option linter.unusedSimpArgs false
namespace Go.Proofs.Ytcoieclecmefiaa
open Go.RowKit Flt Fast
attribute [local go_sem] run_fadd run_fsub run_fmul run_fquo run_cadd run_csub

/-- The shape of what is read. -/
theorem Reads.form {w : World} {v : Value} {cs : List Value} (h : Reads w v cs) : ∃ a cap, v = .slice a cs.length cap := by
  cases h with
  | none a cap => exact ⟨a, cap, rfl⟩
  | row g cap L cs hL => subst hL; exact ⟨_, cap, rfl⟩

theorem checkPair_any (a a' : Option Addr) (L cap cap' : Nat) (hL : L ≤ 256) (w : World) :
    Calls Try.prog 43 #[.slice a L cap, .slice a' L cap'] w fun e w' => e = .returned (.int .i64 0) ∧ w' = w := by
  go_enter Try.func43, Try.ntmps43
  go_wp2
  go_ret
  exact ⟨rfl, rfl⟩

set_option maxRecDepth 100000 in
set_option maxHeartbeats 4000000 in
theorem addSignals_any {v v' : Value} {xs ys : List C} {w : World} (h : Reads w v (cvals xs)) (h' : Reads w v' (cvals ys)) (hxy : xs.length = ys.length) (hl : xs.length ≤ 256) (zx zy : Nat → Z)
    (hzx : ∀ i, i < xs.length → IsC (xs.getD i (0, 0)) (zx i)) (hzy : ∀ i, i < xs.length → IsC (ys.getD i (0, 0)) (zy i)) :
    Calls Try.prog 8 #[v, v'] w (MapsTo 26 cvals (0, 0) xs.length (fun i q => IsC q (addZ (zx i) (zy i))) w) := by
  obtain ⟨i0, hi, hz0, hz1, hz2⟩ := info_parts info_c128
  generalize hcs : cvals xs = cs at h
  generalize hcs' : cvals ys = cs' at h'
  have hcl : cs.length = xs.length := by rw [← hcs, cvals_length]
  have hcl' : cs'.length = ys.length := by rw [← hcs', cvals_length]
  cases h with
  | none a cap =>
    have h0 : xs.length = 0 := by rw [← hcl]; rfl
    cases h' with
    | row g' cap' L' _ hL' h0' => rw [hL'] at hcl'; omega
    | none a' cap' =>
      rw [h0]
      clear hcs hcl hcs' hcl' h0 hzx hzy hl hxy
      go_enter Try.func8, Try.ntmps8
      go_wp2_with fail
      refine (checkPair_any a a' 0 cap cap' (by omega) w).mono ?_
      rintro e w' ⟨rfl, rfl⟩
      go_wp2_with (at_make; refine wpList_make_full _ rfl _ _ 24 rfl w'.heap.size 26 i0 (.complex .f64 0 0) 1 Try.underlying24 hi hz0 hz1 .i64 .i64 _ _ 0 rfl rfl rfl rfl (by rw [hz2]; omega) (by simp only [maxLen]; omega) (Nat.le_refl _) ?_)
      intro w1 hown hg1
      rw [toList_madeCells_one] at hown
      have HO : Hid (Row w1 w'.heap.size 26 (.slice (some ⟨w'.heap.size, 0, none⟩) 0 0) []) := by
        show w1.ownsRow _ _ _ _ _ _
        simpa using hown
      have HG : Hid (Below w'.heap.size w' w1) := (Below.refl _ _).grown hg1 (Nat.le_refl _) (fun b e => by cases e)
      clear hown hg1 hi hz0 hz1 hz2
      go_wp2
      refine wp_loop_rounds 1 ?_
      rw [rounds_succ]
      go_wp2
      go_ret2
      exact ⟨_, [], rfl, HO.out, rfl, fun i hi => by omega, HG.out⟩
  | row g cap L cs hL h0 hc hm hcell =>
    cases h' with
    | none a' cap' => simp at hcl'; omega
    | row g' cap' L' cs' hL' h0' hc' hm' hcell' =>
      obtain rfl : L = xs.length := by rw [← hL]; exact hcl
      obtain rfl : L' = xs.length := by rw [← hL', hcl', hxy]
      obtain ⟨L, hxl⟩ : ∃ L, xs.length = L := ⟨_, rfl⟩
      rw [hxl] at hl h0 hc hc' ⊢
      have hmax := maxLen_int (Nat.le_trans hc hm)
      have hgl : g < w.heap.size := World.block_lt_of_cell? _ _ (hcell 0 (by omega))
      have hgl' : g' < w.heap.size := World.block_lt_of_cell? _ _ (hcell' 0 (by omega))
      have HC : Hid (∀ j, j < L → w.cell? ⟨g, j, none⟩ = some (.complex .f64 (xs.getD j (0, 0)).1 (xs.getD j (0, 0)).2)) := fun j hj => by rw [hcell j (by omega), ← hcs, cvals_getD (by omega)]
      have HC' : Hid (∀ j, j < L → w.cell? ⟨g', j, none⟩ = some (.complex .f64 (ys.getD j (0, 0)).1 (ys.getD j (0, 0)).2)) := fun j hj => by rw [hcell' j (by omega), ← hcs', cvals_getD (by omega)]
      have HX := Lib.hid hxl
      have HZX : Hid (∀ i, i < L → IsC (xs.getD i (0, 0)) (zx i)) := fun i hi => hzx i (by omega)
      have HZY : Hid (∀ i, i < L → IsC (ys.getD i (0, 0)) (zy i)) := fun i hi => hzy i (by omega)
      clear hcell hcs hcl hL hm hxl hcell' hcs' hcl' hL' hm' hxy hzx hzy h0'
      go_enter Try.func8, Try.ntmps8
      go_wp2_with fail
      refine (checkPair_any (some ⟨g, 0, none⟩) (some ⟨g', 0, none⟩) L cap cap' hl w).mono ?_
      rintro e w' ⟨rfl, rfl⟩
      go_wp2_with (at_make; refine wpList_make_full _ rfl _ _ 24 rfl w'.heap.size 26 i0 (.complex .f64 0 0) 1 Try.underlying24 hi hz0 hz1 .i64 .i64 _ _ L rfl rfl rfl rfl (by rw [hz2]; omega) (by simp only [maxLen]; omega) (Nat.le_refl _) ?_)
      intro w1 hown hg1
      rw [toList_madeCells_one] at hown
      have HO : Hid (Row w1 w'.heap.size 26 (.slice (some ⟨w'.heap.size, 0, none⟩) L L) (List.replicate L (.complex .f64 0 0))) := by
        show w1.ownsRow _ _ _ _ _ _
        simpa using hown
      have HG : Hid (Below w'.heap.size w' w1) := (Below.refl _ _).grown hg1 (Nat.le_refl _) (fun b e => by cases e)
      clear hown hg1 hi hz0 hz1 hz2
      go_wp2
      go_loopw [20] (fun i wr => ∃ (k : Nat) (qs : List C), i = .int .i64 k ∧ k ≤ L ∧ qs.length = k ∧ Row wr w'.heap.size 26 (.slice (some ⟨w'.heap.size, 0, none⟩) L L) (cvals qs ++ List.replicate (L - k) (.complex .f64 0 0)) ∧ (∀ j, j < k → IsC (qs.getD j (0, 0)) (addZ (zx j) (zy j))) ∧ Below w'.heap.size w' wr) (fun i _ => L - (intOf i).toNat)
      case atStart => exact ⟨0, [], rfl, Nat.zero_le _, rfl, HO.out, fun j hj => by omega, HG.out⟩
      case round =>
        obtain ⟨k, qs, rfl, hk, hx, hrw, hgd, hbw⟩ := hrel
        have HQ := Lib.hid hx
        have HRW := Lib.hid hrw
        have HGD := Lib.hid hgd
        have HBW := Lib.hid hbw
        clear hx hrw hgd hbw
        by_cases hlt : k < L
        · have c1 : wr.cell? ⟨g, k, none⟩ = some (.complex .f64 (xs.getD k (0, 0)).1 (xs.getD k (0, 0)).2) := by rw [HBW.out.cell hgl]; exact HC.out k hlt
          have c2 : wr.cell? ⟨g', k, none⟩ = some (.complex .f64 (ys.getD k (0, 0)).1 (ys.getD k (0, 0)).2) := by rw [HBW.out.cell hgl']; exact HC'.out k hlt
          have z1 := HZX.out k hlt
          have z2 := HZY.out k hlt
          obtain ⟨⟨a, b⟩, hab⟩ : ∃ q, xs.getD k (0, 0) = q := ⟨_, rfl⟩
          obtain ⟨⟨c, d⟩, hcd⟩ : ∃ q, ys.getD k (0, 0) = q := ⟨_, rfl⟩
          rw [hab] at c1 z1
          rw [hcd] at c2 z2
          have HZ1 := Lib.hid z1
          have HZ2 := Lib.hid z2
          have c3 := HRW.out.cellAt hlt
          have f3 := HRW.out.frozenAt k
          obtain ⟨u, hu⟩ : ∃ u, (cvals qs ++ List.replicate (L - k) (.complex .f64 0 0 : Value)).getD k undef = u := ⟨_, rfl⟩
          rw [hu] at c3
          clear hab hcd z1 z2 hu
          have HN : ∀ (n p q : Nat), IsC (p, q) (addZ (zx k) (zy k)) → ∃ (qs' : List C), qs'.length = k + 1 ∧ Row ((wr.drewN n).setCell ⟨w'.heap.size, k, none⟩ (.complex .f64 p q)) w'.heap.size 26 (.slice (some ⟨w'.heap.size, 0, none⟩) L L) (cvals qs' ++ List.replicate (L - (k + 1)) (.complex .f64 0 0)) ∧ (∀ j, j < k + 1 → IsC (qs'.getD j (0, 0)) (addZ (zx j) (zy j))) ∧ Below w'.heap.size w' ((wr.drewN n).setCell ⟨w'.heap.size, k, none⟩ (.complex .f64 p q)) := by
            intro n p q hq
            have hS := (HRW.out.drewN n).set k (.complex .f64 p q)
            rw [fillV hlt (by rw [cvals_length]; exact HQ.out)] at hS
            have hF := snocGood (d := ((0, 0) : C)) (G := fun i q => IsC q (addZ (zx i) (zy i))) HQ.out HGD.out hq
            exact ⟨qs ++ [(p, q)], hF.1, by rw [cvals_snoc]; exact hS.1, hF.2, (below_draws HBW.out n).setCell (p := ⟨w'.heap.size, k, none⟩) (Nat.le_refl _) _⟩
          have HN2 := Lib.hid HN
          clear HN
          go_wp2
          go_region
          go_wp2
          go_roundw
          case rel =>
            obtain ⟨qs', e1, e2, e3, e4⟩ := HN2.out _ _ _ ⟨isF_fres HZ1.out.re HZ2.out.re _, isF_fres HZ1.out.im HZ2.out.im _⟩
            exact ⟨k + 1, qs', by go_num, by omega, e1, e2, e3, e4⟩
          case measure => simp [intOf]; omega
        · have e : k = L := by omega
          subst e
          go_wp2
          go_ret2
          refine ⟨_, qs, rfl, ?_, HQ.out, HGD.out, HBW.out⟩
          have := HRW.out
          rwa [Nat.sub_self, List.replicate_zero, List.append_nil] at this

/-- The conjugate. -/
def conjZ (x : Z) : Z := (x.1, fneg .f64 x.2)

set_option maxRecDepth 100000 in
set_option maxHeartbeats 4000000 in
theorem dot_any {v v' : Value} {xs ys : List C} {w : World} (h : Reads w v (cvals xs)) (h' : Reads w v' (cvals ys)) (hxy : xs.length = ys.length) (hl : xs.length ≤ 256) (zx zy : Nat → Z)
    (hzx : ∀ i, i < xs.length → IsC (xs.getD i (0, 0)) (zx i)) (hzy : ∀ i, i < xs.length → IsC (ys.getD i (0, 0)) (zy i)) :
    Calls Try.prog 10 #[v, v'] w fun e w' => ∃ a b, e = .returned (.tuple #[.complex .f64 a b, .int .i64 0]) ∧ IsC (a, b) (sumC (fun i => mulZ (zx i) (conjZ (zy i))) xs.length) ∧ Below w.heap.size w w' := by
  obtain ⟨i0, hi, hz0, hz1, hz2⟩ := info_parts info_c128
  generalize hcs : cvals xs = cs at h
  generalize hcs' : cvals ys = cs' at h'
  have hcl : cs.length = xs.length := by rw [← hcs, cvals_length]
  have hcl' : cs'.length = ys.length := by rw [← hcs', cvals_length]
  cases h with
  | none a cap =>
    have h0 : xs.length = 0 := by rw [← hcl]; rfl
    cases h' with
    | row g' cap' L' _ hL' h0' => rw [hL'] at hcl'; omega
    | none a' cap' =>
      rw [h0]
      clear hcs hcl hcs' hcl' h0 hzx hzy hl hxy
      go_enter Try.func10, Try.ntmps10
      go_wp2_with fail
      refine (checkPair_any a a' 0 cap cap' (by omega) w).mono ?_
      rintro e w' ⟨rfl, rfl⟩
      go_wp2_with (at_make; refine wpList_make_full _ rfl _ _ 24 rfl w'.heap.size 26 i0 (.complex .f64 0 0) 1 Try.underlying24 hi hz0 hz1 .i64 .i64 _ _ 0 rfl rfl rfl rfl (by rw [hz2]; omega) (by simp only [maxLen]; omega) (Nat.le_refl _) ?_)
      intro w1 hown hg1
      rw [toList_madeCells_one] at hown
      have HO : Hid (Row w1 w'.heap.size 26 (.slice (some ⟨w'.heap.size, 0, none⟩) 0 0) []) := by
        show w1.ownsRow _ _ _ _ _ _
        simpa using hown
      have HG : Hid (Below w'.heap.size w' w1) := (Below.refl _ _).grown hg1 (Nat.le_refl _) (fun b e => by cases e)
      clear hown hg1 hi hz0 hz1 hz2
      go_wp2
      refine wp_loop_rounds 1 ?_
      rw [rounds_succ]
      go_wp2_with fail
      refine (sumC_any (xs := []) (Row.reads HO.out) (by simp) (fun _ => z0) (fun i hi => by simp at hi)).mono ?_
      rintro e w2 ⟨a, b, rfl, ha, n, rfl⟩
      have HA := Lib.hid ha
      clear ha
      go_wp2
      go_ret2
      exact ⟨a, b, rfl, HA.out, below_draws HG.out n⟩
  | row g cap L cs hL h0 hc hm hcell =>
    cases h' with
    | none a' cap' => simp at hcl'; omega
    | row g' cap' L' cs' hL' h0' hc' hm' hcell' =>
      obtain rfl : L = xs.length := by rw [← hL]; exact hcl
      obtain rfl : L' = xs.length := by rw [← hL', hcl', hxy]
      obtain ⟨L, hxl⟩ : ∃ L, xs.length = L := ⟨_, rfl⟩
      rw [hxl] at hl h0 hc hc' ⊢
      have hmax := maxLen_int (Nat.le_trans hc hm)
      have hgl : g < w.heap.size := World.block_lt_of_cell? _ _ (hcell 0 (by omega))
      have hgl' : g' < w.heap.size := World.block_lt_of_cell? _ _ (hcell' 0 (by omega))
      have HC : Hid (∀ j, j < L → w.cell? ⟨g, j, none⟩ = some (.complex .f64 (xs.getD j (0, 0)).1 (xs.getD j (0, 0)).2)) := fun j hj => by rw [hcell j (by omega), ← hcs, cvals_getD (by omega)]
      have HC' : Hid (∀ j, j < L → w.cell? ⟨g', j, none⟩ = some (.complex .f64 (ys.getD j (0, 0)).1 (ys.getD j (0, 0)).2)) := fun j hj => by rw [hcell' j (by omega), ← hcs', cvals_getD (by omega)]
      have HX := Lib.hid hxl
      have HZX : Hid (∀ i, i < L → IsC (xs.getD i (0, 0)) (zx i)) := fun i hi => hzx i (by omega)
      have HZY : Hid (∀ i, i < L → IsC (ys.getD i (0, 0)) (zy i)) := fun i hi => hzy i (by omega)
      clear hcell hcs hcl hL hm hxl hcell' hcs' hcl' hL' hm' hxy hzx hzy h0'
      go_enter Try.func10, Try.ntmps10
      go_wp2_with fail
      refine (checkPair_any (some ⟨g, 0, none⟩) (some ⟨g', 0, none⟩) L cap cap' hl w).mono ?_
      rintro e w' ⟨rfl, rfl⟩
      go_wp2_with (at_make; refine wpList_make_full _ rfl _ _ 24 rfl w'.heap.size 26 i0 (.complex .f64 0 0) 1 Try.underlying24 hi hz0 hz1 .i64 .i64 _ _ L rfl rfl rfl rfl (by rw [hz2]; omega) (by simp only [maxLen]; omega) (Nat.le_refl _) ?_)
      intro w1 hown hg1
      rw [toList_madeCells_one] at hown
      have HO : Hid (Row w1 w'.heap.size 26 (.slice (some ⟨w'.heap.size, 0, none⟩) L L) (List.replicate L (.complex .f64 0 0))) := by
        show w1.ownsRow _ _ _ _ _ _
        simpa using hown
      have HG : Hid (Below w'.heap.size w' w1) := (Below.refl _ _).grown hg1 (Nat.le_refl _) (fun b e => by cases e)
      clear hown hg1 hi hz0 hz1 hz2
      go_wp2
      go_loopw [20] (fun i wr => ∃ (k : Nat) (qs : List C), i = .int .i64 k ∧ k ≤ L ∧ qs.length = k ∧ Row wr w'.heap.size 26 (.slice (some ⟨w'.heap.size, 0, none⟩) L L) (cvals qs ++ List.replicate (L - k) (.complex .f64 0 0)) ∧ (∀ j, j < k → IsC (qs.getD j (0, 0)) (mulZ (zx j) (conjZ (zy j)))) ∧ Below w'.heap.size w' wr) (fun i _ => L - (intOf i).toNat)
      case atStart => exact ⟨0, [], rfl, Nat.zero_le _, rfl, HO.out, fun j hj => by omega, HG.out⟩
      case round =>
        obtain ⟨k, qs, rfl, hk, hx, hrw, hgd, hbw⟩ := hrel
        have HQ := Lib.hid hx
        have HRW := Lib.hid hrw
        have HGD := Lib.hid hgd
        have HBW := Lib.hid hbw
        clear hx hrw hgd hbw
        by_cases hlt : k < L
        · have c1 : wr.cell? ⟨g, k, none⟩ = some (.complex .f64 (xs.getD k (0, 0)).1 (xs.getD k (0, 0)).2) := by rw [HBW.out.cell hgl]; exact HC.out k hlt
          have c2 : wr.cell? ⟨g', k, none⟩ = some (.complex .f64 (ys.getD k (0, 0)).1 (ys.getD k (0, 0)).2) := by rw [HBW.out.cell hgl']; exact HC'.out k hlt
          have z1 := HZX.out k hlt
          have z2 := HZY.out k hlt
          obtain ⟨⟨a, b⟩, hab⟩ : ∃ q, xs.getD k (0, 0) = q := ⟨_, rfl⟩
          obtain ⟨⟨c, d⟩, hcd⟩ : ∃ q, ys.getD k (0, 0) = q := ⟨_, rfl⟩
          rw [hab] at c1 z1
          rw [hcd] at c2 z2
          have HZ1 := Lib.hid z1
          have HZ2 := Lib.hid z2
          have c3 := HRW.out.cellAt hlt
          have f3 := HRW.out.frozenAt k
          obtain ⟨u, hu⟩ : ∃ u, (cvals qs ++ List.replicate (L - k) (.complex .f64 0 0 : Value)).getD k undef = u := ⟨_, rfl⟩
          rw [hu] at c3
          have HU := Lib.hid hu
          clear hab hcd z1 z2 hu
          have hgw : g < wr.heap.size := Nat.lt_of_lt_of_le hgl HBW.out.size
          have hgw' : g' < wr.heap.size := Nat.lt_of_lt_of_le hgl' HBW.out.size
          have HN : ∀ (W : World) (p q : Nat), Below wr.heap.size wr W → IsC (p, q) (mulZ (zx k) (conjZ (zy k))) → ∃ (qs' : List C), qs'.length = k + 1 ∧ Row (W.setCell ⟨w'.heap.size, k, none⟩ (.complex .f64 p q)) w'.heap.size 26 (.slice (some ⟨w'.heap.size, 0, none⟩) L L) (cvals qs' ++ List.replicate (L - (k + 1)) (.complex .f64 0 0)) ∧ (∀ j, j < k + 1 → IsC (qs'.getD j (0, 0)) (mulZ (zx j) (conjZ (zy j)))) ∧ Below w'.heap.size w' (W.setCell ⟨w'.heap.size, k, none⟩ (.complex .f64 p q)) := by
            intro W p q hW hq
            have hS := (HRW.out.below hW (fun j hj => (HRW.out.lt j hj).2)).set k (.complex .f64 p q)
            rw [fillV hlt (by rw [cvals_length]; exact HQ.out)] at hS
            have hF := snocGood (d := ((0, 0) : C)) (G := fun i q => IsC q (mulZ (zx i) (conjZ (zy i)))) HQ.out HGD.out hq
            exact ⟨qs ++ [(p, q)], hF.1, by rw [cvals_snoc]; exact hS.1, hF.2, (below_step HBW.out hW HBW.out.size).setCell (p := ⟨w'.heap.size, k, none⟩) (Nat.le_refl _) _⟩
          have HN2 := Lib.hid HN
          have HK := Lib.hid (Below.refl wr.heap.size wr)
          have HRW2 := HRW
          clear HN
          go_wp2
          go_region_with (first
            | (go_at_call 48; refine (conj_impl c d _).mono ?_; rintro e w2 ⟨rfl, hb2⟩; have d1 := (hb2.cell (p := ⟨g, k, none⟩) hgw).trans c1; replace HK := Lib.hid (below_step (below_draws HK.out _) hb2 (Nat.le_refl _)); clear hb2)
            | (go_at_call 47; refine (product_impl a b c (Op.negFloat .f64 d) (zx k) (conjZ (zy k)) HZ1.out ⟨HZ2.out.re, HZ2.out.im.neg⟩ _).mono ?_; rintro e w3 ⟨p, q, rfl, hpq, hb3⟩; replace HK := Lib.hid (below_step HK.out hb3 HK.out.size); have HP := Lib.hid hpq; have hr3 := HRW.out.below HK.out (fun j hj => (HRW.out.lt j hj).2); have c4 := hr3.cellAt hlt; have f4 := hr3.frozenAt k; rw [HU.out] at c4; clear hb3 hpq hr3))
          all_goals
            clear c1 c2 c3 f3
            go_wp2
            go_roundw
            case rel =>
              obtain ⟨qs', e1, e2, e3, e4⟩ := HN2.out _ _ _ HK.out HP.out
              exact ⟨k + 1, qs', by go_num, by omega, e1, e2, e3, e4⟩
            case measure => simp [intOf]; omega
        · have e : k = L := by omega
          subst e
          have hrow := HRW.out
          rw [Nat.sub_self, List.replicate_zero, List.append_nil] at hrow
          have hql : qs.length = k := HQ.out
          have HS := Lib.hid (fun w1 (h1 : Reads w1 (.slice (some ⟨w'.heap.size, 0, none⟩) k k) (cvals qs)) => sumC_any h1 (by omega) (fun i => mulZ (zx i) (conjZ (zy i))) (fun i hi => HGD.out i (by omega)))
          have HR := Lib.hid hrow.reads
          rw [hql] at HS
          clear hrow hql
          go_wp2_with fail
          refine (HS.out _ HR.out).mono ?_
          rintro e w2 ⟨a, b, rfl, ha, n, rfl⟩
          have HA := Lib.hid ha
          clear ha
          go_wp2
          go_ret2
          exact ⟨a, b, rfl, HA.out, below_draws HBW.out n⟩

set_option maxRecDepth 100000 in
theorem energy_any {v : Value} {xs : List C} {w : World} (h : Reads w v (cvals xs)) (hl : xs.length ≤ 256) (zx : Nat → Z) (hzx : ∀ i, i < xs.length → IsC (xs.getD i (0, 0)) (zx i)) :
    Calls Try.prog 9 #[v] w fun e w' => ∃ a, e = .returned (.tuple #[.float .f64 a, .int .i64 0]) ∧ IsF a (sumO (fun i => sqZ (zx i)) xs.length) ∧ Below w.heap.size w w' := by
  have HM := Lib.hid (map_c128_f64 h hl 45 #[] (fun _ _ => rfl) (fun i q => IsF q (sqZ (zx i))) (fun i w1 hi _ => (square_impl _ _ (zx i) (hzx i hi) w1).mono (fun e w2 ⟨a, e1, e2, e3⟩ => ⟨a, e1, e2, e3⟩)))
  obtain ⟨a, cap, rfl⟩ := h.form
  clear h hzx
  go_enter Try.func9, Try.ntmps9
  go_wp2_with fail
  refine HM.out.mono ?_
  rintro e w1 ⟨u, qs, rfl, hr, hq, hg, hb⟩
  have HS := Lib.hid (sumF_any hr.reads (by omega) (fun i => sqZ (zx i)) (fun i hi => hg i (by omega)))
  rw [hq] at HS
  have HB := Lib.hid hb
  clear hr hq hg hb HM
  go_wp2_with fail
  refine HS.out.mono ?_
  rintro e w2 ⟨r, rfl, hr, n, rfl⟩
  have HR := Lib.hid hr
  clear hr
  go_wp2
  go_ret2
  exact ⟨r, rfl, HR.out, below_draws HB.out n⟩

set_option maxRecDepth 100000 in
theorem sumOf_any {v : Value} {xs : List C} {w : World} (h : Reads w v (cvals xs)) (hl : xs.length ≤ 256) (zx : Nat → Z) (hzx : ∀ i, i < xs.length → IsC (xs.getD i (0, 0)) (zx i)) :
    Calls Try.prog 18 #[v] w fun e w' => ∃ a b, e = .returned (.tuple #[.complex .f64 a b, .int .i64 0]) ∧ IsC (a, b) (sumC zx xs.length) ∧ Below w.heap.size w w' := by
  have HS := Lib.hid (sumC_any h (by omega) zx hzx)
  obtain ⟨a, cap, rfl⟩ := h.form
  rw [cvals_length] at *
  obtain ⟨L, hL⟩ : ∃ L, xs.length = L := ⟨_, rfl⟩
  rw [hL] at HS hl ⊢
  clear h hzx hL
  go_enter Try.func18, Try.ntmps18
  go_wp2_with fail
  refine HS.out.mono ?_
  rintro e w2 ⟨r, s, rfl, hr, n, rfl⟩
  have HR := Lib.hid hr
  clear hr
  go_wp2
  go_ret2
  exact ⟨r, s, rfl, HR.out, below_draws (Below.refl _ _) n⟩

set_option maxRecDepth 100000 in
theorem narrowSignal_any {v : Value} {xs : List C} {w : World} (h : Reads w v (cvals xs)) (hl : xs.length ≤ 256) :
    Calls Try.prog 14 #[v] w (MapsTo 75 nvals (0, 0) xs.length (fun i q => Narrows (xs.getD i (0, 0)).1 q.1 ∧ Narrows (xs.getD i (0, 0)).2 q.2) w) := by
  have HM := Lib.hid (map_c128_c64 h hl 54 #[] (fun _ _ => rfl) (fun i q => Narrows (xs.getD i (0, 0)).1 q.1 ∧ Narrows (xs.getD i (0, 0)).2 q.2) (fun i w1 hi _ => (narrowOf_any _ _ w1).mono (fun e w2 ⟨a, b, e1, e2, e3, e4⟩ => ⟨(a, b), e3, ⟨e1, e2⟩, e4⟩)))
  obtain ⟨a, cap, rfl⟩ := h.form
  clear h
  go_enter Try.func14, Try.ntmps14
  go_wp2_with fail
  refine HM.out.mono ?_
  rintro e w1 ⟨u, qs, rfl, hr, hq, hg, hb⟩
  have HE := Lib.hid (show MapsTo 75 nvals (0, 0) xs.length (fun i q => Narrows (xs.getD i (0, 0)).1 q.1 ∧ Narrows (xs.getD i (0, 0)).2 q.2) w (.returned (.tuple #[u, .int .i64 0])) w1 from ⟨u, qs, rfl, hr, hq, hg, hb⟩)
  clear hr hq hg hb HM
  go_wp2
  go_ret2
  exact HE.out

set_option maxRecDepth 100000 in
theorem widenSignal_any {v : Value} {xs : List C} {w : World} (h : Reads w v (nvals xs)) (hl : xs.length ≤ 256) :
    Calls Try.prog 15 #[v] w (MapsTo 26 cvals (0, 0) xs.length (fun i q => Wide (xs.getD i (0, 0)).1 q.1 ∧ Wide (xs.getD i (0, 0)).2 q.2) w) := by
  have HM := Lib.hid (map_c64_c128 h hl 56 #[] (fun _ _ => rfl) (fun i q => Wide (xs.getD i (0, 0)).1 q.1 ∧ Wide (xs.getD i (0, 0)).2 q.2) (fun i w1 hi _ => (wideOf_any _ _ w1).mono (fun e w2 ⟨a, b, e1, e2, e3, e4⟩ => ⟨(a, b), e3, ⟨e1, e2⟩, e4⟩)))
  obtain ⟨a, cap, rfl⟩ := h.form
  clear h
  go_enter Try.func15, Try.ntmps15
  go_wp2_with fail
  refine HM.out.mono ?_
  rintro e w1 ⟨u, qs, rfl, hr, hq, hg, hb⟩
  have HE := Lib.hid (show MapsTo 26 cvals (0, 0) xs.length (fun i q => Wide (xs.getD i (0, 0)).1 q.1 ∧ Wide (xs.getD i (0, 0)).2 q.2) w (.returned (.tuple #[u, .int .i64 0])) w1 from ⟨u, qs, rfl, hr, hq, hg, hb⟩)
  clear hr hq hg hb HM
  go_wp2
  go_ret2
  exact HE.out

set_option maxRecDepth 100000 in
/-- The closure of ScaleSignal. -/
theorem scale_closure (g : Nat) (a b c d : Nat) (x y : Z) (h1 : IsC (a, b) x) (h2 : IsC (c, d) y) (w : World) (hc : w.cell? ⟨g, 0, none⟩ = some (.complex .f64 c d)) :
    Calls Try.prog 60 #[.complex .f64 a b, .pointer (some ⟨g, 0, none⟩)] w (RetsC (mulZ x y) w) := by
  have HP := Lib.hid (fun w => product_impl a b c d x y h1 h2 w)
  clear h1 h2
  go_enter Try.func60, Try.ntmps60
  go_wp2_with fail
  refine (HP.out _).mono ?_
  rintro e w2 ⟨r, s, rfl, hr, hb⟩
  have HR := Lib.hid hr
  have HB := Lib.hid hb
  clear hr hb hc
  go_wp2
  go_ret
  exact ⟨r, s, rfl, HR.out, HB.out⟩

set_option maxRecDepth 100000 in
theorem scaleSignal_any {v : Value} {xs : List C} {w : World} (h : Reads w v (cvals xs)) (hl : xs.length ≤ 256) (zx : Nat → Z) (hzx : ∀ i, i < xs.length → IsC (xs.getD i (0, 0)) (zx i)) (c d : Nat) (y : Z) (hy : IsC (c, d) y) :
    Calls Try.prog 20 #[v, .complex .f64 c d] w (MapsTo 26 cvals (0, 0) xs.length (fun i q => IsC q (mulZ (zx i) y)) w) := by
  have hw1 : Below w.heap.size w (w.alloc (.cells #[.complex .f64 c d] 26)) := (Below.refl _ _).alloc (Nat.le_refl _) _
  have h1 : Reads (w.alloc (.cells #[.complex .f64 c d] 26)) v (cvals xs) := h.below hw1
  have HM := Lib.hid (map_c128_c128 h1 hl 60 #[.pointer (some ⟨w.heap.size, 0, none⟩)] (fun _ _ => rfl) (fun i q => IsC q (mulZ (zx i) y)) (fun i w1 hi hb => (scale_closure w.heap.size _ _ c d (zx i) y (hzx i hi) hy w1 (by rw [hb.cell (by simp)]; simp)).mono (fun e w2 ⟨a, b, e1, e2, e3⟩ => ⟨(a, b), e1, e2, e3⟩)))
  have HW := Lib.hid hw1
  obtain ⟨a, cap, rfl⟩ := h.form
  clear h h1 hzx hy hw1
  go_enter Try.func20, Try.ntmps20
  go_wp2_with fail
  refine HM.out.mono ?_
  rintro e w1 ⟨u, qs, rfl, hr, hq, hg, hb⟩
  have HE := Lib.hid (show MapsTo 26 cvals (0, 0) xs.length (fun i q => IsC q (mulZ (zx i) y)) w (.returned (.tuple #[u, .int .i64 0])) w1 from ⟨u, qs, rfl, hr.base (by simp), hq, hg, below_step HW.out hb HW.out.size⟩)
  clear hr hq hg hb HM
  go_wp2
  go_ret2
  exact HE.out

end Go.Proofs.Ytcoieclecmefiaa
