import Derived.Test.YtcoieclecmefiaaSameS
import Derived.Test.YtcoieclecmefiaaSigF
import Derived.Test.YtcoieclecmefiaaNarW
/-
  SameSignals of the program and of the model, SameNarrows, where they are the same.
-/
set_option linter.unusedVariables false
set_option linter.unusedSimpArgs false
namespace Go.Proofs.Ytcoieclecmefiaa
open Go.RowKit Flt Fast

theorem sameB_of {a b : Nat} {z : Option Nat} (h : IsF a z) (k : IsF b z) : sameB a b = true := by unfold sameB; rw [h.cn, k.cn]; simp

set_option maxRecDepth 100000 in
set_option maxHeartbeats 4000000 in
theorem sameSignals_impl {v v' : Value} {xs ys : List C} {w : World} (h : Reads w v (cvals xs)) (h' : Reads w v' (cvals ys)) (hxy : xs.length = ys.length)
    (he : ∀ j, j < xs.length → ∃ z, IsC (xs.getD j (0, 0)) z ∧ IsC (ys.getD j (0, 0)) z) :
    Calls Try.prog 11 #[v, v'] w (Rets (.bool true) w) := by
  generalize hcs : cvals xs = cs at h
  generalize hcs' : cvals ys = cs' at h'
  have hcl : cs.length = xs.length := by rw [← hcs, cvals_length]
  have hcl' : cs'.length = ys.length := by rw [← hcs', cvals_length]
  cases h with
  | none a cap =>
    have h0 : xs.length = 0 := by rw [← hcl]; rfl
    cases h' with
    | row g' cap' L' _ hL' h0' => rw [hL'] at hcl'; omega
    | none a' cap' =>
      clear hcs hcl hcs' hcl' h0 he hxy
      go_enter Try.func11, Try.ntmps11
      go_wp2
      refine wp_loop_rounds 1 ?_
      rw [rounds_succ]
      go_wp2
      go_ret
      exact ⟨rfl, Below.refl _ _⟩
  | row g cap L cs hL h0 hc hm hcell =>
    cases h' with
    | none a' cap' => simp at hcl'; omega
    | row g' cap' L' cs' hL' h0' hc' hm' hcell' =>
      obtain rfl : L = xs.length := by rw [← hL]; exact hcl
      obtain rfl : L' = xs.length := by rw [← hL', hcl', hxy]
      obtain ⟨L, hxl⟩ : ∃ L, xs.length = L := ⟨_, rfl⟩
      rw [hxl] at h0 hc hc'
      have hmax := maxLen_int (Nat.le_trans hc hm)
      have hgl : g < w.heap.size := World.block_lt_of_cell? _ _ (hcell 0 (by omega))
      have hgl' : g' < w.heap.size := World.block_lt_of_cell? _ _ (hcell' 0 (by omega))
      have HC : Hid (∀ j, j < L → w.cell? ⟨g, j, none⟩ = some (.complex .f64 (xs.getD j (0, 0)).1 (xs.getD j (0, 0)).2)) := fun j hj => by rw [hcell j (by omega), ← hcs, cvals_getD (by omega)]
      have HC' : Hid (∀ j, j < L → w.cell? ⟨g', j, none⟩ = some (.complex .f64 (ys.getD j (0, 0)).1 (ys.getD j (0, 0)).2)) := fun j hj => by rw [hcell' j (by omega), ← hcs', cvals_getD (by omega)]
      have HE : Hid (∀ j, j < L → ∃ z, IsC (xs.getD j (0, 0)) z ∧ IsC (ys.getD j (0, 0)) z) := fun j hj => he j (by omega)
      rw [hxl]
      clear hcell hcs hcl hL hm hxl hcell' hcs' hcl' hL' hm' hxy he h0'
      go_enter Try.func11, Try.ntmps11
      go_wp2
      go_loopw [13] (fun i wr => ∃ k : Nat, i = .int .i64 k ∧ k ≤ L ∧ Below w.heap.size w wr) (fun i _ => L - (intOf i).toNat)
      case atStart => exact ⟨0, rfl, Nat.zero_le _, Below.refl _ _⟩
      case round =>
        obtain ⟨k, rfl, hk, hb⟩ := hrel
        have HB := Lib.hid hb
        clear hb
        by_cases hlt : k < L
        · have c1 : wr.cell? ⟨g, k, none⟩ = some (.complex .f64 (xs.getD k (0, 0)).1 (xs.getD k (0, 0)).2) := by rw [HB.out.cell hgl]; exact HC.out k hlt
          have c2 : wr.cell? ⟨g', k, none⟩ = some (.complex .f64 (ys.getD k (0, 0)).1 (ys.getD k (0, 0)).2) := by rw [HB.out.cell hgl']; exact HC'.out k hlt
          obtain ⟨z, z1, z2⟩ := HE.out k hlt
          obtain ⟨⟨a, b⟩, hab⟩ : ∃ q, xs.getD k (0, 0) = q := ⟨_, rfl⟩
          obtain ⟨⟨c, d⟩, hcd⟩ : ∃ q, ys.getD k (0, 0) = q := ⟨_, rfl⟩
          rw [hab] at c1 z1
          rw [hcd] at c2 z2
          have S := fun w => sameNumber_any a b c d w
          rw [sameB_of z1.re z2.re, sameB_of z1.im z2.im] at S
          have HS := Lib.hid S
          clear hab hcd z1 z2 S
          go_wp2
          go_region_with (go_at_call 50; refine (HS.out _).mono ?_; rintro e w2 ⟨rfl, hb2⟩; replace HB := Lib.hid (below_step (below_draws HB.out _) hb2 HB.out.size); clear hb2)
          all_goals
            clear c1 c2
            go_wp2
            go_roundw
            case rel => exact ⟨k + 1, by go_num, by omega, HB.out⟩
            case measure => simp [intOf]; omega
        · have e : k = L := by omega
          subst e
          go_wp2
          go_ret
          exact ⟨rfl, HB.out⟩

set_option maxRecDepth 100000 in
set_option maxHeartbeats 4000000 in
theorem l01SameSignals_any {v v' : Value} {xs ys : List C} {w : World} (h : Reads w v (cvals xs)) (h' : Reads w v' (cvals ys)) (hxy : xs.length = ys.length)
    (he : ∀ j, j < xs.length → ∃ z, IsC (xs.getD j (0, 0)) z ∧ IsC (ys.getD j (0, 0)) z) :
    Calls Try.prog 51 #[v, v'] w fun e w' => e = .returned (.bool true) ∧ ∃ n, w' = w.drewN n := by
  generalize hcs : cvals xs = cs at h
  generalize hcs' : cvals ys = cs' at h'
  have hcl : cs.length = xs.length := by rw [← hcs, cvals_length]
  have hcl' : cs'.length = ys.length := by rw [← hcs', cvals_length]
  cases h with
  | none a cap =>
    have h0 : xs.length = 0 := by rw [← hcl]; rfl
    cases h' with
    | row g' cap' L' _ hL' h0' => rw [hL'] at hcl'; omega
    | none a' cap' =>
      clear hcs hcl hcs' hcl' h0 he hxy
      go_enter Try.func51, Try.ntmps51
      go_wp2
      refine wp_loop_rounds 1 ?_
      rw [rounds_succ]
      go_wp2
      go_ret
      exact ⟨rfl, 0, rfl⟩
  | row g cap L cs hL h0 hc hm hcell =>
    cases h' with
    | none a' cap' => simp at hcl'; omega
    | row g' cap' L' cs' hL' h0' hc' hm' hcell' =>
      obtain rfl : L = xs.length := by rw [← hL]; exact hcl
      obtain rfl : L' = xs.length := by rw [← hL', hcl', hxy]
      obtain ⟨L, hxl⟩ : ∃ L, xs.length = L := ⟨_, rfl⟩
      rw [hxl] at h0 hc hc'
      have hmax := maxLen_int (Nat.le_trans hc hm)
      have hgl : g < w.heap.size := World.block_lt_of_cell? _ _ (hcell 0 (by omega))
      have hgl' : g' < w.heap.size := World.block_lt_of_cell? _ _ (hcell' 0 (by omega))
      have HC : Hid (∀ j, j < L → w.cell? ⟨g, j, none⟩ = some (.complex .f64 (xs.getD j (0, 0)).1 (xs.getD j (0, 0)).2)) := fun j hj => by rw [hcell j (by omega), ← hcs, cvals_getD (by omega)]
      have HC' : Hid (∀ j, j < L → w.cell? ⟨g', j, none⟩ = some (.complex .f64 (ys.getD j (0, 0)).1 (ys.getD j (0, 0)).2)) := fun j hj => by rw [hcell' j (by omega), ← hcs', cvals_getD (by omega)]
      have HE : Hid (∀ j, j < L → ∃ z, IsC (xs.getD j (0, 0)) z ∧ IsC (ys.getD j (0, 0)) z) := fun j hj => he j (by omega)
      rw [hxl]
      clear hcell hcs hcl hL hm hxl hcell' hcs' hcl' hL' hm' hxy he h0'
      go_enter Try.func51, Try.ntmps51
      go_wp2
      go_loopw [5] (fun i wr => ∃ k n : Nat, i = .int .i64 k ∧ k ≤ L ∧ wr = w.drewN n) (fun i _ => L - (intOf i).toNat)
      case atStart => exact ⟨0, 0, rfl, Nat.zero_le _, rfl⟩
      case round =>
        obtain ⟨k, n, rfl, hk, hw⟩ := hrel
        have HW := Lib.hid hw
        clear hw
        by_cases hlt : k < L
        · have c1 : wr.cell? ⟨g, k, none⟩ = some (.complex .f64 (xs.getD k (0, 0)).1 (xs.getD k (0, 0)).2) := by rw [HW.out]; exact HC.out k hlt
          have c2 : wr.cell? ⟨g', k, none⟩ = some (.complex .f64 (ys.getD k (0, 0)).1 (ys.getD k (0, 0)).2) := by rw [HW.out]; exact HC'.out k hlt
          obtain ⟨z, z1, z2⟩ := HE.out k hlt
          obtain ⟨⟨a, b⟩, hab⟩ : ∃ q, xs.getD k (0, 0) = q := ⟨_, rfl⟩
          obtain ⟨⟨c, d⟩, hcd⟩ : ∃ q, ys.getD k (0, 0) = q := ⟨_, rfl⟩
          rw [hab] at c1 z1
          rw [hcd] at c2 z2
          have S := fun w => l01Same_cn a b c d (z1.re.cn.trans z2.re.cn.symm) (z1.im.cn.trans z2.im.cn.symm) w
          clear hab hcd z1 z2
          go_wp2
          go_quiet ((go_at_call 52; exact Calls.quiet_of_same (S _)))
          go_wp2
          go_roundw
          case rel => exact ⟨k + 1, n + nq, by go_num, by omega, by rw [HW.out, World.drewN_drewN]⟩
          case measure => simp [intOf]; omega
        · have e : k = L := by omega
          subst e
          go_wp2
          go_ret
          exact ⟨rfl, n, HW.out⟩

set_option maxRecDepth 100000 in
theorem sameSignals_spec {v v' : Value} {xs ys : List C} {w : World} (h : Reads w v (cvals xs)) (h' : Reads w v' (cvals ys)) (hxy : xs.length = ys.length)
    (he : ∀ j, j < xs.length → ∃ z, IsC (xs.getD j (0, 0)) z ∧ IsC (ys.getD j (0, 0)) z) :
    Calls Try.prog 12 #[v, v'] w fun e w' => e = .returned (.bool true) ∧ ∃ n, w' = w.drewN n := by
  have HS := Lib.hid (l01SameSignals_any h h' hxy he)
  obtain ⟨a, cap, rfl⟩ := h.form
  obtain ⟨a', cap', rfl⟩ := h'.form
  clear h h' he hxy
  go_enter Try.func12, Try.ntmps12
  go_wp2_with fail
  refine HS.out.mono ?_
  rintro e w2 ⟨rfl, n, rfl⟩
  go_wp2
  go_ret
  exact ⟨rfl, n, rfl⟩

set_option maxRecDepth 100000 in
set_option maxHeartbeats 4000000 in
theorem sameNarrows_spec {v v' : Value} {xs ys : List C} {w : World} (h : Reads w v (nvals xs)) (h' : Reads w v' (nvals ys)) (hxy : xs.length = ys.length)
    (he : ∀ j, j < xs.length → cn .f32 (xs.getD j (0, 0)).1 = cn .f32 (ys.getD j (0, 0)).1 ∧ cn .f32 (xs.getD j (0, 0)).2 = cn .f32 (ys.getD j (0, 0)).2) :
    Calls Try.prog 16 #[v, v'] w fun e w' => e = .returned (.bool true) ∧ ∃ n, w' = w.drewN n := by
  generalize hcs : nvals xs = cs at h
  generalize hcs' : nvals ys = cs' at h'
  have hcl : cs.length = xs.length := by rw [← hcs, nvals_length]
  have hcl' : cs'.length = ys.length := by rw [← hcs', nvals_length]
  cases h with
  | none a cap =>
    have h0 : xs.length = 0 := by rw [← hcl]; rfl
    cases h' with
    | row g' cap' L' _ hL' h0' => rw [hL'] at hcl'; omega
    | none a' cap' =>
      clear hcs hcl hcs' hcl' h0 he hxy
      go_enter Try.func16, Try.ntmps16
      go_wp2
      refine wp_loop_rounds 1 ?_
      rw [rounds_succ]
      go_wp2
      go_ret
      exact ⟨rfl, 0, rfl⟩
  | row g cap L cs hL h0 hc hm hcell =>
    cases h' with
    | none a' cap' => simp at hcl'; omega
    | row g' cap' L' cs' hL' h0' hc' hm' hcell' =>
      obtain rfl : L = xs.length := by rw [← hL]; exact hcl
      obtain rfl : L' = xs.length := by rw [← hL', hcl', hxy]
      obtain ⟨L, hxl⟩ : ∃ L, xs.length = L := ⟨_, rfl⟩
      rw [hxl] at h0 hc hc'
      have hmax := maxLen_int (Nat.le_trans hc hm)
      have hgl : g < w.heap.size := World.block_lt_of_cell? _ _ (hcell 0 (by omega))
      have hgl' : g' < w.heap.size := World.block_lt_of_cell? _ _ (hcell' 0 (by omega))
      have HC : Hid (∀ j, j < L → w.cell? ⟨g, j, none⟩ = some (.complex .f32 (xs.getD j (0, 0)).1 (xs.getD j (0, 0)).2)) := fun j hj => by rw [hcell j (by omega), ← hcs, nvals_getD (by omega)]
      have HC' : Hid (∀ j, j < L → w.cell? ⟨g', j, none⟩ = some (.complex .f32 (ys.getD j (0, 0)).1 (ys.getD j (0, 0)).2)) := fun j hj => by rw [hcell' j (by omega), ← hcs', nvals_getD (by omega)]
      have HE : Hid (∀ j, j < L → cn .f32 (xs.getD j (0, 0)).1 = cn .f32 (ys.getD j (0, 0)).1 ∧ cn .f32 (xs.getD j (0, 0)).2 = cn .f32 (ys.getD j (0, 0)).2) := fun j hj => he j (by omega)
      rw [hxl]
      clear hcell hcs hcl hL hm hxl hcell' hcs' hcl' hL' hm' hxy he h0'
      go_enter Try.func16, Try.ntmps16
      go_wp2
      go_loopw [5] (fun i wr => ∃ k n : Nat, i = .int .i64 k ∧ k ≤ L ∧ wr = w.drewN n) (fun i _ => L - (intOf i).toNat)
      case atStart => exact ⟨0, 0, rfl, Nat.zero_le _, rfl⟩
      case round =>
        obtain ⟨k, n, rfl, hk, hw⟩ := hrel
        have HW := Lib.hid hw
        clear hw
        by_cases hlt : k < L
        · have c1 : wr.cell? ⟨g, k, none⟩ = some (.complex .f32 (xs.getD k (0, 0)).1 (xs.getD k (0, 0)).2) := by rw [HW.out]; exact HC.out k hlt
          have c2 : wr.cell? ⟨g', k, none⟩ = some (.complex .f32 (ys.getD k (0, 0)).1 (ys.getD k (0, 0)).2) := by rw [HW.out]; exact HC'.out k hlt
          have z1 := HE.out k hlt
          obtain ⟨⟨a, b⟩, hab⟩ : ∃ q, xs.getD k (0, 0) = q := ⟨_, rfl⟩
          obtain ⟨⟨c, d⟩, hcd⟩ : ∃ q, ys.getD k (0, 0) = q := ⟨_, rfl⟩
          rw [hab] at c1 z1
          rw [hcd] at c2 z1
          have S := fun w => sameNarrow_cn a b c d z1.1 z1.2 w
          clear hab hcd z1
          go_wp2
          go_quiet ((go_at_call 57; exact Calls.quiet_of (S _)))
          go_wp2
          go_roundw
          case rel => exact ⟨k + 1, n + nq, by go_num, by omega, by rw [HW.out, World.drewN_drewN]⟩
          case measure => simp [intOf]; omega
        · have e : k = L := by omega
          subst e
          go_wp2
          go_ret
          exact ⟨rfl, n, HW.out⟩

end Go.Proofs.Ytcoieclecmefiaa
