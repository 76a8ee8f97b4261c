import Derived.Test.YtnbmbegjpkebmaaSameS
import Derived.Test.YtnbmbegjpkebmaaSigF
import Derived.Test.YtnbmbegjpkebmaaNarW
/-
  SameSignals of the program and of the model, SameNarrows, where they are the same.
-/
set_option linter.unusedVariables false
set_option linter.unusedSimpArgs false
namespace Go.Proofs.Ytnbmbegjpkebmaa
open Go.RowKit Flt Fast

theorem sameB_of {a b : Nat} {z : Option Nat} (h : IsF a z) (k : IsF b z) : sameB a b = true := by unfold sameB; rw [h.cn, k.cn]; simp

set_option maxRecDepth 100000 in
set_option maxHeartbeats 4000000 in
theorem l01SameSignals_any {v v' : Value} {xs ys : List C} {w : World} (h : Reads w v (cvals xs)) (h' : Reads w v' (cvals ys)) (hxy : xs.length = ys.length)
    (he : ∀ j, j < xs.length → ∃ z, IsC (xs.getD j (0, 0)) z ∧ IsC (ys.getD j (0, 0)) z) :
    Calls Try.prog 30 #[v, v'] w fun e w' => e = .returned (.bool true) ∧ ∃ n, w' = w.drewN n := by
  generalize hcs : cvals xs = cs at h
  generalize hcs' : cvals ys = cs' at h'
  have hcl : cs.length = xs.length := by rw [← hcs, cvals_length]
  have hcl' : cs'.length = ys.length := by rw [← hcs', cvals_length]
  cases h with
  | none a cap =>
    have h0 : xs.length = 0 := by rw [← hcl]; rfl
    cases h' with
    | row g' cap' L' _ hL' h0' => rw [hL'] at hcl'; omega
    | none a' cap' =>
      clear hcs hcl hcs' hcl' h0 he hxy
      go_enter Try.func30, Try.ntmps30
      go_wp2
      refine wp_loop_rounds 1 ?_
      rw [rounds_succ]
      go_wp2
      go_ret
      exact ⟨rfl, 0, rfl⟩
  | row g cap L cs hL h0 hc hm hcell =>
    cases h' with
    | none a' cap' => simp at hcl'; omega
    | row g' cap' L' cs' hL' h0' hc' hm' hcell' =>
      obtain rfl : L = xs.length := by rw [← hL]; exact hcl
      obtain rfl : L' = xs.length := by rw [← hL', hcl', hxy]
      obtain ⟨L, hxl⟩ : ∃ L, xs.length = L := ⟨_, rfl⟩
      rw [hxl] at h0 hc hc'
      have hmax := maxLen_int (Nat.le_trans hc hm)
      have hgl : g < w.heap.size := World.block_lt_of_cell? _ _ (hcell 0 (by omega))
      have hgl' : g' < w.heap.size := World.block_lt_of_cell? _ _ (hcell' 0 (by omega))
      have HC : Hid (∀ j, j < L → w.cell? ⟨g, j, none⟩ = some (.complex .f64 (xs.getD j (0, 0)).1 (xs.getD j (0, 0)).2)) := fun j hj => by rw [hcell j (by omega), ← hcs, cvals_getD (by omega)]
      have HC' : Hid (∀ j, j < L → w.cell? ⟨g', j, none⟩ = some (.complex .f64 (ys.getD j (0, 0)).1 (ys.getD j (0, 0)).2)) := fun j hj => by rw [hcell' j (by omega), ← hcs', cvals_getD (by omega)]
      have HE : Hid (∀ j, j < L → ∃ z, IsC (xs.getD j (0, 0)) z ∧ IsC (ys.getD j (0, 0)) z) := fun j hj => he j (by omega)
      rw [hxl]
      clear hcell hcs hcl hL hm hxl hcell' hcs' hcl' hL' hm' hxy he h0'
      go_enter Try.func30, Try.ntmps30
      go_wp2
      go_loopw [5] (fun i wr => ∃ k n : Nat, i = .int .i64 k ∧ k ≤ L ∧ wr = w.drewN n) (fun i _ => L - (intOf i).toNat)
      case atStart => exact ⟨0, 0, rfl, Nat.zero_le _, rfl⟩
      case round =>
        obtain ⟨k, n, rfl, hk, hw⟩ := hrel
        have HW := Lib.hid hw
        clear hw
        by_cases hlt : k < L
        · have c1 : wr.cell? ⟨g, k, none⟩ = some (.complex .f64 (xs.getD k (0, 0)).1 (xs.getD k (0, 0)).2) := by rw [HW.out]; exact HC.out k hlt
          have c2 : wr.cell? ⟨g', k, none⟩ = some (.complex .f64 (ys.getD k (0, 0)).1 (ys.getD k (0, 0)).2) := by rw [HW.out]; exact HC'.out k hlt
          obtain ⟨z, z1, z2⟩ := HE.out k hlt
          obtain ⟨⟨a, b⟩, hab⟩ : ∃ q, xs.getD k (0, 0) = q := ⟨_, rfl⟩
          obtain ⟨⟨c, d⟩, hcd⟩ : ∃ q, ys.getD k (0, 0) = q := ⟨_, rfl⟩
          rw [hab] at c1 z1
          rw [hcd] at c2 z2
          have S := fun w => l01Same_cn a b c d (z1.re.cn.trans z2.re.cn.symm) (z1.im.cn.trans z2.im.cn.symm) w
          clear hab hcd z1 z2
          go_wp2
          go_quiet ((go_at_call 51; exact Calls.quiet_of_same (S _)))
          go_wp2
          go_roundw
          case rel => exact ⟨k + 1, n + nq, by go_num, by omega, by rw [HW.out, World.drewN_drewN]⟩
          case measure => simp [intOf]; omega
        · have e : k = L := by omega
          subst e
          go_wp2
          go_ret
          exact ⟨rfl, n, HW.out⟩

set_option maxRecDepth 100000 in
theorem sameSignals_spec {v v' : Value} {xs ys : List C} {w : World} (h : Reads w v (cvals xs)) (h' : Reads w v' (cvals ys)) (hxy : xs.length = ys.length)
    (he : ∀ j, j < xs.length → ∃ z, IsC (xs.getD j (0, 0)) z ∧ IsC (ys.getD j (0, 0)) z) :
    Calls Try.prog 12 #[v, v'] w fun e w' => e = .returned (.bool true) ∧ ∃ n, w' = w.drewN n := by
  have HS := Lib.hid (l01SameSignals_any h h' hxy he)
  obtain ⟨a, cap, rfl⟩ := h.form
  obtain ⟨a', cap', rfl⟩ := h'.form
  clear h h' he hxy
  go_enter Try.func12, Try.ntmps12
  go_wp2_with fail
  refine HS.out.mono ?_
  rintro e w2 ⟨rfl, n, rfl⟩
  go_wp2
  go_ret
  exact ⟨rfl, n, rfl⟩

end Go.Proofs.Ytnbmbegjpkebmaa
