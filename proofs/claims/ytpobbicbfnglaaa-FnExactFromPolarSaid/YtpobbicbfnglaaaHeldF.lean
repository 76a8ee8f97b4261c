import Derived.Test.YtpobbicbfnglaaaFloats
/-
  The walk of heldFloat64S.
-/
set_option linter.unusedVariables false
set_option linter.unusedSimpArgs false
namespace Go.Proofs.Ytpobbicbfnglaaa
open Go.RowKit Flt

set_option maxRecDepth 100000 in
set_option maxHeartbeats 1600000 in
theorem heldFloat64_any {v : Value} {m n : Nat} {w : World} (h : Reads w v (fmarks m n)) (hm : m ≤ 1000000000000) (hz : n ≤ 1000000000000) :
    Calls Try.prog 18 #[v, .int .i64 m] w fun e w' => e = .returned (.int .i64 ((m + n : Nat) : Int)) ∧ w' = w := by
  have hlen : (fmarks m n).length = n := fmarks_length m n
  generalize hcs : fmarks m n = cs at h hlen
  cases h with
  | none a cap =>
    simp at hlen
    subst hlen
    clear hcs
    go_enter Try.func18, Try.ntmps18
    go_wp2
    refine wp_loop_rounds 1 ?_
    rw [rounds_succ]
    go_wp2
    go_ret
    exact ⟨rfl, rfl⟩
  | row g cap L cs hL h0 hc hcm hcell =>
    obtain rfl : L = n := by omega
    have hmax := maxLen_int (Nat.le_trans hc hcm)
    have HC : Hid (∀ j, j < L → w.cell? ⟨g, j, none⟩ = some (.float .f64 (floatOfInt .f64 ((m : Int) + (j : Int))))) := fun j hj => by rw [hcell j hj, ← hcs, fmarks_getD hj]; unfold fmark; rw [Int.natCast_add]
    have hmL : m + L ≤ 2000000000000 := by omega
    clear hcell h0 hL hcs hlen hcm hm
    go_enter Try.func18, Try.ntmps18
    go_wp2
    go_loopw [1, 5] (fun j i wr => ∃ k : Nat, i = .int .i64 k ∧ j = .int .i64 ((m + k : Nat) : Int) ∧ k ≤ L ∧ wr = w) (fun _ i _ => L - (intOf i).toNat)
    case atStart => exact ⟨0, rfl, rfl, Nat.zero_le _, rfl⟩
    case round =>
      obtain ⟨k, rfl, rfl, hk, rfl⟩ := hrel
      by_cases hlt : k < L
      · have c1 := HC.out k hlt
        have o1 := ord_eq (nan_floatOfInt .f64 ((m : Int) + (k : Int))) (nan_floatOfInt .f64 ((m : Int) + (k : Int))) rfl
        go_wp2
        go_roundw
        case rel => exact ⟨k + 1, by go_num, by go_num, by omega, (by first | rfl | trivial)⟩
        case measure => simp [intOf]; omega
      · have e : k = L := by omega
        subst e
        go_wp2
        go_ret
        exact ⟨rfl, rfl⟩

end Go.Proofs.Ytpobbicbfnglaaa
