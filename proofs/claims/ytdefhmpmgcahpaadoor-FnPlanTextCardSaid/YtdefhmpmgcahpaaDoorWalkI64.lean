import Derived.Test.YtdefhmpmgcahpaaDoorRow
import Derived.Test.YtdefhmpmgcahpaaDoorRows
/-
  The walks of eqInt64S, markInt64S and heldInt64S over slices that the call itself has made.
-/
set_option linter.unusedVariables false
set_option linter.unusedSimpArgs false
namespace Go.Proofs.YtdefhmpmgcahpaaDoor
open Go.RowKit

/-- Integers as values. -/
def ints (zs : List Int) : List Value := zs.map (Value.int .i64)
theorem ints_length (zs : List Int) : (ints zs).length = zs.length := by simp [ints]
theorem ints_getD {zs : List Int} {j : Nat} (h : j < zs.length) : (ints zs).getD j undef = .int .i64 (zs.getD j 0) := getD_map _ zs 0 h

set_option maxRecDepth 100000 in
set_option maxHeartbeats 1600000 in
theorem eqInt64_any {v v' : Value} {zs : List Int} {w : World} (h : Reads w v (ints zs)) (h' : Reads w v' (ints zs)) :
    Calls Tryd.prog 49 #[v, v'] w fun e w' => e = .returned (.bool true) ∧ ∃ n, w' = w.drewN n := by
  generalize hcs : ints zs = cs at h h'
  cases h with
  | none a cap =>
    cases h' with
    | none a' cap' =>
      go_enter Tryd.func49, Tryd.ntmps49
      go_wp2
      refine wp_loop_rounds 1 ?_
      rw [rounds_succ]
      go_wp2
      go_ret
      exact ⟨rfl, 0, rfl⟩
    | row g cap L cs hL h0 => simp at hL; omega
  | row g cap L cs hL h0 hc hm hcell =>
    cases h' with
    | none a' cap' => simp at hL; omega
    | row g' cap' L' _ hL' _ _ _ hcell' =>
      obtain rfl : L = L' := by omega
      have hmax := maxLen_int (Nat.le_trans hc hm)
      have hlen : zs.length = L := by rw [← hL, ← hcs, ints_length]
      have HC : Hid (∀ j, j < L → w.cell? ⟨g, j, none⟩ = some (.int .i64 (zs.getD j 0))) := fun j hj => by rw [hcell j hj, ← hcs, ints_getD (by omega)]
      have HC' : Hid (∀ j, j < L → w.cell? ⟨g', j, none⟩ = some (.int .i64 (zs.getD j 0))) := fun j hj => by rw [hcell' j hj, ← hcs, ints_getD (by omega)]
      clear hcell hcell' h0 hL hL' hcs hlen hm hc
      go_enter Tryd.func49, Tryd.ntmps49
      go_wp2
      go_loopw [5] (fun i wr => ∃ k n : Nat, i = .int .i64 k ∧ k ≤ L ∧ wr = w.drewN n) (fun i _ => L - (intOf i).toNat)
      case atStart => exact ⟨0, 0, rfl, Nat.zero_le _, rfl⟩
      case round =>
        obtain ⟨k, n, rfl, hk, rfl⟩ := hrel
        by_cases hlt : k < L
        · have c1 : w.cell? ⟨g, k, none⟩ = some (.int .i64 (zs.getD k 0)) := HC.out k hlt
          have c2 : w.cell? ⟨g', k, none⟩ = some (.int .i64 (zs.getD k 0)) := HC'.out k hlt
          obtain ⟨z, hz⟩ : ∃ z, zs.getD k 0 = z := ⟨_, rfl⟩
          rw [hz] at c1 c2
          clear hz
          go_wp2
          go_quiet (fail)
          go_wp2
          go_roundw
          case rel => exact ⟨k + 1, n + nq, by go_num, by omega, rfl⟩
          case measure => simp [intOf]; omega
        · have e : k = L := by omega
          subst e
          go_wp2
          go_ret
          exact ⟨rfl, n, rfl⟩

/-- The numbers that are laid in a row: from m on. -/
def marks (m n : Nat) : List Int := (List.range n).map fun i => ((m + i : Nat) : Int)

theorem marks_length (m n : Nat) : (marks m n).length = n := by simp [marks]
theorem marks_getD {m n j : Nat} (h : j < n) : (marks m n).getD j 0 = ((m + j : Nat) : Int) := by simp [marks, List.getD, h]

/-- The first k values of a row are turned, by f. -/
def turned (f : Nat → Value) (k : Nat) (cs : List Value) : List Value := (List.range k).map f ++ cs.drop k
theorem turned_zero (f : Nat → Value) (cs : List Value) : turned f 0 cs = cs := by simp [turned]
theorem turned_all (f : Nat → Value) (cs : List Value) : turned f cs.length cs = (List.range cs.length).map f := by simp [turned]
theorem turned_step {f : Nat → Value} {k : Nat} {cs : List Value} (h : k < cs.length) : (turned f k cs).set k (f k) = turned f (k + 1) cs := by
  unfold turned
  rw [List.set_append_right _ _ (by simp), List.length_map, List.length_range, Nat.sub_self]
  rw [List.drop_eq_getElem_cons h, List.set_cons_zero]
  rw [List.range_succ, List.map_append, List.append_assoc]
  rfl
theorem turned_length {f : Nat → Value} {k : Nat} {cs : List Value} (h : k ≤ cs.length) : (turned f k cs).length = cs.length := by simp [turned]; omega

theorem ints_marks (m n : Nat) : ints (marks m n) = (List.range n).map fun i => .int .i64 ((m + i : Nat) : Int) := by simp [ints, marks]

set_option maxRecDepth 100000 in
set_option maxHeartbeats 1600000 in
theorem markInt64_any {v : Value} {cs : List Value} {B m : Nat} {w : World} (h : Row w B 2 v cs) (hm : m ≤ 10000000000000) (hz : cs.length ≤ 10000000000000) :
    Calls Tryd.prog 50 #[v, .int .i64 m] w fun e w' => e = .returned (.int .i64 ((m + cs.length : Nat) : Int)) ∧ Row w' B 2 v (ints (marks m cs.length)) ∧ w.grownBy w' v.ownBlock := by
  have hown := h
  rcases h.shape with ⟨a, cap, rfl, rfl⟩ | ⟨g, cap, rfl, h0, hB, hlt, hc, hcm⟩
  · have HO := Lib.hid h
    clear h hown
    go_enter Tryd.func50, Tryd.ntmps50
    go_wp2
    refine wp_loop_rounds 1 ?_
    rw [rounds_succ]
    go_wp2
    go_ret
    exact ⟨rfl, HO.out, World.grownBy.refl _ _⟩
  · obtain ⟨L, hL⟩ : ∃ L, cs.length = L := ⟨_, rfl⟩
    rw [hL] at h hz hc h0
    rw [show (Value.slice (some ⟨g, 0, none⟩) cs.length cap) = (Value.slice (some ⟨g, 0, none⟩) L cap) by rw [hL], hL, ints_marks]
    have hmax := maxLen_int (Nat.le_trans hc hcm)
    have hmL : m + L ≤ 20000000000000 := by omega
    obtain ⟨f, hf⟩ : ∃ f : Nat → Value, (fun i => Value.int .i64 ((m + i : Nat) : Int)) = f := ⟨_, rfl⟩
    have HO := Lib.hid h
    have HL := Lib.hid hL
    have HFd := Lib.hid hf
    rw [hf]
    clear h hown hf h0 hL hm hcm
    go_enter Tryd.func50, Tryd.ntmps50
    go_wp2
    go_loopw [1, 5] (fun j i wr => ∃ k : Nat, i = .int .i64 k ∧ j = .int .i64 ((m + k : Nat) : Int) ∧ k ≤ L ∧ Row wr B 2 (.slice (some ⟨g, 0, none⟩) L cap) (turned f k cs) ∧ w.grownBy wr (some g)) (fun _ i _ => L - (intOf i).toNat)
    case atStart => exact ⟨0, rfl, rfl, Nat.zero_le _, by rw [turned_zero]; exact HO.out, World.grownBy.refl _ _⟩
    case round =>
      obtain ⟨k, rfl, rfl, hk, hown, hg⟩ := hrel
      by_cases hlt' : k < L
      · have hS := hown.set k (f k)
        rw [turned_step (by rw [HL.out]; exact hlt')] at hS
        have hfk : f k = Value.int .i64 ((m + k : Nat) : Int) := by rw [← HFd.out]
        rw [hfk] at hS
        have c1 := hown.cellAt hlt'
        have f1 := hown.frozenAt k
        obtain ⟨z, hz⟩ : ∃ z, (turned f k cs).getD k undef = z := ⟨_, rfl⟩
        rw [hz] at c1
        have HS := Lib.hid hS
        have HG := Lib.hid (hg.trans hS.2)
        clear hz hown hg hS hfk
        go_wp2
        go_roundw
        case rel => exact ⟨k + 1, by go_num, by go_num, by omega, HS.out.1, HG.out⟩
        case measure => simp [intOf]; omega
      · have e : k = L := by omega
        subst e
        have HOW := Lib.hid hown
        have HG := Lib.hid hg
        clear hown hg
        go_wp2
        go_ret
        refine ⟨rfl, ?_, HG.out⟩
        have := HOW.out
        rw [← HL.out, turned_all] at this
        rw [← HL.out]
        exact this

set_option maxRecDepth 100000 in
set_option maxHeartbeats 1600000 in
theorem heldInt64_any {v : Value} {m n : Nat} {w : World} (h : Reads w v (ints (marks m n))) (hm : m ≤ 10000000000000) (hz : n ≤ 10000000000000) :
    Calls Tryd.prog 51 #[v, .int .i64 m] w fun e w' => e = .returned (.int .i64 ((m + n : Nat) : Int)) ∧ w' = w := by
  have hlen : (ints (marks m n)).length = n := by rw [ints_length, marks_length]
  generalize hcs : ints (marks m n) = cs at h hlen
  cases h with
  | none a cap =>
    simp at hlen
    subst hlen
    clear hcs
    go_enter Tryd.func51, Tryd.ntmps51
    go_wp2
    refine wp_loop_rounds 1 ?_
    rw [rounds_succ]
    go_wp2
    go_ret
    exact ⟨rfl, rfl⟩
  | row g cap L cs hL h0 hc hcm hcell =>
    obtain rfl : L = n := by omega
    have hmax := maxLen_int (Nat.le_trans hc hcm)
    have HC : Hid (∀ j, j < L → w.cell? ⟨g, j, none⟩ = some (.int .i64 ((m + j : Nat) : Int))) := fun j hj => by rw [hcell j hj, ← hcs, ints_getD (by rw [marks_length]; exact hj), marks_getD hj]
    have hmL : m + L ≤ 20000000000000 := by omega
    clear hcell h0 hL hcs hlen hcm hm
    go_enter Tryd.func51, Tryd.ntmps51
    go_wp2
    go_loopw [1, 5] (fun j i wr => ∃ k : Nat, i = .int .i64 k ∧ j = .int .i64 ((m + k : Nat) : Int) ∧ k ≤ L ∧ wr = w) (fun _ i _ => L - (intOf i).toNat)
    case atStart => exact ⟨0, rfl, rfl, Nat.zero_le _, rfl⟩
    case round =>
      obtain ⟨k, rfl, rfl, hk, rfl⟩ := hrel
      by_cases hlt : k < L
      · have c1 := HC.out k hlt
        go_wp2
        go_roundw
        case rel => exact ⟨k + 1, by go_num, by go_num, by omega, (by first | rfl | trivial)⟩
        case measure => simp [intOf]; omega
      · have e : k = L := by omega
        subst e
        go_wp2
        go_ret
        exact ⟨rfl, rfl⟩

end Go.Proofs.YtdefhmpmgcahpaaDoor
