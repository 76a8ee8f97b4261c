import Derived.Test.YtpphmolfhogepaaDoorRow
import Derived.Test.YtpphmolfhogepaaDoorRows
/-
  The walks of eqInt64S, markInt64S and heldInt64S over slices that the call itself has made.
-/
set_option linter.unusedVariables false
set_option linter.unusedSimpArgs false
namespace Go.Proofs.YtpphmolfhogepaaDoor
open Go.RowKit

/-- Integers as values. -/
def ints (zs : List Int) : List Value := zs.map (Value.int .i64)
theorem ints_length (zs : List Int) : (ints zs).length = zs.length := by simp [ints]
theorem ints_getD {zs : List Int} {j : Nat} (h : j < zs.length) : (ints zs).getD j undef = .int .i64 (zs.getD j 0) := getD_map _ zs 0 h

/-- The numbers that are laid in a row: from m on. -/
def marks (m n : Nat) : List Int := (List.range n).map fun i => ((m + i : Nat) : Int)

theorem marks_length (m n : Nat) : (marks m n).length = n := by simp [marks]
theorem marks_getD {m n j : Nat} (h : j < n) : (marks m n).getD j 0 = ((m + j : Nat) : Int) := by simp [marks, List.getD, h]

/-- The first k values of a row are turned, by f. -/
def turned (f : Nat → Value) (k : Nat) (cs : List Value) : List Value := (List.range k).map f ++ cs.drop k
theorem turned_zero (f : Nat → Value) (cs : List Value) : turned f 0 cs = cs := by simp [turned]
theorem turned_all (f : Nat → Value) (cs : List Value) : turned f cs.length cs = (List.range cs.length).map f := by simp [turned]
theorem turned_step {f : Nat → Value} {k : Nat} {cs : List Value} (h : k < cs.length) : (turned f k cs).set k (f k) = turned f (k + 1) cs := by
  unfold turned
  rw [List.set_append_right _ _ (by simp), List.length_map, List.length_range, Nat.sub_self]
  rw [List.drop_eq_getElem_cons h, List.set_cons_zero]
  rw [List.range_succ, List.map_append, List.append_assoc]
  rfl
theorem turned_length {f : Nat → Value} {k : Nat} {cs : List Value} (h : k ≤ cs.length) : (turned f k cs).length = cs.length := by simp [turned]; omega

theorem ints_marks (m n : Nat) : ints (marks m n) = (List.range n).map fun i => .int .i64 ((m + i : Nat) : Int) := by simp [ints, marks]

end Go.Proofs.YtpphmolfhogepaaDoor
