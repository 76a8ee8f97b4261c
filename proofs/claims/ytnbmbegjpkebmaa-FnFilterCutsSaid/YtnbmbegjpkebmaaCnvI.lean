import Derived.Test.YtnbmbegjpkebmaaCnv
import Derived.Test.YtnbmbegjpkebmaaRng
import Derived.RangeFuncNested
import Derived.RangeFuncBound
import Derived.RangeFuncCalls
import Derived.RangeFuncLeaves
import Derived.Shelf.Abstract
import Derived.Shelf.RegionOpen
import Derived.WalkKit
import Derived.OwnWalkIn
import Derived.TacticsInMore
import Derived.LoopNIn
import Derived.LoopIn
/-
  The iterator over the terms of a convolution.
-/
set_option linter.unusedVariables false
set_option linter.unusedSimpArgs false
namespace Go.Proofs.Ytnbmbegjpkebmaa
open Go.RowKit Go.Shelf Flt Fast
attribute [local go_sem] Oper.semAt_some

theorem wide_fn (k : Nat) : Fence.wide.fn k = True := rfl
theorem wide_depth : Fence.wide.depth.isSome = false := rfl
theorem wide_round : Fence.wide.round = none := rfl
theorem wide_fnR (l k : Nat) : (Fence.wide.inRound l).fn k = True := rfl
theorem wide_depthR (l : Nat) : (Fence.wide.inRound l).depth.isSome = false := rfl

/-- The greater one, as one word: the walk does not part on it. -/
def maxI (x y : Int) : Int := if y > x then y else x
theorem run_max_word {P : Program} {w : World} (ts : Array TypeId) (t : TypeId) (k k' : IntKind) (x y : Int) : (Builtin.max_ ts t #[.int k x, .int k' y]).run P w = .ok (.int k (maxI x y)) w := by
  simp [Builtin.max_, Builtin.max2, maxI]

/-- Whatever lay below n, but for block B, lies as it lay. -/
structure KeptBut (n B : Nat) (W W' : World) : Prop where
  os : W'.os = W.os
  tape : W'.tape = W.tape
  output : W'.output = W.output
  size : W.heap.size ≤ W'.heap.size
  block : ∀ k, k < n → k ≠ B → W'.heap[k]? = W.heap[k]?
theorem KeptBut.refl (n B : Nat) (W : World) : KeptBut n B W W := ⟨rfl, rfl, rfl, Nat.le_refl _, fun _ _ _ => rfl⟩
theorem KeptBut.trans {n B : Nat} {X Y Z : World} (h : KeptBut n B X Y) (k : KeptBut n B Y Z) : KeptBut n B X Z :=
  ⟨k.os.trans h.os, k.tape.trans h.tape, k.output.trans h.output, Nat.le_trans h.size k.size, fun b h1 h2 => (k.block b h1 h2).trans (h.block b h1 h2)⟩
theorem KeptBut.of_below {n B : Nat} {W W' : World} (h : Below W.heap.size W W') (hn : n ≤ W.heap.size) : KeptBut n B W W' :=
  ⟨h.os, h.tape, h.output, h.size, fun b h1 _ => h.block b (by omega)⟩
theorem KeptBut.cell {n B : Nat} {W W' : World} (h : KeptBut n B W W') {b o : Nat} (h1 : b < n) (h2 : b ≠ B) : W'.cell? ⟨b, o, none⟩ = W.cell? ⟨b, o, none⟩ := by
  simp [World.cell?, h.block b h1 h2]
theorem RdO.keptBut {n₀ n B : Nat} {w w' : World} {v : Value} {xs : List C} (h : RdO n₀ w v xs) (hk : KeptBut n B w w') (h1 : n₀ ≤ n) (h2 : n₀ ≤ B) : RdO n₀ w' v xs := by
  cases h with
  | nil a cap hm => exact .nil a cap hm
  | row g o cap L xs hL h0 hc hm hg h => exact .row g o cap L xs hL h0 hc hm hg fun j hj => by rw [hk.cell (by omega) (by omega)]; exact h j hj
theorem KeptBut.putObj {n B : Nat} (W : World) (l : Nat) (o : Obj) (h : n ≤ l) : KeptBut n B W (W.putObj l o) :=
  ⟨rfl, rfl, rfl, by simp, fun k hk _ => World.putObj_heap_other (by omega)⟩
theorem grown_of_below {W W' : World} (h : Below W.heap.size W W') : W.grownBy W' none := ⟨h.os, h.tape, h.output, h.size, fun k hk _ => h.block k hk⟩

set_option maxRecDepth 100000 in
set_option maxHeartbeats 1000000 in
theorem cvLength_any (a1 a2 : Option Addr) (n1 c1 n2 c2 : Nat) (h1 : n1 ≤ 1000000) (h2 : n2 ≤ 1000000) (w : World) :
    Calls Try.prog 36 #[.agg #[.slice a1 n1 c1, .slice a2 n2 c2]] w fun e w' => e = .returned (.int .i64 (cvLen n1 n2)) ∧ Below w.heap.size w w' := by
  by_cases hz : n1 = 0
  · subst hz
    rw [cvLen_nil]
    go_enter Try.func36, Try.ntmps36
    go_wp2
    go_ret
    exact ⟨rfl, (Below.refl _ _).alloc (Nat.le_refl _) _⟩
  · by_cases hy : n2 = 0
    · subst hy
      rw [cvLen_nil']
      have g1 : ((n1 : Int) == 0) = false := by simp; omega
      go_enter Try.func36, Try.ntmps36
      go_wp2
      go_ret
      exact ⟨rfl, (Below.refl _ _).alloc (Nat.le_refl _) _⟩
    · obtain ⟨L, hL⟩ : ∃ L, cvLen n1 n2 = L := ⟨_, rfl⟩
      have hL2 : ((n1 : Int) + n2 - 1) = (L : Int) := by rw [← hL, cvLen_pos hz hy]; omega
      rw [hL]
      have g1 : ((n1 : Int) == 0) = false := by simp; omega
      have g2 : ((n2 : Int) == 0) = false := by simp; omega
      have HL := Lib.hid hL2
      clear hL hL2
      go_enter Try.func36, Try.ntmps36
      go_wp2
      go_ret
      exact ⟨by rw [HL.out]; rfl, (Below.refl _ _).alloc (Nat.le_refl _) _⟩

end Go.Proofs.Ytnbmbegjpkebmaa
