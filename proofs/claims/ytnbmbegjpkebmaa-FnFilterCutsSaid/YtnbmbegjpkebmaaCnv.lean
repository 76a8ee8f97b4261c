import Derived.Test.YtnbmbegjpkebmaaSums
import Derived.Test.YtnbmbegjpkebmaaNumC
import Derived.Test.YtnbmbegjpkebmaaPlcC
/-
  Convolutions, pure: terms, their counts, sums. Signals as slices that begin anywhere.
-/
set_option linter.unusedVariables false
set_option linter.unusedSimpArgs false
namespace Go.Proofs.Ytnbmbegjpkebmaa
open Go.RowKit Flt Fast

/-- How many numbers a convolution has. -/
def cvLen (a b : Nat) : Nat := if a = 0 ∨ b = 0 then 0 else a + b - 1
/-- The first place of h that meets a number of x, at the place n; and how many there are. -/
def cvLo (a n : Nat) : Nat := n + 1 - a
def cvCnt (a b n : Nat) : Nat := min (n + 1) b - (n + 1 - a)
def cvTerm (x h : List Z) (n j : Nat) : Z := mulZ (h.getD (cvLo x.length n + j) z0) (x.getD (n - (cvLo x.length n + j)) z0)
def cvSum (x h : List Z) (n m : Nat) : Z := sumC (cvTerm x h n) m
def cvAt (x h : List Z) (n : Nat) : Z := cvSum x h n (cvCnt x.length h.length n)
/-- The convolution. -/
def cvAll (x h : List Z) : List Z := (List.range (cvLen x.length h.length)).map (cvAt x h)

theorem cvLen_nil (b : Nat) : cvLen 0 b = 0 := by simp [cvLen]
theorem cvLen_nil' (a : Nat) : cvLen a 0 = 0 := by simp [cvLen]
theorem cvLen_pos {a b : Nat} (ha : a ≠ 0) (hb : b ≠ 0) : cvLen a b = a + b - 1 := by simp [cvLen, ha, hb]
theorem cvLen_le (a b : Nat) : cvLen a b ≤ a + b := by unfold cvLen; split <;> omega
theorem cvLen_zero {a b : Nat} (h : a = 0 ∨ b = 0) : cvLen a b = 0 := by simp [cvLen, h]
theorem cvCnt_pos {a b n : Nat} (h : n < cvLen a b) : 0 < cvCnt a b n := by
  unfold cvLen at h; split at h
  · omega
  · unfold cvCnt; omega
theorem cvCnt_le (a b n : Nat) : cvCnt a b n ≤ b := by unfold cvCnt; omega
/-- Each term has both numbers. -/
theorem cvIn {a b n j : Nat} (hj : j < cvCnt a b n) : cvLo a n + j < b ∧ cvLo a n + j ≤ n ∧ n - (cvLo a n + j) < a := by
  unfold cvCnt cvLo at *; omega
theorem cvLo_cnt {a b n : Nat} (h : n < cvLen a b) : cvLo a n + cvCnt a b n = min (n + 1) b := by
  unfold cvLen at h; split at h
  · omega
  · unfold cvCnt cvLo; omega
theorem cvAll_length (x h : List Z) : (cvAll x h).length = cvLen x.length h.length := by simp [cvAll]
theorem cvAll_getD {x h : List Z} {n : Nat} (hn : n < cvLen x.length h.length) : (cvAll x h).getD n z0 = cvAt x h n := by simp [cvAll, List.getD, hn]
theorem cvSum_one (x h : List Z) (n : Nat) : cvSum x h n 1 = cvTerm x h n 0 := sumC_one _
theorem cvSum_succ (x h : List Z) (n : Nat) {m : Nat} (hm : m ≠ 0) : cvSum x h n (m + 1) = addZ (cvSum x h n m) (cvTerm x h n m) := sumC_succ _ hm

/-- A slice that reads as these numbers, in a block below B; it may begin anywhere. -/
inductive RdO (B : Nat) (w : World) : Value → List C → Prop
  | nil (a : Option Addr) (cap : Nat) (hm : cap ≤ maxLen) : RdO B w (.slice a 0 cap) []
  | row (g o cap L : Nat) (xs : List C) (hL : xs.length = L) (h0 : 0 < L) (hc : L ≤ cap) (hm : cap ≤ maxLen) (hb : g < B) (h : ∀ j, j < L → w.cell? ⟨g, o + j, Option.none⟩ = some (cval (xs.getD j (0, 0)))) : RdO B w (.slice (some ⟨g, o, Option.none⟩) L cap) xs

theorem RdO.below {B : Nat} {w w' : World} {v : Value} {xs : List C} (h : RdO B w v xs) (hb : Below B w w') : RdO B w' v xs := by
  cases h with
  | nil a cap hm => exact .nil a cap hm
  | row g o cap L xs hL h0 hc hm hg h => exact .row g o cap L xs hL h0 hc hm hg fun j hj => by rw [hb.cell (p := ⟨g, o + j, none⟩) hg]; exact h j hj
theorem RdO.base {B B' : Nat} {w : World} {v : Value} {xs : List C} (h : RdO B w v xs) (hB : B ≤ B') : RdO B' w v xs := by
  cases h with
  | nil a cap hm => exact .nil a cap hm
  | row g o cap L xs hL h0 hc hm hg h => exact .row g o cap L xs hL h0 hc hm (by omega) h
/-- The form of the value, and what is read. -/
theorem RdO.find {B : Nat} {w : World} {v : Value} {xs : List C} (h : RdO B w v xs) :
    ∃ a cap, v = .slice a xs.length cap ∧ xs.length ≤ cap + xs.length ∧ xs.length ≤ maxLen ∧ ∀ j, j < xs.length → ∃ g o, a = some ⟨g, o, none⟩ ∧ g < B ∧ w.cell? ⟨g, o + j, none⟩ = some (cval (xs.getD j (0, 0))) := by
  cases h with
  | nil a cap hm => exact ⟨a, cap, rfl, by omega, by simp, fun j hj => absurd hj (by simp)⟩
  | row g o cap L xs hL h0 hc hm hg h => subst hL; exact ⟨_, cap, rfl, by omega, by omega, fun j hj => ⟨g, o, rfl, hg, h j hj⟩⟩
theorem RdO.of_row {B b e : Nat} {w : World} {v : Value} {xs : List C} (h : Row w b e v (cvals xs)) (hb : ∀ k, v.ownBlock = some k → k < B) : RdO B w v xs := by
  rcases h.2 with ⟨rfl, h0⟩ | ⟨g, cap, cur, rfl, hbb, hg, hnc, hcm, _⟩
  · rw [cvals_length] at h0
    obtain rfl := List.eq_nil_of_length_eq_zero h0
    exact .nil none 0 (by simp)
  · have h' := h
    rw [cvals_length] at hnc
    by_cases h0 : xs.length = 0
    · obtain rfl := List.eq_nil_of_length_eq_zero h0
      exact .nil _ _ hcm
    · have hc : ∀ j, j < xs.length → w.cell? ⟨g, 0 + j, none⟩ = some (cval (xs.getD j (0, 0))) := fun j hj => by
        rw [Nat.zero_add, h'.cellAt (by rw [cvals_length]; exact hj), cvals_getD hj]; rfl
      rw [cvals_length]
      exact .row g 0 cap xs.length xs rfl (by omega) hnc hcm (hb g (by simp [Value.ownBlock])) hc
theorem RdO.rdC {B : Nat} {w : World} {v : Value} {xs : List C} (h : RdO B w v xs) (hB : B ≤ w.heap.size) : RdC w v xs := by
  cases h with
  | nil a cap hm => exact ⟨a, cap, rfl, Nat.zero_le _, hm, fun j hj => absurd hj (by simp)⟩
  | row g o cap L xs hL h0 hc hm hg h => subst hL; exact ⟨_, cap, rfl, hc, hm, fun j hj => ⟨g, o, rfl, by omega, h j hj⟩⟩

/-- Numbers that fit what they should be, one by one. -/
def IsCs (ps : List C) (zs : List Z) : Prop := ps.length = zs.length ∧ ∀ i, i < zs.length → IsC (ps.getD i (0, 0)) (zs.getD i z0)

end Go.Proofs.Ytnbmbegjpkebmaa
