import Derived.Test.YtpobbicbfnglaaaWinD
/-
  The sums over all hops: OverlapSums of both.
-/
set_option linter.unusedVariables false
set_option linter.unusedSimpArgs false
namespace Go.Proofs.Ytpobbicbfnglaaa
open Go.RowKit Flt Fast
attribute [local go_sem] run_fadd run_fsub run_fmul run_fquo run_cadd run_csub

/-- What is told of a window and a hop. -/
def hopK (n : Nat) (h : Int) : Int := if 256 < n then 3 else if 1 ≤ h ∧ h ≤ n then 0 else 2

/-- How many numbers stand p places apart from the place i on. -/
def ovC (n p i : Nat) : Nat := (n - i + p - 1) / p
theorem ovC_iff {n p i : Nat} (hp : 0 < p) (t : Nat) : i + t * p < n ↔ t < ovC n p i := by
  unfold ovC
  rw [Nat.lt_iff_add_one_le, Nat.lt_iff_add_one_le, Nat.le_div_iff_mul_le hp, Nat.add_mul, Nat.one_mul]
  omega
theorem ovC_pos {n p i : Nat} (hp : 0 < p) (h : i < n) : 0 < ovC n p i := (ovC_iff hp 0).1 (by omega)
/-- The numbers p places apart from i on, and their sum. -/
def ovZ (xs : List Nat) (p i t : Nat) : Option Nat := wO xs (i + t * p)
def ovS (xs : List Nat) (p i : Nat) : Option Nat := sumO (ovZ xs p i) (ovC xs.length p i)

/-- What OverlapSums and FlatWindow answer: how many numbers, which ones, and the code. -/
def ovN (n : Nat) (h : Int) : Nat := if hopK n h = 0 then h.toNat else 0
theorem hopK_zero {n : Nat} {h : Int} (hk : hopK n h = 0) : 1 ≤ h ∧ h ≤ n ∧ n ≤ 256 := by
  unfold hopK at hk
  split at hk
  · omega
  · split at hk
    · omega
    · omega
theorem ovN_le (n : Nat) (h : Int) : ovN n h ≤ 100000000 := by
  unfold ovN
  split
  · rename_i hk
    have := hopK_zero hk
    omega
  · omega

end Go.Proofs.Ytpobbicbfnglaaa
