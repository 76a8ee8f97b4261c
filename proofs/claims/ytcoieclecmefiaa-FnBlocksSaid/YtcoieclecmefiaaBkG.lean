import Derived.Test.YtcoieclecmefiaaBkF
import Derived.Test.YtcoieclecmefiaaCom
/-
  A product by 1; blocks that do not overlap.
-/
set_option linter.unusedVariables false
set_option linter.unusedSimpArgs false
namespace Go.Proofs.Ytcoieclecmefiaa
open Go.RowKit Flt Fast
open Ieee (double)

theorem word_self {x : Nat} (h : x < 18446744073709551616) : double.word (x / 9223372036854775808 % 2 == 1) (x % 9223372036854775808) = x := by
  have hw : double.signWeight = 9223372036854775808 := by decide
  unfold Ieee.Format.word
  rw [hw]
  by_cases h1 : x < 9223372036854775808
  · rw [Nat.div_eq_of_lt h1, Nat.mod_eq_of_lt h1]; rfl
  · have e1 : x / 9223372036854775808 = 1 := by omega
    have e2 : x % 9223372036854775808 = x - 9223372036854775808 := by omega
    rw [e1, e2]
    show 9223372036854775808 + (x - 9223372036854775808) = x
    omega

theorem read_one : ∃ m p, double.read 4607182418800017408 = .number false m p ∧ m ≠ 0 ∧ m = 2 ^ 52 ∧ p = -52 := ⟨_, _, rfl, by decide, by decide, by decide⟩

/-- A product by 1 is the number itself. -/
theorem mul_one {a : Nat} {z : Option Nat} (h : IsF a z) : fop .mul .f64 z (some 4607182418800017408) = z := by
  by_cases hn : nan FloatKind.f64.format a = true
  · rw [← h.cn, cn_none hn]; rfl
  · have hn : nan FloatKind.f64.format a = false := by simpa using hn
    have hz : z = some a := by rw [← h.cn, cn_some hn]
    subst hz
    have ha := h.lt
    show Option.map double.write ((double.read a).product (double.read 4607182418800017408)) = some a
    obtain ⟨m1, p1, e1, hm1, rfl, rfl⟩ := read_one
    rw [e1]
    have hn' : nan double a = false := hn
    rw [nan64] at hn'
    have hle : a % 9223372036854775808 ≤ 9218868437227405312 := by simpa using hn'
    have hw : double.signWeight = 9223372036854775808 := by decide
    have hi : double.infRung = 9218868437227405312 := by decide
    by_cases hf : a % 9223372036854775808 < 9218868437227405312
    · obtain ⟨m, p, e, l, v⟩ := read_fin double (x := a) (by rw [hw, hi]; exact hf)
      rw [hw] at e v
      rw [e]
      show some (double.nearest ((a / 9223372036854775808 % 2 == 1) ^^ false) (m * 2 ^ 52) (p + -52)) = some a
      rw [Bool.xor_false]
      congr 1
      have l64 : double.leastPlace = -1074 := by decide
      rw [l64] at l v
      rw [nearest_exact double (a / 9223372036854775808 % 2 == 1) (r := a % 9223372036854775808) (base := -1126) (by rw [hi]; exact hf) (by omega) (by rw [l64]; omega) ?_]
      · exact word_self ha
      · rw [l64, ← v]
        have e3 : (p + -52 - -1126).toNat = (p - -1074).toNat := by omega
        have e4 : ((-1074 : Int) - -1126).toNat = 52 := by omega
        rw [e3, e4, Nat.mul_assoc, Nat.mul_assoc, Nat.mul_comm (2 ^ 52)]
    · have he : a % 9223372036854775808 = 9218868437227405312 := by omega
      rw [read_inf double (x := a) (by rw [hw, hi]; exact he) hbi64, hw]
      show some (double.word ((a / 9223372036854775808 % 2 == 1) ^^ false) double.infRung) = some a
      rw [Bool.xor_false, hi, ← he, word_self ha]

theorem addBlk_new (q : Nat → Z) (zs : List Z) (m : Nat) : addBlk addZ z0 zs zs.length q m = zs ++ (List.range m).map q := by
  induction m with
  | zero => simp [addBlk]
  | succ m ih =>
    rw [addBlk, ih, addAt_ge _ _ (by simp), List.range_succ, List.map_append, List.append_assoc]
    rfl

/-- The numbers of a signal with zeros behind it. -/
def padQ (xs : List C) (j : Nat) : Z := if j < xs.length then zOf (xs.getD j (0, 0)) else z0

theorem apart_sum (xs : List C) (n c : Nat) : ovlL (blkQ xs n) n n c = (List.range (c * n)).map (padQ xs) := by
  unfold ovlL
  induction c with
  | zero => simp [addAll]
  | succ c ih =>
    have hl : (addAll addZ z0 (blkQ xs n) (fun _ => n) n c).length = c * n := by rw [ih]; simp
    rw [addAll, ← hl, addBlk_new, ih]
    apply List.ext_getElem
    · simp [Nat.add_mul]
    · intro i h1 h2
      simp only [List.length_append, List.length_map, List.length_range] at h1
      by_cases hi : i < c * n
      · rw [List.getElem_append_left (by simpa using hi)]; simp
      · rw [List.getElem_append_right (by simp; omega)]
        simp only [List.getElem_map, List.getElem_range, List.length_map, List.length_range]
        unfold blkQ padQ
        rw [show c * n + (i - c * n) = i by omega]

end Go.Proofs.Ytcoieclecmefiaa
