/-
  Floats: how the words of IEEE 754 stand to each other (by their places in the order), the other sign, a number less itself; and the walk's laws for operations on floats of any kind, a NaN being drawn. No program is named here.
-/
import Ieee.Arith
import Derived.Laws.FloatBits
import Derived.WalkKit
import Derived.WalkLawsBesides
import Derived.Deep.Draws
set_option linter.unusedVariables false
set_option linter.unusedSimpArgs false
namespace Go.Proofs.YtdefhmpmgcahpaaDoor.Flt
section

open Ieee

variable (f : Format)

/-- The size of the number at a rung below infinity, in units of the last place. -/
def val (r : Nat) : Nat := if r < f.binade then r else (f.binade + r % f.binade) * 2 ^ (r / f.binade - 1)

theorem binade_pos : 0 < f.binade := Nat.two_pow_pos _

theorem val_lt {r s : Nat} (h : r < s) : val f r < val f s := by
  have hb := binade_pos f
  have hr := Nat.mod_lt r hb
  have hs := Nat.mod_lt s hb
  have er := Nat.div_add_mod r f.binade
  have es := Nat.div_add_mod s f.binade
  unfold val
  generalize f.binade = b at *
  have hle : r / b ≤ s / b := Nat.div_le_div_right (Nat.le_of_lt h)
  split
  · rename_i h1
    split
    · exact h
    · rename_i h2
      have h3 : 0 < 2 ^ (s / b - 1) := Nat.two_pow_pos _
      have : b + s % b ≤ (b + s % b) * 2 ^ (s / b - 1) := Nat.le_mul_of_pos_right _ h3
      omega
  · rename_i h1
    rw [if_neg (by omega)]
    have q1 : 1 ≤ r / b := (Nat.le_div_iff_mul_le hb).2 (by omega)
    by_cases hq : r / b = s / b
    · have hm : b * (r / b) = b * (s / b) := by rw [hq]
      have h3 : 0 < 2 ^ (s / b - 1) := Nat.two_pow_pos _
      rw [hq]
      exact Nat.mul_lt_mul_of_pos_right (by omega) h3
    · have h3 : 0 < 2 ^ (r / b - 1) := Nat.two_pow_pos _
      calc (b + r % b) * 2 ^ (r / b - 1) < (b + b) * 2 ^ (r / b - 1) := Nat.mul_lt_mul_of_pos_right (by omega) h3
        _ = b * 2 ^ (r / b) := by
          conv => rhs; rw [show r / b = (r / b - 1) + 1 by omega, Nat.pow_succ]
          rw [← Nat.two_mul, Nat.mul_comm 2 b, Nat.mul_assoc, Nat.mul_comm 2]
        _ ≤ b * 2 ^ (s / b - 1) := Nat.mul_le_mul_left _ (Nat.pow_le_pow_right (by omega) (by omega))
        _ ≤ (b + s % b) * 2 ^ (s / b - 1) := Nat.mul_le_mul_right _ (by omega)

theorem val_zero : val f 0 = 0 := by
  have := binade_pos f
  simp [val, this]

theorem val_inj {r s : Nat} (h : val f r = val f s) : r = s := by
  rcases Nat.lt_trichotomy r s with h1 | h1 | h1
  · have := val_lt f h1; omega
  · exact h1
  · have := val_lt f h1; omega

theorem compare_val (r s : Nat) : compare (val f r) (val f s) = compare r s := by
  rcases Nat.lt_trichotomy r s with h1 | h1 | h1
  · rw [Nat.compare_eq_lt.2 h1, Nat.compare_eq_lt.2 (val_lt f h1)]
  · subst h1; simp
  · rw [Nat.compare_eq_gt.2 h1, Nat.compare_eq_gt.2 (val_lt f h1)]

/-- NaN by the word. -/
def nan (x : Nat) : Bool := decide (f.infRung < x % f.signWeight)

theorem sw_pos : 0 < f.signWeight := Nat.two_pow_pos _

theorem sw_eq : f.infRung + f.binade = f.signWeight := f.infRung_add_binade

/-- The place of a word that is no NaN in the order; both zeros stand at 0. -/
def place (x : Nat) : Int := if x / f.signWeight % 2 = 1 then -((x % f.signWeight : Nat) : Int) else ((x % f.signWeight : Nat) : Int)

/-- Its value in units of the last place. -/
def sval (neg : Bool) (r : Nat) : Int := if neg then -(val f r : Int) else (val f r : Int)

theorem read_nan (hbi : f.binade ≤ f.infRung) {x : Nat} (h : nan f x = true) : ∃ s t, f.read x = .nan s t := by
  have hb := sw_eq f
  have := binade_pos f
  unfold nan at h
  have h := of_decide_eq_true h
  unfold Format.read
  dsimp only
  rw [if_neg (by omega), if_neg (by omega), if_neg (by omega)]
  exact ⟨_, _, rfl⟩

theorem read_inf {x : Nat} (h : x % f.signWeight = f.infRung) (hb : f.binade ≤ f.infRung) : f.read x = .infinity (x / f.signWeight % 2 == 1) := by
  unfold Format.read
  dsimp only
  rw [if_neg (by omega), if_neg (by omega), if_pos h]

theorem read_fin {x : Nat} (h : x % f.signWeight < f.infRung) : ∃ m p, f.read x = .number (x / f.signWeight % 2 == 1) m p ∧ f.leastPlace ≤ p ∧ m * 2 ^ (p - f.leastPlace).toNat = val f (x % f.signWeight) := by
  unfold Format.read val
  dsimp only
  split
  · exact ⟨_, _, rfl, Int.le_refl _, by simp⟩
  · refine ⟨_, _, rfl, by omega, ?_⟩
    congr 2
    omega


/-- What a finite word stands for. -/
def rsv (x : Nat) : Int := sval f (x / f.signWeight % 2 == 1) (x % f.signWeight)

theorem signed_eq (neg : Bool) (m k : Nat) : signed neg m k = if neg then -((m * 2 ^ k : Nat) : Int) else ((m * 2 ^ k : Nat) : Int) := by
  unfold signed
  rw [Nat.shiftLeft_eq]

theorem signed_scale (neg : Bool) (m k j : Nat) : signed neg m (k + j) = signed neg m k * (2 ^ j : Nat) := by
  rw [signed_eq, signed_eq, Nat.pow_add, ← Nat.mul_assoc]
  cases neg
  · simp only [Bool.false_eq_true, if_false]
    rw [Int.natCast_mul]
  · simp only [if_true]
    rw [Int.natCast_mul, Int.neg_mul]

theorem compare_scale (a b : Int) (j : Nat) : compare (a * (2 ^ j : Nat)) (b * (2 ^ j : Nat)) = compare a b := by
  have hp : (0 : Int) < (2 ^ j : Nat) := by have := Nat.two_pow_pos j; omega
  rcases Int.lt_trichotomy a b with h | h | h
  · rw [Int.compare_eq_lt.2 h, Int.compare_eq_lt.2 (Int.mul_lt_mul_of_pos_right h hp)]
  · subst h; simp
  · rw [Int.compare_eq_gt.2 h, Int.compare_eq_gt.2 (Int.mul_lt_mul_of_pos_right h hp)]


theorem sval_lt {s t : Bool} {a b : Nat} (h : (if s then -(a : Int) else a) < (if t then -(b : Int) else b)) : sval f s a < sval f t b := by
  unfold sval
  have z := val_zero f
  have l1 : ∀ x y : Nat, x < y → val f x < val f y := fun x y h => val_lt f h
  have l2 : ∀ x y : Nat, x ≤ y → val f x ≤ val f y := fun x y h => by
    rcases Nat.lt_or_eq_of_le h with h | h
    · exact Nat.le_of_lt (l1 _ _ h)
    · subst h; exact Nat.le_refl _
  have a0 := l1 0 a
  have b0 := l1 0 b
  have ab := l1 a b
  have ba := l1 b a
  cases s <;> cases t <;> simp only [if_true, Bool.false_eq_true, if_false] at * <;> omega

theorem compare_sval (s t : Bool) (a b : Nat) : compare (sval f s a) (sval f t b) = compare (if s then -(a : Int) else a) (if t then -(b : Int) else (b : Int)) := by
  rcases Int.lt_trichotomy (if s then -(a : Int) else a) (if t then -(b : Int) else (b : Int)) with h | h | h
  · rw [Int.compare_eq_lt.2 h, Int.compare_eq_lt.2 (sval_lt f h)]
  · rw [Int.compare_eq_eq.2 h]
    refine Int.compare_eq_eq.2 ?_
    have e : a = b := by cases s <;> cases t <;> simp only [if_true, Bool.false_eq_true, if_false] at h <;> omega
    subst e
    unfold sval
    by_cases h0 : a = 0
    · subst h0; rw [val_zero]; cases s <;> cases t <;> simp
    · cases s <;> cases t <;> simp only [if_true, Bool.false_eq_true, if_false] at * <;> omega
  · rw [Int.compare_eq_gt.2 h, Int.compare_eq_gt.2 (sval_lt f h)]

theorem place_eq (x : Nat) : place f x = if (x / f.signWeight % 2 == 1) then -((x % f.signWeight : Nat) : Int) else ((x % f.signWeight : Nat) : Int) := by
  unfold place
  by_cases h : x / f.signWeight % 2 = 1 <;> simp [h]

theorem order_fin {x y : Nat} (hx : x % f.signWeight < f.infRung) (hy : y % f.signWeight < f.infRung) : f.order x y = some (compare (place f x) (place f y)) := by
  obtain ⟨m, p, e1, l1, v1⟩ := read_fin f hx
  obtain ⟨n, q, e2, l2, v2⟩ := read_fin f hy
  unfold Format.order
  rw [e1, e2, place_eq, place_eq, ← compare_sval f]
  simp only [Datum.order]
  rw [← compare_scale _ _ (min p q - f.leastPlace).toNat, ← signed_scale, ← signed_scale,
    show (p - min p q).toNat + (min p q - f.leastPlace).toNat = (p - f.leastPlace).toNat by omega,
    show (q - min p q).toNat + (min p q - f.leastPlace).toNat = (q - f.leastPlace).toNat by omega, signed_eq, signed_eq, v1, v2]
  rfl

/-- HOW TWO WORDS STAND: by their places, if none is a NaN. -/
theorem order_eq (hbi : f.binade ≤ f.infRung) (x y : Nat) : f.order x y = if nan f x || nan f y then none else some (compare (place f x) (place f y)) := by
  by_cases nx : nan f x = true
  · obtain ⟨s, t, e⟩ := read_nan f hbi nx
    simp [nx, Format.order, e, Datum.order]
  by_cases ny : nan f y = true
  · obtain ⟨s, t, e⟩ := read_nan f hbi ny
    simp only [ny, Bool.or_true, if_true, Format.order, e]
    cases f.read x <;> simp [Datum.order]
  simp only [nx, ny, Bool.or_self, Bool.false_eq_true, if_false]
  have hx : ¬ f.infRung < x % f.signWeight := fun h => nx (by simp [nan, h])
  have hy : ¬ f.infRung < y % f.signWeight := fun h => ny (by simp [nan, h])
  by_cases ix : x % f.signWeight = f.infRung
  · by_cases iy : y % f.signWeight = f.infRung
    · rw [place_eq, place_eq, ix, iy]
      simp only [Format.order, read_inf f ix hbi, read_inf f iy hbi, Datum.order]
      have hb := binade_pos f
      have : (0 : Int) < f.infRung := by omega
      generalize hs : (x / f.signWeight % 2 == 1) = s
      generalize ht : (y / f.signWeight % 2 == 1) = t
      cases s <;> cases t <;> simp <;> first | rfl | skip
      · exact (Int.compare_eq_gt.2 (by omega)).symm
      · exact (Int.compare_eq_lt.2 (by omega)).symm
    · obtain ⟨n, q, e2, l2, v2⟩ := read_fin f (x := y) (by omega)
      rw [place_eq, place_eq, ix]
      simp only [Format.order, read_inf f ix hbi, e2, Datum.order]
      generalize hs : (x / f.signWeight % 2 == 1) = s
      generalize ht : (y / f.signWeight % 2 == 1) = t
      cases s
      · simp only [Bool.false_eq_true, if_false]
        exact congrArg some (Int.compare_eq_gt.2 (by cases t <;> simp only [if_true, Bool.false_eq_true, if_false] <;> omega)).symm
      · simp only [if_true]
        exact congrArg some (Int.compare_eq_lt.2 (by cases t <;> simp only [if_true, Bool.false_eq_true, if_false] <;> omega)).symm
  · by_cases iy : y % f.signWeight = f.infRung
    · obtain ⟨n, q, e2, l2, v2⟩ := read_fin f (x := x) (by omega)
      rw [place_eq, place_eq, iy]
      simp only [Format.order, read_inf f iy hbi, e2, Datum.order]
      generalize hs : (x / f.signWeight % 2 == 1) = s
      generalize ht : (y / f.signWeight % 2 == 1) = t
      cases t
      · simp only [Bool.false_eq_true, if_false]
        exact congrArg some (Int.compare_eq_lt.2 (by cases s <;> simp only [if_true, Bool.false_eq_true, if_false] <;> omega)).symm
      · simp only [if_true]
        exact congrArg some (Int.compare_eq_gt.2 (by cases s <;> simp only [if_true, Bool.false_eq_true, if_false] <;> omega)).symm
    · exact order_fin f (by omega) (by omega)

theorem xor_low {x k : Nat} (h : x < 2 ^ k) : x ^^^ 2 ^ k = x + 2 ^ k := by
  apply Nat.eq_of_testBit_eq
  intro i
  rw [Nat.testBit_xor, Nat.testBit_two_pow, Nat.add_comm]
  rcases Nat.lt_trichotomy i k with h1 | h1 | h1
  · rw [Nat.testBit_two_pow_add_gt h1, decide_eq_false (by omega)]; simp
  · subst h1; rw [Nat.testBit_two_pow_add_eq]; simp [Nat.testBit_lt_two_pow h]
  · have e1 : x.testBit i = false := Nat.testBit_lt_two_pow (Nat.lt_trans h (Nat.pow_lt_pow_right (by omega) h1))
    have e2 : (2 ^ k + x).testBit i = false := Nat.testBit_lt_two_pow (Nat.lt_of_lt_of_le (show 2 ^ k + x < 2 ^ (k + 1) by rw [Nat.pow_succ]; omega) (Nat.pow_le_pow_right (by omega) h1))
    rw [e1, e2, decide_eq_false (by omega)]; simp
theorem xor_high {x k : Nat} (h : x < 2 ^ k) : (x + 2 ^ k) ^^^ 2 ^ k = x := by
  rw [← xor_low h, Nat.xor_assoc, Nat.xor_self, Nat.xor_zero]

theorem hbi64 : Ieee.double.binade ≤ Ieee.double.infRung := by decide
theorem hbi32 : Ieee.single.binade ≤ Ieee.single.infRung := by decide
theorem sw64 : Ieee.double.signWeight = 9223372036854775808 := by decide
theorem sw32 : Ieee.single.signWeight = 2147483648 := by decide
theorem ir64 : Ieee.double.infRung = 9218868437227405312 := by decide
theorem ir32 : Ieee.single.infRung = 2139095040 := by decide

theorem nan64 (x : Nat) : nan Ieee.double x = decide (9218868437227405312 < x % 9223372036854775808) := by
  unfold nan; rw [sw64, ir64]
theorem nan32 (x : Nat) : nan Ieee.single x = decide (2139095040 < x % 2147483648) := by
  unfold nan; rw [sw32, ir32]

theorem place64_lo {x : Nat} (h : x < 9223372036854775808) : place Ieee.double x = x := by
  unfold place; rw [sw64, if_neg (by omega)]; omega
theorem place64_hi {x : Nat} (h : 9223372036854775808 ≤ x) (h' : x < 18446744073709551616) : place Ieee.double x = 9223372036854775808 - (x : Int) := by
  unfold place; rw [sw64, if_pos (by omega)]; omega
theorem place32_lo {x : Nat} (h : x < 2147483648) : place Ieee.single x = x := by
  unfold place; rw [sw32, if_neg (by omega)]; omega
theorem place32_hi {x : Nat} (h : 2147483648 ≤ x) (h' : x < 4294967296) : place Ieee.single x = 2147483648 - (x : Int) := by
  unfold place; rw [sw32, if_pos (by omega)]; omega

/-- The other sign. -/
theorem neg64_lo {x : Nat} (h : x < 9223372036854775808) : x ^^^ 2 ^ 63 = x + 9223372036854775808 := xor_low h
theorem neg64_hi {x : Nat} (h : 9223372036854775808 ≤ x) (h' : x < 18446744073709551616) : x ^^^ 2 ^ 63 = x - 9223372036854775808 := by
  obtain ⟨y, rfl⟩ : ∃ y, x = y + 9223372036854775808 := ⟨x - 9223372036854775808, by omega⟩
  rw [Nat.add_sub_cancel]; exact xor_high (k := 63) (by omega)
theorem neg32_lo {x : Nat} (h : x < 2147483648) : x ^^^ 2 ^ 31 = x + 2147483648 := xor_low h
theorem neg32_hi {x : Nat} (h : 2147483648 ≤ x) (h' : x < 4294967296) : x ^^^ 2 ^ 31 = x - 2147483648 := by
  obtain ⟨y, rfl⟩ : ∃ y, x = y + 2147483648 := ⟨x - 2147483648, by omega⟩
  rw [Nat.add_sub_cancel]; exact xor_high (k := 31) (by omega)

theorem neg64_lt {x : Nat} (h : x < 18446744073709551616) : x ^^^ 2 ^ 63 < 18446744073709551616 := by
  by_cases h1 : x < 9223372036854775808
  · rw [neg64_lo h1]; omega
  · rw [neg64_hi (by omega) h]; omega
theorem neg32_lt {x : Nat} (h : x < 4294967296) : x ^^^ 2 ^ 31 < 4294967296 := by
  by_cases h1 : x < 2147483648
  · rw [neg32_lo h1]; omega
  · rw [neg32_hi (by omega) h]; omega
theorem place_neg64 {x : Nat} (h : x < 18446744073709551616) : place Ieee.double (x ^^^ 2 ^ 63) = -place Ieee.double x := by
  by_cases h1 : x < 9223372036854775808
  · rw [neg64_lo h1, place64_lo h1, place64_hi (by omega) (by omega)]; omega
  · rw [neg64_hi (by omega) h, place64_hi (by omega) h, place64_lo (by omega)]; omega
theorem place_neg32 {x : Nat} (h : x < 4294967296) : place Ieee.single (x ^^^ 2 ^ 31) = -place Ieee.single x := by
  by_cases h1 : x < 2147483648
  · rw [neg32_lo h1, place32_lo h1, place32_hi (by omega) (by omega)]; omega
  · rw [neg32_hi (by omega) h, place32_hi (by omega) h, place32_lo (by omega)]; omega
theorem nan_neg64 {x : Nat} (h : x < 18446744073709551616) : nan Ieee.double (x ^^^ 2 ^ 63) = nan Ieee.double x := by
  rw [nan64, nan64]
  by_cases h1 : x < 9223372036854775808
  · rw [neg64_lo h1, show (x + 9223372036854775808) % 9223372036854775808 = x % 9223372036854775808 by omega]
  · rw [neg64_hi (by omega) h, show (x - 9223372036854775808) % 9223372036854775808 = x % 9223372036854775808 by omega]
theorem nan_neg32 {x : Nat} (h : x < 4294967296) : nan Ieee.single (x ^^^ 2 ^ 31) = nan Ieee.single x := by
  rw [nan32, nan32]
  by_cases h1 : x < 2147483648
  · rw [neg32_lo h1, show (x + 2147483648) % 2147483648 = x % 2147483648 by omega]
  · rw [neg32_hi (by omega) h, show (x - 2147483648) % 2147483648 = x % 2147483648 by omega]

/-- A number less itself. -/
theorem sub_self_fin {x : Nat} (h : x % f.signWeight < f.infRung) : f.sub x x = some 0 := by
  obtain ⟨m, p, e, -, -⟩ := read_fin f h
  unfold Format.sub
  rw [e]
  simp only [Datum.opposite, Datum.sum, Option.map_some, Format.write]
  generalize (x / f.signWeight % 2 == 1) = s
  have z : signed s m (p - min p p).toNat + signed (!s) m (p - min p p).toNat = 0 := by
    rw [signed_eq, signed_eq]; cases s <;> simp <;> omega
  rw [z]
  cases s <;> simp [Format.nearest, Format.word]
theorem sub_self_none (hbi : f.binade ≤ f.infRung) {x : Nat} (h : ¬ x % f.signWeight < f.infRung) : f.sub x x = none := by
  unfold Format.sub
  by_cases h1 : x % f.signWeight = f.infRung
  · rw [read_inf f h1 hbi]
    simp only [Datum.opposite, Datum.sum]
    generalize (x / f.signWeight % 2 == 1) = s
    cases s <;> rfl
  · obtain ⟨s, t, e⟩ := read_nan f hbi (x := x) (by simp [nan]; omega)
    rw [e]; rfl


theorem log2_mul_pow {n : Nat} (h : n ≠ 0) (k : Nat) : (n * 2 ^ k).log2 = n.log2 + k := by
  have h1 : n * 2 ^ k ≠ 0 := Nat.mul_ne_zero h (Nat.pos_iff_ne_zero.1 (Nat.two_pow_pos _))
  rw [Nat.log2_eq_iff h1]
  have a := Nat.log2_self_le h
  have b := Nat.lt_log2_self (n := n)
  constructor
  · rw [Nat.pow_add]; exact Nat.mul_le_mul_right _ a
  · rw [show n.log2 + k + 1 = (n.log2 + 1) + k by omega, Nat.pow_add]
    exact Nat.mul_lt_mul_of_pos_right b (Nat.two_pow_pos _)

theorem cut_exact (neg : Bool) {n drop k : Nat} (hk : k ≠ 0) (h : n = k * 2 ^ drop) : Toward.even.cut neg n drop = k := by
  have hl : n.log2 = k.log2 + drop := by rw [h]; exact log2_mul_pow hk drop
  unfold Toward.cut
  rw [show min drop (n.log2 + 2) = drop by omega, Nat.shiftLeft_eq, Nat.one_mul, h]
  have hp := Nat.two_pow_pos drop
  simp only [Nat.mul_mod_left, Nat.mul_div_cancel _ hp, Nat.mul_zero]
  have : (decide (2 ^ drop < 0) || (2 ^ drop == 0 && k % 2 == 1)) = false := by
    have : (2 ^ drop == 0) = false := by simp
    rw [this]; simp
  rw [this]; rfl

/-- A NUMBER THAT A WORD STANDS FOR IS WRITTEN AS THAT WORD. -/
theorem nearest_exact (neg : Bool) {m r : Nat} {p base : Int} (hr : r < f.infRung) (h1 : base ≤ p) (h2 : base ≤ f.leastPlace)
    (h : m * 2 ^ (p - base).toNat = val f r * 2 ^ (f.leastPlace - base).toNat) : f.nearest neg m p = f.word neg r := by
  unfold Format.nearest
  by_cases hm : m = 0
  · rw [if_pos hm]
    subst hm
    rw [Nat.zero_mul] at h
    have hv : val f r = 0 := by
      rcases Nat.mul_eq_zero.1 h.symm with h | h
      · exact h
      · have := Nat.two_pow_pos (f.leastPlace - base).toNat; omega
    have : r = 0 := val_inj f (by rw [hv, val_zero])
    rw [this]
  rw [if_neg hm]
  dsimp only
  have hr0 : r ≠ 0 := by
    rintro rfl
    rw [val_zero, Nat.zero_mul] at h
    rcases Nat.mul_eq_zero.1 h with h | h
    · exact hm h
    · have := Nat.two_pow_pos (p - base).toNat; omega
  have hb := binade_pos f
  -- what is kept, and its place
  obtain ⟨k, q, hk, hkb, hq, hrk, hval, hlog⟩ : ∃ k q : Nat, k ≠ 0 ∧ k < 2 * f.binade ∧ (q = 0 ∨ f.binade ≤ k) ∧ q * f.binade + k = r ∧ val f r = k * 2 ^ q ∧ True := by
    by_cases hs : r < f.binade
    · exact ⟨r, 0, hr0, by omega, .inl rfl, by omega, by simp [val, hs], trivial⟩
    · have q1 : 1 ≤ r / f.binade := (Nat.le_div_iff_mul_le hb).2 (by omega)
      have hmod := Nat.mod_lt r hb
      have hd := Nat.div_add_mod r f.binade
      refine ⟨f.binade + r % f.binade, r / f.binade - 1, by omega, by omega, .inr (by omega), ?_, by simp [val, hs], trivial⟩
      have : (r / f.binade - 1) * f.binade + f.binade = r / f.binade * f.binade := by
        rw [← Nat.succ_mul]; congr 1; omega
      rw [Nat.mul_comm f.binade] at hd
      omega
  have hlast : max (p + (m.log2 : Int) - f.fractionBits) f.leastPlace = f.leastPlace + q := by
    have l1 := log2_mul_pow hm (p - base).toNat
    have hvk : k * 2 ^ q ≠ 0 := Nat.mul_ne_zero hk (Nat.pos_iff_ne_zero.1 (Nat.two_pow_pos _))
    rw [h, hval, log2_mul_pow hvk, log2_mul_pow hk] at l1
    have lk : k.log2 ≤ f.fractionBits := by
      have : k.log2 < f.fractionBits + 1 := (Nat.log2_lt hk).2 (by rw [Nat.pow_succ]; unfold Format.binade at hkb; omega)
      omega
    rcases hq with rfl | hq
    · omega
    · have lk2 : f.fractionBits ≤ k.log2 := (Nat.le_log2 hk).2 hq
      omega
  rw [hlast]
  have hcut : Toward.even.cut neg (m <<< (p - (f.leastPlace + q)).toNat) (f.leastPlace + q - p).toNat = k := by
    refine cut_exact neg hk ?_
    rw [Nat.shiftLeft_eq]
    rw [hval, Nat.mul_assoc, ← Nat.pow_add] at h
    by_cases hp : f.leastPlace + q ≤ p
    · rw [show (f.leastPlace + q - p).toNat = 0 by omega, Nat.pow_zero, Nat.mul_one]
      have e : (p - base).toNat = (p - (f.leastPlace + q)).toNat + (q + (f.leastPlace - base).toNat) := by omega
      rw [e, Nat.pow_add, ← Nat.mul_assoc] at h
      exact Nat.eq_of_mul_eq_mul_right (Nat.two_pow_pos _) h
    · rw [show (p - (f.leastPlace + q)).toNat = 0 by omega, Nat.pow_zero, Nat.mul_one]
      have e : q + (f.leastPlace - base).toNat = (f.leastPlace + q - p).toNat + (p - base).toNat := by omega
      rw [e, Nat.pow_add, ← Nat.mul_assoc] at h
      exact Nat.eq_of_mul_eq_mul_right (Nat.two_pow_pos _) h
  rw [hcut, show (f.leastPlace + (q : Int) - f.leastPlace).toNat = q by omega, hrk, Nat.min_eq_left (Nat.le_of_lt hr)]


theorem rung_of {k q : Nat} (hk0 : k ≠ 0) (hk : k < 2 * f.binade) (hq : f.fractionBits ≤ k.log2 + q) :
    val f ((q + k.log2 - f.fractionBits) * f.binade + k * 2 ^ (f.fractionBits - k.log2)) = k * 2 ^ q := by
  have lk : k.log2 ≤ f.fractionBits := by
    have : k.log2 < f.fractionBits + 1 := (Nat.log2_lt hk0).2 (by rw [Nat.pow_succ]; unfold Format.binade at hk; omega)
    omega
  have hb := binade_pos f
  have h1 : f.binade ≤ k * 2 ^ (f.fractionBits - k.log2) := by
    have := Nat.log2_self_le hk0
    calc f.binade = 2 ^ k.log2 * 2 ^ (f.fractionBits - k.log2) := by rw [← Nat.pow_add]; unfold Format.binade; congr 1; omega
      _ ≤ _ := Nat.mul_le_mul_right _ this
  have h2 : k * 2 ^ (f.fractionBits - k.log2) < 2 * f.binade := by
    have := Nat.lt_log2_self (n := k)
    calc k * 2 ^ (f.fractionBits - k.log2) < 2 ^ (k.log2 + 1) * 2 ^ (f.fractionBits - k.log2) := Nat.mul_lt_mul_of_pos_right this (Nat.two_pow_pos _)
      _ = 2 * f.binade := by rw [← Nat.pow_add, show k.log2 + 1 + (f.fractionBits - k.log2) = f.fractionBits + 1 by omega, Nat.pow_succ, Nat.mul_comm]; rfl
  generalize hK : k * 2 ^ (f.fractionBits - k.log2) = K at *
  generalize hz : q + k.log2 - f.fractionBits = z at *
  have hd : (z * f.binade + K) / f.binade = z + 1 := by
    rw [show z * f.binade + K = (K - f.binade) + (z + 1) * f.binade by rw [Nat.add_mul, Nat.one_mul]; omega, Nat.add_mul_div_right _ _ hb, Nat.div_eq_of_lt (by omega)]
    omega
  have hm : (z * f.binade + K) % f.binade = K - f.binade := by
    rw [show z * f.binade + K = (K - f.binade) + (z + 1) * f.binade by rw [Nat.add_mul, Nat.one_mul]; omega, Nat.add_mul_mod_self_right, Nat.mod_eq_of_lt (by omega)]
  unfold val
  rw [if_neg (by omega), hd, hm, show z + 1 - 1 = z by omega, show f.binade + (K - f.binade) = K by omega, ← hK, Nat.mul_assoc, ← Nat.pow_add]
  congr 2; omega

theorem rung_parts {r : Nat} (hr0 : r ≠ 0) : ∃ k q : Nat, k ≠ 0 ∧ k < 2 * f.binade ∧ (q = 0 ∨ f.binade ≤ k) ∧ q * f.binade + k = r ∧ val f r = k * 2 ^ q := by
  have hb := binade_pos f
  by_cases hs : r < f.binade
  · exact ⟨r, 0, hr0, by omega, .inl rfl, by omega, by simp [val, hs]⟩
  · have q1 : 1 ≤ r / f.binade := (Nat.le_div_iff_mul_le hb).2 (by omega)
    have hmod := Nat.mod_lt r hb
    have hd := Nat.div_add_mod r f.binade
    refine ⟨f.binade + r % f.binade, r / f.binade - 1, by omega, by omega, .inr (by omega), ?_, by simp [val, hs]⟩
    have : (r / f.binade - 1) * f.binade + f.binade = r / f.binade * f.binade := by
      rw [← Nat.succ_mul]; congr 1; omega
    rw [Nat.mul_comm f.binade] at hd
    omega

theorem read_word (neg : Bool) {r : Nat} (h : r < f.infRung) : ∃ m p, f.read (f.word neg r) = .number neg m p ∧ f.leastPlace ≤ p ∧ m * 2 ^ (p - f.leastPlace).toNat = val f r := by
  have hb := sw_eq f
  have h0 := binade_pos f
  have e1 : f.word neg r % f.signWeight = r := by
    unfold Format.word; split
    · rw [Nat.add_mod_left, Nat.mod_eq_of_lt (by omega)]
    · rw [Nat.mod_eq_of_lt (by omega)]
  have e2 : (f.word neg r / f.signWeight % 2 == 1) = neg := by
    unfold Format.word; cases neg
    · simp only [Bool.false_eq_true, if_false]; rw [Nat.div_eq_of_lt (by omega)]; rfl
    · simp only [if_true]; rw [Nat.add_div_left _ (by omega), Nat.div_eq_of_lt (by omega)]; rfl
  have := read_fin f (x := f.word neg r) (by rw [e1]; exact h)
  rw [e1, e2] at this
  exact this

theorem read_word_inf (hbi : f.binade ≤ f.infRung) (neg : Bool) : f.read (f.word neg f.infRung) = .infinity neg := by
  have hb := sw_eq f
  have h0 := binade_pos f
  have e1 : f.word neg f.infRung % f.signWeight = f.infRung := by
    unfold Format.word; split
    · rw [Nat.add_mod_left, Nat.mod_eq_of_lt (by omega)]
    · rw [Nat.mod_eq_of_lt (by omega)]
  have e2 : (f.word neg f.infRung / f.signWeight % 2 == 1) = neg := by
    unfold Format.word; cases neg
    · simp only [Bool.false_eq_true, if_false]; rw [Nat.div_eq_of_lt (by omega)]; rfl
    · simp only [if_true]; rw [Nat.add_div_left _ (by omega), Nat.div_eq_of_lt (by omega)]; rfl
  rw [read_inf f e1 hbi, e2]

/-- The least places of both widths lie so far apart. -/
def wideUp : Nat := 925

/-- Each rung of single stands in double. -/
theorem wide_rung {r : Nat} (h : r < 2139095040) : ∃ r', r' < 9218868437227405312 ∧ val double r' = val single r * 2 ^ wideUp := by
  by_cases h0 : r = 0
  · subst h0; exact ⟨0, by omega, by rw [val_zero, val_zero, Nat.zero_mul]⟩
  · obtain ⟨k, q, hk0, hk, hq, hr, hv⟩ := rung_parts single h0
    have b1 : single.binade = 8388608 := by decide
    have b2 : double.binade = 4503599627370496 := by decide
    rw [b1] at hk hr
    have lk : k.log2 < 24 := (Nat.log2_lt hk0).2 (by omega)
    have fb : double.fractionBits = 52 := rfl
    have up : wideUp = 925 := rfl
    refine ⟨_, ?_, by rw [hv, Nat.mul_assoc, ← Nat.pow_add]; exact rung_of double hk0 (by omega) (by rw [fb, up]; omega)⟩
    rw [b2, fb, up]
    have h2 : k * 2 ^ (52 - k.log2) < 9007199254740992 := by
      have := Nat.lt_log2_self (n := k)
      calc k * 2 ^ (52 - k.log2) < 2 ^ (k.log2 + 1) * 2 ^ (52 - k.log2) := Nat.mul_lt_mul_of_pos_right this (Nat.two_pow_pos _)
        _ = 2 ^ 53 := by rw [← Nat.pow_add]; congr 1; omega
        _ = _ := by decide
    have h3 : q + 925 + k.log2 - 52 ≤ 1151 := by omega
    have h4 : (q + 925 + k.log2 - 52) * 4503599627370496 ≤ 1151 * 4503599627370496 := Nat.mul_le_mul_right _ h3
    omega


end
open Go


/-- A word up to the choice of a NaN. -/
def cn (k : FloatKind) (x : Nat) : Option Nat := if nan k.format x then none else some x

theorem nan_word (f : Ieee.Format) (neg : Bool) {r : Nat} (h : r ≤ f.infRung) : nan f (f.word neg r) = false := by
  have hb := sw_eq f
  have h0 := binade_pos f
  unfold nan Ieee.Format.word
  refine decide_eq_false ?_
  split
  · rw [Nat.add_mod_left, Nat.mod_eq_of_lt (by omega)]; omega
  · rw [Nat.mod_eq_of_lt (by omega)]; omega

theorem nan_nearest (f : Ieee.Format) (neg : Bool) (m : Nat) (p : Int) : nan f (f.nearest neg m p) = false := by
  unfold Ieee.Format.nearest
  dsimp only
  split
  · exact nan_word f _ (Nat.zero_le _)
  · exact nan_word f _ (Nat.min_le_right ..)

theorem nan_write (f : Ieee.Format) {d : Ieee.Datum} (h : d.isNaN = false) : nan f (f.write d) = false := by
  cases d with
  | number neg m p => exact nan_nearest f neg m p
  | infinity neg => exact nan_word f neg (Nat.le_refl _)
  | nan neg t => simp [Ieee.Datum.isNaN] at h

theorem nan_map_write (f : Ieee.Format) {o : Option Ieee.Datum} (h : ∀ d, o = some d → d.isNaN = false) {r : Nat} (e : o.map f.write = some r) : nan f r = false := by
  cases o with
  | none => cases e
  | some d => cases e; exact nan_write f (h d rfl)

theorem sum_num (d e r : Ieee.Datum) (h : d.sum e = some r) : r.isNaN = false := by
  cases d <;> cases e <;> simp [Ieee.Datum.sum] at h
  all_goals first | (subst h; rfl) | (obtain ⟨_, rfl⟩ := h; rfl)
theorem product_num (d e r : Ieee.Datum) (h : d.product e = some r) : r.isNaN = false := by
  cases d <;> cases e <;> simp [Ieee.Datum.product] at h
  all_goals first | (subst h; rfl) | (obtain ⟨_, rfl⟩ := h; rfl)
theorem quotient_num (n : Nat) (d e r : Ieee.Datum) (h : d.quotient n e = some r) : r.isNaN = false := by
  cases d <;> cases e <;> simp only [Ieee.Datum.quotient] at h
  all_goals first | (cases h; done) | (cases h; rfl) | (split at h <;> first | (cases h; done) | (cases h; rfl) | (split at h <;> first | (cases h; done) | (cases h; rfl)))
theorem root_num (n : Nat) (d r : Ieee.Datum) (h : d.root n = some r) : r.isNaN = false := by
  cases d <;> simp only [Ieee.Datum.root] at h
  all_goals first | (cases h; done) | (cases h; rfl) | (split at h <;> first | (cases h; done) | (cases h; rfl) | (split at h <;> first | (cases h; done) | (cases h; rfl)))

theorem floatBits_num {op : BinOp} {k : FloatKind} {x y r : Nat} (h : floatBits op k x y = some r) : nan k.format r = false := by
  unfold floatBits at h
  split at h
  · exact nan_map_write _ (fun d e => sum_num _ _ _ e) h
  · exact nan_map_write _ (fun d e => sum_num _ _ _ e) h
  · exact nan_map_write _ (fun d e => product_num _ _ _ e) h
  · exact nan_map_write _ (fun d e => quotient_num _ _ _ _ e) h
  · cases h

theorem hbi (k : FloatKind) : k.format.binade ≤ k.format.infRung := by cases k <;> decide

/-- The bits of a NaN that is drawn. -/
theorem cut_nan (k : FloatKind) (x y t : Nat) : nan k.format (Question.cut (.nanBits k x y) t) = true ∧ Question.cut (.nanBits k x y) t < 2 ^ k.format.width := by
  cases k
  · show nan Ieee.single ((t % 2) * 2 ^ 31 + 0x7f800000 + 1 + (t / 2) % (2 ^ 23 - 1)) = true ∧ ((t % 2) * 2 ^ 31 + 0x7f800000 + 1 + (t / 2) % (2 ^ 23 - 1)) < 2 ^ 32
    rw [nan32]
    have h2 : (t / 2) % (2 ^ 23 - 1) < 8388607 := Nat.mod_lt _ (by omega)
    generalize (t / 2) % (2 ^ 23 - 1) = v at *
    rcases Nat.mod_two_eq_zero_or_one t with h | h <;> rw [h] <;> refine ⟨decide_eq_true ?_, ?_⟩ <;> omega
  · show nan Ieee.double ((t % 2) * 2 ^ 63 + 0x7ff0000000000000 + 1 + (t / 2) % (2 ^ 52 - 1)) = true ∧ ((t % 2) * 2 ^ 63 + 0x7ff0000000000000 + 1 + (t / 2) % (2 ^ 52 - 1)) < 2 ^ 64
    rw [nan64]
    have h2 : (t / 2) % (2 ^ 52 - 1) < 4503599627370495 := Nat.mod_lt _ (by omega)
    generalize (t / 2) % (2 ^ 52 - 1) = v at *
    rcases Nat.mod_two_eq_zero_or_one t with h | h <;> rw [h] <;> refine ⟨decide_eq_true ?_, ?_⟩ <;> omega
theorem cut_nanConv (k : FloatKind) (x t : Nat) : nan k.format (Question.cut (.nanConv k x) t) = true ∧ Question.cut (.nanConv k x) t < 2 ^ k.format.width := by
  cases k
  · show nan Ieee.single ((t % 2) * 2 ^ 31 + 0x7f800000 + 1 + (t / 2) % (2 ^ 23 - 1)) = true ∧ ((t % 2) * 2 ^ 31 + 0x7f800000 + 1 + (t / 2) % (2 ^ 23 - 1)) < 2 ^ 32
    rw [nan32]
    have h2 : (t / 2) % (2 ^ 23 - 1) < 8388607 := Nat.mod_lt _ (by omega)
    generalize (t / 2) % (2 ^ 23 - 1) = v at *
    rcases Nat.mod_two_eq_zero_or_one t with h | h <;> rw [h] <;> refine ⟨decide_eq_true ?_, ?_⟩ <;> omega
  · show nan Ieee.double ((t % 2) * 2 ^ 63 + 0x7ff0000000000000 + 1 + (t / 2) % (2 ^ 52 - 1)) = true ∧ ((t % 2) * 2 ^ 63 + 0x7ff0000000000000 + 1 + (t / 2) % (2 ^ 52 - 1)) < 2 ^ 64
    rw [nan64]
    have h2 : (t / 2) % (2 ^ 52 - 1) < 4503599627370495 := Nat.mod_lt _ (by omega)
    generalize (t / 2) % (2 ^ 52 - 1) = v at *
    rcases Nat.mod_two_eq_zero_or_one t with h | h <;> rw [h] <;> refine ⟨decide_eq_true ?_, ?_⟩ <;> omega

theorem cn_none {k : FloatKind} {x : Nat} (h : nan k.format x = true) : cn k x = none := by simp [cn, h]
theorem cn_some {k : FloatKind} {x : Nat} (h : nan k.format x = false) : cn k x = some x := by simp [cn, h]

section
variable {P : Program} (w : World)

/-- ONE OF THE FOUR OPERATIONS ON TWO FLOATS, whatever they are. -/
theorem run_farith (op : BinOp) (hop : op = .add ∨ op = .sub ∨ op = .mul ∨ op = .quo) (k : FloatKind) (x y : Nat) :
    ∃ r n, (Op.floatArith op k x y).run P w = .ok (.float k r) (w.drewN n) ∧ cn k r = floatBits op k x y ∧ r < 2 ^ k.format.width := by
  cases h : floatBits op k x y with
  | some r =>
    refine ⟨r, 0, run_floatArith w h, cn_some (floatBits_num h), ?_⟩
    have := floatBits_wf h
    cases k
    · show r < 2 ^ 32; simpa [Lit.wf] using this
    · show r < 2 ^ 64; simpa [Lit.wf] using this
  | none =>
    have c := cut_nan k x y (w.tape w.drawn (.nanBits k x y))
    refine ⟨_, 1, ?_, cn_none c.1, c.2⟩
    rcases hop with rfl | rfl | rfl | rfl <;> simp only [floatBits] at h <;> simp [Op.floatArith, h, Question.forced] <;> rfl

theorem run_fbin (op : BinOp) (hop : op = .add ∨ op = .sub ∨ op = .mul ∨ op = .quo) (t : TypeId) (k : FloatKind) (x y : Nat) :
    ∃ r n, (binOp op t (.float k x) (.float k y)).run P w = .ok (.float k r) (w.drewN n) ∧ cn k r = floatBits op k x y ∧ r < 2 ^ k.format.width := by
  obtain ⟨r, n, h⟩ := run_farith (P := P) w op hop k x y
  refine ⟨r, n, ?_, h.2⟩
  rcases hop with rfl | rfl | rfl | rfl <;> simpa [binOp] using h.1

/-- THE WALK's LAW: one of the four operations on floats. -/
theorem wpList_farith {ops : Array Oper} {rest : List Oper} {o : Oper} {a : Act} {Q : Exit → Act → World → Prop} (hw : Region.wanted o (yielded ops a.tmps) = true)
    (op : BinOp) (hop : op = .add ∨ op = .sub ∨ op = .mul ∨ op = .quo) (x y : Operand) (s t : TypeId) (ho : o.op = Op.binOp op s x y t) (k : FloatKind) (u v : Nat) (hx : a.eval x = .float k u) (hy : a.eval y = .float k v)
    (hK : ∀ r n, cn k r = floatBits op k u v → r < 2 ^ k.format.width → wpList P ops Q rest (a.put o.dst (.float k r)) (w.drewN n)) : wpList P ops Q (o :: rest) a w := by
  refine BigFrame.wpList_want hw fun K hK' => ?_
  obtain ⟨r, n, hr, h1, h2⟩ := run_fbin (P := P) w op hop s k u v
  have hk := hK' _ _ (hK r n h1 h2)
  unfold Oper.wp
  rcases hop with rfl | rfl | rfl | rfl <;> (simp [execOp, ho, hx, hy, eqGuard, hr, Result.andThen]; exact hk)
end


theorem ord_nan_l {k : FloatKind} {a : Nat} (b : Nat) (h : nan k.format a = true) : k.format.order a b = none := by
  rw [order_eq _ (hbi k)]; simp [h]
theorem ord_nan_r {k : FloatKind} (a : Nat) {b : Nat} (h : nan k.format b = true) : k.format.order a b = none := by
  rw [order_eq _ (hbi k)]; simp [h]
theorem ord_num {k : FloatKind} {a b : Nat} (ha : nan k.format a = false) (hb : nan k.format b = false) : k.format.order a b = some (compare (place k.format a) (place k.format b)) := by
  rw [order_eq _ (hbi k)]; simp [ha, hb]
theorem ord_lt {k : FloatKind} {a b : Nat} (ha : nan k.format a = false) (hb : nan k.format b = false) (h : place k.format a < place k.format b) : k.format.order a b = some .lt := by
  rw [ord_num ha hb, Int.compare_eq_lt.2 h]
theorem ord_eq {k : FloatKind} {a b : Nat} (ha : nan k.format a = false) (hb : nan k.format b = false) (h : place k.format a = place k.format b) : k.format.order a b = some .eq := by
  rw [ord_num ha hb, Int.compare_eq_eq.2 h]
theorem ord_gt {k : FloatKind} {a b : Nat} (ha : nan k.format a = false) (hb : nan k.format b = false) (h : place k.format b < place k.format a) : k.format.order a b = some .gt := by
  rw [ord_num ha hb, Int.compare_eq_gt.2 h]



theorem datum_num_inf (neg : Bool) (m : Nat) (p : Int) : (Ieee.Datum.number neg m p).isInfinity = false := rfl

/-- A narrow number, widened. -/
theorem widen_fin {u : Nat} (hu : u % 2147483648 < 2139095040) : ∃ r', r' < 9218868437227405312 ∧ val Ieee.double r' = val Ieee.single (u % 2147483648) * 2 ^ wideUp ∧
    floatToFloatBits .f32 u .f64 = some (Ieee.double.word (u / 2147483648 % 2 == 1) r') := by
  obtain ⟨r', h1, h2⟩ := wide_rung hu
  refine ⟨r', h1, h2, ?_⟩
  obtain ⟨m, p, e, l, v⟩ := read_fin Ieee.single (x := u) (by rw [sw32, ir32]; exact hu)
  rw [sw32] at e v
  have hw : Ieee.double.nearest (u / 2147483648 % 2 == 1) m p = Ieee.double.word (u / 2147483648 % 2 == 1) r' := by
    have l32 : Ieee.single.leastPlace = -149 := by decide
    have l64 : Ieee.double.leastPlace = -1074 := by decide
    refine nearest_exact Ieee.double _ (base := -1074) (by rw [ir64]; exact h1) (by rw [l32] at l; omega) (by rw [l64]; omega) ?_
    rw [l64, show ((-1074 : Int) - -1074).toNat = 0 from rfl, Nat.pow_zero, Nat.mul_one, h2, ← v, Nat.mul_assoc, ← Nat.pow_add]
    congr 2
    have up : wideUp = 925 := rfl
    rw [l32] at l ⊢
    omega
  obtain ⟨m', p', e', -, -⟩ := read_word Ieee.double (u / 2147483648 % 2 == 1) (r := r') (by rw [ir64]; exact h1)
  unfold floatToFloatBits
  rw [if_neg (by decide)]
  have d1 : FloatKind.f32.decode u = .number (u / 2147483648 % 2 == 1) m p := e
  rw [d1]
  have d2 : FloatKind.f64.encode (.number (u / 2147483648 % 2 == 1) m p) = Ieee.double.word (u / 2147483648 % 2 == 1) r' := hw
  simp only [d2]
  have d3 : FloatKind.f64.decode (Ieee.double.word (u / 2147483648 % 2 == 1) r') = .number (u / 2147483648 % 2 == 1) m' p' := e'
  rw [d3]
  rfl

theorem widen_inf {u : Nat} (hu : u % 2147483648 = 2139095040) : floatToFloatBits .f32 u .f64 = some (Ieee.double.word (u / 2147483648 % 2 == 1) 9218868437227405312) := by
  unfold floatToFloatBits
  rw [if_neg (by decide)]
  have d1 : FloatKind.f32.decode u = .infinity (u / 2147483648 % 2 == 1) := by
    have := read_inf Ieee.single (x := u) (by rw [sw32, ir32]; exact hu) hbi32
    rw [sw32] at this
    exact this
  rw [d1]
  show some (Ieee.double.word _ Ieee.double.infRung) = _
  rw [ir64]

theorem widen_nan {u : Nat} (hu : nan FloatKind.f32.format u = true) : floatToFloatBits .f32 u .f64 = none := by
  obtain ⟨s, t, e⟩ := read_nan Ieee.single hbi32 (x := u) hu
  unfold floatToFloatBits
  rw [if_neg (by decide)]
  have d1 : FloatKind.f32.decode u = .nan s t := e
  rw [d1]

theorem widen_num {u : Nat} (hu : nan FloatKind.f32.format u = false) : ∃ v, floatToFloatBits .f32 u .f64 = some v ∧ nan FloatKind.f64.format v = false ∧ v < 18446744073709551616 := by
  have h : ¬ 2139095040 < u % 2147483648 := by
    have h' : nan Ieee.single u = false := hu
    rw [nan32] at h'
    exact of_decide_eq_false h'
  have hs : Ieee.double.signWeight = 9223372036854775808 := sw64
  by_cases h1 : u % 2147483648 = 2139095040
  · refine ⟨_, widen_inf h1, nan_word Ieee.double _ (by rw [ir64]; omega), ?_⟩
    unfold Ieee.Format.word; rw [hs]; split <;> omega
  · obtain ⟨r', h2, -, h3⟩ := widen_fin (u := u) (by omega)
    refine ⟨_, h3, nan_word Ieee.double _ (by rw [ir64]; omega), ?_⟩
    unfold Ieee.Format.word; rw [hs]; split <;> omega

/-- What a conversion of a narrow number gives: it, widened; a NaN is drawn. -/
theorem run_widen {P : Program} (w : World) (src dst : TypeId) (u : Nat) (hs : (P.underlying src).isSome = true) (hd : P.underlying dst = some (.float .f64)) :
    ∃ r n, (convert src dst (.float .f32 u)).run P w = .ok (.float .f64 r) (w.drewN n) ∧ cn .f64 r = floatToFloatBits .f32 u .f64 ∧ r < 18446744073709551616 := by
  by_cases hu : nan FloatKind.f32.format u = true
  · obtain ⟨s, t, e⟩ := read_nan Ieee.single hbi32 (x := u) hu
    have d1 : FloatKind.f32.decode u = .nan s t := e
    have c := cut_nanConv .f64 u (w.tape w.drawn (.nanConv .f64 u))
    refine ⟨_, 1, ?_, by rw [widen_nan hu]; exact cn_none c.1, c.2⟩
    obtain ⟨x, hs'⟩ := Option.isSome_iff_exists.1 hs
    cases x <;> simp [convert, run_underlying hs', run_underlying hd, Conv.floatToFloat, d1, Question.forced] <;> rfl
  · have hu : nan FloatKind.f32.format u = false := by simpa using hu
    obtain ⟨v, h1, h2, h3⟩ := widen_num hu
    exact ⟨v, 0, run_convert_float_float w src dst .f32 .f64 u v hs hd h1, by rw [h1, cn_some h2], h3⟩

theorem wpList_widen {P : Program} (w : World) {ops : Array Oper} {rest : List Oper} {o : Oper} {a : Act} {Q : Exit → Act → World → Prop} (hw : Region.wanted o (yielded ops a.tmps) = true)
    (src dst : TypeId) (x : Operand) (ho : o.op = Op.convert src dst x) (u : Nat) (hx : a.eval x = .float .f32 u) (hs : (P.underlying src).isSome = true) (hd : P.underlying dst = some (.float .f64))
    (hK : ∀ r n, cn .f64 r = floatToFloatBits .f32 u .f64 → r < 18446744073709551616 → wpList P ops Q rest (a.put o.dst (.float .f64 r)) (w.drewN n)) : wpList P ops Q (o :: rest) a w := by
  refine BigFrame.wpList_want hw fun K hK' => ?_
  obtain ⟨r, n, hr, h1, h2⟩ := run_widen (P := P) w src dst u hs hd
  have hk := hK' _ _ (hK r n h1 h2)
  unfold Oper.wp
  simp [execOp, ho, hx, hr, Result.andThen]
  exact hk

theorem nan_of_cn {k : FloatKind} {x : Nat} (h : cn k x = none) : nan k.format x = true := by
  unfold cn at h
  split at h
  · assumption
  · cases h
theorem num_of_cn {k : FloatKind} {x y : Nat} (h : cn k x = some y) : nan k.format x = false ∧ x = y := by
  unfold cn at h
  split at h
  · cases h
  · rename_i hn; exact ⟨by simpa using hn, Option.some.inj h⟩

/-- What a conversion of a wide number to a narrow one may give: the nearest narrow number; of a NaN a NaN; of a number that is too great, whatever the model draws. -/
structure Narrows (u r : Nat) : Prop where
  lt : r < 4294967296
  val : ∀ v, floatToFloatBits .f64 u .f32 = some v → r = v
  nan : nan FloatKind.f64.format u = true → Flt.nan FloatKind.f32.format r = true

theorem run_narrow {P : Program} (w : World) (src dst : TypeId) (u : Nat) (hs : (P.underlying src).isSome = true) (hd : P.underlying dst = some (.float .f32)) :
    ∃ r n, (convert src dst (.float .f64 u)).run P w = .ok (.float .f32 r) (w.drewN n) ∧ Narrows u r := by
  cases h : floatToFloatBits .f64 u .f32 with
  | some v =>
    refine ⟨v, 0, run_convert_float_float w src dst .f64 .f32 u v hs hd h, ?_, fun x e => Option.some.inj (h.symm.trans e), fun hn => ?_⟩
    · unfold floatToFloatBits at h
      rw [if_neg (by decide)] at h
      split at h
      · cases h
      · cases h; exact Ieee.single.write_lt _
      · split at h
        · cases h
        · cases h; exact Ieee.single.write_lt _
    · obtain ⟨s, t, e⟩ := read_nan Ieee.double hbi64 (x := u) hn
      unfold floatToFloatBits at h
      rw [if_neg (by decide)] at h
      have d1 : FloatKind.f64.decode u = .nan s t := e
      rw [d1] at h
      cases h
  | none =>
    obtain ⟨x, hs'⟩ := Option.isSome_iff_exists.1 hs
    unfold floatToFloatBits at h
    rw [if_neg (by decide)] at h
    split at h
    · rename_i s t d1
      have c := cut_nanConv .f32 u (w.tape w.drawn (.nanConv .f32 u))
      refine ⟨_, 1, ?_, c.2, fun v e => ?_, fun _ => c.1⟩
      · cases x <;> simp [convert, run_underlying hs', run_underlying hd, Conv.floatToFloat, d1, Question.forced] <;> rfl
      · unfold floatToFloatBits at e
        rw [if_neg (by decide), d1] at e
        cases e
    · cases h
    · rename_i s m p d1
      split at h
      · rename_i hi
        refine ⟨Question.cut (.floatToFloat u) (w.tape w.drawn (.floatToFloat u)), 1, ?_, ?_, fun v e => ?_, fun hn => ?_⟩
        · cases x <;> simp [convert, run_underlying hs', run_underlying hd, Conv.floatToFloat, d1, hi, Question.forced] <;> rfl
        · exact Nat.mod_lt _ (by decide)
        · unfold floatToFloatBits at e
          rw [if_neg (by decide), d1] at e
          simp only [hi, if_true] at e
          cases e
        · obtain ⟨s', t', e⟩ := read_nan Ieee.double hbi64 (x := u) hn
          have d2 : FloatKind.f64.decode u = .nan s' t' := e
          rw [d2] at d1
          cases d1
      · cases h

theorem wpList_narrow {P : Program} (w : World) {ops : Array Oper} {rest : List Oper} {o : Oper} {a : Act} {Q : Exit → Act → World → Prop} (hw : Region.wanted o (yielded ops a.tmps) = true)
    (src dst : TypeId) (x : Operand) (ho : o.op = Op.convert src dst x) (u : Nat) (hx : a.eval x = .float .f64 u) (hs : (P.underlying src).isSome = true) (hd : P.underlying dst = some (.float .f32))
    (hK : ∀ r n, Narrows u r → wpList P ops Q rest (a.put o.dst (.float .f32 r)) (w.drewN n)) : wpList P ops Q (o :: rest) a w := by
  refine BigFrame.wpList_want hw fun K hK' => ?_
  obtain ⟨r, n, hr, h1⟩ := run_narrow (P := P) w src dst u hs hd
  have hk := hK' _ _ (hK r n h1)
  unfold Oper.wp
  simp [execOp, ho, hx, hr, Result.andThen]
  exact hk
/-- The law of the walk: a narrow complex number, widened. -/
theorem wpList_widenC {P : Program} (w : World) {ops : Array Oper} {rest : List Oper} {o : Oper} {a : Act} {Q : Exit → Act → World → Prop} (hw : Region.wanted o (yielded ops a.tmps) = true)
    (src dst : TypeId) (x : Operand) (ho : o.op = Op.convert src dst x) (u v : Nat) (hx : a.eval x = .complex .f32 u v) (hs : (P.underlying src).isSome = true) (hd : P.underlying dst = some (.complex .f64))
    (hK : ∀ r s n, cn .f64 r = floatToFloatBits .f32 u .f64 → cn .f64 s = floatToFloatBits .f32 v .f64 → r < 18446744073709551616 → s < 18446744073709551616 → wpList P ops Q rest (a.put o.dst (.complex .f64 r s)) (w.drewN n)) : wpList P ops Q (o :: rest) a w := by
  refine BigFrame.wpList_want hw fun K hK' => ?_
  have one : ∀ (w : World) (u : Nat), ∃ r n, (Conv.floatToFloat .f32 u .f64).run P w = .ok (.float .f64 r) (w.drewN n) ∧ cn .f64 r = floatToFloatBits .f32 u .f64 ∧ r < 18446744073709551616 := by
    intro w u
    by_cases hu : nan FloatKind.f32.format u = true
    · obtain ⟨s, t, e⟩ := read_nan Ieee.single hbi32 (x := u) hu
      have d1 : FloatKind.f32.decode u = .nan s t := e
      have c := cut_nanConv .f64 u (w.tape w.drawn (.nanConv .f64 u))
      refine ⟨_, 1, ?_, by rw [widen_nan hu]; exact cn_none c.1, c.2⟩
      simp [Conv.floatToFloat, d1, Question.forced]; rfl
    · have hu : nan FloatKind.f32.format u = false := by simpa using hu
      obtain ⟨v, h1, h2, h3⟩ := widen_num hu
      exact ⟨v, 0, run_floatToFloat w h1, by rw [h1, cn_some h2], h3⟩
  obtain ⟨r, n, e1, h1, h2⟩ := one w u
  obtain ⟨s, m, e2, h3, h4⟩ := one (w.drewN n) v
  have hk := hK' _ _ (hK r s (n + m) h1 h3 h2 h4)
  rw [World.drewN_drewN] at e2
  have hr : (convert src dst (.complex .f32 u v)).run P w = .ok (.complex .f64 r s) (w.drewN (n + m)) := by
    obtain ⟨t, hs'⟩ := Option.isSome_iff_exists.1 hs
    cases t <;> simp [convert, run_underlying hs', run_underlying hd, Conv.complexToComplex, e1, e2]
  unfold Oper.wp
  simp [execOp, ho, hx, hr, Result.andThen]
  exact hk

/-- The law of the walk: a wide complex number, narrowed. -/
theorem wpList_narrowC {P : Program} (w : World) {ops : Array Oper} {rest : List Oper} {o : Oper} {a : Act} {Q : Exit → Act → World → Prop} (hw : Region.wanted o (yielded ops a.tmps) = true)
    (src dst : TypeId) (x : Operand) (ho : o.op = Op.convert src dst x) (u v : Nat) (hx : a.eval x = .complex .f64 u v) (hs : (P.underlying src).isSome = true) (hd : P.underlying dst = some (.complex .f32))
    (hf : ∃ t d, (P.underlying t).isSome = true ∧ P.underlying d = some (.float .f32))
    (hK : ∀ r s n, Narrows u r → Narrows v s → wpList P ops Q rest (a.put o.dst (.complex .f32 r s)) (w.drewN n)) : wpList P ops Q (o :: rest) a w := by
  refine BigFrame.wpList_want hw fun K hK' => ?_
  obtain ⟨t0, d0, ht0, hd0⟩ := hf
  have one : ∀ (w : World) (u : Nat), ∃ r n, (Conv.floatToFloat .f64 u .f32).run P w = .ok (.float .f32 r) (w.drewN n) ∧ Narrows u r := by
    intro w u
    obtain ⟨r, n, h, hN⟩ := run_narrow (P := P) w t0 d0 u ht0 hd0
    refine ⟨r, n, ?_, hN⟩
    obtain ⟨t, ht'⟩ := Option.isSome_iff_exists.1 ht0
    have e : (convert t0 d0 (.float .f64 u)).run P w = (Conv.floatToFloat .f64 u .f32).run P w := by
      cases t <;> simp [convert, run_underlying ht', run_underlying hd0]
    rw [← e]; exact h
  obtain ⟨r, n, e1, h1⟩ := one w u
  obtain ⟨s, m, e2, h2⟩ := one (w.drewN n) v
  have hk := hK' _ _ (hK r s (n + m) h1 h2)
  rw [World.drewN_drewN] at e2
  have hr : (convert src dst (.complex .f64 u v)).run P w = .ok (.complex .f32 r s) (w.drewN (n + m)) := by
    obtain ⟨t, hs'⟩ := Option.isSome_iff_exists.1 hs
    cases t <;> simp [convert, run_underlying hs', run_underlying hd, Conv.complexToComplex, e1, e2]
  unfold Oper.wp
  simp [execOp, ho, hx, hr, Result.andThen]
  exact hk

/-- The law of the walk: a sum or a difference of complex numbers. -/
theorem wpList_csum {P : Program} (w : World) {ops : Array Oper} {rest : List Oper} {o : Oper} {a : Act} {Q : Exit → Act → World → Prop} (hw : Region.wanted o (yielded ops a.tmps) = true)
    (op : BinOp) (hop : op = .add ∨ op = .sub) (x y : Operand) (s t : TypeId) (ho : o.op = Op.binOp op s x y t) (k : FloatKind) (u v u' v' : Nat) (hx : a.eval x = .complex k u v) (hy : a.eval y = .complex k u' v')
    (hK : ∀ r q n, cn k r = floatBits op k u u' → cn k q = floatBits op k v v' → r < 2 ^ k.format.width → q < 2 ^ k.format.width → wpList P ops Q rest (a.put o.dst (.complex k r q)) (w.drewN n)) : wpList P ops Q (o :: rest) a w := by
  refine BigFrame.wpList_want hw fun K hK' => ?_
  have hop4 : op = .add ∨ op = .sub ∨ op = .mul ∨ op = .quo := by rcases hop with h | h <;> simp [h]
  obtain ⟨r, n, e1, h1, h2⟩ := run_farith (P := P) w op hop4 k u u'
  obtain ⟨q, m, e2, h3, h4⟩ := run_farith (P := P) (w.drewN n) op hop4 k v v'
  have hk := hK' _ _ (hK r q (n + m) h1 h3 h2 h4)
  rw [World.drewN_drewN] at e2
  unfold Oper.wp
  rcases hop with rfl | rfl <;> (simp [execOp, ho, hx, hy, eqGuard, binOp, Op.complexOp, Op.Complex.arith, e1, e2, Result.andThen]; exact hk)
end Go.Proofs.YtdefhmpmgcahpaaDoor.Flt
