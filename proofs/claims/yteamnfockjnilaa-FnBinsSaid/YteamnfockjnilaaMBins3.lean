/-
  Several texts of this claim, one behind the other; each says what it holds.
-/
import Derived.Test.YteamnfockjnilaaMBins2
import Derived.Test.YteamnfockjnilaaRows
import Derived.Lib.Hide
import Derived.BigRegion
/-
  The laws' own comparison of floats; words and their places.
-/
set_option linter.unusedVariables false
set_option linter.unusedSimpArgs false
namespace Go.Proofs.Yteamnfockjnilaa
open Go.RowKit Flt

/-- The next greater word. -/
def upBits (a : Nat) : Nat := if a = 0 ∨ a = 9223372036854775808 then 1 else if a < 9223372036854775808 then (if a = 9218868437227405312 then a else a + 1) else a - 1

theorem plc_lo {x : Nat} (h : x < 9223372036854775808) : place FloatKind.f64.format x = x := place64_lo h
theorem plc_hi {x : Nat} (h : 9223372036854775808 ≤ x) (h' : x < 18446744073709551616) : place FloatKind.f64.format x = 9223372036854775808 - (x : Int) := place64_hi h h'
theorem nan_no {x : Nat} (h : x % 9223372036854775808 ≤ 9218868437227405312) : nan FloatKind.f64.format x = false := by
  show nan Ieee.double x = false
  rw [nan64]; exact decide_eq_false (by omega)
theorem nan_le {x : Nat} (h : nan FloatKind.f64.format x = false) : x % 9223372036854775808 ≤ 9218868437227405312 := by
  have h' : nan Ieee.double x = false := h
  rw [nan64] at h'
  have := of_decide_eq_false h'
  omega

end Go.Proofs.Yteamnfockjnilaa
/-
  The walks of NextUp and NextUpNarrow.
-/
set_option linter.unusedVariables false
set_option linter.unusedSimpArgs false
namespace Go.Proofs.Yteamnfockjnilaa
open Go.RowKit Flt

theorem inf_any (w : World) :
    Calls Try.prog 60 #[.int .i64 1] w fun e w' => e = .returned (.float .f64 9218868437227405312) ∧ w' = w := by
  go_enter Try.func60, Try.ntmps60
  go_wp2
  go_ret
  exact ⟨rfl, rfl⟩

set_option maxRecDepth 100000 in
theorem copysign_one (w : World) :
    Calls Try.prog 61 #[.float .f64 1, .float .f64 9218868437227405312] w fun e w' => e = .returned (.float .f64 1) ∧ w' = w := by
  go_enter Try.func61, Try.ntmps61
  go_wp2
  go_ret
  exact ⟨by kernel_rfl, rfl⟩

theorem upBits_lt {a : Nat} (h : a < 18446744073709551616) : upBits a < 18446744073709551616 := by
  unfold upBits; split
  · omega
  · split
    · split <;> omega
    · omega

end Go.Proofs.Yteamnfockjnilaa
/-
  Contracts of the program's functions on complex numbers: same, equal, finite, narrow, wide.
-/
set_option linter.unusedVariables false
set_option linter.unusedSimpArgs false
namespace Go.Proofs.Yteamnfockjnilaa
open Go.RowKit Flt

/-- Two reals are the same. -/
def sameB (a b : Nat) : Bool := decide (cn .f64 a = cn .f64 b)
/-- A real is finite. -/
def finO (o : Option Nat) : Bool := match o with | some x => decide (x % 9223372036854775808 < 9218868437227405312) | none => false

theorem sameB_nan {a b : Nat} (ha : nan FloatKind.f64.format a = true) (hb : nan FloatKind.f64.format b = true) : sameB a b = true := by
  unfold sameB; rw [cn_none ha, cn_none hb]; rfl
theorem sameB_l {a b : Nat} (ha : nan FloatKind.f64.format a = true) (hb : nan FloatKind.f64.format b = false) : sameB a b = false := by
  unfold sameB; rw [cn_none ha, cn_some hb]; rfl
theorem sameB_r {a b : Nat} (ha : nan FloatKind.f64.format a = false) (hb : nan FloatKind.f64.format b = true) : sameB a b = false := by
  unfold sameB; rw [cn_some ha, cn_none hb]; rfl
theorem sameB_num {a b : Nat} (ha : nan FloatKind.f64.format a = false) (hb : nan FloatKind.f64.format b = false) : sameB a b = decide (a = b) := by
  unfold sameB; rw [cn_some ha, cn_some hb]; simp

/-- Below, told once more: what a callee leaves. -/
theorem below_step {B : Nat} {w w1 w2 : World} (h : Below B w w1) (k : Below w1.heap.size w1 w2) (hB : B ≤ w1.heap.size) : Below B w w2 := h.trans (k.mono hB)

/-- Equal by Go's own ==. -/
def eqC (k : FloatKind) (a b c d : Nat) : Bool := (k.format.order a c == some .eq) && (k.format.order b d == some .eq)

theorem finO_nan {a : Nat} (ha : nan FloatKind.f64.format a = true) : finO (cn .f64 a) = false := by rw [cn_none ha]; rfl
theorem finO_num {a : Nat} (ha : nan FloatKind.f64.format a = false) : finO (cn .f64 a) = decide (a % 9223372036854775808 < 9218868437227405312) := by rw [cn_some ha]; rfl

theorem andNot_mod {a : Nat} (la : a < 18446744073709551616) : bits .andNot .u64 (a : Int) 9223372036854775808 = ((a % 9223372036854775808 : Nat) : Int) := by
  have := u64_andNot_nat a 9223372036854775808 la (by omega)
  rw [show ((9223372036854775808 : Nat) : Int) = 9223372036854775808 from rfl] at this
  rw [this, show (18446744073709551615 - 9223372036854775808 : Nat) = 2 ^ 63 - 1 by omega, Nat.and_two_pow_sub_one_eq_mod]

theorem abs_any (a : Nat) (la : a < 18446744073709551616) (w : World) :
    Calls Try.prog 44 #[.float .f64 a] w fun e w' => e = .returned (.float .f64 (a % 9223372036854775808)) ∧ w' = w := by
  have hb := andNot_mod la
  generalize a % 9223372036854775808 = r at *
  clear la
  go_enter Try.func44, Try.ntmps44
  go_wp2
  go_ret
  exact ⟨rfl, rfl⟩

/-- A narrow complex number, of these parts. -/
def RetsN (p q : Nat → Prop) (w : World) (e : Ending) (w' : World) : Prop := ∃ u v, p u ∧ q v ∧ e = .returned (.complex .f32 u v) ∧ Below w.heap.size w w'
/-- A wide complex number, of these parts. -/
def RetsW (p q : Nat → Prop) (w : World) (e : Ending) (w' : World) : Prop := ∃ u v, p u ∧ q v ∧ e = .returned (.complex .f64 u v) ∧ Below w.heap.size w w'

/-- A real is one that a narrow one is widened to. -/
def Wide (u r : Nat) : Prop := cn .f64 r = floatToFloatBits .f32 u .f64 ∧ r < 18446744073709551616

/-- Two parts, widened. -/
def RetsP (p q : Nat → Prop) (w : World) (e : Ending) (w' : World) : Prop := ∃ u v, p u ∧ q v ∧ e = .returned (.tuple #[.float .f64 u, .float .f64 v]) ∧ Below w.heap.size w w'

/-- Two narrow reals are the same: their wide ones are. -/
def sameN (u v : Nat) : Bool := decide (floatToFloatBits .f32 u .f64 = floatToFloatBits .f32 v .f64)
theorem sameB_wide {u v r s : Nat} (h : Wide u r) (k : Wide v s) : sameB r s = sameN u v := by unfold sameB sameN; rw [h.1, k.1]

/-- A narrow real is finite: its wide one is. -/
def finN (u : Nat) : Bool := finO (floatToFloatBits .f32 u .f64)

end Go.Proofs.Yteamnfockjnilaa
/-
  Rounding: what is written is no farther than half a unit from the number, and the order is kept. No program.
-/
set_option linter.unusedVariables false
set_option linter.unusedSimpArgs false
namespace Go.Proofs.Yteamnfockjnilaa.Flt
section
open Ieee
variable {f : Format}

theorem val_of {q k : Nat} (hq : q = 0 ∨ f.binade ≤ k) (hk : k ≤ 2 * f.binade) : val f (q * f.binade + k) = k * 2 ^ q := by
  have hb := binade_pos f
  by_cases h1 : k < f.binade
  · have h0 : q = 0 := by rcases hq with h | h <;> omega
    subst h0
    simp [val, h1]
  · have hge : f.binade ≤ k := by omega
    unfold val
    have hn : ¬ q * f.binade + k < f.binade := by omega
    rw [if_neg hn]
    by_cases h2 : k < 2 * f.binade
    · have hd : (q * f.binade + k) / f.binade = q + 1 := by
        rw [show q * f.binade + k = (k - f.binade) + (q + 1) * f.binade by rw [Nat.add_mul, Nat.one_mul]; omega, Nat.add_mul_div_right _ _ hb, Nat.div_eq_of_lt (by omega)]
        omega
      have hm : (q * f.binade + k) % f.binade = k - f.binade := by
        rw [show q * f.binade + k = (k - f.binade) + (q + 1) * f.binade by rw [Nat.add_mul, Nat.one_mul]; omega, Nat.add_mul_mod_self_right, Nat.mod_eq_of_lt (by omega)]
      rw [hd, hm, show q + 1 - 1 = q by omega, show f.binade + (k - f.binade) = k by omega]
    · have hk2 : k = 2 * f.binade := by omega
      subst hk2
      have hd : (q * f.binade + 2 * f.binade) / f.binade = q + 2 := by
        rw [← Nat.add_mul, Nat.mul_div_cancel _ hb]
      have hm : (q * f.binade + 2 * f.binade) % f.binade = 0 := by
        rw [← Nat.add_mul, Nat.mul_mod_left]
      rw [hd, hm, show q + 2 - 1 = q + 1 by omega, Nat.add_zero, Nat.pow_succ, Nat.mul_assoc 2, Nat.mul_left_comm 2, Nat.mul_comm 2 (2 ^ q)]

/-- What is cut to the nearest whole number is no farther from it than half a unit. -/
theorem cut_near (neg : Bool) (n drop : Nat) :
    2 * (Toward.even.cut neg n drop) * 2 ^ drop ≤ 2 * n + 2 ^ drop ∧ 2 * n ≤ (2 * (Toward.even.cut neg n drop) + 1) * 2 ^ drop := by
  unfold Toward.cut
  by_cases hd : drop ≤ n.log2 + 2
  · rw [show min drop (n.log2 + 2) = drop by omega, Nat.shiftLeft_eq, Nat.one_mul]
    generalize hg : 2 ^ drop = g
    have hgp : 0 < g := by rw [← hg]; exact Nat.two_pow_pos _
    have e := Nat.div_add_mod n g
    have hm := Nat.mod_lt n hgp
    simp only []
    generalize n / g = low at *
    generalize n % g = rest at *
    by_cases hc : (decide (g < 2 * rest) || g == 2 * rest && low % 2 == 1) = true
    · rw [hc]
      have hge : g ≤ 2 * rest := by
        simp only [Bool.or_eq_true, decide_eq_true_eq, Bool.and_eq_true, beq_iff_eq] at hc
        omega
      simp only [Bool.toNat_true]
      have e1 : 2 * (low + 1) * g = 2 * (g * low) + 2 * g := by rw [Nat.mul_comm g low, Nat.mul_assoc, Nat.add_mul]; omega
      have e2 : (2 * (low + 1) + 1) * g = 2 * (g * low) + 3 * g := by rw [Nat.mul_comm g low, Nat.add_mul, Nat.mul_assoc, Nat.add_mul]; omega
      omega
    · have hc : (decide (g < 2 * rest) || g == 2 * rest && low % 2 == 1) = false := by simpa using hc
      rw [hc]
      have hge : 2 * rest ≤ g := by
        simp only [Bool.or_eq_false_iff, decide_eq_false_iff_not] at hc
        omega
      simp only [Bool.toNat_false, Nat.add_zero]
      have e1 : 2 * low * g = 2 * (g * low) := by rw [Nat.mul_comm g low, Nat.mul_assoc]
      have e2 : (2 * low + 1) * g = 2 * (g * low) + g := by rw [Nat.mul_comm g low, Nat.add_mul, Nat.mul_assoc]; omega
      omega
  · rw [show min drop (n.log2 + 2) = n.log2 + 2 by omega, Nat.shiftLeft_eq, Nat.one_mul]
    have hlt : n < 2 ^ (n.log2 + 1) := Nat.lt_log2_self
    have h2 : 2 ^ (n.log2 + 2) = 2 * 2 ^ (n.log2 + 1) := by rw [Nat.pow_succ, Nat.mul_comm]
    have h3 : 2 ^ (n.log2 + 2) ≤ 2 ^ drop := Nat.pow_le_pow_right (by omega) (by omega)
    have e1 : n / 2 ^ (n.log2 + 2) = 0 := Nat.div_eq_of_lt (by omega)
    have e2 : n % 2 ^ (n.log2 + 2) = n := Nat.mod_eq_of_lt (by omega)
    simp only [e1, e2]
    have hc : (decide (2 ^ (n.log2 + 2) < 2 * n) || 2 ^ (n.log2 + 2) == 2 * n && 0 % 2 == 1) = false := by
      simp; omega
    rw [hc]
    simp only [Bool.toNat_false, Nat.add_zero, Nat.mul_zero, Nat.zero_mul, Nat.zero_add, Nat.one_mul]
    omega

/-- The rung to which a number is rounded. -/
def rungOf (f : Format) (m : Nat) (p : Int) : Nat :=
  if m = 0 then 0 else
  let last := max (p + m.log2 - f.fractionBits) f.leastPlace
  min ((last - f.leastPlace).toNat * f.binade + Toward.even.cut false (m <<< (p - last).toNat) (last - p).toNat) f.infRung

theorem cut_neg (neg : Bool) (n drop : Nat) : Toward.even.cut neg n drop = Toward.even.cut false n drop := rfl

theorem nearest_rung (neg : Bool) (m : Nat) (p : Int) : f.nearest neg m p = f.word neg (rungOf f m p) := by
  unfold Format.nearest rungOf
  split
  · rfl
  · rfl

/-- A number in units of 2^base. -/
def at_ (m : Nat) (p base : Int) : Nat := m * 2 ^ (p - base).toNat

/-- HOW A NUMBER IS ROUNDED: its rung is L binades and k, where k units of 2^(leastPlace + L) are nearest to it. -/
theorem rung_spec {m : Nat} {p base : Int} (hm : m ≠ 0) (h1 : base ≤ p) (h2 : base ≤ f.leastPlace) :
    ∃ L k : Nat, rungOf f m p = min (L * f.binade + k) f.infRung ∧ (L = 0 ∨ f.binade ≤ k) ∧ k ≤ 2 * f.binade ∧
      2 * k * (2 ^ L * 2 ^ (f.leastPlace - base).toNat) ≤ 2 * at_ m p base + 2 ^ L * 2 ^ (f.leastPlace - base).toNat ∧
      2 * at_ m p base ≤ (2 * k + 1) * (2 ^ L * 2 ^ (f.leastPlace - base).toNat) ∧
      (L ≠ 0 → f.binade * (2 ^ L * 2 ^ (f.leastPlace - base).toNat) ≤ at_ m p base) := by
  unfold rungOf
  rw [if_neg hm]
  simp only []
  generalize hlast : max (p + m.log2 - f.fractionBits) f.leastPlace = last
  have hl1 : f.leastPlace ≤ last := by omega
  have hl2 : p + m.log2 - f.fractionBits ≤ last := by omega
  obtain ⟨c1, c2⟩ := cut_near false (m <<< (p - last).toNat) (last - p).toNat
  generalize hk : Toward.even.cut false (m <<< (p - last).toNat) (last - p).toNat = k at *
  obtain ⟨L, hL⟩ : ∃ L, (last - f.leastPlace).toNat = L := ⟨_, rfl⟩
  obtain ⟨d, hd⟩ : ∃ d, (last - p).toNat = d := ⟨_, rfl⟩
  obtain ⟨W, hW⟩ : ∃ W, 2 ^ L * 2 ^ (f.leastPlace - base).toNat = W := ⟨_, rfl⟩
  have hW' : W = 2 ^ (last - base).toNat := by rw [← hW, ← Nat.pow_add]; congr 1; omega
  have hWp : 0 < W := by rw [hW']; exact Nat.two_pow_pos _
  rw [hL]
  refine ⟨L, k, rfl, ?_⟩
  rw [hW]
  rw [hd] at c1 c2
  have hn : (m <<< (p - last).toNat) * W = at_ m p base * 2 ^ d := by
    rw [Nat.shiftLeft_eq, hW']
    unfold at_
    rw [Nat.mul_assoc, Nat.mul_assoc, ← Nat.pow_add, ← Nat.pow_add]
    congr 2
    omega
  generalize (m <<< (p - last).toNat) = n at *
  have hgp : 0 < 2 ^ d := Nat.two_pow_pos _
  generalize hM : at_ m p base = M at *
  have k1 : 2 * k * W ≤ 2 * M + W := by
    have := Nat.mul_le_mul_right W c1
    rw [Nat.add_mul, Nat.mul_assoc 2 n W, hn] at this
    apply Nat.le_of_mul_le_mul_right (c := 2 ^ d) _ hgp
    calc 2 * k * W * 2 ^ d = 2 * k * 2 ^ d * W := by rw [Nat.mul_right_comm]
      _ ≤ 2 * (M * 2 ^ d) + 2 ^ d * W := this
      _ = (2 * M + W) * 2 ^ d := by rw [Nat.add_mul, Nat.mul_assoc, Nat.mul_comm (2 ^ d) W]
  have k2 : 2 * M ≤ (2 * k + 1) * W := by
    have := Nat.mul_le_mul_right W c2
    rw [Nat.mul_assoc 2 n W, hn] at this
    apply Nat.le_of_mul_le_mul_right (c := 2 ^ d) _ hgp
    calc 2 * M * 2 ^ d = 2 * (M * 2 ^ d) := by rw [Nat.mul_assoc]
      _ ≤ (2 * k + 1) * 2 ^ d * W := this
      _ = (2 * k + 1) * W * 2 ^ d := by rw [Nat.mul_right_comm]
  have lo := Nat.log2_self_le hm
  have hi := Nat.lt_log2_self (n := m)
  have hMlt : M < 2 * f.binade * W := by
    rw [← hM, hW']
    unfold at_ Format.binade
    calc m * 2 ^ (p - base).toNat < 2 ^ (m.log2 + 1) * 2 ^ (p - base).toNat := Nat.mul_lt_mul_of_pos_right hi (Nat.two_pow_pos _)
      _ = 2 ^ (m.log2 + 1 + (p - base).toNat) := by rw [← Nat.pow_add]
      _ ≤ 2 ^ (1 + f.fractionBits + (last - base).toNat) := Nat.pow_le_pow_right (by omega) (by omega)
      _ = 2 * 2 ^ f.fractionBits * 2 ^ (last - base).toNat := by rw [Nat.pow_add, Nat.pow_add]
  have hbig : L ≠ 0 → f.binade * W ≤ M := by
    intro hne
    have hle : last = p + m.log2 - f.fractionBits := by omega
    rw [← hM, hW']
    unfold at_ Format.binade
    calc 2 ^ f.fractionBits * 2 ^ (last - base).toNat = 2 ^ (m.log2 + (p - base).toNat) := by rw [← Nat.pow_add]; congr 1; omega
      _ = 2 ^ m.log2 * 2 ^ (p - base).toNat := by rw [Nat.pow_add]
      _ ≤ m * 2 ^ (p - base).toNat := Nat.mul_le_mul_right _ lo
  refine ⟨?_, ?_, k1, k2, hbig⟩
  · by_cases h0 : L = 0
    · exact .inl h0
    · right
      have hb := hbig h0
      have : 2 * (f.binade * W) ≤ (2 * k + 1) * W := Nat.le_trans (Nat.mul_le_mul_left 2 hb) k2
      rw [← Nat.mul_assoc] at this
      have := Nat.le_of_mul_le_mul_right this hWp
      omega
  · have h3 : 2 * k * W < (4 * f.binade + 1) * W := by
      have e : (4 * f.binade + 1) * W = 2 * (2 * f.binade * W) + W := by rw [Nat.add_mul, Nat.one_mul, show 4 * f.binade * W = 2 * (2 * f.binade * W) by rw [← Nat.mul_assoc, ← Nat.mul_assoc]]
      omega
    have := Nat.lt_of_mul_lt_mul_right h3
    omega

/-- A number that is no greater than that of a rung is rounded to it or below. -/
theorem rung_le {m R : Nat} {p base : Int} (h1 : base ≤ p) (h2 : base ≤ f.leastPlace) (h : at_ m p base ≤ val f R * 2 ^ (f.leastPlace - base).toNat) : rungOf f m p ≤ R := by
  by_cases hm : m = 0
  · unfold rungOf; rw [if_pos hm]; exact Nat.zero_le _
  obtain ⟨L, k, hr, hq, hk, k1, k2, hb⟩ := rung_spec (f := f) hm h1 h2
  rw [hr]
  obtain ⟨U, hU⟩ : ∃ U, 2 ^ (f.leastPlace - base).toNat = U := ⟨_, rfl⟩
  have hUp : 0 < U := by rw [← hU]; exact Nat.two_pow_pos _
  rw [hU] at h k1 k2 hb
  generalize at_ m p base = M at *
  refine Nat.le_trans (Nat.min_le_left _ _) ?_
  apply Nat.le_of_not_lt
  intro hlt
  have hv := val_lt f hlt
  rw [val_of hq hk] at hv
  have hLp : 0 < 2 ^ L := Nat.two_pow_pos _
  -- the rung's number is a whole number of 2^L, or it is less than a binade of them
  have hcase : (∃ K, val f R = K * 2 ^ L) ∨ (L ≠ 0 ∧ val f R < f.binade * 2 ^ L) := by
    by_cases h0 : R = 0
    · left; exact ⟨0, by rw [h0, val_zero]; simp⟩
    obtain ⟨j, q, hj0, hj, hjq, he, hv'⟩ := rung_parts (f := f) h0
    by_cases hLq : L ≤ q
    · left
      exact ⟨j * 2 ^ (q - L), by rw [hv', Nat.mul_assoc, ← Nat.pow_add, Nat.sub_add_cancel hLq]⟩
    · right
      refine ⟨by omega, ?_⟩
      rw [hv']
      have e : 2 ^ L = 2 ^ (L - q - 1) * (2 * 2 ^ q) := by
        rw [← Nat.mul_assoc, ← Nat.pow_succ, ← Nat.pow_add]; congr 1; omega
      have hge : 1 ≤ 2 ^ (L - q - 1) := Nat.two_pow_pos _
      calc j * 2 ^ q < 2 * f.binade * 2 ^ q := Nat.mul_lt_mul_of_pos_right hj (Nat.two_pow_pos _)
        _ = 1 * (f.binade * (2 * 2 ^ q)) := by rw [Nat.one_mul, Nat.mul_left_comm, Nat.mul_assoc]
        _ ≤ 2 ^ (L - q - 1) * (f.binade * (2 * 2 ^ q)) := Nat.mul_le_mul_right _ hge
        _ = f.binade * 2 ^ L := by rw [e, Nat.mul_left_comm]
  rcases hcase with ⟨K, hK⟩ | ⟨h0, hlt2⟩
  · rw [hK] at hv h
    have hKk : K < k := Nat.lt_of_mul_lt_mul_right hv
    have h3 : 2 * (K + 1) * (2 ^ L * U) ≤ 2 * k * (2 ^ L * U) := Nat.mul_le_mul_right _ (by omega)
    have e : 2 * (K + 1) * (2 ^ L * U) = 2 * (K * 2 ^ L * U) + 2 * (2 ^ L * U) := by rw [Nat.mul_assoc K, Nat.mul_assoc, Nat.add_mul, Nat.one_mul, Nat.mul_add]
    have hpos : 0 < 2 ^ L * U := Nat.mul_pos hLp hUp
    omega
  · have := hb h0
    have h4 : val f R * U < f.binade * 2 ^ L * U := Nat.mul_lt_mul_of_pos_right hlt2 hUp
    rw [← Nat.mul_assoc] at this
    omega

/-- A number that is no less than that of a rung is rounded to it or above. -/
theorem le_rung {m R : Nat} {p base : Int} (h1 : base ≤ p) (h2 : base ≤ f.leastPlace) (hR : R ≤ f.infRung) (h : val f R * 2 ^ (f.leastPlace - base).toNat ≤ at_ m p base) : R ≤ rungOf f m p := by
  by_cases hR0 : R = 0
  · rw [hR0]; exact Nat.zero_le _
  by_cases hm : m = 0
  · exfalso
    have hv : 0 < val f R := by have := val_lt f (r := 0) (s := R) (by omega); rw [val_zero] at this; exact this
    have : 0 < val f R * 2 ^ (f.leastPlace - base).toNat := Nat.mul_pos hv (Nat.two_pow_pos _)
    unfold at_ at h
    rw [hm, Nat.zero_mul] at h
    omega
  obtain ⟨L, k, hr, hq, hk, k1, k2, hb⟩ := rung_spec (f := f) hm h1 h2
  rw [hr]
  obtain ⟨U, hU⟩ : ∃ U, 2 ^ (f.leastPlace - base).toNat = U := ⟨_, rfl⟩
  have hUp : 0 < U := by rw [← hU]; exact Nat.two_pow_pos _
  rw [hU] at h k1 k2 hb
  generalize at_ m p base = M at *
  refine Nat.le_min.2 ⟨?_, hR⟩
  apply Nat.le_of_not_lt
  intro hlt
  have hv := val_lt f hlt
  rw [val_of hq hk] at hv
  have hLp : 0 < 2 ^ L := Nat.two_pow_pos _
  obtain ⟨j, q, hj0, hj, hjq, he, hv'⟩ := rung_parts (f := f) hR0
  by_cases hLq : L ≤ q
  · have hK : val f R = j * 2 ^ (q - L) * 2 ^ L := by rw [hv', Nat.mul_assoc, ← Nat.pow_add, Nat.sub_add_cancel hLq]
    generalize j * 2 ^ (q - L) = K at hK
    rw [hK] at hv h
    have hKk : k < K := Nat.lt_of_mul_lt_mul_right hv
    have h3 : (2 * k + 2) * (2 ^ L * U) ≤ 2 * (K * (2 ^ L * U)) := by
      have : (2 * k + 2) * (2 ^ L * U) ≤ 2 * K * (2 ^ L * U) := Nat.mul_le_mul_right _ (by omega)
      rwa [Nat.mul_assoc 2 K] at this
    rw [Nat.mul_assoc] at h
    have e : (2 * k + 2) * (2 ^ L * U) = (2 * k + 1) * (2 ^ L * U) + 2 ^ L * U := by rw [← Nat.succ_mul]
    have hpos : 0 < 2 ^ L * U := Nat.mul_pos hLp hUp
    omega
  · have hkb : f.binade ≤ k := by rcases hq with h | h <;> omega
    have e : 2 ^ L = 2 ^ (L - q - 1) * (2 * 2 ^ q) := by
      rw [← Nat.mul_assoc, ← Nat.pow_succ, ← Nat.pow_add]; congr 1; omega
    have hge : 1 ≤ 2 ^ (L - q - 1) := Nat.two_pow_pos _
    have : val f R < k * 2 ^ L := by
      rw [hv']
      calc j * 2 ^ q < 2 * f.binade * 2 ^ q := Nat.mul_lt_mul_of_pos_right hj (Nat.two_pow_pos _)
        _ = 1 * (f.binade * (2 * 2 ^ q)) := by rw [Nat.one_mul, Nat.mul_left_comm, Nat.mul_assoc]
        _ ≤ 2 ^ (L - q - 1) * (f.binade * (2 * 2 ^ q)) := Nat.mul_le_mul_right _ hge
        _ = f.binade * 2 ^ L := by rw [e, Nat.mul_left_comm]
        _ ≤ k * 2 ^ L := Nat.mul_le_mul_right _ hkb
    omega

end
end Go.Proofs.Yteamnfockjnilaa.Flt
/-
  Sums and products in any order, and with the other sign, up to the choice of a NaN. No program is named here.
-/
set_option linter.unusedVariables false
set_option linter.unusedSimpArgs false
namespace Go.Proofs.Yteamnfockjnilaa
open Go Flt
namespace Flt
open Ieee

theorem sum_comm (a b : Datum) : a.sum b = b.sum a := by
  cases a <;> cases b <;> simp only [Datum.sum]
  · rename_i s m i t n j
    simp only [Option.some.injEq, Datum.number.injEq]
    rw [Int.min_comm j i, Int.add_comm (signed t n _) (signed s m _), Bool.and_comm t s]
    exact ⟨rfl, rfl, rfl⟩
  · rename_i s t
    by_cases h : s = t
    · subst h; rfl
    · rw [if_neg h, if_neg (fun e => h e.symm)]

theorem product_comm (a b : Datum) : a.product b = b.product a := by
  cases a <;> cases b <;> simp only [Datum.product]
  · simp only [Option.some.injEq, Datum.number.injEq]
    exact ⟨Bool.xor_comm _ _, Nat.mul_comm _ _, Int.add_comm _ _⟩
  · rw [Bool.xor_comm]

theorem add_comm' (k : FloatKind) (x y : Nat) : floatBits .add k x y = floatBits .add k y x := by
  show Option.map _ _ = Option.map _ _
  rw [sum_comm]
theorem mul_comm' (k : FloatKind) (x y : Nat) : floatBits .mul k x y = floatBits .mul k y x := by
  show Option.map _ _ = Option.map _ _
  rw [product_comm]
theorem fop_add_comm (k : FloatKind) (a b : Option Nat) : fop .add k a b = fop .add k b a := by
  cases a <;> cases b <;> simp only [fop]
  exact add_comm' _ _ _
theorem fop_mul_comm (k : FloatKind) (a b : Option Nat) : fop .mul k a b = fop .mul k b a := by
  cases a <;> cases b <;> simp only [fop]
  exact mul_comm' _ _ _

/-- The word of the other sign stands for the opposite. -/
theorem read_neg {x : Nat} (h : x < 18446744073709551616) : double.read (Op.negFloat .f64 x) = (double.read x).opposite := by
  have e : ∃ s r, x / double.signWeight % 2 = s ∧ x % double.signWeight = r ∧ (s = 0 ∧ Op.negFloat .f64 x / double.signWeight % 2 = 1 ∨ s = 1 ∧ Op.negFloat .f64 x / double.signWeight % 2 = 0) ∧ Op.negFloat .f64 x % double.signWeight = r := by
    have hw : double.signWeight = 9223372036854775808 := by decide
    rw [hw]
    have e1 : Op.negFloat .f64 x = x ^^^ 2 ^ 63 := rfl
    rw [e1]
    by_cases h1 : x < 9223372036854775808
    · rw [neg64_lo h1]; exact ⟨_, _, rfl, rfl, by omega, by omega⟩
    · rw [neg64_hi (by omega) h]; exact ⟨_, _, rfl, rfl, by omega, by omega⟩
  obtain ⟨s, r, e1, e2, e3, e4⟩ := e
  unfold Format.read
  rw [e1, e2, e4]
  rcases e3 with ⟨rfl, e3⟩ | ⟨rfl, e3⟩ <;> rw [e3] <;> simp only <;> split <;> first | rfl | (split <;> first | rfl | (split <;> rfl))

theorem word_neg (b : Bool) {r : Nat} (h : r ≤ double.infRung) : double.word (!b) r = Op.negFloat .f64 (double.word b r) := by
  have h1 : r < 9223372036854775808 := Nat.lt_of_le_of_lt h (by decide)
  have e1 : ∀ x, Op.negFloat .f64 x = x ^^^ 2 ^ 63 := fun _ => rfl
  have hw : double.signWeight = 9223372036854775808 := by decide
  unfold Format.word
  rw [e1, hw]
  cases b
  · simp only [Bool.not_false, if_true, Bool.false_eq_true, if_false]
    rw [neg64_lo h1]; omega
  · simp only [Bool.not_true, if_true, Bool.false_eq_true, if_false]
    rw [neg64_hi (by omega) (by omega)]; omega

theorem nearest_neg (b : Bool) (m : Nat) (p : Int) : double.nearest (!b) m p = Op.negFloat .f64 (double.nearest b m p) := by
  unfold Format.nearest
  by_cases hm : m = 0
  · rw [if_pos hm, if_pos hm]; exact word_neg b (Nat.zero_le _)
  · rw [if_neg hm, if_neg hm]
    exact word_neg b (Nat.min_le_right _ _)

theorem write_opp {d : Datum} (h : d.isNaN = false) : double.write d.opposite = Op.negFloat .f64 (double.write d) := by
  cases d with
  | number s m p => exact nearest_neg s m p
  | infinity s => exact word_neg s (Nat.le_refl _)
  | nan => cases h

theorem product_num2 {a b d : Datum} (h : a.product b = some d) : d.isNaN = false := by
  cases a <;> cases b <;> simp only [Datum.product] at h <;> first | (cases h; done) | (cases h; rfl) | (split at h <;> first | (cases h; done) | (cases h; rfl))
theorem sum_num2 {a b d : Datum} (h : a.sum b = some d) : d.isNaN = false := by
  cases a <;> cases b <;> simp only [Datum.sum] at h <;> first | (cases h; done) | (cases h; rfl) | (split at h <;> first | (cases h; done) | (cases h; rfl))

theorem product_opp (a b : Datum) : a.product b.opposite = (a.product b).map Datum.opposite := by
  cases a <;> cases b <;> simp only [Datum.product, Datum.opposite, Option.map] <;> first | rfl | (simp [Datum.opposite]; done) | (split <;> simp [Datum.opposite])

theorem mul_neg' {x y : Nat} (h : y < 18446744073709551616) : floatBits .mul .f64 x (Op.negFloat .f64 y) = (floatBits .mul .f64 x y).map (Op.negFloat .f64) := by
  show Option.map double.write ((double.read x).product (double.read (Op.negFloat .f64 y))) = Option.map _ (Option.map double.write ((double.read x).product (double.read y)))
  rw [read_neg h, product_opp]
  cases e : (double.read x).product (double.read y) with
  | none => rfl
  | some d => exact congrArg some (write_opp (product_num2 e))

theorem opp_opp (d : Datum) : d.opposite.opposite = d := by cases d <;> simp [Datum.opposite]
theorem sub_neg' {x y : Nat} (h : y < 18446744073709551616) : floatBits .sub .f64 x (Op.negFloat .f64 y) = floatBits .add .f64 x y := by
  show Option.map double.write ((double.read x).sum (double.read (Op.negFloat .f64 y)).opposite) = Option.map double.write ((double.read x).sum (double.read y))
  rw [read_neg h, opp_opp]

theorem sum_opp (d : Datum) : d.opposite.sum d = none ∨ ∃ p, d.opposite.sum d = some (.number false 0 p) := by
  cases d with
  | nan => exact .inl rfl
  | infinity s => left; cases s <;> rfl
  | number s m p =>
    right
    have e : signed (!s) m (p - min p p).toNat + signed s m (p - min p p).toNat = 0 := by
      unfold signed
      cases s <;> simp <;> omega
    refine ⟨min p p, ?_⟩
    simp only [Datum.sum, Datum.opposite]
    rw [e]
    cases s <;> rfl

theorem neg_add_self {x : Nat} (h : x < 18446744073709551616) : floatBits .add .f64 (Op.negFloat .f64 x) x = none ∨ floatBits .add .f64 (Op.negFloat .f64 x) x = some 0 := by
  have e : floatBits .add .f64 (Op.negFloat .f64 x) x = Option.map double.write ((double.read x).opposite.sum (double.read x)) := by
    show Option.map double.write ((double.read (Op.negFloat .f64 x)).sum (double.read x)) = _
    rw [read_neg h]
  rw [e]
  rcases sum_opp (double.read x) with e1 | ⟨p, e1⟩ <;> rw [e1]
  · exact .inl rfl
  · right; rfl

/-- A float up to NaN that has a word. -/
def WfO (a : Option Nat) : Prop := ∀ x, a = some x → x < 18446744073709551616
theorem wfO_fop (op : BinOp) (a b : Option Nat) : WfO (fop op .f64 a b) := by
  intro x h
  cases a <;> cases b <;> simp only [fop] at h <;> first | (cases h; done) | (have := floatBits_wf h; simpa [Lit.wf] using this)
theorem IsF.wfO {u : Nat} {a : Option Nat} (h : IsF u a) : WfO a := by
  intro x e
  have h1 := h.cn
  unfold Flt.cn at h1
  rw [e] at h1
  split at h1
  · cases h1
  · cases h1; exact h.lt
theorem wfO_neg {a : Option Nat} (h : WfO a) : WfO (fneg .f64 a) := by
  intro x e
  cases a with
  | none => cases e
  | some y => cases e; exact negFloat64_lt (h y rfl)
theorem fop_mul_neg {a b : Option Nat} (h : WfO b) : fop .mul .f64 a (fneg .f64 b) = fneg .f64 (fop .mul .f64 a b) := by
  cases a <;> cases b <;> first | rfl | exact mul_neg' (h _ rfl)
theorem fop_sub_neg {a b : Option Nat} (h : WfO b) : fop .sub .f64 a (fneg .f64 b) = fop .add .f64 a b := by
  cases a <;> cases b <;> first | rfl | exact sub_neg' (h _ rfl)
theorem fop_neg_add {a : Option Nat} (h : WfO a) : fop .add .f64 (fneg .f64 a) a = none ∨ fop .add .f64 (fneg .f64 a) a = some 0 := by
  cases a with
  | none => exact .inl rfl
  | some x => exact neg_add_self (h x rfl)
theorem fop_zero_add {a b : Option Nat} (ha : a = none ∨ a = some 0) (hb : b = none ∨ b = some 0) : fop .add .f64 a b = none ∨ fop .add .f64 a b = some 0 := by
  rcases ha with rfl | rfl <;> rcases hb with rfl | rfl
  · exact .inl rfl
  · exact .inl rfl
  · exact .inl rfl
  · right; decide +kernel
end Flt
end Go.Proofs.Yteamnfockjnilaa
/-
  Signals of wide complex numbers: as values, and what they stand for up to the choice of NaNs.
-/
set_option linter.unusedVariables false
set_option linter.unusedSimpArgs false
namespace Go.Proofs.Yteamnfockjnilaa
open Go.RowKit Flt

namespace Fast
abbrev Z := Option Nat × Option Nat
def mulZ (a b : Z) : Z := (fop .sub .f64 (fop .mul .f64 a.1 b.1) (fop .mul .f64 a.2 b.2), fop .add .f64 (fop .mul .f64 a.1 b.2) (fop .mul .f64 a.2 b.1))
def addZ (a b : Z) : Z := (fop .add .f64 a.1 b.1, fop .add .f64 a.2 b.2)
def subZ (a b : Z) : Z := (fop .sub .f64 a.1 b.1, fop .sub .f64 a.2 b.2)
def z0 : Z := (some 0, some 0)

end Fast
open Fast
abbrev C := Nat × Nat
/-- Complex numbers as values. -/
def cval (p : C) : Value := .complex .f64 p.1 p.2
def cvals (xs : List C) : List Value := xs.map cval
theorem cvals_length (xs : List C) : (cvals xs).length = xs.length := by simp [cvals]
theorem cvals_getD {xs : List C} {j : Nat} (h : j < xs.length) : (cvals xs).getD j undef = .complex .f64 (xs.getD j (0, 0)).1 (xs.getD j (0, 0)).2 := getD_map _ xs (0, 0) h

/-- A complex number, up to the choice of NaNs. -/
structure IsC (p : C) (z : Option Nat × Option Nat) : Prop where
  re : IsF p.1 z.1
  im : IsF p.2 z.2

theorem info_c128 : (Try.prog.info? 27).map (fun i => (i.zero, i.size, i.bytes)) = some (some (.complex .f64 0 0), 1, 16) := by kernel_rfl

theorem grown_new {w w1 w2 : World} {row : Option Nat} {B : Nat} (h : w.grownBy w1 row) (k : w1.grownBy w2 (some B)) (hB : w.heap.size ≤ B) : w.grownBy w2 row :=
  ⟨k.os.trans h.os, k.tape.trans h.tape, k.output.trans h.output, Nat.le_trans h.size k.size, fun j hj hr => (k.block j (Nat.lt_of_lt_of_le hj h.size) (by simp; omega)).trans (h.block j hj hr)⟩

theorem cvals_snoc (xs : List C) (p : C) : cvals (xs ++ [p]) = cvals xs ++ [cval p] := by simp [cvals]

/-- The next place of a row that is being filled. -/
theorem fill_step {xs : List C} {p : C} {n k : Nat} (hk : k < n) (hx : xs.length = k) (z : Value) :
    (cvals xs ++ List.replicate (n - k) z).set k (cval p) = cvals (xs ++ [p]) ++ List.replicate (n - (k + 1)) z := by
  rw [List.set_append_right _ _ (by rw [cvals_length]; omega), cvals_length, hx, Nat.sub_self, cvals_snoc]
  obtain ⟨m, hm⟩ : ∃ m, n - k = m + 1 := ⟨n - k - 1, by omega⟩
  rw [hm, List.replicate_succ, List.set_cons_zero, show n - (k + 1) = m by omega, List.append_assoc]
  rfl

theorem fill_good {xs : List C} {p : C} {k : Nat} {z : Nat → Option Nat × Option Nat} (hx : xs.length = k) (hg : ∀ i, i < k → IsC (xs.getD i (0, 0)) (z i)) (hp : IsC p (z k)) :
    (xs ++ [p]).length = k + 1 ∧ ∀ i, i < k + 1 → IsC ((xs ++ [p]).getD i (0, 0)) (z i) := by
  refine ⟨by simp [hx], fun i hi => ?_⟩
  rcases Nat.lt_or_eq_of_le (Nat.le_of_lt_succ hi) with h | h
  · rw [show (xs ++ [p]).getD i (0, 0) = xs.getD i (0, 0) by simp [List.getD, List.getElem?_append_left, hx, h]]
    exact hg i h
  · subst h
    rw [show (xs ++ [p]).getD i (0, 0) = p by simp [List.getD, ← hx]]
    exact hp

/-- A complex number is returned, likewise. -/
def RetC (z : Option Nat × Option Nat) (w : World) (e : Ending) (w' : World) : Prop := ∃ a b, e = .returned (.complex .f64 a b) ∧ IsF a z.1 ∧ IsF b z.2 ∧ ∃ n, w' = w.drewN n

/-- What complex numbers stand for. -/
def zOf (p : C) : Z := (cn .f64 p.1, cn .f64 p.2)
def zsOf (xs : List C) : List Z := xs.map zOf
def WfC (xs : List C) : Prop := ∀ p ∈ xs, p.1 < 18446744073709551616 ∧ p.2 < 18446744073709551616
theorem zsOf_length (xs : List C) : (zsOf xs).length = xs.length := by simp [zsOf]
theorem zsOf_getD {xs : List C} {j : Nat} (h : j < xs.length) : (zsOf xs).getD j z0 = zOf (xs.getD j (0, 0)) := by simp [zsOf, List.getD, h]
theorem isC_zOf {p : C} (h : p.1 < 18446744073709551616 ∧ p.2 < 18446744073709551616) : IsC p (zOf p) := ⟨⟨rfl, h.1⟩, ⟨rfl, h.2⟩⟩
theorem getD_memC {xs : List C} {j : Nat} (h : j < xs.length) : xs.getD j (0, 0) ∈ xs := by
  rw [List.getD_eq_getElem?_getD, List.getElem?_eq_getElem h]
  exact List.getElem_mem h
theorem isC_getD {xs : List C} {j : Nat} (hw : WfC xs) (h : j < xs.length) : IsC (xs.getD j (0, 0)) ((zsOf xs).getD j z0) := by
  rw [zsOf_getD h]; exact isC_zOf (hw _ (getD_memC h))

theorem Row.base {w : World} {B B' : Nat} {e : TypeId} {v : Value} {cs : List Value} (h : Row w B' e v cs) (hB : B ≤ B') : Row w B e v cs := by
  refine ⟨h.1, ?_⟩
  rcases h.2 with hn | ⟨g, cap, cur, rfl, hb, r⟩
  · exact .inl hn
  · exact .inr ⟨g, cap, cur, rfl, Nat.le_trans hB hb, r⟩


end Go.Proofs.Yteamnfockjnilaa
/-
  What an operation on floats gives in a world, as an equation (a NaN's bits are the tape's): for regions that draw their order. No program is named here.
-/
set_option linter.unusedVariables false
set_option linter.unusedSimpArgs false
namespace Go.Proofs.Yteamnfockjnilaa.Flt
open Go

/-- The bits of a result in the world w. -/
def fres (op : BinOp) (k : FloatKind) (x y : Nat) (w : World) : Nat := match floatBits op k x y with
  | some r => r
  | none => Question.cut (.nanBits k x y) (w.tape w.drawn (.nanBits k x y))
/-- How often it draws. -/
def fcnt (op : BinOp) (k : FloatKind) (x y : Nat) : Nat := match floatBits op k x y with
  | some _ => 0
  | none => 1

theorem cn_fres (op : BinOp) (k : FloatKind) (x y : Nat) (w : World) : cn k (fres op k x y w) = floatBits op k x y := by
  unfold fres
  split
  · rename_i r h; rw [h]; exact cn_some (floatBits_num h)
  · rename_i h; rw [h]; exact cn_none (cut_nan k x y _).1
theorem fres_lt64 (op : BinOp) (x y : Nat) (w : World) : fres op .f64 x y w < 18446744073709551616 := by
  unfold fres
  split
  · rename_i r h; have := floatBits_wf h; simpa [Lit.wf] using this
  · exact (cut_nan .f64 x y _).2

theorem isF_fres {op : BinOp} {x y : Nat} {a b : Option Nat} (hx : IsF x a) (hy : IsF y b) (w : World) : IsF (fres op .f64 x y w) (fop op .f64 a b) :=
  ⟨cn_op (cn_fres op .f64 x y w) hx.cn hy.cn, fres_lt64 op x y w⟩

section
variable {P : Program} (w : World)

theorem run_fres (op : BinOp) (hop : op = .add ∨ op = .sub ∨ op = .mul ∨ op = .quo) (k : FloatKind) (x y : Nat) :
    (Op.floatArith op k x y).run P w = .ok (.float k (fres op k x y w)) (w.drewN (fcnt op k x y)) := by
  cases h : floatBits op k x y with
  | some r =>
    have e1 : fres op k x y w = r := by unfold fres; rw [h]
    have e2 : fcnt op k x y = 0 := by unfold fcnt; rw [h]
    rw [e1, e2]
    exact run_floatArith w h
  | none =>
    have e1 : fres op k x y w = Question.cut (.nanBits k x y) (w.tape w.drawn (.nanBits k x y)) := by unfold fres; rw [h]
    have e2 : fcnt op k x y = 1 := by unfold fcnt; rw [h]
    rw [e1, e2]
    rcases hop with rfl | rfl | rfl | rfl <;> simp only [floatBits] at h <;> simp [Op.floatArith, h, Question.forced] <;> rfl

theorem run_fadd (t : TypeId) (k : FloatKind) (x y : Nat) : (binOp .add t (.float k x) (.float k y)).run P w = .ok (.float k (fres .add k x y w)) (w.drewN (fcnt .add k x y)) := by
  simpa [binOp] using run_fres (P := P) w .add (by simp) k x y
theorem run_fsub (t : TypeId) (k : FloatKind) (x y : Nat) : (binOp .sub t (.float k x) (.float k y)).run P w = .ok (.float k (fres .sub k x y w)) (w.drewN (fcnt .sub k x y)) := by
  simpa [binOp] using run_fres (P := P) w .sub (by simp) k x y
theorem run_fmul (t : TypeId) (k : FloatKind) (x y : Nat) : (binOp .mul t (.float k x) (.float k y)).run P w = .ok (.float k (fres .mul k x y w)) (w.drewN (fcnt .mul k x y)) := by
  simpa [binOp] using run_fres (P := P) w .mul (by simp) k x y
theorem run_fquo (t : TypeId) (k : FloatKind) (x y : Nat) : (binOp .quo t (.float k x) (.float k y)).run P w = .ok (.float k (fres .quo k x y w)) (w.drewN (fcnt .quo k x y)) := by
  simpa [binOp] using run_fres (P := P) w .quo (by simp) k x y
theorem run_cadd (t : TypeId) (k : FloatKind) (x y u v : Nat) : (binOp .add t (.complex k x y) (.complex k u v)).run P w =
    .ok (.complex k (fres .add k x u w) (fres .add k y v (w.drewN (fcnt .add k x u)))) (w.drewN (fcnt .add k x u + fcnt .add k y v)) := by
  simp [binOp, Op.complexOp, Op.Complex.arith, run_fres, World.drewN_drewN]
theorem run_csub (t : TypeId) (k : FloatKind) (x y u v : Nat) : (binOp .sub t (.complex k x y) (.complex k u v)).run P w =
    .ok (.complex k (fres .sub k x u w) (fres .sub k y v (w.drewN (fcnt .sub k x u)))) (w.drewN (fcnt .sub k x u + fcnt .sub k y v)) := by
  simp [binOp, Op.complexOp, Op.Complex.arith, run_fres, World.drewN_drewN]
end

end Go.Proofs.Yteamnfockjnilaa.Flt
/-
  Products, squares and kin of complex numbers, of the program and of the model.
-/
set_option linter.unusedVariables false
set_option linter.unusedSimpArgs false
namespace Go.Proofs.Yteamnfockjnilaa
open Go.RowKit Flt Fast
attribute [local go_sem] run_fadd run_fsub run_fmul run_fquo run_cadd run_csub

/-- A complex number is returned, up to the choice of NaNs; what was there has not turned. -/
def RetsC (z : Z) (w : World) (e : Ending) (w' : World) : Prop := ∃ a b, e = .returned (.complex .f64 a b) ∧ IsC (a, b) z ∧ Below w.heap.size w w'
/-- A float is returned, up to the choice of NaNs; what was there has not turned. -/
def RetsR (z : Option Nat) (w : World) (e : Ending) (w' : World) : Prop := ∃ a, e = .returned (.float .f64 a) ∧ IsF a z ∧ Below w.heap.size w w'

set_option maxRecDepth 100000 in
set_option maxHeartbeats 4000000 in
theorem mul_spec (a b c d : Nat) (x y : Z) (h1 : IsC (a, b) x) (h2 : IsC (c, d) y) (w : World) :
    Calls Try.prog 22 #[.complex .f64 a b, .complex .f64 c d] w (RetC (mulZ x y) w) := by
  have H1 := Lib.hid h1
  have H2 := Lib.hid h2
  clear h1 h2
  go_enter Try.func22, Try.ntmps22
  go_wp2
  go_ret
  exact ⟨_, _, rfl, isF_fres (isF_fres H1.out.re H2.out.re _) (isF_fres H1.out.im H2.out.im _) _, isF_fres (isF_fres H1.out.re H2.out.im _) (isF_fres H1.out.im H2.out.re _) _, _, rfl⟩

set_option maxRecDepth 100000 in
set_option maxHeartbeats 4000000 in
theorem times_any (a b c d : Nat) (x y : Z) (h1 : IsC (a, b) x) (h2 : IsC (c, d) y) (w : World) :
    Calls Try.prog 35 #[.agg #[.complex .f64 a b], .agg #[.complex .f64 c d]] w (RetsC (mulZ x y) w) := by
  have H1 := Lib.hid h1
  have H2 := Lib.hid h2
  clear h1 h2
  go_enter Try.func35, Try.ntmps35
  go_wp2_with fail
  refine (parts_any a b _).mono ?_
  rintro e w1 ⟨rfl, hb1⟩
  have hy : w.heap.size + 1 < w1.heap.size := by have := hb1.size; simp at this; omega
  have c3 : w1.cell? ⟨w.heap.size + 1, 0, none⟩ = some (.complex .f64 c d) := by
    rw [hb1.cell (by simp)]; simp
  have HB1 : Hid (Below w.heap.size w w1) := (((Below.refl _ _).alloc (Nat.le_refl _) _).alloc (by simp) _).trans (hb1.mono (by simp; omega))
  clear hb1
  go_wp2_with fail
  refine (parts_any c d _).mono ?_
  rintro e w2 ⟨rfl, hb2⟩
  have HB2 : Hid (Below w.heap.size w w2) := HB1.out.trans (hb2.mono HB1.out.size)
  clear hb2 HB1 c3 hy
  go_wp2
  go_ret
  exact ⟨_, _, rfl, ⟨isF_fres (isF_fres H1.out.re H2.out.re _) (isF_fres H1.out.im H2.out.im _) _, isF_fres (isF_fres H1.out.re H2.out.im _) (isF_fres H1.out.im H2.out.re _) _⟩, below_draws HB2.out _⟩

theorem product_impl (a b c d : Nat) (x y : Z) (h1 : IsC (a, b) x) (h2 : IsC (c, d) y) (w : World) :
    Calls Try.prog 18 #[.complex .f64 a b, .complex .f64 c d] w (RetsC (mulZ x y) w) := by
  have H1 := Lib.hid h1
  have H2 := Lib.hid h2
  clear h1 h2
  go_enter Try.func18, Try.ntmps18
  go_wp2_with fail
  refine (numberOf_any a b _).mono ?_
  rintro e w1 ⟨rfl, b1⟩
  go_wp2_with fail
  refine (numberOf_any c d _).mono ?_
  rintro e w2 ⟨rfl, b2⟩
  have HB := Lib.hid (below_step b1 b2 b1.size)
  clear b1 b2
  go_wp2_with fail
  refine (times_any a b c d x y H1.out H2.out _).mono ?_
  rintro e w3 ⟨r, s, rfl, hr, b3⟩
  replace HB := Lib.hid (below_step HB.out b3 HB.out.size)
  have HR := Lib.hid hr
  clear hr b3
  go_wp2
  go_ret
  exact ⟨r, s, rfl, HR.out, HB.out⟩

/-- The square of a size. -/
def sqZ (x : Z) : Option Nat := fop .add .f64 (fop .mul .f64 x.1 x.1) (fop .mul .f64 x.2 x.2)

end Go.Proofs.Yteamnfockjnilaa
/-
  The iterator over a slice from its end: what it tells.
-/
set_option linter.unusedVariables false
set_option linter.unusedSimpArgs false
namespace Go.Proofs.Yteamnfockjnilaa
open Go.RowKit Go.Shelf
attribute [local go_sem] Oper.semAt_some wide_fn wide_depth wide_fnR wide_depthR

/-- The elements from the last one on: the state is how many are still to come. -/
def bwTold (L : Nat) (vals : Nat → Value) : Told Nat (Nat × Value) where
  encs := fun p => #[.int .i64 (p.1 : Int), p.2]
  step := fun s p s' => s = s' + 1 ∧ s ≤ L ∧ p = (s', vals s')
  silent := fun _ _ => False
  start := L
  last := 0

set_option maxRecDepth 100000 in
set_option maxHeartbeats 8000000 in
theorem backwardC_tells (n Bp n₁ B L cap : Nat) (vals : Nat → Value) (a : Option Addr) (w : World) (hBp : Bp < n₁) (hBpB : Bp ≠ B) (hn₁ : n₁ ≤ w.heap.size)
    (hp : w.cell? ⟨Bp, 0, none⟩ = some (.slice a L cap)) (hc : ∀ j, j < L → ∃ g, a = some ⟨g, 0, none⟩ ∧ g < n₁ ∧ g ≠ B ∧ L ≤ cap ∧ cap ≤ maxLen ∧ w.cell? ⟨g, j, none⟩ = some (vals j)) :
    Tells Fence.wide n Try.prog 33 #[.pointer (some ⟨Bp, 0, none⟩)] (bwTold L vals) (KeptBut n₁ B) w := by
  intro l J Jx W hW hJ hJx hS hY h0
  have hk0 : Below n₁ w W := hW.mono hn₁
  have hp' : W.cell? ⟨Bp, 0, none⟩ = some (.slice a L cap) := by rw [hk0.cell (p := ⟨Bp, 0, none⟩) hBp]; exact hp
  have hmax : (L : Int) ≤ 9223372036854775807 := by
    by_cases h0 : L = 0
    · omega
    · obtain ⟨g, _, _, _, hc1, hm, _⟩ := hc 0 (by omega)
      unfold maxLen at hm
      omega
  have HC := Lib.hid (fun (wr : World) (hk : KeptBut n₁ B W wr) (j : Nat) (hj : j < L) => by
    obtain ⟨g, e, h1, h2, h3, h4, h5⟩ := hc j hj
    exact (⟨g, e, h3, h4, by rw [hk.cell h1 h2, hk0.cell (p := ⟨g, j, none⟩) h1]; exact h5⟩ : ∃ g, a = some ⟨g, 0, none⟩ ∧ L ≤ cap ∧ cap ≤ maxLen ∧ wr.cell? ⟨g, j, none⟩ = some (vals j)))
  have HY := Lib.hid hY
  have H0 := Lib.hid h0
  have hL1 : IntKind.i64.wrap ((L : Int) - 1) = (L : Int) - 1 := IntWalk.i64_in _ (by omega)
  clear hJ hJx hS hY h0 hc hp hk0 hW
  refine callsIn_of_wp Try.func33 rfl trivial ?_ rfl
  simp only [Try.ntmps33, List.size_toArray, List.length_cons, List.length_nil, Nat.reduceAdd, Nat.reduceSub, Array.replicate_succ, Array.replicate_zero, List.push_toArray, List.append_toArray, List.nil_append, List.cons_append]
  gi_wp2
  gi_loopw [3] (fun i wr => ∃ (j : Int) (k : Nat), i = .int .i64 j ∧ j = (k : Int) - 1 ∧ k ≤ L ∧ J k wr ∧ KeptBut n₁ B W wr)
    (fun i _ => (intOf i + 1).toNat)
  case atStart => exact ⟨(L : Int) - 1, L, rfl, rfl, Nat.le_refl _, H0.out, KeptBut.refl _ _ _⟩
  case round =>
    obtain ⟨j, k, rfl, hj, hk, hJk, hkb⟩ := hrel
    have d0 : wr.cell? ⟨Bp, 0, none⟩ = some (.slice a L cap) := by rw [hkb.cell hBp hBpB]; exact hp'
    rcases k with _ | m
    · obtain rfl : j = -1 := by omega
      have HJ := Lib.hid hJk
      clear hj hJk hkb H0
      gi_wp2
      go_end0
      exact ⟨⟨_, rfl⟩, .inl HJ.out⟩
    · obtain rfl : j = (m : Int) := by omega
      have hlt : m < L := by omega
      obtain ⟨g, rfl, hcl, hcm, c0⟩ := HC.out wr hkb m hlt
      obtain ⟨v, hv⟩ : ∃ v, vals m = v := ⟨_, rfl⟩
      obtain ⟨fn, tmps, assign, body, hy, hR⟩ := HY.out (m + 1) (m, vals m) m wr hJk ⟨rfl, hk, rfl⟩
      dsimp only [bwTold] at hy
      rw [hv] at c0 hy
      have hm1 : IntKind.i64.wrap ((m : Int) - 1) = (m : Int) - 1 := IntWalk.i64_in _ (by omega)
      have HK := Lib.hid hkb
      clear hj hJk hkb H0 hv
      gi_wp2
      refine hR.mono ?_
      rintro e W3 (⟨rfl, hJ3, hk3⟩ | ⟨rfl, hJx3⟩)
      · have HJ3 := Lib.hid hJ3
        have HK3 := Lib.hid (HK.out.trans hk3)
        clear hJ3 hk3 hy hR c0 d0
        gi_wp2
        go_roundw
        case rel => exact ⟨(m : Int) - 1, m, rfl, rfl, by omega, HJ3.out, HK3.out⟩
        case measure => first | (simp [intOf]; done) | (simp [intOf]; omega)
      · have HJ3 := Lib.hid hJx3
        clear hJx3 hy hR c0 d0
        gi_wp2
        refine bodyPost_ret (results_none rfl _ _ _) rfl ?_
        exact ⟨⟨_, rfl⟩, .inr ⟨_, HJ3.out⟩⟩

end Go.Proofs.Yteamnfockjnilaa
/-
  Sizes of differences, products and quotients of numbers from 0 to 1. No program.
-/
set_option linter.unusedVariables false
set_option linter.unusedSimpArgs false
namespace Go.Proofs.Yteamnfockjnilaa.Flt
section
open Ieee
variable {f : Format} {LP one : Nat}

theorem val_mono {r s : Nat} (h : r ≤ s) : val f r ≤ val f s := by
  rcases Nat.lt_or_eq_of_le h with h | h
  · exact Nat.le_of_lt (val_lt f h)
  · rw [h]; exact Nat.le_refl _

theorem read_pos {x : Nat} (h : x < f.infRung) : ∃ m p, f.read x = .number false m p ∧ f.leastPlace ≤ p ∧ m * 2 ^ (p - f.leastPlace).toNat = val f x := by
  obtain ⟨m, p, h1, h2, h3⟩ := read_word (f := f) false h
  exact ⟨m, p, h1, h2, h3⟩

theorem word_false (f : Format) (r : Nat) : f.word false r = r := rfl

/-- A product of numbers that are not negative. -/
theorem mul_le {x y R : Nat} (hLP : f.leastPlace = -(LP : Int)) (hx : x < f.infRung) (hy : y < f.infRung) (hv : val f x * val f y ≤ val f R * 2 ^ LP) :
    ∃ r, f.mul x y = some r ∧ r ≤ R := by
  obtain ⟨m, i, e1, i1, v1⟩ := read_pos hx
  obtain ⟨n, j, e2, j1, v2⟩ := read_pos hy
  rw [hLP] at i1 j1 v1 v2
  refine ⟨rungOf f (m * n) (i + j), ?_, ?_⟩
  · unfold Format.mul
    rw [e1, e2]
    simp only [Datum.product, Option.map_some, Format.write, Bool.xor_false, nearest_rung, word_false]
  · refine rung_le (base := -(LP : Int) - LP) (by omega) (by rw [hLP]; omega) ?_
    rw [hLP, show (-(LP : Int) - (-(LP : Int) - LP)).toNat = LP by omega]
    refine Nat.le_trans (Nat.le_of_eq ?_) hv
    unfold at_
    rw [← v1, ← v2, Nat.mul_mul_mul_comm, ← Nat.pow_add]
    congr 2
    omega

theorem mul_le_one {x y : Nat} (hLP : f.leastPlace = -(LP : Int)) (h1 : val f one = 2 ^ LP) (hoi : one < f.infRung) (hx : x < f.infRung) (hy : y ≤ one) : ∃ r, f.mul x y = some r ∧ r ≤ x := by
  refine mul_le hLP hx (Nat.lt_of_le_of_lt hy hoi) ?_
  rw [← h1]
  exact Nat.mul_le_mul_left _ (val_mono hy)

/-- A difference of numbers that are not negative, the first one being no less. -/
theorem sub_le {x y : Nat} (hx : x < f.infRung) (hy : y ≤ x) : ∃ r, f.sub x y = some r ∧ r ≤ x := by
  obtain ⟨m, i, e1, i1, v1⟩ := read_pos hx
  obtain ⟨n, j, e2, j1, v2⟩ := read_pos (f := f) (Nat.lt_of_le_of_lt hy hx)
  have hvv : val f y ≤ val f x := val_mono hy
  generalize hl : f.leastPlace = l at *
  unfold Format.sub
  rw [e1, e2]
  simp only [Datum.opposite, Datum.sum, Bool.not_false]
  obtain ⟨b, hb⟩ : ∃ b, min i j = b := ⟨_, rfl⟩
  rw [hb]
  have hbl : l ≤ b := by omega
  have t1 : signed false m (i - b).toNat = ((m * 2 ^ (i - b).toNat : Nat) : Int) := by rw [signed_eq]; rfl
  have t2 : signed true n (j - b).toNat = -((n * 2 ^ (j - b).toNat : Nat) : Int) := by rw [signed_eq]; rfl
  rw [t1, t2]
  have s1 : m * 2 ^ (i - b).toNat * 2 ^ (b - l).toNat = val f x := by rw [← v1, Nat.mul_assoc, ← Nat.pow_add]; congr 2; omega
  have s2 : n * 2 ^ (j - b).toNat * 2 ^ (b - l).toNat = val f y := by rw [← v2, Nat.mul_assoc, ← Nat.pow_add]; congr 2; omega
  generalize m * 2 ^ (i - b).toNat = M at *
  generalize n * 2 ^ (j - b).toNat = N at *
  have hp : 0 < 2 ^ (b - l).toNat := Nat.two_pow_pos _
  have hNM : N ≤ M := by
    rw [← s1, ← s2] at hvv
    exact Nat.le_of_mul_le_mul_right hvv hp
  have hneg : (if (M : Int) + -(N : Int) = 0 then (false && true) else decide ((M : Int) + -(N : Int) < 0)) = false := by
    split
    · rfl
    · simp; omega
  rw [hneg, show ((M : Int) + -(N : Int)).natAbs = M - N by omega]
  refine ⟨rungOf f (M - N) b, ?_, ?_⟩
  · simp only [Option.map_some, Format.write, nearest_rung, word_false]
  · refine rung_le (base := l) hbl (by omega) ?_
    rw [hl, Int.sub_self, Int.toNat_zero, Nat.pow_zero, Nat.mul_one]
    unfold at_
    rw [← s1]
    exact Nat.mul_le_mul_right _ (Nat.sub_le _ _)

/-- What a quotient is cut to lies on the same side of each whole number. -/
theorem quot_le {D n K : Nat} (hn : 0 < n) (h : D ≤ n * K) : 2 * (D / n) + (D % n != 0).toNat ≤ 2 * K := by
  have e := Nat.div_add_mod D n
  by_cases h0 : D % n = 0
  · rw [h0]
    have : D / n ≤ K := by
      rw [h0, Nat.add_zero] at e
      rw [← e] at h
      exact Nat.le_of_mul_le_mul_left h hn
    simp; omega
  · have : D / n < K := by
      apply Nat.lt_of_not_le
      intro hc
      have := Nat.mul_le_mul_left n hc
      omega
    have hb : (D % n != 0) = true := by simp [h0]
    rw [hb]
    simp only [Bool.toNat_true]
    omega

theorem log_lt {m : Nat} (h : m < 2 * f.binade) : m.log2 ≤ f.fractionBits := by
  by_cases h0 : m = 0
  · subst h0; simp
  · have : m.log2 < f.fractionBits + 1 := (Nat.log2_lt h0).2 (by rw [Nat.pow_succ, Nat.mul_comm]; exact h)
    omega

/-- A number that a word stands for has no more digits than the format. -/
theorem read_small {x m : Nat} {p : Int} (h : f.read x = .number false m p) : m < 2 * f.binade := by
  unfold Format.read at h
  have hb := binade_pos f
  simp only [] at h
  split at h
  · rename_i hlt
    simp only [Datum.number.injEq] at h
    omega
  · split at h
    · simp only [Datum.number.injEq] at h
      have hm := Nat.mod_lt (x % f.signWeight) hb
      omega
    · split at h <;> cases h

theorem quot_zero (mo n : Nat) : 2 * (((0 : Nat) <<< mo) / n) + (((0 : Nat) <<< mo) % n != 0).toNat = 0 := by
  rw [Nat.zero_shiftLeft, Nat.zero_div, Nat.zero_mod]; rfl

/-- A quotient of numbers that are not negative: no greater than 1 if the first one is no greater than the second one; and no greater than the first one if the second one is no less than 1. -/
theorem div_le {x y R : Nat} (hLP : f.leastPlace = -(LP : Int)) (h1 : val f one = 2 ^ LP) (hx : x < f.infRung) (hy : y < f.infRung) (hy0 : 0 < y)
    (hR : (R = one ∧ x ≤ y) ∨ (R = x ∧ one ≤ y)) : ∃ r, f.div x y = some r ∧ r ≤ R := by
  obtain ⟨m, i, e1, i1, v1⟩ := read_pos hx
  obtain ⟨n, j, e2, j1, v2⟩ := read_pos hy
  have hml := log_lt (read_small e1)
  have hnl := log_lt (read_small e2)
  rw [hLP] at i1 j1 v1 v2
  have hvy : 0 < val f y := by have := val_lt f hy0; rw [val_zero] at this; exact this
  have hn : n ≠ 0 := by
    intro h; subst h; rw [Nat.zero_mul] at v2; omega
  unfold Format.div
  rw [e1, e2]
  simp only [Datum.quotient, if_neg hn]
  obtain ⟨mo, hmo⟩ : ∃ mo, f.fractionBits + 2 + n.log2 - m.log2 = mo := ⟨_, rfl⟩
  rw [hmo]
  refine ⟨rungOf f (2 * ((m <<< mo) / n) + ((m <<< mo) % n != 0).toNat) (i - j - mo - 1), ?_, ?_⟩
  · simp only [Option.map_some, Format.write, Bool.xor_false, nearest_rung, word_false]
  by_cases hm0 : m = 0
  · subst hm0
    rw [quot_zero]
    unfold rungOf
    rw [if_pos rfl]
    exact Nat.zero_le _
  · obtain ⟨B, hBi, hBl⟩ : ∃ B : Nat, -(B : Int) ≤ i - j - mo - 1 ∧ LP ≤ B := ⟨(j - i + mo + 1).toNat + LP, by omega, by omega⟩
    have key : ∃ K : Nat, m <<< mo ≤ n * K ∧ K * 2 ^ (i - j - mo + B).toNat = val f R * 2 ^ (B - LP) := by
      have hx1 : m * 2 ^ (i + LP).toNat = val f x := by rw [← v1]; congr 2; omega
      have hy1 : n * 2 ^ (j + LP).toNat = val f y := by rw [← v2]; congr 2; omega
      have hhi := Nat.lt_log2_self (n := n)
      rcases hR with ⟨rfl, hxy⟩ | ⟨rfl, hy1'⟩
      · have hle := val_mono (f := f) hxy
        rw [← hx1, ← hy1] at hle
        have hlo := Nat.log2_self_le hm0
        have hex : i + m.log2 ≤ j + n.log2 := by
          have h1 : 2 ^ m.log2 * 2 ^ (i + LP).toNat < 2 ^ (n.log2 + 1) * 2 ^ (j + LP).toNat :=
            Nat.lt_of_le_of_lt (Nat.le_trans (Nat.mul_le_mul_right _ hlo) hle) (Nat.mul_lt_mul_of_pos_right hhi (Nat.two_pow_pos _))
          rw [← Nat.pow_add, ← Nat.pow_add] at h1
          have := (Nat.pow_lt_pow_iff_right (by omega)).1 h1
          omega
        refine ⟨2 ^ (mo + j - i).toNat, ?_, ?_⟩
        · rw [Nat.shiftLeft_eq]
          apply Nat.le_of_mul_le_mul_right (c := 2 ^ (i + LP).toNat) _ (Nat.two_pow_pos _)
          calc m * 2 ^ mo * 2 ^ (i + LP).toNat = m * 2 ^ (i + LP).toNat * 2 ^ mo := by rw [Nat.mul_right_comm]
            _ ≤ n * 2 ^ (j + LP).toNat * 2 ^ mo := Nat.mul_le_mul_right _ hle
            _ = n * 2 ^ (mo + j - i).toNat * 2 ^ (i + LP).toNat := by
              rw [Nat.mul_assoc, Nat.mul_assoc, ← Nat.pow_add, ← Nat.pow_add]; congr 2; omega
        · rw [h1, ← Nat.pow_add, ← Nat.pow_add]; congr 1; omega
      · have hle := val_mono (f := f) hy1'
        rw [h1, ← hy1] at hle
        have hex : 0 ≤ j + n.log2 := by
          have h1 : 2 ^ LP < 2 ^ (n.log2 + 1) * 2 ^ (j + LP).toNat := Nat.lt_of_le_of_lt hle (Nat.mul_lt_mul_of_pos_right hhi (Nat.two_pow_pos _))
          rw [← Nat.pow_add] at h1
          have := (Nat.pow_lt_pow_iff_right (by omega)).1 h1
          omega
        refine ⟨m * 2 ^ (mo + j).toNat, ?_, ?_⟩
        · rw [Nat.shiftLeft_eq]
          apply Nat.le_of_mul_le_mul_right (c := 2 ^ LP) _ (Nat.two_pow_pos _)
          calc m * 2 ^ mo * 2 ^ LP ≤ m * 2 ^ mo * (n * 2 ^ (j + LP).toNat) := Nat.mul_le_mul_left _ hle
            _ = n * (m * (2 ^ mo * 2 ^ (j + LP).toNat)) := by
              rw [Nat.mul_left_comm, Nat.mul_assoc]
            _ = n * (m * 2 ^ (mo + j).toNat) * 2 ^ LP := by
              rw [Nat.mul_assoc n, Nat.mul_assoc m, ← Nat.pow_add, ← Nat.pow_add]; congr 3; omega
        · rw [← hx1, Nat.mul_assoc, Nat.mul_assoc, ← Nat.pow_add, ← Nat.pow_add]; congr 2; omega
    obtain ⟨K, hK1, hK2⟩ := key
    refine rung_le (base := -(B : Int)) hBi (by rw [hLP]; omega) ?_
    rw [hLP, show (-(LP : Int) - -(B : Int)).toNat = B - LP by omega, ← hK2]
    unfold at_
    have h2 := quot_le (Nat.pos_of_ne_zero hn) hK1
    calc (2 * ((m <<< mo) / n) + ((m <<< mo) % n != 0).toNat) * 2 ^ (i - j - mo - 1 - -(B : Int)).toNat ≤ 2 * K * 2 ^ (i - j - mo - 1 - -(B : Int)).toNat := Nat.mul_le_mul_right _ h2
      _ = K * (2 ^ (i - j - mo - 1 - -(B : Int)).toNat * 2) := by rw [Nat.mul_comm 2 K, Nat.mul_assoc, Nat.mul_comm 2]
      _ = K * 2 ^ (i - j - mo + B).toNat := by rw [← Nat.pow_succ]; congr 2; omega

theorem mul_pow_self (a : Nat) (l : Int) : a * 2 ^ (l - l).toNat = a := by
  rw [Int.sub_self, Int.toNat_zero, Nat.pow_zero, Nat.mul_one]

theorem at_int (c LP : Nat) : at_ c 0 (-(LP : Int)) = c * 2 ^ LP := by
  unfold at_; congr 2; omega

/-- How an integer is rounded. -/
theorem rung_int_le {c R : Nat} (hLP : f.leastPlace = -(LP : Int)) (h : c * 2 ^ LP ≤ val f R) : rungOf f c 0 ≤ R := by
  refine rung_le (base := -(LP : Int)) (by omega) (by rw [hLP]; exact Int.le_refl _) ?_
  rw [hLP, mul_pow_self, at_int]
  exact h
theorem le_rung_int {c R : Nat} (hLP : f.leastPlace = -(LP : Int)) (hR : R ≤ f.infRung) (h : val f R ≤ c * 2 ^ LP) : R ≤ rungOf f c 0 := by
  refine le_rung (base := -(LP : Int)) (by omega) (by rw [hLP]; exact Int.le_refl _) hR ?_
  rw [hLP, mul_pow_self, at_int]
  exact h
theorem nearest_int {c r : Nat} (hLP : f.leastPlace = -(LP : Int)) (hr : r < f.infRung) (h : val f r = c * 2 ^ LP) : f.nearest false c 0 = f.word false r := by
  refine nearest_exact (f := f) (base := -(LP : Int)) false hr (by omega) (by rw [hLP]; exact Int.le_refl _) ?_
  rw [hLP, mul_pow_self, h]
  exact at_int c LP

theorem int_exact {c top T : Nat} (hLP : f.leastPlace = -(LP : Int)) (h0 : c ≠ 0) (hc : c < 2 * f.binade) (hfb : f.fractionBits ≤ LP) (htop : val f top = T * 2 ^ LP) (hT : c ≤ T) (hinf : top < f.infRung) :
    val f (f.nearest false c 0) = c * 2 ^ LP := by
  have hr := rung_of (f := f) (k := c) (q := LP) h0 hc (by omega)
  generalize ((LP + c.log2 - f.fractionBits) * f.binade + c * 2 ^ (f.fractionBits - c.log2)) = r at hr
  have hlt : r < f.infRung := by
    apply Nat.lt_of_le_of_lt _ hinf
    apply Nat.le_of_not_lt
    intro hcc
    have := val_lt f hcc
    rw [hr, htop] at this
    exact absurd this (Nat.not_lt.2 (Nat.mul_le_mul_right _ hT))
  rw [nearest_int hLP hlt hr, word_false, hr]

end

/-- The rung of 1. -/
abbrev ONE : Nat := 4607182418800017408
theorem one_inf : ONE < Ieee.double.infRung := by rw [ir64]; decide
theorem lp64 : Ieee.double.leastPlace = -((1074 : Nat) : Int) := by decide
theorem val_one : val Ieee.double ONE = 2 ^ 1074 := by decide +kernel
end Go.Proofs.Yteamnfockjnilaa.Flt
