/-
  Several texts of this claim, one behind the other; each says what it holds.
-/
import Derived.Test.YtnigbjjllolgdaaMPeaks1
import Derived.Test.YtnigbjjllolgdaaRows
import Derived.Lib.Hide
import Derived.Deep.QuietTactic
import Derived.BigQuiet
import Derived.BigRegion
import Derived.Deep.RegionWith
/-
  The walks of NextUp and NextUpNarrow.
-/
set_option linter.unusedVariables false
set_option linter.unusedSimpArgs false
namespace Go.Proofs.Ytnigbjjllolgdaa
open Go.RowKit Flt

set_option maxRecDepth 100000 in
theorem copysign_one (w : World) :
    Calls Try.prog 85 #[.float .f64 1, .float .f64 9218868437227405312] w fun e w' => e = .returned (.float .f64 1) ∧ w' = w := by
  go_enter Try.func85, Try.ntmps85
  go_wp2
  go_ret
  exact ⟨by kernel_rfl, rfl⟩

theorem upBits_lt {a : Nat} (h : a < 18446744073709551616) : upBits a < 18446744073709551616 := by
  unfold upBits; split
  · omega
  · split
    · split <;> omega
    · omega

end Go.Proofs.Ytnigbjjllolgdaa
/-
  Contracts of the program's functions on complex numbers: same, equal, finite, narrow, wide.
-/
set_option linter.unusedVariables false
set_option linter.unusedSimpArgs false
namespace Go.Proofs.Ytnigbjjllolgdaa
open Go.RowKit Flt

/-- Two reals are the same. -/
def sameB (a b : Nat) : Bool := decide (cn .f64 a = cn .f64 b)
/-- A real is finite. -/
def finO (o : Option Nat) : Bool := match o with | some x => decide (x % 9223372036854775808 < 9218868437227405312) | none => false

theorem sameB_nan {a b : Nat} (ha : nan FloatKind.f64.format a = true) (hb : nan FloatKind.f64.format b = true) : sameB a b = true := by
  unfold sameB; rw [cn_none ha, cn_none hb]; rfl
theorem sameB_l {a b : Nat} (ha : nan FloatKind.f64.format a = true) (hb : nan FloatKind.f64.format b = false) : sameB a b = false := by
  unfold sameB; rw [cn_none ha, cn_some hb]; rfl
theorem sameB_r {a b : Nat} (ha : nan FloatKind.f64.format a = false) (hb : nan FloatKind.f64.format b = true) : sameB a b = false := by
  unfold sameB; rw [cn_some ha, cn_none hb]; rfl
theorem sameB_num {a b : Nat} (ha : nan FloatKind.f64.format a = false) (hb : nan FloatKind.f64.format b = false) : sameB a b = decide (a = b) := by
  unfold sameB; rw [cn_some ha, cn_some hb]; simp

/-- Below, told once more: what a callee leaves. -/
theorem below_step {B : Nat} {w w1 w2 : World} (h : Below B w w1) (k : Below w1.heap.size w1 w2) (hB : B ≤ w1.heap.size) : Below B w w2 := h.trans (k.mono hB)

/-- Equal by Go's own ==. -/
def eqC (k : FloatKind) (a b c d : Nat) : Bool := (k.format.order a c == some .eq) && (k.format.order b d == some .eq)

theorem finO_nan {a : Nat} (ha : nan FloatKind.f64.format a = true) : finO (cn .f64 a) = false := by rw [cn_none ha]; rfl
theorem finO_num {a : Nat} (ha : nan FloatKind.f64.format a = false) : finO (cn .f64 a) = decide (a % 9223372036854775808 < 9218868437227405312) := by rw [cn_some ha]; rfl

theorem andNot_mod {a : Nat} (la : a < 18446744073709551616) : bits .andNot .u64 (a : Int) 9223372036854775808 = ((a % 9223372036854775808 : Nat) : Int) := by
  have := u64_andNot_nat a 9223372036854775808 la (by omega)
  rw [show ((9223372036854775808 : Nat) : Int) = 9223372036854775808 from rfl] at this
  rw [this, show (18446744073709551615 - 9223372036854775808 : Nat) = 2 ^ 63 - 1 by omega, Nat.and_two_pow_sub_one_eq_mod]

theorem abs_any (a : Nat) (la : a < 18446744073709551616) (w : World) :
    Calls Try.prog 55 #[.float .f64 a] w fun e w' => e = .returned (.float .f64 (a % 9223372036854775808)) ∧ w' = w := by
  have hb := andNot_mod la
  generalize a % 9223372036854775808 = r at *
  clear la
  go_enter Try.func55, Try.ntmps55
  go_wp2
  go_ret
  exact ⟨rfl, rfl⟩

theorem isFiniteReal_any (a : Nat) (la : a < 18446744073709551616) (w : World) :
    Calls Try.prog 33 #[.float .f64 a] w fun e w' => e = .returned (.bool (finO (cn .f64 a))) ∧ w' = w := by
  have habs := abs_any a la
  by_cases ha : nan FloatKind.f64.format a = true
  · have oa : FloatKind.f64.format.order a a = none := ord_nan_l _ ha
    rw [finO_nan ha]
    clear ha
    go_enter Try.func33, Try.ntmps33
    go_wp2
    go_ret
    exact ⟨rfl, rfl⟩
  · have ha : nan FloatKind.f64.format a = false := by simpa using ha
    have oa : FloatKind.f64.format.order a a = some .eq := ord_eq ha ha rfl
    have hle := nan_le ha
    have nm : nan FloatKind.f64.format 9218868437227405311 = false := by decide
    have pm : place FloatKind.f64.format 9218868437227405311 = 9218868437227405311 := by decide
    rw [finO_num ha]
    generalize hr : a % 9223372036854775808 = r at *
    have nr : nan FloatKind.f64.format r = false := nan_no (by omega)
    have pr : place FloatKind.f64.format r = r := plc_lo (by omega)
    by_cases hf : r < 9218868437227405312
    · have h2 : decide (r < 9218868437227405312) = true := by simp [hf]
      rw [h2]
      rcases Nat.lt_or_ge r 9218868437227405311 with hm | hm
      · have o1 : FloatKind.f64.format.order r 9218868437227405311 = some .lt := ord_lt nr nm (by rw [pr, pm]; omega)
        clear hr nr pr pm nm ha hle hf h2 hm la
        go_enter Try.func33, Try.ntmps33
        go_wp2_with (first | (go_at_call 55; refine (habs _).mono ?_; rintro e w' ⟨rfl, rfl⟩) | go_in)
        go_ret
        exact ⟨rfl, rfl⟩
      · have o1 : FloatKind.f64.format.order r 9218868437227405311 = some .eq := ord_eq nr nm (by rw [pr, pm]; omega)
        clear hr nr pr pm nm ha hle hf h2 hm la
        go_enter Try.func33, Try.ntmps33
        go_wp2_with (first | (go_at_call 55; refine (habs _).mono ?_; rintro e w' ⟨rfl, rfl⟩) | go_in)
        go_ret
        exact ⟨rfl, rfl⟩
    · have h2 : decide (r < 9218868437227405312) = false := by simp [hf]
      rw [h2]
      have o1 : FloatKind.f64.format.order r 9218868437227405311 = some .gt := ord_gt nr nm (by rw [pr, pm]; omega)
      clear hr nr pr pm nm ha hle hf h2 la
      go_enter Try.func33, Try.ntmps33
      go_wp2_with (first | (go_at_call 55; refine (habs _).mono ?_; rintro e w' ⟨rfl, rfl⟩) | go_in)
      go_ret
      exact ⟨rfl, rfl⟩

/-- A narrow complex number, of these parts. -/
def RetsN (p q : Nat → Prop) (w : World) (e : Ending) (w' : World) : Prop := ∃ u v, p u ∧ q v ∧ e = .returned (.complex .f32 u v) ∧ Below w.heap.size w w'
/-- A wide complex number, of these parts. -/
def RetsW (p q : Nat → Prop) (w : World) (e : Ending) (w' : World) : Prop := ∃ u v, p u ∧ q v ∧ e = .returned (.complex .f64 u v) ∧ Below w.heap.size w w'

/-- A real is one that a narrow one is widened to. -/
def Wide (u r : Nat) : Prop := cn .f64 r = floatToFloatBits .f32 u .f64 ∧ r < 18446744073709551616

/-- Two parts, widened. -/
def RetsP (p q : Nat → Prop) (w : World) (e : Ending) (w' : World) : Prop := ∃ u v, p u ∧ q v ∧ e = .returned (.tuple #[.float .f64 u, .float .f64 v]) ∧ Below w.heap.size w w'

/-- Two narrow reals are the same: their wide ones are. -/
def sameN (u v : Nat) : Bool := decide (floatToFloatBits .f32 u .f64 = floatToFloatBits .f32 v .f64)
theorem sameB_wide {u v r s : Nat} (h : Wide u r) (k : Wide v s) : sameB r s = sameN u v := by unfold sameB sameN; rw [h.1, k.1]

/-- A narrow real is finite: its wide one is. -/
def finN (u : Nat) : Bool := finO (floatToFloatBits .f32 u .f64)

end Go.Proofs.Ytnigbjjllolgdaa
/-
  Slices of one-cell elements that the call itself has made.
-/
set_option linter.unusedVariables false
set_option linter.unusedSimpArgs false
namespace Go.Proofs.Ytnigbjjllolgdaa
open Go.RowKit

/-- A slice that owns these values, each a cell. -/
def Row (w : World) (B : Nat) (e : TypeId) (v : Value) (cs : List Value) : Prop := w.ownsRow B e 1 v cs.length cs

section
variable {w w' : World} {B : Nat} {e : TypeId} {v : Value} {cs : List Value} {a : Option Addr} {g L cap j : Nat}

theorem Row.len (h : Row w B e (.slice a L cap) cs) : cs.length = L := by
  rcases h.2 with ⟨e, e'⟩ | ⟨g, cap, cur, e, _⟩
  · simp only [Value.slice.injEq] at e; omega
  · simp only [Value.slice.injEq] at e; exact e.2.1.symm

theorem Row.cellAt (h : Row w B e (.slice (some ⟨g, 0, none⟩) L cap) cs) (hj : j < L) : w.cell? ⟨g, j, none⟩ = some (cs.getD j undef) := by
  have hl := h.len
  subst hl
  rw [World.ownsRow.cellAt h j (by omega)]
  simp [List.getD, hj]

theorem Row.frozenAt (h : Row w B e (.slice (some ⟨g, 0, none⟩) L cap) cs) (j : Nat) : w.frozen? ⟨g, j, none⟩ = false := by
  have hl := h.len
  subst hl
  exact World.ownsRow.frozenAt h j

theorem Row.set (h : Row w B e (.slice (some ⟨g, 0, none⟩) L cap) cs) (j : Nat) (u : Value) :
    Row (w.setCell ⟨g, j, none⟩ u) B e (.slice (some ⟨g, 0, none⟩) L cap) (cs.set j u) ∧ w.grownBy (w.setCell ⟨g, j, none⟩ u) (some g) := by
  have hl := h.len
  subst hl
  have := World.ownsRow.stored h j u
  unfold Row
  rw [List.length_set]
  exact this

theorem Row.kept {row : Option Nat} (h : Row w B e v cs) (hg : w.grownBy w' row) (hne : v.ownBlock = none ∨ v.ownBlock ≠ row) : Row w' B e v cs := World.ownsRow.kept h hg hne
theorem Row.alloc (h : Row w B e v cs) (o : Obj) : Row (w.alloc o) B e v cs := World.ownsRow.alloc h o
theorem Row.drewN (h : Row w B e v cs) (n : Nat) : Row (w.drewN n) B e v cs := h

/-- What was there stays, behind whatever leaves the blocks below B as they were, if the row lies below. -/
theorem Row.below {B' : Nat} (h : Row w B e v cs) (hb : Below B' w w') (hv : ∀ k, v.ownBlock = some k → k < B') : Row w' B e v cs := by
  refine ⟨h.1, ?_⟩
  rcases h.2 with hn | ⟨g, cap, cur, rfl, hbb, hgg, rest⟩
  · exact .inl hn
  · refine .inr ⟨g, cap, cur, rfl, hbb, ?_, rest⟩
    rw [hb.block g (hv g (by simp [Value.ownBlock]))]
    exact hgg

theorem Row.lt (h : Row w B e v cs) : ∀ k, v.ownBlock = some k → B ≤ k ∧ k < w.heap.size := World.ownsRow.lt h

/-- The two forms of such a slice. -/
theorem Row.shape (h : Row w B e v cs) :
    (∃ a cap, v = .slice a 0 cap ∧ cs = []) ∨ ∃ g cap, v = .slice (some ⟨g, 0, none⟩) cs.length cap ∧ 0 < cs.length ∧ B ≤ g ∧ g < w.heap.size ∧ cs.length ≤ cap ∧ cap ≤ maxLen := by
  by_cases h0 : cs = []
  · subst h0
    rcases h.2 with ⟨e, _⟩ | ⟨g, cap, cur, e, _⟩
    · exact .inl ⟨none, 0, e, rfl⟩
    · exact .inl ⟨_, cap, e, rfl⟩
  · have hp : 0 < cs.length := List.length_pos_iff.2 h0
    rcases h.2 with ⟨_, e⟩ | ⟨g, cap, cur, e, hb, hg, hnc, hcm, _⟩
    · omega
    · subst e
      exact .inr ⟨g, cap, rfl, hp, hb, (Array.getElem?_eq_some_iff.1 hg).1, hnc, hcm⟩

end

theorem maxLen_int {n : Nat} (h : n ≤ maxLen) : (n : Int) ≤ 9223372036854775807 := by
  have := h
  simp only [maxLen] at this
  omega

/-- A slice as the walk reads it: nothing in it, or a row whose cells can be read. -/
inductive Reads (w : World) : Value → List Value → Prop
  | none (a : Option Addr) (cap : Nat) : Reads w (.slice a 0 cap) []
  | row (g cap L : Nat) (cs : List Value) (hL : cs.length = L) (h0 : 0 < L) (hc : L ≤ cap) (hm : cap ≤ maxLen) (h : ∀ j, j < L → w.cell? ⟨g, j, Option.none⟩ = some (cs.getD j undef)) : Reads w (.slice (some ⟨g, 0, Option.none⟩) L cap) cs

theorem Row.reads {w : World} {B : Nat} {e : TypeId} {v : Value} {cs : List Value} (h : Row w B e v cs) : Reads w v cs := by
  have h' := h
  rcases h.shape with ⟨a, cap, rfl, rfl⟩ | ⟨g, cap, rfl, h0, _, _, h1, h2⟩
  · exact .none a cap
  · exact .row g cap _ cs rfl h0 h1 h2 (fun j hj => h'.cellAt hj)

theorem Reads.drewN {w : World} {v : Value} {cs : List Value} (h : Reads w v cs) (n : Nat) : Reads (w.drewN n) v cs := by
  cases h with
  | none a cap => exact .none a cap
  | row g cap L cs hL h0 hc hm hh => exact .row g cap L cs hL h0 hc hm hh

theorem getD_map {α : Type} (f : α → Value) (xs : List α) (d : α) {j : Nat} (h : j < xs.length) : (xs.map f).getD j undef = f (xs.getD j d) := by
  simp [List.getD, h]

theorem addr_lit (g j : Nat) : (⟨g, 0, none⟩ : Addr).add j = ⟨g, j, none⟩ := by unfold Addr.add; split <;> simp_all
theorem addr_block (x : Addr) (j : Nat) : (x.add j).block = x.block := by unfold Addr.add; split <;> rfl

end Go.Proofs.Ytnigbjjllolgdaa
/-
  Rounding: what is written is no farther than half a unit from the number, and the order is kept. No program.
-/
set_option linter.unusedVariables false
set_option linter.unusedSimpArgs false
namespace Go.Proofs.Ytnigbjjllolgdaa.Flt
section
open Ieee
variable {f : Format}

theorem val_of {q k : Nat} (hq : q = 0 ∨ f.binade ≤ k) (hk : k ≤ 2 * f.binade) : val f (q * f.binade + k) = k * 2 ^ q := by
  have hb := binade_pos f
  by_cases h1 : k < f.binade
  · have h0 : q = 0 := by rcases hq with h | h <;> omega
    subst h0
    simp [val, h1]
  · have hge : f.binade ≤ k := by omega
    unfold val
    have hn : ¬ q * f.binade + k < f.binade := by omega
    rw [if_neg hn]
    by_cases h2 : k < 2 * f.binade
    · have hd : (q * f.binade + k) / f.binade = q + 1 := by
        rw [show q * f.binade + k = (k - f.binade) + (q + 1) * f.binade by rw [Nat.add_mul, Nat.one_mul]; omega, Nat.add_mul_div_right _ _ hb, Nat.div_eq_of_lt (by omega)]
        omega
      have hm : (q * f.binade + k) % f.binade = k - f.binade := by
        rw [show q * f.binade + k = (k - f.binade) + (q + 1) * f.binade by rw [Nat.add_mul, Nat.one_mul]; omega, Nat.add_mul_mod_self_right, Nat.mod_eq_of_lt (by omega)]
      rw [hd, hm, show q + 1 - 1 = q by omega, show f.binade + (k - f.binade) = k by omega]
    · have hk2 : k = 2 * f.binade := by omega
      subst hk2
      have hd : (q * f.binade + 2 * f.binade) / f.binade = q + 2 := by
        rw [← Nat.add_mul, Nat.mul_div_cancel _ hb]
      have hm : (q * f.binade + 2 * f.binade) % f.binade = 0 := by
        rw [← Nat.add_mul, Nat.mul_mod_left]
      rw [hd, hm, show q + 2 - 1 = q + 1 by omega, Nat.add_zero, Nat.pow_succ, Nat.mul_assoc 2, Nat.mul_left_comm 2, Nat.mul_comm 2 (2 ^ q)]

/-- What is cut to the nearest whole number is no farther from it than half a unit. -/
theorem cut_near (neg : Bool) (n drop : Nat) :
    2 * (Toward.even.cut neg n drop) * 2 ^ drop ≤ 2 * n + 2 ^ drop ∧ 2 * n ≤ (2 * (Toward.even.cut neg n drop) + 1) * 2 ^ drop := by
  unfold Toward.cut
  by_cases hd : drop ≤ n.log2 + 2
  · rw [show min drop (n.log2 + 2) = drop by omega, Nat.shiftLeft_eq, Nat.one_mul]
    generalize hg : 2 ^ drop = g
    have hgp : 0 < g := by rw [← hg]; exact Nat.two_pow_pos _
    have e := Nat.div_add_mod n g
    have hm := Nat.mod_lt n hgp
    simp only []
    generalize n / g = low at *
    generalize n % g = rest at *
    by_cases hc : (decide (g < 2 * rest) || g == 2 * rest && low % 2 == 1) = true
    · rw [hc]
      have hge : g ≤ 2 * rest := by
        simp only [Bool.or_eq_true, decide_eq_true_eq, Bool.and_eq_true, beq_iff_eq] at hc
        omega
      simp only [Bool.toNat_true]
      have e1 : 2 * (low + 1) * g = 2 * (g * low) + 2 * g := by rw [Nat.mul_comm g low, Nat.mul_assoc, Nat.add_mul]; omega
      have e2 : (2 * (low + 1) + 1) * g = 2 * (g * low) + 3 * g := by rw [Nat.mul_comm g low, Nat.add_mul, Nat.mul_assoc, Nat.add_mul]; omega
      omega
    · have hc : (decide (g < 2 * rest) || g == 2 * rest && low % 2 == 1) = false := by simpa using hc
      rw [hc]
      have hge : 2 * rest ≤ g := by
        simp only [Bool.or_eq_false_iff, decide_eq_false_iff_not] at hc
        omega
      simp only [Bool.toNat_false, Nat.add_zero]
      have e1 : 2 * low * g = 2 * (g * low) := by rw [Nat.mul_comm g low, Nat.mul_assoc]
      have e2 : (2 * low + 1) * g = 2 * (g * low) + g := by rw [Nat.mul_comm g low, Nat.add_mul, Nat.mul_assoc]; omega
      omega
  · rw [show min drop (n.log2 + 2) = n.log2 + 2 by omega, Nat.shiftLeft_eq, Nat.one_mul]
    have hlt : n < 2 ^ (n.log2 + 1) := Nat.lt_log2_self
    have h2 : 2 ^ (n.log2 + 2) = 2 * 2 ^ (n.log2 + 1) := by rw [Nat.pow_succ, Nat.mul_comm]
    have h3 : 2 ^ (n.log2 + 2) ≤ 2 ^ drop := Nat.pow_le_pow_right (by omega) (by omega)
    have e1 : n / 2 ^ (n.log2 + 2) = 0 := Nat.div_eq_of_lt (by omega)
    have e2 : n % 2 ^ (n.log2 + 2) = n := Nat.mod_eq_of_lt (by omega)
    simp only [e1, e2]
    have hc : (decide (2 ^ (n.log2 + 2) < 2 * n) || 2 ^ (n.log2 + 2) == 2 * n && 0 % 2 == 1) = false := by
      simp; omega
    rw [hc]
    simp only [Bool.toNat_false, Nat.add_zero, Nat.mul_zero, Nat.zero_mul, Nat.zero_add, Nat.one_mul]
    omega

/-- The rung to which a number is rounded. -/
def rungOf (f : Format) (m : Nat) (p : Int) : Nat :=
  if m = 0 then 0 else
  let last := max (p + m.log2 - f.fractionBits) f.leastPlace
  min ((last - f.leastPlace).toNat * f.binade + Toward.even.cut false (m <<< (p - last).toNat) (last - p).toNat) f.infRung

theorem cut_neg (neg : Bool) (n drop : Nat) : Toward.even.cut neg n drop = Toward.even.cut false n drop := rfl

theorem nearest_rung (neg : Bool) (m : Nat) (p : Int) : f.nearest neg m p = f.word neg (rungOf f m p) := by
  unfold Format.nearest rungOf
  split
  · rfl
  · rfl

/-- A number in units of 2^base. -/
def at_ (m : Nat) (p base : Int) : Nat := m * 2 ^ (p - base).toNat

/-- HOW A NUMBER IS ROUNDED: its rung is L binades and k, where k units of 2^(leastPlace + L) are nearest to it. -/
theorem rung_spec {m : Nat} {p base : Int} (hm : m ≠ 0) (h1 : base ≤ p) (h2 : base ≤ f.leastPlace) :
    ∃ L k : Nat, rungOf f m p = min (L * f.binade + k) f.infRung ∧ (L = 0 ∨ f.binade ≤ k) ∧ k ≤ 2 * f.binade ∧
      2 * k * (2 ^ L * 2 ^ (f.leastPlace - base).toNat) ≤ 2 * at_ m p base + 2 ^ L * 2 ^ (f.leastPlace - base).toNat ∧
      2 * at_ m p base ≤ (2 * k + 1) * (2 ^ L * 2 ^ (f.leastPlace - base).toNat) ∧
      (L ≠ 0 → f.binade * (2 ^ L * 2 ^ (f.leastPlace - base).toNat) ≤ at_ m p base) := by
  unfold rungOf
  rw [if_neg hm]
  simp only []
  generalize hlast : max (p + m.log2 - f.fractionBits) f.leastPlace = last
  have hl1 : f.leastPlace ≤ last := by omega
  have hl2 : p + m.log2 - f.fractionBits ≤ last := by omega
  obtain ⟨c1, c2⟩ := cut_near false (m <<< (p - last).toNat) (last - p).toNat
  generalize hk : Toward.even.cut false (m <<< (p - last).toNat) (last - p).toNat = k at *
  obtain ⟨L, hL⟩ : ∃ L, (last - f.leastPlace).toNat = L := ⟨_, rfl⟩
  obtain ⟨d, hd⟩ : ∃ d, (last - p).toNat = d := ⟨_, rfl⟩
  obtain ⟨W, hW⟩ : ∃ W, 2 ^ L * 2 ^ (f.leastPlace - base).toNat = W := ⟨_, rfl⟩
  have hW' : W = 2 ^ (last - base).toNat := by rw [← hW, ← Nat.pow_add]; congr 1; omega
  have hWp : 0 < W := by rw [hW']; exact Nat.two_pow_pos _
  rw [hL]
  refine ⟨L, k, rfl, ?_⟩
  rw [hW]
  rw [hd] at c1 c2
  have hn : (m <<< (p - last).toNat) * W = at_ m p base * 2 ^ d := by
    rw [Nat.shiftLeft_eq, hW']
    unfold at_
    rw [Nat.mul_assoc, Nat.mul_assoc, ← Nat.pow_add, ← Nat.pow_add]
    congr 2
    omega
  generalize (m <<< (p - last).toNat) = n at *
  have hgp : 0 < 2 ^ d := Nat.two_pow_pos _
  generalize hM : at_ m p base = M at *
  have k1 : 2 * k * W ≤ 2 * M + W := by
    have := Nat.mul_le_mul_right W c1
    rw [Nat.add_mul, Nat.mul_assoc 2 n W, hn] at this
    apply Nat.le_of_mul_le_mul_right (c := 2 ^ d) _ hgp
    calc 2 * k * W * 2 ^ d = 2 * k * 2 ^ d * W := by rw [Nat.mul_right_comm]
      _ ≤ 2 * (M * 2 ^ d) + 2 ^ d * W := this
      _ = (2 * M + W) * 2 ^ d := by rw [Nat.add_mul, Nat.mul_assoc, Nat.mul_comm (2 ^ d) W]
  have k2 : 2 * M ≤ (2 * k + 1) * W := by
    have := Nat.mul_le_mul_right W c2
    rw [Nat.mul_assoc 2 n W, hn] at this
    apply Nat.le_of_mul_le_mul_right (c := 2 ^ d) _ hgp
    calc 2 * M * 2 ^ d = 2 * (M * 2 ^ d) := by rw [Nat.mul_assoc]
      _ ≤ (2 * k + 1) * 2 ^ d * W := this
      _ = (2 * k + 1) * W * 2 ^ d := by rw [Nat.mul_right_comm]
  have lo := Nat.log2_self_le hm
  have hi := Nat.lt_log2_self (n := m)
  have hMlt : M < 2 * f.binade * W := by
    rw [← hM, hW']
    unfold at_ Format.binade
    calc m * 2 ^ (p - base).toNat < 2 ^ (m.log2 + 1) * 2 ^ (p - base).toNat := Nat.mul_lt_mul_of_pos_right hi (Nat.two_pow_pos _)
      _ = 2 ^ (m.log2 + 1 + (p - base).toNat) := by rw [← Nat.pow_add]
      _ ≤ 2 ^ (1 + f.fractionBits + (last - base).toNat) := Nat.pow_le_pow_right (by omega) (by omega)
      _ = 2 * 2 ^ f.fractionBits * 2 ^ (last - base).toNat := by rw [Nat.pow_add, Nat.pow_add]
  have hbig : L ≠ 0 → f.binade * W ≤ M := by
    intro hne
    have hle : last = p + m.log2 - f.fractionBits := by omega
    rw [← hM, hW']
    unfold at_ Format.binade
    calc 2 ^ f.fractionBits * 2 ^ (last - base).toNat = 2 ^ (m.log2 + (p - base).toNat) := by rw [← Nat.pow_add]; congr 1; omega
      _ = 2 ^ m.log2 * 2 ^ (p - base).toNat := by rw [Nat.pow_add]
      _ ≤ m * 2 ^ (p - base).toNat := Nat.mul_le_mul_right _ lo
  refine ⟨?_, ?_, k1, k2, hbig⟩
  · by_cases h0 : L = 0
    · exact .inl h0
    · right
      have hb := hbig h0
      have : 2 * (f.binade * W) ≤ (2 * k + 1) * W := Nat.le_trans (Nat.mul_le_mul_left 2 hb) k2
      rw [← Nat.mul_assoc] at this
      have := Nat.le_of_mul_le_mul_right this hWp
      omega
  · have h3 : 2 * k * W < (4 * f.binade + 1) * W := by
      have e : (4 * f.binade + 1) * W = 2 * (2 * f.binade * W) + W := by rw [Nat.add_mul, Nat.one_mul, show 4 * f.binade * W = 2 * (2 * f.binade * W) by rw [← Nat.mul_assoc, ← Nat.mul_assoc]]
      omega
    have := Nat.lt_of_mul_lt_mul_right h3
    omega

/-- A number that is no greater than that of a rung is rounded to it or below. -/
theorem rung_le {m R : Nat} {p base : Int} (h1 : base ≤ p) (h2 : base ≤ f.leastPlace) (h : at_ m p base ≤ val f R * 2 ^ (f.leastPlace - base).toNat) : rungOf f m p ≤ R := by
  by_cases hm : m = 0
  · unfold rungOf; rw [if_pos hm]; exact Nat.zero_le _
  obtain ⟨L, k, hr, hq, hk, k1, k2, hb⟩ := rung_spec (f := f) hm h1 h2
  rw [hr]
  obtain ⟨U, hU⟩ : ∃ U, 2 ^ (f.leastPlace - base).toNat = U := ⟨_, rfl⟩
  have hUp : 0 < U := by rw [← hU]; exact Nat.two_pow_pos _
  rw [hU] at h k1 k2 hb
  generalize at_ m p base = M at *
  refine Nat.le_trans (Nat.min_le_left _ _) ?_
  apply Nat.le_of_not_lt
  intro hlt
  have hv := val_lt f hlt
  rw [val_of hq hk] at hv
  have hLp : 0 < 2 ^ L := Nat.two_pow_pos _
  -- the rung's number is a whole number of 2^L, or it is less than a binade of them
  have hcase : (∃ K, val f R = K * 2 ^ L) ∨ (L ≠ 0 ∧ val f R < f.binade * 2 ^ L) := by
    by_cases h0 : R = 0
    · left; exact ⟨0, by rw [h0, val_zero]; simp⟩
    obtain ⟨j, q, hj0, hj, hjq, he, hv'⟩ := rung_parts (f := f) h0
    by_cases hLq : L ≤ q
    · left
      exact ⟨j * 2 ^ (q - L), by rw [hv', Nat.mul_assoc, ← Nat.pow_add, Nat.sub_add_cancel hLq]⟩
    · right
      refine ⟨by omega, ?_⟩
      rw [hv']
      have e : 2 ^ L = 2 ^ (L - q - 1) * (2 * 2 ^ q) := by
        rw [← Nat.mul_assoc, ← Nat.pow_succ, ← Nat.pow_add]; congr 1; omega
      have hge : 1 ≤ 2 ^ (L - q - 1) := Nat.two_pow_pos _
      calc j * 2 ^ q < 2 * f.binade * 2 ^ q := Nat.mul_lt_mul_of_pos_right hj (Nat.two_pow_pos _)
        _ = 1 * (f.binade * (2 * 2 ^ q)) := by rw [Nat.one_mul, Nat.mul_left_comm, Nat.mul_assoc]
        _ ≤ 2 ^ (L - q - 1) * (f.binade * (2 * 2 ^ q)) := Nat.mul_le_mul_right _ hge
        _ = f.binade * 2 ^ L := by rw [e, Nat.mul_left_comm]
  rcases hcase with ⟨K, hK⟩ | ⟨h0, hlt2⟩
  · rw [hK] at hv h
    have hKk : K < k := Nat.lt_of_mul_lt_mul_right hv
    have h3 : 2 * (K + 1) * (2 ^ L * U) ≤ 2 * k * (2 ^ L * U) := Nat.mul_le_mul_right _ (by omega)
    have e : 2 * (K + 1) * (2 ^ L * U) = 2 * (K * 2 ^ L * U) + 2 * (2 ^ L * U) := by rw [Nat.mul_assoc K, Nat.mul_assoc, Nat.add_mul, Nat.one_mul, Nat.mul_add]
    have hpos : 0 < 2 ^ L * U := Nat.mul_pos hLp hUp
    omega
  · have := hb h0
    have h4 : val f R * U < f.binade * 2 ^ L * U := Nat.mul_lt_mul_of_pos_right hlt2 hUp
    rw [← Nat.mul_assoc] at this
    omega

/-- A number that is no less than that of a rung is rounded to it or above. -/
theorem le_rung {m R : Nat} {p base : Int} (h1 : base ≤ p) (h2 : base ≤ f.leastPlace) (hR : R ≤ f.infRung) (h : val f R * 2 ^ (f.leastPlace - base).toNat ≤ at_ m p base) : R ≤ rungOf f m p := by
  by_cases hR0 : R = 0
  · rw [hR0]; exact Nat.zero_le _
  by_cases hm : m = 0
  · exfalso
    have hv : 0 < val f R := by have := val_lt f (r := 0) (s := R) (by omega); rw [val_zero] at this; exact this
    have : 0 < val f R * 2 ^ (f.leastPlace - base).toNat := Nat.mul_pos hv (Nat.two_pow_pos _)
    unfold at_ at h
    rw [hm, Nat.zero_mul] at h
    omega
  obtain ⟨L, k, hr, hq, hk, k1, k2, hb⟩ := rung_spec (f := f) hm h1 h2
  rw [hr]
  obtain ⟨U, hU⟩ : ∃ U, 2 ^ (f.leastPlace - base).toNat = U := ⟨_, rfl⟩
  have hUp : 0 < U := by rw [← hU]; exact Nat.two_pow_pos _
  rw [hU] at h k1 k2 hb
  generalize at_ m p base = M at *
  refine Nat.le_min.2 ⟨?_, hR⟩
  apply Nat.le_of_not_lt
  intro hlt
  have hv := val_lt f hlt
  rw [val_of hq hk] at hv
  have hLp : 0 < 2 ^ L := Nat.two_pow_pos _
  obtain ⟨j, q, hj0, hj, hjq, he, hv'⟩ := rung_parts (f := f) hR0
  by_cases hLq : L ≤ q
  · have hK : val f R = j * 2 ^ (q - L) * 2 ^ L := by rw [hv', Nat.mul_assoc, ← Nat.pow_add, Nat.sub_add_cancel hLq]
    generalize j * 2 ^ (q - L) = K at hK
    rw [hK] at hv h
    have hKk : k < K := Nat.lt_of_mul_lt_mul_right hv
    have h3 : (2 * k + 2) * (2 ^ L * U) ≤ 2 * (K * (2 ^ L * U)) := by
      have : (2 * k + 2) * (2 ^ L * U) ≤ 2 * K * (2 ^ L * U) := Nat.mul_le_mul_right _ (by omega)
      rwa [Nat.mul_assoc 2 K] at this
    rw [Nat.mul_assoc] at h
    have e : (2 * k + 2) * (2 ^ L * U) = (2 * k + 1) * (2 ^ L * U) + 2 ^ L * U := by rw [← Nat.succ_mul]
    have hpos : 0 < 2 ^ L * U := Nat.mul_pos hLp hUp
    omega
  · have hkb : f.binade ≤ k := by rcases hq with h | h <;> omega
    have e : 2 ^ L = 2 ^ (L - q - 1) * (2 * 2 ^ q) := by
      rw [← Nat.mul_assoc, ← Nat.pow_succ, ← Nat.pow_add]; congr 1; omega
    have hge : 1 ≤ 2 ^ (L - q - 1) := Nat.two_pow_pos _
    have : val f R < k * 2 ^ L := by
      rw [hv']
      calc j * 2 ^ q < 2 * f.binade * 2 ^ q := Nat.mul_lt_mul_of_pos_right hj (Nat.two_pow_pos _)
        _ = 1 * (f.binade * (2 * 2 ^ q)) := by rw [Nat.one_mul, Nat.mul_left_comm, Nat.mul_assoc]
        _ ≤ 2 ^ (L - q - 1) * (f.binade * (2 * 2 ^ q)) := Nat.mul_le_mul_right _ hge
        _ = f.binade * 2 ^ L := by rw [e, Nat.mul_left_comm]
        _ ≤ k * 2 ^ L := Nat.mul_le_mul_right _ hkb
    omega

end
end Go.Proofs.Ytnigbjjllolgdaa.Flt
/-
  Sums and products in any order, and with the other sign, up to the choice of a NaN. No program is named here.
-/
set_option linter.unusedVariables false
set_option linter.unusedSimpArgs false
namespace Go.Proofs.Ytnigbjjllolgdaa
open Go Flt
namespace Flt
open Ieee

theorem sum_comm (a b : Datum) : a.sum b = b.sum a := by
  cases a <;> cases b <;> simp only [Datum.sum]
  · rename_i s m i t n j
    simp only [Option.some.injEq, Datum.number.injEq]
    rw [Int.min_comm j i, Int.add_comm (signed t n _) (signed s m _), Bool.and_comm t s]
    exact ⟨rfl, rfl, rfl⟩
  · rename_i s t
    by_cases h : s = t
    · subst h; rfl
    · rw [if_neg h, if_neg (fun e => h e.symm)]

theorem product_comm (a b : Datum) : a.product b = b.product a := by
  cases a <;> cases b <;> simp only [Datum.product]
  · simp only [Option.some.injEq, Datum.number.injEq]
    exact ⟨Bool.xor_comm _ _, Nat.mul_comm _ _, Int.add_comm _ _⟩
  · rw [Bool.xor_comm]

theorem add_comm' (k : FloatKind) (x y : Nat) : floatBits .add k x y = floatBits .add k y x := by
  show Option.map _ _ = Option.map _ _
  rw [sum_comm]
theorem mul_comm' (k : FloatKind) (x y : Nat) : floatBits .mul k x y = floatBits .mul k y x := by
  show Option.map _ _ = Option.map _ _
  rw [product_comm]
theorem fop_add_comm (k : FloatKind) (a b : Option Nat) : fop .add k a b = fop .add k b a := by
  cases a <;> cases b <;> simp only [fop]
  exact add_comm' _ _ _
theorem fop_mul_comm (k : FloatKind) (a b : Option Nat) : fop .mul k a b = fop .mul k b a := by
  cases a <;> cases b <;> simp only [fop]
  exact mul_comm' _ _ _

/-- The word of the other sign stands for the opposite. -/
theorem read_neg {x : Nat} (h : x < 18446744073709551616) : double.read (Op.negFloat .f64 x) = (double.read x).opposite := by
  have e : ∃ s r, x / double.signWeight % 2 = s ∧ x % double.signWeight = r ∧ (s = 0 ∧ Op.negFloat .f64 x / double.signWeight % 2 = 1 ∨ s = 1 ∧ Op.negFloat .f64 x / double.signWeight % 2 = 0) ∧ Op.negFloat .f64 x % double.signWeight = r := by
    have hw : double.signWeight = 9223372036854775808 := by decide
    rw [hw]
    have e1 : Op.negFloat .f64 x = x ^^^ 2 ^ 63 := rfl
    rw [e1]
    by_cases h1 : x < 9223372036854775808
    · rw [neg64_lo h1]; exact ⟨_, _, rfl, rfl, by omega, by omega⟩
    · rw [neg64_hi (by omega) h]; exact ⟨_, _, rfl, rfl, by omega, by omega⟩
  obtain ⟨s, r, e1, e2, e3, e4⟩ := e
  unfold Format.read
  rw [e1, e2, e4]
  rcases e3 with ⟨rfl, e3⟩ | ⟨rfl, e3⟩ <;> rw [e3] <;> simp only <;> split <;> first | rfl | (split <;> first | rfl | (split <;> rfl))

theorem word_neg (b : Bool) {r : Nat} (h : r ≤ double.infRung) : double.word (!b) r = Op.negFloat .f64 (double.word b r) := by
  have h1 : r < 9223372036854775808 := Nat.lt_of_le_of_lt h (by decide)
  have e1 : ∀ x, Op.negFloat .f64 x = x ^^^ 2 ^ 63 := fun _ => rfl
  have hw : double.signWeight = 9223372036854775808 := by decide
  unfold Format.word
  rw [e1, hw]
  cases b
  · simp only [Bool.not_false, if_true, Bool.false_eq_true, if_false]
    rw [neg64_lo h1]; omega
  · simp only [Bool.not_true, if_true, Bool.false_eq_true, if_false]
    rw [neg64_hi (by omega) (by omega)]; omega

theorem nearest_neg (b : Bool) (m : Nat) (p : Int) : double.nearest (!b) m p = Op.negFloat .f64 (double.nearest b m p) := by
  unfold Format.nearest
  by_cases hm : m = 0
  · rw [if_pos hm, if_pos hm]; exact word_neg b (Nat.zero_le _)
  · rw [if_neg hm, if_neg hm]
    exact word_neg b (Nat.min_le_right _ _)

theorem write_opp {d : Datum} (h : d.isNaN = false) : double.write d.opposite = Op.negFloat .f64 (double.write d) := by
  cases d with
  | number s m p => exact nearest_neg s m p
  | infinity s => exact word_neg s (Nat.le_refl _)
  | nan => cases h

theorem product_num2 {a b d : Datum} (h : a.product b = some d) : d.isNaN = false := by
  cases a <;> cases b <;> simp only [Datum.product] at h <;> first | (cases h; done) | (cases h; rfl) | (split at h <;> first | (cases h; done) | (cases h; rfl))
theorem sum_num2 {a b d : Datum} (h : a.sum b = some d) : d.isNaN = false := by
  cases a <;> cases b <;> simp only [Datum.sum] at h <;> first | (cases h; done) | (cases h; rfl) | (split at h <;> first | (cases h; done) | (cases h; rfl))

theorem product_opp (a b : Datum) : a.product b.opposite = (a.product b).map Datum.opposite := by
  cases a <;> cases b <;> simp only [Datum.product, Datum.opposite, Option.map] <;> first | rfl | (simp [Datum.opposite]; done) | (split <;> simp [Datum.opposite])

theorem mul_neg' {x y : Nat} (h : y < 18446744073709551616) : floatBits .mul .f64 x (Op.negFloat .f64 y) = (floatBits .mul .f64 x y).map (Op.negFloat .f64) := by
  show Option.map double.write ((double.read x).product (double.read (Op.negFloat .f64 y))) = Option.map _ (Option.map double.write ((double.read x).product (double.read y)))
  rw [read_neg h, product_opp]
  cases e : (double.read x).product (double.read y) with
  | none => rfl
  | some d => exact congrArg some (write_opp (product_num2 e))

theorem opp_opp (d : Datum) : d.opposite.opposite = d := by cases d <;> simp [Datum.opposite]
theorem sub_neg' {x y : Nat} (h : y < 18446744073709551616) : floatBits .sub .f64 x (Op.negFloat .f64 y) = floatBits .add .f64 x y := by
  show Option.map double.write ((double.read x).sum (double.read (Op.negFloat .f64 y)).opposite) = Option.map double.write ((double.read x).sum (double.read y))
  rw [read_neg h, opp_opp]

theorem sum_opp (d : Datum) : d.opposite.sum d = none ∨ ∃ p, d.opposite.sum d = some (.number false 0 p) := by
  cases d with
  | nan => exact .inl rfl
  | infinity s => left; cases s <;> rfl
  | number s m p =>
    right
    have e : signed (!s) m (p - min p p).toNat + signed s m (p - min p p).toNat = 0 := by
      unfold signed
      cases s <;> simp <;> omega
    refine ⟨min p p, ?_⟩
    simp only [Datum.sum, Datum.opposite]
    rw [e]
    cases s <;> rfl

theorem neg_add_self {x : Nat} (h : x < 18446744073709551616) : floatBits .add .f64 (Op.negFloat .f64 x) x = none ∨ floatBits .add .f64 (Op.negFloat .f64 x) x = some 0 := by
  have e : floatBits .add .f64 (Op.negFloat .f64 x) x = Option.map double.write ((double.read x).opposite.sum (double.read x)) := by
    show Option.map double.write ((double.read (Op.negFloat .f64 x)).sum (double.read x)) = _
    rw [read_neg h]
  rw [e]
  rcases sum_opp (double.read x) with e1 | ⟨p, e1⟩ <;> rw [e1]
  · exact .inl rfl
  · right; rfl

/-- A float up to NaN that has a word. -/
def WfO (a : Option Nat) : Prop := ∀ x, a = some x → x < 18446744073709551616
theorem wfO_fop (op : BinOp) (a b : Option Nat) : WfO (fop op .f64 a b) := by
  intro x h
  cases a <;> cases b <;> simp only [fop] at h <;> first | (cases h; done) | (have := floatBits_wf h; simpa [Lit.wf] using this)
theorem IsF.wfO {u : Nat} {a : Option Nat} (h : IsF u a) : WfO a := by
  intro x e
  have h1 := h.cn
  unfold Flt.cn at h1
  rw [e] at h1
  split at h1
  · cases h1
  · cases h1; exact h.lt
theorem wfO_neg {a : Option Nat} (h : WfO a) : WfO (fneg .f64 a) := by
  intro x e
  cases a with
  | none => cases e
  | some y => cases e; exact negFloat64_lt (h y rfl)
theorem fop_mul_neg {a b : Option Nat} (h : WfO b) : fop .mul .f64 a (fneg .f64 b) = fneg .f64 (fop .mul .f64 a b) := by
  cases a <;> cases b <;> first | rfl | exact mul_neg' (h _ rfl)
theorem fop_sub_neg {a b : Option Nat} (h : WfO b) : fop .sub .f64 a (fneg .f64 b) = fop .add .f64 a b := by
  cases a <;> cases b <;> first | rfl | exact sub_neg' (h _ rfl)
theorem fop_neg_add {a : Option Nat} (h : WfO a) : fop .add .f64 (fneg .f64 a) a = none ∨ fop .add .f64 (fneg .f64 a) a = some 0 := by
  cases a with
  | none => exact .inl rfl
  | some x => exact neg_add_self (h x rfl)
theorem fop_zero_add {a b : Option Nat} (ha : a = none ∨ a = some 0) (hb : b = none ∨ b = some 0) : fop .add .f64 a b = none ∨ fop .add .f64 a b = some 0 := by
  rcases ha with rfl | rfl <;> rcases hb with rfl | rfl
  · exact .inl rfl
  · exact .inl rfl
  · exact .inl rfl
  · right; decide +kernel
end Flt
end Go.Proofs.Ytnigbjjllolgdaa
/-
  Signals of wide complex numbers: as values, and what they stand for up to the choice of NaNs.
-/
set_option linter.unusedVariables false
set_option linter.unusedSimpArgs false
namespace Go.Proofs.Ytnigbjjllolgdaa
open Go.RowKit Flt

namespace Fast
abbrev Z := Option Nat × Option Nat
def mulZ (a b : Z) : Z := (fop .sub .f64 (fop .mul .f64 a.1 b.1) (fop .mul .f64 a.2 b.2), fop .add .f64 (fop .mul .f64 a.1 b.2) (fop .mul .f64 a.2 b.1))
def addZ (a b : Z) : Z := (fop .add .f64 a.1 b.1, fop .add .f64 a.2 b.2)
def subZ (a b : Z) : Z := (fop .sub .f64 a.1 b.1, fop .sub .f64 a.2 b.2)
def z0 : Z := (some 0, some 0)

end Fast
open Fast
abbrev C := Nat × Nat
/-- Complex numbers as values. -/
def cval (p : C) : Value := .complex .f64 p.1 p.2
def cvals (xs : List C) : List Value := xs.map cval
theorem cvals_length (xs : List C) : (cvals xs).length = xs.length := by simp [cvals]
theorem cvals_getD {xs : List C} {j : Nat} (h : j < xs.length) : (cvals xs).getD j undef = .complex .f64 (xs.getD j (0, 0)).1 (xs.getD j (0, 0)).2 := getD_map _ xs (0, 0) h

/-- A complex number, up to the choice of NaNs. -/
structure IsC (p : C) (z : Option Nat × Option Nat) : Prop where
  re : IsF p.1 z.1
  im : IsF p.2 z.2

theorem grown_new {w w1 w2 : World} {row : Option Nat} {B : Nat} (h : w.grownBy w1 row) (k : w1.grownBy w2 (some B)) (hB : w.heap.size ≤ B) : w.grownBy w2 row :=
  ⟨k.os.trans h.os, k.tape.trans h.tape, k.output.trans h.output, Nat.le_trans h.size k.size, fun j hj hr => (k.block j (Nat.lt_of_lt_of_le hj h.size) (by simp; omega)).trans (h.block j hj hr)⟩

theorem cvals_snoc (xs : List C) (p : C) : cvals (xs ++ [p]) = cvals xs ++ [cval p] := by simp [cvals]

/-- The next place of a row that is being filled. -/
theorem fill_step {xs : List C} {p : C} {n k : Nat} (hk : k < n) (hx : xs.length = k) (z : Value) :
    (cvals xs ++ List.replicate (n - k) z).set k (cval p) = cvals (xs ++ [p]) ++ List.replicate (n - (k + 1)) z := by
  rw [List.set_append_right _ _ (by rw [cvals_length]; omega), cvals_length, hx, Nat.sub_self, cvals_snoc]
  obtain ⟨m, hm⟩ : ∃ m, n - k = m + 1 := ⟨n - k - 1, by omega⟩
  rw [hm, List.replicate_succ, List.set_cons_zero, show n - (k + 1) = m by omega, List.append_assoc]
  rfl

theorem fill_good {xs : List C} {p : C} {k : Nat} {z : Nat → Option Nat × Option Nat} (hx : xs.length = k) (hg : ∀ i, i < k → IsC (xs.getD i (0, 0)) (z i)) (hp : IsC p (z k)) :
    (xs ++ [p]).length = k + 1 ∧ ∀ i, i < k + 1 → IsC ((xs ++ [p]).getD i (0, 0)) (z i) := by
  refine ⟨by simp [hx], fun i hi => ?_⟩
  rcases Nat.lt_or_eq_of_le (Nat.le_of_lt_succ hi) with h | h
  · rw [show (xs ++ [p]).getD i (0, 0) = xs.getD i (0, 0) by simp [List.getD, List.getElem?_append_left, hx, h]]
    exact hg i h
  · subst h
    rw [show (xs ++ [p]).getD i (0, 0) = p by simp [List.getD, ← hx]]
    exact hp

/-- A complex number is returned, likewise. -/
def RetC (z : Option Nat × Option Nat) (w : World) (e : Ending) (w' : World) : Prop := ∃ a b, e = .returned (.complex .f64 a b) ∧ IsF a z.1 ∧ IsF b z.2 ∧ ∃ n, w' = w.drewN n

/-- What complex numbers stand for. -/
def zOf (p : C) : Z := (cn .f64 p.1, cn .f64 p.2)
def zsOf (xs : List C) : List Z := xs.map zOf
def WfC (xs : List C) : Prop := ∀ p ∈ xs, p.1 < 18446744073709551616 ∧ p.2 < 18446744073709551616
theorem zsOf_length (xs : List C) : (zsOf xs).length = xs.length := by simp [zsOf]
theorem zsOf_getD {xs : List C} {j : Nat} (h : j < xs.length) : (zsOf xs).getD j z0 = zOf (xs.getD j (0, 0)) := by simp [zsOf, List.getD, h]
theorem isC_zOf {p : C} (h : p.1 < 18446744073709551616 ∧ p.2 < 18446744073709551616) : IsC p (zOf p) := ⟨⟨rfl, h.1⟩, ⟨rfl, h.2⟩⟩
theorem getD_memC {xs : List C} {j : Nat} (h : j < xs.length) : xs.getD j (0, 0) ∈ xs := by
  rw [List.getD_eq_getElem?_getD, List.getElem?_eq_getElem h]
  exact List.getElem_mem h
theorem isC_getD {xs : List C} {j : Nat} (hw : WfC xs) (h : j < xs.length) : IsC (xs.getD j (0, 0)) ((zsOf xs).getD j z0) := by
  rw [zsOf_getD h]; exact isC_zOf (hw _ (getD_memC h))

theorem Row.base {w : World} {B B' : Nat} {e : TypeId} {v : Value} {cs : List Value} (h : Row w B' e v cs) (hB : B ≤ B') : Row w B e v cs := by
  refine ⟨h.1, ?_⟩
  rcases h.2 with hn | ⟨g, cap, cur, rfl, hb, r⟩
  · exact .inl hn
  · exact .inr ⟨g, cap, cur, rfl, Nat.le_trans hB hb, r⟩


end Go.Proofs.Ytnigbjjllolgdaa
/-
  What an operation on floats gives in a world, as an equation (a NaN's bits are the tape's): for regions that draw their order. No program is named here.
-/
set_option linter.unusedVariables false
set_option linter.unusedSimpArgs false
namespace Go.Proofs.Ytnigbjjllolgdaa.Flt
open Go

/-- The bits of a result in the world w. -/
def fres (op : BinOp) (k : FloatKind) (x y : Nat) (w : World) : Nat := match floatBits op k x y with
  | some r => r
  | none => Question.cut (.nanBits k x y) (w.tape w.drawn (.nanBits k x y))
/-- How often it draws. -/
def fcnt (op : BinOp) (k : FloatKind) (x y : Nat) : Nat := match floatBits op k x y with
  | some _ => 0
  | none => 1

theorem cn_fres (op : BinOp) (k : FloatKind) (x y : Nat) (w : World) : cn k (fres op k x y w) = floatBits op k x y := by
  unfold fres
  split
  · rename_i r h; rw [h]; exact cn_some (floatBits_num h)
  · rename_i h; rw [h]; exact cn_none (cut_nan k x y _).1
theorem fres_lt64 (op : BinOp) (x y : Nat) (w : World) : fres op .f64 x y w < 18446744073709551616 := by
  unfold fres
  split
  · rename_i r h; have := floatBits_wf h; simpa [Lit.wf] using this
  · exact (cut_nan .f64 x y _).2

theorem isF_fres {op : BinOp} {x y : Nat} {a b : Option Nat} (hx : IsF x a) (hy : IsF y b) (w : World) : IsF (fres op .f64 x y w) (fop op .f64 a b) :=
  ⟨cn_op (cn_fres op .f64 x y w) hx.cn hy.cn, fres_lt64 op x y w⟩

section
variable {P : Program} (w : World)

theorem run_fres (op : BinOp) (hop : op = .add ∨ op = .sub ∨ op = .mul ∨ op = .quo) (k : FloatKind) (x y : Nat) :
    (Op.floatArith op k x y).run P w = .ok (.float k (fres op k x y w)) (w.drewN (fcnt op k x y)) := by
  cases h : floatBits op k x y with
  | some r =>
    have e1 : fres op k x y w = r := by unfold fres; rw [h]
    have e2 : fcnt op k x y = 0 := by unfold fcnt; rw [h]
    rw [e1, e2]
    exact run_floatArith w h
  | none =>
    have e1 : fres op k x y w = Question.cut (.nanBits k x y) (w.tape w.drawn (.nanBits k x y)) := by unfold fres; rw [h]
    have e2 : fcnt op k x y = 1 := by unfold fcnt; rw [h]
    rw [e1, e2]
    rcases hop with rfl | rfl | rfl | rfl <;> simp only [floatBits] at h <;> simp [Op.floatArith, h, Question.forced] <;> rfl

theorem run_fadd (t : TypeId) (k : FloatKind) (x y : Nat) : (binOp .add t (.float k x) (.float k y)).run P w = .ok (.float k (fres .add k x y w)) (w.drewN (fcnt .add k x y)) := by
  simpa [binOp] using run_fres (P := P) w .add (by simp) k x y
theorem run_fsub (t : TypeId) (k : FloatKind) (x y : Nat) : (binOp .sub t (.float k x) (.float k y)).run P w = .ok (.float k (fres .sub k x y w)) (w.drewN (fcnt .sub k x y)) := by
  simpa [binOp] using run_fres (P := P) w .sub (by simp) k x y
theorem run_fmul (t : TypeId) (k : FloatKind) (x y : Nat) : (binOp .mul t (.float k x) (.float k y)).run P w = .ok (.float k (fres .mul k x y w)) (w.drewN (fcnt .mul k x y)) := by
  simpa [binOp] using run_fres (P := P) w .mul (by simp) k x y
theorem run_fquo (t : TypeId) (k : FloatKind) (x y : Nat) : (binOp .quo t (.float k x) (.float k y)).run P w = .ok (.float k (fres .quo k x y w)) (w.drewN (fcnt .quo k x y)) := by
  simpa [binOp] using run_fres (P := P) w .quo (by simp) k x y
theorem run_cadd (t : TypeId) (k : FloatKind) (x y u v : Nat) : (binOp .add t (.complex k x y) (.complex k u v)).run P w =
    .ok (.complex k (fres .add k x u w) (fres .add k y v (w.drewN (fcnt .add k x u)))) (w.drewN (fcnt .add k x u + fcnt .add k y v)) := by
  simp [binOp, Op.complexOp, Op.Complex.arith, run_fres, World.drewN_drewN]
theorem run_csub (t : TypeId) (k : FloatKind) (x y u v : Nat) : (binOp .sub t (.complex k x y) (.complex k u v)).run P w =
    .ok (.complex k (fres .sub k x u w) (fres .sub k y v (w.drewN (fcnt .sub k x u)))) (w.drewN (fcnt .sub k x u + fcnt .sub k y v)) := by
  simp [binOp, Op.complexOp, Op.Complex.arith, run_fres, World.drewN_drewN]
end

end Go.Proofs.Ytnigbjjllolgdaa.Flt
/-
  Products, squares and kin of complex numbers, of the program and of the model.
-/
set_option linter.unusedVariables false
set_option linter.unusedSimpArgs false
namespace Go.Proofs.Ytnigbjjllolgdaa
open Go.RowKit Flt Fast
attribute [local go_sem] run_fadd run_fsub run_fmul run_fquo run_cadd run_csub

/-- A complex number is returned, up to the choice of NaNs; what was there has not turned. -/
def RetsC (z : Z) (w : World) (e : Ending) (w' : World) : Prop := ∃ a b, e = .returned (.complex .f64 a b) ∧ IsC (a, b) z ∧ Below w.heap.size w w'
/-- A float is returned, up to the choice of NaNs; what was there has not turned. -/
def RetsR (z : Option Nat) (w : World) (e : Ending) (w' : World) : Prop := ∃ a, e = .returned (.float .f64 a) ∧ IsF a z ∧ Below w.heap.size w w'

/-- The square of a size. -/
def sqZ (x : Z) : Option Nat := fop .add .f64 (fop .mul .f64 x.1 x.1) (fop .mul .f64 x.2 x.2)

end Go.Proofs.Ytnigbjjllolgdaa
/-
  mapSignal, whatever function is taken (written by genmap.py).
-/
set_option linter.unusedVariables false
set_option linter.unusedSimpArgs false
namespace Go.Proofs.Ytnigbjjllolgdaa
open Go.RowKit Flt Fast

/-- Narrow complex numbers as values. -/
def nval (p : C) : Value := .complex .f32 p.1 p.2
def nvals (xs : List C) : List Value := xs.map nval
theorem nvals_length (xs : List C) : (nvals xs).length = xs.length := by simp [nvals]
theorem nvals_getD {xs : List C} {j : Nat} (h : j < xs.length) : (nvals xs).getD j undef = .complex .f32 (xs.getD j (0, 0)).1 (xs.getD j (0, 0)).2 := getD_map _ xs (0, 0) h
def fval (x : Nat) : Value := .float .f64 x
def fvals (xs : List Nat) : List Value := xs.map fval
theorem fvals_length (xs : List Nat) : (fvals xs).length = xs.length := by simp [fvals]
theorem fvals_getD {xs : List Nat} {j : Nat} (h : j < xs.length) : (fvals xs).getD j undef = .float .f64 (xs.getD j 0) := getD_map _ xs 0 h
theorem info_f64' : (Try.prog.info? 30).map (fun i => (i.zero, i.size, i.bytes)) = some (some (.float .f64 0), 1, 8) := by kernel_rfl

/-- The next place of a row that is being filled. -/
theorem fillV {vs : List Value} {n k : Nat} (hk : k < n) (hx : vs.length = k) (z u : Value) :
    (vs ++ List.replicate (n - k) z).set k u = (vs ++ [u]) ++ List.replicate (n - (k + 1)) z := by
  rw [List.set_append_right _ _ (by omega), hx, Nat.sub_self]
  obtain ⟨m, hm⟩ : ∃ m, n - k = m + 1 := ⟨n - k - 1, by omega⟩
  rw [hm, List.replicate_succ, List.set_cons_zero, show n - (k + 1) = m by omega, List.append_assoc]
  rfl

theorem snocGood {α : Type} {d : α} {xs : List α} {p : α} {k : Nat} {G : Nat → α → Prop} (hx : xs.length = k) (hg : ∀ i, i < k → G i (xs.getD i d)) (hp : G k p) :
    (xs ++ [p]).length = k + 1 ∧ ∀ i, i < k + 1 → G i ((xs ++ [p]).getD i d) := by
  refine ⟨by simp [hx], fun i hi => ?_⟩
  rcases Nat.lt_or_eq_of_le (Nat.le_of_lt_succ hi) with h | h
  · rw [show (xs ++ [p]).getD i d = xs.getD i d by simp [List.getD, List.getElem?_append_left, hx, h]]
    exact hg i h
  · subst h
    rw [show (xs ++ [p]).getD i d = p by simp [List.getD, ← hx]]
    exact hp

/-- What lies in a row stays behind whatever leaves the blocks that are there. -/
theorem Reads.below {w w' : World} {v : Value} {cs : List Value} (h : Reads w v cs) (hb : Below w.heap.size w w') : Reads w' v cs := by
  cases h with
  | none a cap => exact .none a cap
  | row g cap L cs hL h0 hc hm hh => exact .row g cap L cs hL h0 hc hm fun j hj => by rw [hb.cell (World.block_lt_of_cell? _ _ (hh j hj)), hh j hj]

/-- What mapSignal returns. -/
def MapsTo {α : Type} (e : TypeId) (val : List α → List Value) (d : α) (n : Nat) (G : Nat → α → Prop) (w : World) (en : Ending) (w' : World) : Prop :=
  ∃ v qs, en = .returned (.tuple #[v, .int .i64 0]) ∧ Row w' w.heap.size e v (val qs) ∧ qs.length = n ∧ (∀ i, i < n → G i (qs.getD i d)) ∧ Below w.heap.size w w'

set_option maxRecDepth 100000 in
set_option maxHeartbeats 4000000 in
theorem map_f64_f64 {v : Value} {xs : List Nat} {w : World} (h : Reads w v (fvals xs)) (hl : xs.length ≤ 256) (fn : Nat) (capt : Array Value)
    (hfn : ∀ (args : Array Value) (w : World), (callFunc fn args).run Try.prog w = .ok (.enter fn args) w) (G : Nat → Nat → Prop)
    (hcall : ∀ i w1, i < xs.length → Below w.heap.size w w1 → Calls Try.prog fn (#[.float .f64 (xs.getD i 0)] ++ capt) w1 fun e w2 => ∃ q : Nat, e = .returned (fval q) ∧ G i q ∧ Below w1.heap.size w1 w2) :
    Calls Try.prog 27 #[v, .func (.func fn) #[] capt] w (MapsTo 30 fvals 0 xs.length G w) := by
  obtain ⟨i0, hi, hz0, hz1, hz2⟩ := info_parts info_f64'
  have HF : Hid (∀ i w1, i < xs.length → Below w.heap.size w w1 → Calls Try.prog fn (#[.float .f64 (xs.getD i 0)] ++ capt) w1 fun e w2 => ∃ q : Nat, e = .returned (fval q) ∧ G i q ∧ Below w1.heap.size w1 w2) := hcall
  clear hcall
  generalize hcs : fvals xs = cs at h
  have hcl : cs.length = xs.length := by rw [← hcs, fvals_length]
  cases h with
  | none a cap =>
    have h0 : xs.length = 0 := by rw [← hcl]; rfl
    rw [h0]
    clear hcs hcl h0 HF hl
    go_enter Try.func27, Try.ntmps27
    go_wp2_with (at_make; refine wpList_make_full _ rfl _ _ 24 rfl w.heap.size 30 i0 (.float .f64 0) 1 Try.underlying24 hi hz0 hz1 .i64 .i64 _ _ 0 rfl rfl rfl rfl (by rw [hz2]; omega) (by simp only [maxLen]; omega) (Nat.le_refl _) ?_)
    intro w1 hown hg1
    rw [toList_madeCells_one] at hown
    have HO : Hid (Row w1 w.heap.size 30 (.slice (some ⟨w.heap.size, 0, none⟩) 0 0) []) := by
      show w1.ownsRow _ _ _ _ _ _
      simpa using hown
    have HG : Hid (Below w.heap.size w w1) := (Below.refl _ _).grown hg1 (Nat.le_refl _) (fun b e => by cases e)
    clear hown hg1 hi hz0 hz1 hz2
    go_wp2
    refine wp_loop_rounds 1 ?_
    rw [rounds_succ]
    go_wp2
    go_ret2
    exact ⟨_, [], rfl, HO.out, rfl, fun i hi => by omega, HG.out⟩
  | row g cap L cs hL h0 hc hm hcell =>
    obtain rfl : L = xs.length := by rw [← hL]; exact hcl
    obtain ⟨L, hxl⟩ : ∃ L, xs.length = L := ⟨_, rfl⟩
    rw [hxl] at hl h0 hc ⊢
    have hmax := maxLen_int (Nat.le_trans hc hm)
    have hgl : g < w.heap.size := World.block_lt_of_cell? _ _ (hcell 0 (by omega))
    have HC : Hid (∀ j, j < L → w.cell? ⟨g, j, none⟩ = some (.float .f64 (xs.getD j 0))) := fun j hj => by rw [hcell j (by omega), ← hcs, fvals_getD (by omega)]
    have HX := Lib.hid hxl
    clear hcell hcs hcl hL hm hxl
    go_enter Try.func27, Try.ntmps27
    go_wp2_with (at_make; refine wpList_make_full _ rfl _ _ 24 rfl w.heap.size 30 i0 (.float .f64 0) 1 Try.underlying24 hi hz0 hz1 .i64 .i64 _ _ L rfl rfl rfl rfl (by rw [hz2]; omega) (by simp only [maxLen]; omega) (Nat.le_refl _) ?_)
    intro w1 hown hg1
    rw [toList_madeCells_one] at hown
    have HO : Hid (Row w1 w.heap.size 30 (.slice (some ⟨w.heap.size, 0, none⟩) L L) (List.replicate L (.float .f64 0))) := by
      show w1.ownsRow _ _ _ _ _ _
      simpa using hown
    have HG : Hid (Below w.heap.size w w1) := (Below.refl _ _).grown hg1 (Nat.le_refl _) (fun b e => by cases e)
    clear hown hg1 hi hz0 hz1 hz2
    go_wp2
    go_loopw [16] (fun i wr => ∃ (k : Nat) (qs : List Nat), i = .int .i64 k ∧ k ≤ L ∧ qs.length = k ∧ Row wr w.heap.size 30 (.slice (some ⟨w.heap.size, 0, none⟩) L L) (fvals qs ++ List.replicate (L - k) (.float .f64 0)) ∧ (∀ j, j < k → G j (qs.getD j 0)) ∧ Below w.heap.size w wr) (fun i _ => L - (intOf i).toNat)
    case atStart => exact ⟨0, [], rfl, Nat.zero_le _, rfl, HO.out, fun j hj => by omega, HG.out⟩
    case round =>
      obtain ⟨k, qs, rfl, hk, hx, hrw, hgd, hbw⟩ := hrel
      have HQ := Lib.hid hx
      have HRW := Lib.hid hrw
      have HGD := Lib.hid hgd
      have HBW := Lib.hid hbw
      clear hx hrw hgd hbw
      by_cases hlt : k < L
      · have c1 : wr.cell? ⟨g, k, none⟩ = some (.float .f64 (xs.getD k 0)) := by rw [HBW.out.cell hgl]; exact HC.out k hlt
        have hcall := HF.out k wr (by rw [HX.out]; exact hlt) HBW.out
        obtain ⟨a, hab⟩ : ∃ q, xs.getD k 0 = q := ⟨_, rfl⟩
        rw [hab] at c1 hcall
        clear hab
        go_wp2_with fail
        refine hcall.mono ?_
        rintro e w2 ⟨q, rfl, hq, hb2⟩
        have hr2 := HRW.out.below hb2 (fun j hj => (HRW.out.lt j hj).2)
        have hS := hr2.set k (fval q)
        rw [fillV hlt (by rw [fvals_length]; exact HQ.out)] at hS
        have hF := snocGood (d := 0) HQ.out HGD.out hq
        have c2 := hr2.cellAt hlt
        have f1 := hr2.frozenAt k
        have hb3 := below_step HBW.out hb2 HBW.out.size
        have hb4 : Below w.heap.size w (w2.setCell ⟨w.heap.size, k, none⟩ (fval q)) := hb3.setCell (p := ⟨w.heap.size, k, none⟩) (Nat.le_refl _) _
        simp only [fval] at hS hb4 ⊢
        obtain ⟨u, hu⟩ : ∃ u, (fvals qs ++ List.replicate (L - k) (.float .f64 0 : Value)).getD k undef = u := ⟨_, rfl⟩
        rw [hu] at c2
        have hs2 : (Row (w2.setCell ⟨w.heap.size, k, none⟩ (.float .f64 q)) w.heap.size 30 (.slice (some ⟨w.heap.size, 0, none⟩) L L) (fvals (qs ++ [q]) ++ List.replicate (L - (k + 1)) (.float .f64 0))) := by
          have := hS.1
          simpa [fvals, fval] using this
        have HS2 := Lib.hid hs2
        have HF2 := Lib.hid hF
        have HB4 := Lib.hid hb4
        clear hu hr2 hS hF hq hb2 hb3 hb4 hs2
        go_wp2
        go_roundw
        case rel => exact ⟨k + 1, qs ++ [q], by go_num, by omega, HF2.out.1, HS2.out, HF2.out.2, HB4.out⟩
        case measure => simp [intOf]; omega
      · have e : k = L := by omega
        subst e
        go_wp2
        go_ret2
        refine ⟨_, qs, rfl, ?_, HQ.out, HGD.out, HBW.out⟩
        have := HRW.out
        rwa [Nat.sub_self, List.replicate_zero, List.append_nil] at this

end Go.Proofs.Ytnigbjjllolgdaa
/-
  sumOfTerms over floats and over wide complex numbers.
-/
set_option linter.unusedVariables false
set_option linter.unusedSimpArgs false
namespace Go.Proofs.Ytnigbjjllolgdaa
open Go.RowKit Flt Fast
attribute [local go_sem] run_fadd run_fsub run_fmul run_fquo run_cadd run_csub

/-- The sum of the first n terms, from left to right. -/
def sumO (z : Nat → Option Nat) : Nat → Option Nat
  | 0 => some 0
  | n + 1 => if n = 0 then z 0 else fop .add .f64 (sumO z n) (z n)
def sumC (z : Nat → Z) : Nat → Z
  | 0 => z0
  | n + 1 => if n = 0 then z 0 else addZ (sumC z n) (z n)
theorem sumO_one (z : Nat → Option Nat) : sumO z 1 = z 0 := rfl
theorem sumO_succ (z : Nat → Option Nat) {n : Nat} (h : n ≠ 0) : sumO z (n + 1) = fop .add .f64 (sumO z n) (z n) := by rw [sumO, if_neg h]
theorem sumC_one (z : Nat → Z) : sumC z 1 = z 0 := rfl
theorem sumC_succ (z : Nat → Z) {n : Nat} (h : n ≠ 0) : sumC z (n + 1) = addZ (sumC z n) (z n) := by rw [sumC, if_neg h]

set_option maxRecDepth 100000 in
set_option maxHeartbeats 4000000 in
theorem sumF_any {v : Value} {xs : List Nat} {w : World} (h : Reads w v (fvals xs)) (hl : xs.length ≤ 100000) (z : Nat → Option Nat) (hz : ∀ i, i < xs.length → IsF (xs.getD i 0) (z i)) :
    Calls Try.prog 41 #[v] w fun e w' => ∃ a, e = .returned (.float .f64 a) ∧ IsF a (sumO z xs.length) ∧ ∃ n, w' = w.drewN n := by
  generalize hcs : fvals xs = cs at h
  have hcl : cs.length = xs.length := by rw [← hcs, fvals_length]
  cases h with
  | none a cap =>
    have h0 : xs.length = 0 := by rw [← hcl]; rfl
    rw [h0]
    clear hcs hcl h0 hz hl
    go_enter Try.func41, Try.ntmps41
    go_wp2
    go_ret
    exact ⟨_, rfl, IsF.lit (by decide) (by omega), 0, rfl⟩
  | row g cap L cs hL h0 hc hm hcell =>
    obtain rfl : L = xs.length := by rw [← hL]; exact hcl
    obtain ⟨L, hxl⟩ : ∃ L, xs.length = L := ⟨_, rfl⟩
    rw [hxl] at hl h0 hc ⊢
    have hmax := maxLen_int (Nat.le_trans hc hm)
    have HC : Hid (∀ j, j < L → w.cell? ⟨g, j, none⟩ = some (.float .f64 (xs.getD j 0))) := fun j hj => by rw [hcell j (by omega), ← hcs, fvals_getD (by omega)]
    have HX := Lib.hid hxl
    have HZ := Lib.hid hz
    clear hcell hcs hcl hL hm hxl hz
    have c0 := HC.out 0 h0
    have z0' := HZ.out 0 (by rw [HX.out]; exact h0)
    obtain ⟨t, ht⟩ : ∃ t, xs.getD 0 0 = t := ⟨_, rfl⟩
    rw [ht] at c0 z0'
    have HZ0 := Lib.hid z0'
    clear ht z0'
    by_cases hcap : cap = 1
    · have hL1 : L = 1 := by omega
      subst hcap
      subst hL1
      go_enter Try.func41, Try.ntmps41
      go_wp2
      refine wp_loop_rounds 1 ?_
      rw [rounds_succ]
      go_wp2
      go_ret
      exact ⟨_, rfl, HZ0.out, 0, rfl⟩
    · go_enter Try.func41, Try.ntmps41
      go_wp2
      go_loopw [3, 15] (fun s i wr => ∃ (k a : Nat), i = .int .i64 k ∧ s = .float .f64 a ∧ k + 1 ≤ L ∧ IsF a (sumO z (k + 1)) ∧ ∃ n, wr = w.drewN n) (fun _ i _ => L - (intOf i).toNat)
      case atStart => exact ⟨0, t, rfl, rfl, by omega, HZ0.out, 0, rfl⟩
      case round =>
        obtain ⟨k, a, rfl, rfl, hk, ha, n, hw⟩ := hrel
        have HW := Lib.hid hw
        have HA := Lib.hid ha
        clear hw ha
        by_cases hlt : k + 1 < L
        · have c1 : wr.cell? ⟨g, 1 + k, none⟩ = some (.float .f64 (xs.getD (k + 1) 0)) := by rw [HW.out, Nat.add_comm 1 k]; exact HC.out (k + 1) hlt
          have z1 := HZ.out (k + 1) (by rw [HX.out]; exact hlt)
          obtain ⟨b, hb⟩ : ∃ b, xs.getD (k + 1) 0 = b := ⟨_, rfl⟩
          rw [hb] at c1 z1
          have HZ1 := Lib.hid z1
          clear hb z1
          go_wp2
          go_roundw
          case rel => exact ⟨k + 1, _, by go_num, rfl, by omega, by rw [sumO_succ z (by omega)]; exact isF_fres HA.out HZ1.out _, _, by rw [HW.out, World.drewN_drewN]⟩
          case measure => simp [intOf]; omega
        · have e : k + 1 = L := by omega
          rw [e] at HA
          go_wp2
          go_ret
          exact ⟨_, rfl, HA.out, n, HW.out⟩

end Go.Proofs.Ytnigbjjllolgdaa
/-
  The walks of eqInt64S, markInt64S and heldInt64S over slices that the call itself has made.
-/
set_option linter.unusedVariables false
set_option linter.unusedSimpArgs false
namespace Go.Proofs.Ytnigbjjllolgdaa
open Go.RowKit

/-- Integers as values. -/
def ints (zs : List Int) : List Value := zs.map (Value.int .i64)
theorem ints_length (zs : List Int) : (ints zs).length = zs.length := by simp [ints]
theorem ints_getD {zs : List Int} {j : Nat} (h : j < zs.length) : (ints zs).getD j undef = .int .i64 (zs.getD j 0) := getD_map _ zs 0 h

/-- The numbers that are laid in a row: from m on. -/
def marks (m n : Nat) : List Int := (List.range n).map fun i => ((m + i : Nat) : Int)

theorem marks_length (m n : Nat) : (marks m n).length = n := by simp [marks]
theorem marks_getD {m n j : Nat} (h : j < n) : (marks m n).getD j 0 = ((m + j : Nat) : Int) := by simp [marks, List.getD, h]

/-- The first k values of a row are turned, by f. -/
def turned (f : Nat → Value) (k : Nat) (cs : List Value) : List Value := (List.range k).map f ++ cs.drop k
theorem turned_zero (f : Nat → Value) (cs : List Value) : turned f 0 cs = cs := by simp [turned]
theorem turned_all (f : Nat → Value) (cs : List Value) : turned f cs.length cs = (List.range cs.length).map f := by simp [turned]
theorem turned_step {f : Nat → Value} {k : Nat} {cs : List Value} (h : k < cs.length) : (turned f k cs).set k (f k) = turned f (k + 1) cs := by
  unfold turned
  rw [List.set_append_right _ _ (by simp), List.length_map, List.length_range, Nat.sub_self]
  rw [List.drop_eq_getElem_cons h, List.set_cons_zero]
  rw [List.range_succ, List.map_append, List.append_assoc]
  rfl
theorem turned_length {f : Nat → Value} {k : Nat} {cs : List Value} (h : k ≤ cs.length) : (turned f k cs).length = cs.length := by simp [turned]; omega

theorem ints_marks (m n : Nat) : ints (marks m n) = (List.range n).map fun i => .int .i64 ((m + i : Nat) : Int) := by simp [ints, marks]

end Go.Proofs.Ytnigbjjllolgdaa
