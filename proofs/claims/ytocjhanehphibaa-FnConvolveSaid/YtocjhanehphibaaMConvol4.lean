/-
  Several texts of this claim, one behind the other; each says what it holds.
-/
import Derived.Test.YtocjhanehphibaaMConvol3
import Derived.Test.YtocjhanehphibaaRows
import Derived.Lib.Hide
import Derived.BigRegion
import Derived.Deep.RegionWith
import Derived.Deep.RegionLaw
/-
  Contracts of the program's functions on complex numbers: same, equal, finite, narrow, wide.
-/
set_option linter.unusedVariables false
set_option linter.unusedSimpArgs false
namespace Go.Proofs.Ytocjhanehphibaa
open Go.RowKit Flt

/-- Two reals are the same. -/
def sameB (a b : Nat) : Bool := decide (cn .f64 a = cn .f64 b)
/-- A real is finite. -/
def finO (o : Option Nat) : Bool := match o with | some x => decide (x % 9223372036854775808 < 9218868437227405312) | none => false

theorem sameB_nan {a b : Nat} (ha : nan FloatKind.f64.format a = true) (hb : nan FloatKind.f64.format b = true) : sameB a b = true := by
  unfold sameB; rw [cn_none ha, cn_none hb]; rfl
theorem sameB_l {a b : Nat} (ha : nan FloatKind.f64.format a = true) (hb : nan FloatKind.f64.format b = false) : sameB a b = false := by
  unfold sameB; rw [cn_none ha, cn_some hb]; rfl
theorem sameB_r {a b : Nat} (ha : nan FloatKind.f64.format a = false) (hb : nan FloatKind.f64.format b = true) : sameB a b = false := by
  unfold sameB; rw [cn_some ha, cn_none hb]; rfl
theorem sameB_num {a b : Nat} (ha : nan FloatKind.f64.format a = false) (hb : nan FloatKind.f64.format b = false) : sameB a b = decide (a = b) := by
  unfold sameB; rw [cn_some ha, cn_some hb]; simp

/-- Below, told once more: what a callee leaves. -/
theorem below_step {B : Nat} {w w1 w2 : World} (h : Below B w w1) (k : Below w1.heap.size w1 w2) (hB : B ≤ w1.heap.size) : Below B w w2 := h.trans (k.mono hB)

/-- Equal by Go's own ==. -/
def eqC (k : FloatKind) (a b c d : Nat) : Bool := (k.format.order a c == some .eq) && (k.format.order b d == some .eq)

theorem finO_nan {a : Nat} (ha : nan FloatKind.f64.format a = true) : finO (cn .f64 a) = false := by rw [cn_none ha]; rfl
theorem finO_num {a : Nat} (ha : nan FloatKind.f64.format a = false) : finO (cn .f64 a) = decide (a % 9223372036854775808 < 9218868437227405312) := by rw [cn_some ha]; rfl

theorem andNot_mod {a : Nat} (la : a < 18446744073709551616) : bits .andNot .u64 (a : Int) 9223372036854775808 = ((a % 9223372036854775808 : Nat) : Int) := by
  have := u64_andNot_nat a 9223372036854775808 la (by omega)
  rw [show ((9223372036854775808 : Nat) : Int) = 9223372036854775808 from rfl] at this
  rw [this, show (18446744073709551615 - 9223372036854775808 : Nat) = 2 ^ 63 - 1 by omega, Nat.and_two_pow_sub_one_eq_mod]

/-- A narrow complex number, of these parts. -/
def RetsN (p q : Nat → Prop) (w : World) (e : Ending) (w' : World) : Prop := ∃ u v, p u ∧ q v ∧ e = .returned (.complex .f32 u v) ∧ Below w.heap.size w w'
/-- A wide complex number, of these parts. -/
def RetsW (p q : Nat → Prop) (w : World) (e : Ending) (w' : World) : Prop := ∃ u v, p u ∧ q v ∧ e = .returned (.complex .f64 u v) ∧ Below w.heap.size w w'

theorem numberOf32_any (a b : Nat) (w : World) :
    Calls Try.prog 101 #[.complex .f32 a b] w (Rets (.agg #[.complex .f32 a b]) w) := by
  go_enter Try.func101, Try.ntmps101
  go_wp2
  exact bodyPost_ret (v := .agg #[.complex .f32 a b]) (by simp [results, Try.results101, go_sem]) rfl ⟨rfl, by repeat (first | exact Below.refl _ _ | refine Below.alloc ?_ (by simp; try omega) _)⟩

/-- A real is one that a narrow one is widened to. -/
def Wide (u r : Nat) : Prop := cn .f64 r = floatToFloatBits .f32 u .f64 ∧ r < 18446744073709551616

theorem wide_any (a b : Nat) (w : World) :
    Calls Try.prog 115 #[.agg #[.complex .f32 a b]] w (RetsW (Wide a) (Wide b) w) := by
  go_enter Try.func115, Try.ntmps115
  go_wp2_with (first
    | (refine wpList_widenC _ rfl 36 30 _ rfl a b rfl (by kernel_rfl) Try.underlying30 ?_; intro r s n hr hs lr ls; have HR := Lib.hid hr; have HS := Lib.hid hs; have LR := Lib.hid lr; have LS := Lib.hid ls; clear hr hs lr ls)
    | go_in)
  go_ret
  exact ⟨_, _, ⟨HR.out, LR.out⟩, ⟨HS.out, LS.out⟩, rfl, by repeat (first | exact Below.refl _ _ | refine below_draws ?_ _ | refine Below.alloc ?_ (by simp; try omega) _)⟩

/-- Two parts, widened. -/
def RetsP (p q : Nat → Prop) (w : World) (e : Ending) (w' : World) : Prop := ∃ u v, p u ∧ q v ∧ e = .returned (.tuple #[.float .f64 u, .float .f64 v]) ∧ Below w.heap.size w w'

theorem parts32_any (a b : Nat) (w : World) :
    Calls Try.prog 111 #[.agg #[.complex .f32 a b]] w (RetsP (Wide a) (Wide b) w) := by
  go_enter Try.func111, Try.ntmps111
  go_wp2_with fail
  refine (wide_any a b _).mono ?_
  rintro e w2 ⟨r, s, hr, hs, rfl, h2⟩
  have HR := Lib.hid hr
  have HS := Lib.hid hs
  have h : Below w.heap.size w w2 := ((Below.refl _ _).alloc (Nat.le_refl _) _).trans (h2.mono (by simp))
  clear hr hs h2
  go_wp2
  go_ret2
  exact ⟨_, _, HR.out, HS.out, rfl, h⟩

/-- Two narrow reals are the same: their wide ones are. -/
def sameN (u v : Nat) : Bool := decide (floatToFloatBits .f32 u .f64 = floatToFloatBits .f32 v .f64)
theorem sameB_wide {u v r s : Nat} (h : Wide u r) (k : Wide v s) : sameB r s = sameN u v := by unfold sameB sameN; rw [h.1, k.1]

/-- A narrow real is finite: its wide one is. -/
def finN (u : Nat) : Bool := finO (floatToFloatBits .f32 u .f64)

end Go.Proofs.Ytocjhanehphibaa
/-
  What an operation on floats gives in a world, as an equation (a NaN's bits are the tape's): for regions that draw their order. No program is named here.
-/
set_option linter.unusedVariables false
set_option linter.unusedSimpArgs false
namespace Go.Proofs.Ytocjhanehphibaa.Flt
open Go

/-- The bits of a result in the world w. -/
def fres (op : BinOp) (k : FloatKind) (x y : Nat) (w : World) : Nat := match floatBits op k x y with
  | some r => r
  | none => Question.cut (.nanBits k x y) (w.tape w.drawn (.nanBits k x y))
/-- How often it draws. -/
def fcnt (op : BinOp) (k : FloatKind) (x y : Nat) : Nat := match floatBits op k x y with
  | some _ => 0
  | none => 1

theorem cn_fres (op : BinOp) (k : FloatKind) (x y : Nat) (w : World) : cn k (fres op k x y w) = floatBits op k x y := by
  unfold fres
  split
  · rename_i r h; rw [h]; exact cn_some (floatBits_num h)
  · rename_i h; rw [h]; exact cn_none (cut_nan k x y _).1
theorem fres_lt64 (op : BinOp) (x y : Nat) (w : World) : fres op .f64 x y w < 18446744073709551616 := by
  unfold fres
  split
  · rename_i r h; have := floatBits_wf h; simpa [Lit.wf] using this
  · exact (cut_nan .f64 x y _).2

theorem isF_fres {op : BinOp} {x y : Nat} {a b : Option Nat} (hx : IsF x a) (hy : IsF y b) (w : World) : IsF (fres op .f64 x y w) (fop op .f64 a b) :=
  ⟨cn_op (cn_fres op .f64 x y w) hx.cn hy.cn, fres_lt64 op x y w⟩

section
variable {P : Program} (w : World)

theorem run_fres (op : BinOp) (hop : op = .add ∨ op = .sub ∨ op = .mul ∨ op = .quo) (k : FloatKind) (x y : Nat) :
    (Op.floatArith op k x y).run P w = .ok (.float k (fres op k x y w)) (w.drewN (fcnt op k x y)) := by
  cases h : floatBits op k x y with
  | some r =>
    have e1 : fres op k x y w = r := by unfold fres; rw [h]
    have e2 : fcnt op k x y = 0 := by unfold fcnt; rw [h]
    rw [e1, e2]
    exact run_floatArith w h
  | none =>
    have e1 : fres op k x y w = Question.cut (.nanBits k x y) (w.tape w.drawn (.nanBits k x y)) := by unfold fres; rw [h]
    have e2 : fcnt op k x y = 1 := by unfold fcnt; rw [h]
    rw [e1, e2]
    rcases hop with rfl | rfl | rfl | rfl <;> simp only [floatBits] at h <;> simp [Op.floatArith, h, Question.forced] <;> rfl

theorem run_fadd (t : TypeId) (k : FloatKind) (x y : Nat) : (binOp .add t (.float k x) (.float k y)).run P w = .ok (.float k (fres .add k x y w)) (w.drewN (fcnt .add k x y)) := by
  simpa [binOp] using run_fres (P := P) w .add (by simp) k x y
theorem run_fsub (t : TypeId) (k : FloatKind) (x y : Nat) : (binOp .sub t (.float k x) (.float k y)).run P w = .ok (.float k (fres .sub k x y w)) (w.drewN (fcnt .sub k x y)) := by
  simpa [binOp] using run_fres (P := P) w .sub (by simp) k x y
theorem run_fmul (t : TypeId) (k : FloatKind) (x y : Nat) : (binOp .mul t (.float k x) (.float k y)).run P w = .ok (.float k (fres .mul k x y w)) (w.drewN (fcnt .mul k x y)) := by
  simpa [binOp] using run_fres (P := P) w .mul (by simp) k x y
theorem run_fquo (t : TypeId) (k : FloatKind) (x y : Nat) : (binOp .quo t (.float k x) (.float k y)).run P w = .ok (.float k (fres .quo k x y w)) (w.drewN (fcnt .quo k x y)) := by
  simpa [binOp] using run_fres (P := P) w .quo (by simp) k x y
theorem run_cadd (t : TypeId) (k : FloatKind) (x y u v : Nat) : (binOp .add t (.complex k x y) (.complex k u v)).run P w =
    .ok (.complex k (fres .add k x u w) (fres .add k y v (w.drewN (fcnt .add k x u)))) (w.drewN (fcnt .add k x u + fcnt .add k y v)) := by
  simp [binOp, Op.complexOp, Op.Complex.arith, run_fres, World.drewN_drewN]
theorem run_csub (t : TypeId) (k : FloatKind) (x y u v : Nat) : (binOp .sub t (.complex k x y) (.complex k u v)).run P w =
    .ok (.complex k (fres .sub k x u w) (fres .sub k y v (w.drewN (fcnt .sub k x u)))) (w.drewN (fcnt .sub k x u + fcnt .sub k y v)) := by
  simp [binOp, Op.complexOp, Op.Complex.arith, run_fres, World.drewN_drewN]
end

end Go.Proofs.Ytocjhanehphibaa.Flt
/-
  Products, squares and kin of complex numbers, of the program and of the model.
-/
set_option linter.unusedVariables false
set_option linter.unusedSimpArgs false
namespace Go.Proofs.Ytocjhanehphibaa
open Go.RowKit Flt Fast
attribute [local go_sem] run_fadd run_fsub run_fmul run_fquo run_cadd run_csub

/-- A complex number is returned, up to the choice of NaNs; what was there has not turned. -/
def RetsC (z : Z) (w : World) (e : Ending) (w' : World) : Prop := ∃ a b, e = .returned (.complex .f64 a b) ∧ IsC (a, b) z ∧ Below w.heap.size w w'
/-- A float is returned, up to the choice of NaNs; what was there has not turned. -/
def RetsR (z : Option Nat) (w : World) (e : Ending) (w' : World) : Prop := ∃ a, e = .returned (.float .f64 a) ∧ IsF a z ∧ Below w.heap.size w w'

set_option maxRecDepth 100000 in
set_option maxHeartbeats 4000000 in
theorem mul_spec (a b c d : Nat) (x y : Z) (h1 : IsC (a, b) x) (h2 : IsC (c, d) y) (w : World) :
    Calls Try.prog 71 #[.complex .f64 a b, .complex .f64 c d] w (RetC (mulZ x y) w) := by
  have H1 := Lib.hid h1
  have H2 := Lib.hid h2
  clear h1 h2
  go_enter Try.func71, Try.ntmps71
  go_wp2
  go_ret
  exact ⟨_, _, rfl, isF_fres (isF_fres H1.out.re H2.out.re _) (isF_fres H1.out.im H2.out.im _) _, isF_fres (isF_fres H1.out.re H2.out.im _) (isF_fres H1.out.im H2.out.re _) _, _, rfl⟩

set_option maxRecDepth 100000 in
set_option maxHeartbeats 4000000 in
theorem times_any (a b c d : Nat) (x y : Z) (h1 : IsC (a, b) x) (h2 : IsC (c, d) y) (w : World) :
    Calls Try.prog 89 #[.agg #[.complex .f64 a b], .agg #[.complex .f64 c d]] w (RetsC (mulZ x y) w) := by
  have H1 := Lib.hid h1
  have H2 := Lib.hid h2
  clear h1 h2
  go_enter Try.func89, Try.ntmps89
  go_wp2_with fail
  refine (parts_any a b _).mono ?_
  rintro e w1 ⟨rfl, hb1⟩
  have hy : w.heap.size + 1 < w1.heap.size := by have := hb1.size; simp at this; omega
  have c3 : w1.cell? ⟨w.heap.size + 1, 0, none⟩ = some (.complex .f64 c d) := by
    rw [hb1.cell (by simp)]; simp
  have HB1 : Hid (Below w.heap.size w w1) := (((Below.refl _ _).alloc (Nat.le_refl _) _).alloc (by simp) _).trans (hb1.mono (by simp; omega))
  clear hb1
  go_wp2_with fail
  refine (parts_any c d _).mono ?_
  rintro e w2 ⟨rfl, hb2⟩
  have HB2 : Hid (Below w.heap.size w w2) := HB1.out.trans (hb2.mono HB1.out.size)
  clear hb2 HB1 c3 hy
  go_wp2
  go_ret
  exact ⟨_, _, rfl, ⟨isF_fres (isF_fres H1.out.re H2.out.re _) (isF_fres H1.out.im H2.out.im _) _, isF_fres (isF_fres H1.out.re H2.out.im _) (isF_fres H1.out.im H2.out.re _) _⟩, below_draws HB2.out _⟩

/-- The square of a size. -/
def sqZ (x : Z) : Option Nat := fop .add .f64 (fop .mul .f64 x.1 x.1) (fop .mul .f64 x.2 x.2)

end Go.Proofs.Ytocjhanehphibaa
/-
  mapSignal, whatever function is taken (written by genmap.py).
-/
set_option linter.unusedVariables false
set_option linter.unusedSimpArgs false
namespace Go.Proofs.Ytocjhanehphibaa
open Go.RowKit Flt Fast

/-- Narrow complex numbers as values. -/
def nval (p : C) : Value := .complex .f32 p.1 p.2
def nvals (xs : List C) : List Value := xs.map nval
theorem nvals_length (xs : List C) : (nvals xs).length = xs.length := by simp [nvals]
theorem nvals_getD {xs : List C} {j : Nat} (h : j < xs.length) : (nvals xs).getD j undef = .complex .f32 (xs.getD j (0, 0)).1 (xs.getD j (0, 0)).2 := getD_map _ xs (0, 0) h
def fval (x : Nat) : Value := .float .f64 x
def fvals (xs : List Nat) : List Value := xs.map fval
theorem fvals_length (xs : List Nat) : (fvals xs).length = xs.length := by simp [fvals]
theorem fvals_getD {xs : List Nat} {j : Nat} (h : j < xs.length) : (fvals xs).getD j undef = .float .f64 (xs.getD j 0) := getD_map _ xs 0 h
theorem info_c64 : (Try.prog.info? 36).map (fun i => (i.zero, i.size, i.bytes)) = some (some (.complex .f32 0 0), 1, 8) := by kernel_rfl
theorem info_f64' : (Try.prog.info? 55).map (fun i => (i.zero, i.size, i.bytes)) = some (some (.float .f64 0), 1, 8) := by kernel_rfl

/-- The next place of a row that is being filled. -/
theorem fillV {vs : List Value} {n k : Nat} (hk : k < n) (hx : vs.length = k) (z u : Value) :
    (vs ++ List.replicate (n - k) z).set k u = (vs ++ [u]) ++ List.replicate (n - (k + 1)) z := by
  rw [List.set_append_right _ _ (by omega), hx, Nat.sub_self]
  obtain ⟨m, hm⟩ : ∃ m, n - k = m + 1 := ⟨n - k - 1, by omega⟩
  rw [hm, List.replicate_succ, List.set_cons_zero, show n - (k + 1) = m by omega, List.append_assoc]
  rfl

theorem snocGood {α : Type} {d : α} {xs : List α} {p : α} {k : Nat} {G : Nat → α → Prop} (hx : xs.length = k) (hg : ∀ i, i < k → G i (xs.getD i d)) (hp : G k p) :
    (xs ++ [p]).length = k + 1 ∧ ∀ i, i < k + 1 → G i ((xs ++ [p]).getD i d) := by
  refine ⟨by simp [hx], fun i hi => ?_⟩
  rcases Nat.lt_or_eq_of_le (Nat.le_of_lt_succ hi) with h | h
  · rw [show (xs ++ [p]).getD i d = xs.getD i d by simp [List.getD, List.getElem?_append_left, hx, h]]
    exact hg i h
  · subst h
    rw [show (xs ++ [p]).getD i d = p by simp [List.getD, ← hx]]
    exact hp

/-- What lies in a row stays behind whatever leaves the blocks that are there. -/
theorem Reads.below {w w' : World} {v : Value} {cs : List Value} (h : Reads w v cs) (hb : Below w.heap.size w w') : Reads w' v cs := by
  cases h with
  | none a cap => exact .none a cap
  | row g cap L cs hL h0 hc hm hh => exact .row g cap L cs hL h0 hc hm fun j hj => by rw [hb.cell (World.block_lt_of_cell? _ _ (hh j hj)), hh j hj]

/-- What mapSignal returns. -/
def MapsTo {α : Type} (e : TypeId) (val : List α → List Value) (d : α) (n : Nat) (G : Nat → α → Prop) (w : World) (en : Ending) (w' : World) : Prop :=
  ∃ v qs, en = .returned (.tuple #[v, .int .i64 0]) ∧ Row w' w.heap.size e v (val qs) ∧ qs.length = n ∧ (∀ i, i < n → G i (qs.getD i d)) ∧ Below w.heap.size w w'

end Go.Proofs.Ytocjhanehphibaa
/-
  sumOfTerms over floats and over wide complex numbers.
-/
set_option linter.unusedVariables false
set_option linter.unusedSimpArgs false
namespace Go.Proofs.Ytocjhanehphibaa
open Go.RowKit Flt Fast
attribute [local go_sem] run_fadd run_fsub run_fmul run_fquo run_cadd run_csub

/-- The sum of the first n terms, from left to right. -/
def sumO (z : Nat → Option Nat) : Nat → Option Nat
  | 0 => some 0
  | n + 1 => if n = 0 then z 0 else fop .add .f64 (sumO z n) (z n)
def sumC (z : Nat → Z) : Nat → Z
  | 0 => z0
  | n + 1 => if n = 0 then z 0 else addZ (sumC z n) (z n)
theorem sumO_one (z : Nat → Option Nat) : sumO z 1 = z 0 := rfl
theorem sumO_succ (z : Nat → Option Nat) {n : Nat} (h : n ≠ 0) : sumO z (n + 1) = fop .add .f64 (sumO z n) (z n) := by rw [sumO, if_neg h]
theorem sumC_one (z : Nat → Z) : sumC z 1 = z 0 := rfl
theorem sumC_succ (z : Nat → Z) {n : Nat} (h : n ≠ 0) : sumC z (n + 1) = addZ (sumC z n) (z n) := by rw [sumC, if_neg h]

end Go.Proofs.Ytocjhanehphibaa
/-
  Floats that have a rational value; exact sums of numbers with few digits; sums that are near. No program.
-/
set_option linter.unusedVariables false
set_option linter.unusedSimpArgs false
namespace Go.Proofs.Ytocjhanehphibaa
open Go Flt
namespace Flt
open Ieee (double Format Datum signed)

theorem one_div_two_le {a b : Nat} (h : a ≤ b) : 1 / two b ≤ 1 / two a := by
  have h1 := two_le h
  have ha := two_pos a
  have hb := two_pos b
  have i1 := Rat.inv_pos.2 ha
  have i2 := Rat.inv_pos.2 hb
  have c1 := Rat.mul_inv_cancel _ (Rat.ne_of_gt ha)
  have c2 := Rat.mul_inv_cancel _ (Rat.ne_of_gt hb)
  have h2 := Rat.mul_le_mul_of_nonneg_right h1 (Rat.le_of_lt (Rat.mul_pos i1 i2))
  have e1 : two a * ((two a)⁻¹ * (two b)⁻¹) = (two b)⁻¹ := by rw [← Rat.mul_assoc, c1, Rat.one_mul]
  have e2 : two b * ((two a)⁻¹ * (two b)⁻¹) = (two a)⁻¹ := by rw [Rat.mul_comm (two a)⁻¹, ← Rat.mul_assoc, c2, Rat.one_mul]
  rw [e1, e2] at h2
  rw [Rat.div_def, Rat.div_def, Rat.one_mul, Rat.one_mul]
  exact h2
theorem tiny_le : tiny ≤ 1 / 1267650600228229401496703205376 := by
  have : (1267650600228229401496703205376 : Rat) = two 100 := rfl
  rw [this]
  exact one_div_two_le (by unfold lpn; omega)

/-- A rung that is greater than all that is met. -/
def bigR : Nat := 9110782046170513408
theorem bigR_lt : bigR < double.infRung := by rw [ir64]; decide
theorem bigR_q : rq bigR = two 1000 := by
  have h := rung_of (f := double) (k := 1) (q := lpn + 1000) (by decide) (by decide) (by
    have : double.fractionBits = 52 := by decide
    rw [this]; unfold lpn; omega)
  have e1 : (1 : Nat).log2 = 0 := by decide
  have e2 : double.fractionBits = 52 := by decide
  have e3 : double.binade = 4503599627370496 := by decide
  rw [e1, e2, e3] at h
  have e4 : (lpn + 1000 + 0 - 52) * 4503599627370496 + 1 * 2 ^ (52 - 0) = bigR := by unfold lpn bigR; decide
  rw [e4] at h
  unfold rq
  rw [h, Nat.one_mul, ← two_nat, Nat.add_comm, two_add]
  rw [Rat.div_def, Rat.mul_assoc, Rat.mul_inv_cancel _ (Rat.ne_of_gt (two_pos lpn)), Rat.mul_one]

/-- A float with the value q. -/
def Fv (z : Option Nat) (q : Rat) : Prop := ∃ x, z = some x ∧ Fin x ∧ fq x = q

theorem Fv.rep {z : Option Nat} {q : Rat} (h : Fv z q) : Rep q := by
  obtain ⟨x, -, h1, h2⟩ := h
  exact ⟨x, h1, h2⟩
theorem Fv.of_isF {u : Nat} {z : Option Nat} {q : Rat} (h : IsF u z) (hz : Fv z q) : Fin u ∧ fq u = q := by
  obtain ⟨x, rfl, h1, h2⟩ := hz
  have h3 := h.cn
  unfold Flt.cn at h3
  split at h3
  · cases h3
  · cases h3
    exact ⟨h1, h2⟩
theorem Fv.mk {u : Nat} (h : Fin u) : Fv (some u) (fq u) := ⟨u, rfl, h, rfl⟩

def Moderate (t : Rat) : Prop := Size t (two 1000)
theorem Moderate.big {t : Rat} (h : Moderate t) : Size t (rq bigR) := by rw [bigR_q]; exact h

section
variable {a b : Option Nat} {p q : Rat}
theorem fv_add (ha : Fv a p) (hb : Fv b q) (hB : Moderate (p + q)) : ∃ r, Fv (fop .add .f64 a b) r ∧ Rnd (p + q) r := by
  obtain ⟨x, rfl, h1, rfl⟩ := ha
  obtain ⟨y, rfl, h2, rfl⟩ := hb
  obtain ⟨r, e, h3, h4⟩ := add_rnd h1 h2 bigR_lt hB.big
  exact ⟨fq r, ⟨r, e, h3, rfl⟩, h4⟩
theorem fv_sub (ha : Fv a p) (hb : Fv b q) (hB : Moderate (p - q)) : ∃ r, Fv (fop .sub .f64 a b) r ∧ Rnd (p - q) r := by
  obtain ⟨x, rfl, h1, rfl⟩ := ha
  obtain ⟨y, rfl, h2, rfl⟩ := hb
  obtain ⟨r, e, h3, h4⟩ := sub_rnd h1 h2 bigR_lt hB.big
  exact ⟨fq r, ⟨r, e, h3, rfl⟩, h4⟩
theorem fv_mul (ha : Fv a p) (hb : Fv b q) (hB : Moderate (p * q)) : ∃ r, Fv (fop .mul .f64 a b) r ∧ Rnd (p * q) r := by
  obtain ⟨x, rfl, h1, rfl⟩ := ha
  obtain ⟨y, rfl, h2, rfl⟩ := hb
  obtain ⟨r, e, h3, h4⟩ := mul_rnd h1 h2 bigR_lt hB.big
  exact ⟨fq r, ⟨r, e, h3, rfl⟩, h4⟩
theorem fv_div (ha : Fv a p) (hb : Fv b q) (hq : q ≠ 0) (hB : Moderate (p / q)) : ∃ r, Fv (fop .quo .f64 a b) r ∧ Rnd (p / q) r := by
  obtain ⟨x, rfl, h1, rfl⟩ := ha
  obtain ⟨y, rfl, h2, rfl⟩ := hb
  obtain ⟨r, e, h3, h4⟩ := div_rnd h1 h2 hq bigR_lt hB.big
  exact ⟨fq r, ⟨r, e, h3, rfl⟩, h4⟩
theorem fv_int {n : Int} (hB : Moderate (n : Rat)) : ∃ r, Fv (some (floatOfInt .f64 n)) r ∧ Rnd (n : Rat) r := by
  obtain ⟨h1, h2⟩ := int_rnd bigR_lt hB.big
  exact ⟨_, Fv.mk h1, h2⟩
end

/-- A number with few digits: k / 2^e, k no greater than K. -/
def Dy (e K : Nat) (q : Rat) : Prop := ∃ k : Int, k.natAbs ≤ K ∧ q * two e = (k : Rat)

theorem Dy.mono {e K L : Nat} {q : Rat} (h : Dy e K q) (hl : K ≤ L) : Dy e L q := by
  obtain ⟨k, h1, h2⟩ := h
  exact ⟨k, by omega, h2⟩
theorem Dy.zero (e K : Nat) : Dy e K 0 := ⟨0, by simp, by rw [Rat.zero_mul]; rfl⟩
theorem Dy.add {e K L : Nat} {p q : Rat} (h : Dy e K p) (h' : Dy e L q) : Dy e (K + L) (p + q) := by
  obtain ⟨k, h1, h2⟩ := h
  obtain ⟨l, h3, h4⟩ := h'
  refine ⟨k + l, by omega, ?_⟩
  rw [Rat.intCast_add, ← h2, ← h4]; grind
theorem Dy.neg {e K : Nat} {p : Rat} (h : Dy e K p) : Dy e K (-p) := by
  obtain ⟨k, h1, h2⟩ := h
  refine ⟨-k, by omega, ?_⟩
  rw [Rat.intCast_neg, ← h2]; grind
theorem Dy.sub {e K L : Nat} {p q : Rat} (h : Dy e K p) (h' : Dy e L q) : Dy e (K + L) (p - q) := by
  rw [Rat.sub_eq_add_neg]; exact h.add h'.neg
theorem Dy.mul {e f K L : Nat} {p q : Rat} (h : Dy e K p) (h' : Dy f L q) : Dy (e + f) (K * L) (p * q) := by
  obtain ⟨k, h1, h2⟩ := h
  obtain ⟨l, h3, h4⟩ := h'
  refine ⟨k * l, by rw [Int.natAbs_mul]; exact Nat.mul_le_mul h1 h3, ?_⟩
  rw [Rat.intCast_mul, ← h2, ← h4, two_add]; grind
theorem Dy.of_int {n : Int} {K : Nat} (h : n.natAbs ≤ K) : Dy 0 K (n : Rat) := ⟨n, h, by rw [two_zero, Rat.mul_one]⟩
theorem Dy.size {e K : Nat} {q : Rat} (h : Dy e K q) : Size q (K : Rat) := by
  obtain ⟨k, h1, h2⟩ := h
  have h3 : (1 : Rat) ≤ two e := by rw [← two_zero]; exact two_le (Nat.zero_le _)
  have h4 : (k : Rat) ≤ (K : Rat) := by rw [← Rat.intCast_natCast]; exact Rat.intCast_le_intCast.2 (by omega)
  have h5 : -(k : Rat) ≤ (K : Rat) := by rw [← Rat.intCast_natCast, ← Rat.intCast_neg]; exact Rat.intCast_le_intCast.2 (by omega)
  have h6 : (0 : Rat) ≤ (K : Rat) := Rat.natCast_nonneg
  constructor
  · refine Rat.not_lt.1 fun h => ?_
    have := Rat.mul_le_mul_of_nonneg_left h3 (Rat.le_trans h6 (Rat.le_of_lt h))
    grind
  · refine Rat.not_lt.1 fun h => ?_
    have := Rat.mul_le_mul_of_nonneg_left h3 (Rat.le_trans h6 (Rat.le_of_lt h))
    grind
theorem cast_le_two {K n : Nat} (h : K ≤ 2 ^ n) : (K : Rat) ≤ two n := Rat.natCast_le_natCast.2 h
theorem Dy.moderate {e K : Nat} {q : Rat} (h : Dy e K q) (hK : K ≤ 2 ^ 53) : Moderate q := by
  have h1 := h.size
  have h2 : (K : Rat) ≤ two 1000 := Rat.le_trans (cast_le_two hK) (two_le (by omega))
  exact ⟨Rat.le_trans h1.1 h2, Rat.le_trans h1.2 h2⟩

theorem rep_nat {k e : Nat} (hk : k < 2 ^ 53) (he : e ≤ 1000) {q : Rat} (h : q * two e = (k : Rat)) : Rep q := by
  have hl : e ≤ lpn := by unfold lpn; omega
  by_cases h0 : k = 0
  · have : q = 0 := by
      have h1 : q * two e = 0 := by rw [h, h0]; rfl
      rcases Rat.mul_eq_zero.1 h1 with h | h
      · exact h
      · exact absurd h (Rat.ne_of_gt (two_pos e))
    rw [this]; exact rep_zero
  · have e2 : double.fractionBits = 52 := by decide
    have e3 : double.binade = 4503599627370496 := by decide
    have hl53 : k.log2 < 53 := (Nat.log2_lt h0).2 hk
    have hv := rung_of (f := double) (k := k) (q := lpn - e) h0 (by rw [e3]; omega) (by rw [e2]; unfold lpn; omega)
    rw [e2, e3] at hv
    have hhi := Nat.lt_log2_self (n := k)
    have h53 : k * 2 ^ (52 - k.log2) ≤ 2 ^ (k.log2 + 1) * 2 ^ (52 - k.log2) := Nat.mul_le_mul_right _ (Nat.le_of_lt hhi)
    rw [← Nat.pow_add, show k.log2 + 1 + (52 - k.log2) = 53 by omega] at h53
    have hlt : (lpn - e + k.log2 - 52) * 4503599627370496 + k * 2 ^ (52 - k.log2) < double.infRung := by
      rw [ir64]
      have : lpn - e + k.log2 - 52 ≤ 1100 := by unfold lpn; omega
      omega
    have hr := rep_rq hlt
    have : rq ((lpn - e + k.log2 - 52) * 4503599627370496 + k * 2 ^ (52 - k.log2)) = q := by
      have hs : two lpn = two e * two (lpn - e) := by rw [← two_add, Nat.add_sub_cancel' hl]
      unfold rq
      rw [hv, Rat.natCast_mul, ← h, hs]
      show q * two e * two (lpn - e) / (two e * two (lpn - e)) = q
      have h1 := Rat.mul_inv_cancel _ (Rat.ne_of_gt (two_pos e))
      have h2 := Rat.mul_inv_cancel _ (Rat.ne_of_gt (two_pos (lpn - e)))
      rw [Rat.div_def, Rat.inv_mul_rev]; grind
    rw [this] at hr
    exact hr
theorem Dy.rep {e K : Nat} {q : Rat} (h : Dy e K q) (hK : K < 2 ^ 53) (he : e ≤ 1000) : Rep q := by
  obtain ⟨k, h1, h2⟩ := h
  by_cases hk : 0 ≤ k
  · obtain ⟨n, rfl⟩ : ∃ n : Nat, k = (n : Int) := ⟨k.natAbs, by omega⟩
    exact rep_nat (k := n) (by omega) he (by rw [h2, Rat.intCast_natCast])
  · obtain ⟨n, rfl⟩ : ∃ n : Nat, k = -(n : Int) := ⟨k.natAbs, by omega⟩
    have := rep_neg (rep_nat (k := n) (q := -q) (by omega) he (by rw [Rat.intCast_neg, Rat.intCast_natCast] at h2; grind))
    rwa [Rat.neg_neg] at this

section
variable {a b : Option Nat} {p q : Rat} {e K : Nat}
theorem Dy.fv_add (h : Dy e K (p + q)) (hK : K < 2 ^ 53) (he : e ≤ 1000) (ha : Fv a p) (hb : Fv b q) : Fv (fop .add .f64 a b) (p + q) := by
  obtain ⟨r, h1, h2⟩ := Flt.fv_add ha hb (h.moderate (by omega))
  rw [h2.exact (h.rep hK he)] at h1; exact h1
theorem Dy.fv_sub (h : Dy e K (p - q)) (hK : K < 2 ^ 53) (he : e ≤ 1000) (ha : Fv a p) (hb : Fv b q) : Fv (fop .sub .f64 a b) (p - q) := by
  obtain ⟨r, h1, h2⟩ := Flt.fv_sub ha hb (h.moderate (by omega))
  rw [h2.exact (h.rep hK he)] at h1; exact h1
theorem Dy.fv_mul (h : Dy e K (p * q)) (hK : K < 2 ^ 53) (he : e ≤ 1000) (ha : Fv a p) (hb : Fv b q) : Fv (fop .mul .f64 a b) (p * q) := by
  obtain ⟨r, h1, h2⟩ := Flt.fv_mul ha hb (h.moderate (by omega))
  rw [h2.exact (h.rep hK he)] at h1; exact h1
theorem Dy.fv_div (h : Dy e K (p / q)) (hK : K < 2 ^ 53) (he : e ≤ 1000) (hq : q ≠ 0) (ha : Fv a p) (hb : Fv b q) : Fv (fop .quo .f64 a b) (p / q) := by
  obtain ⟨r, h1, h2⟩ := Flt.fv_div ha hb hq (h.moderate (by omega))
  rw [h2.exact (h.rep hK he)] at h1; exact h1
theorem fv_int_exact {n : Int} (h : n.natAbs < 2 ^ 53) : Fv (some (floatOfInt .f64 n)) (n : Rat) := by
  have hd := Dy.of_int (n := n) (Nat.le_refl _)
  obtain ⟨r, h1, h2⟩ := fv_int (hd.moderate (by omega))
  rw [h2.exact (hd.rep h (by omega))] at h1; exact h1
end

/-- A sum of rational numbers. -/
def psum (p : Nat → Rat) : Nat → Rat
  | 0 => 0
  | n + 1 => psum p n + p n
theorem psum_dy {p : Nat → Rat} {e K n : Nat} (h : ∀ i, i < n → Dy e K (p i)) : Dy e (n * K) (psum p n) := by
  induction n with
  | zero => exact Dy.zero _ _
  | succ n ih =>
    rw [Nat.add_mul, Nat.one_mul]
    exact (ih fun i hi => h i (by omega)).add (h n (by omega))

/-- Sums of numbers with few digits are exact. -/
theorem sumO_dy {z : Nat → Option Nat} {p : Nat → Rat} {e K n : Nat} (hz : ∀ i, i < n → Fv (z i) (p i)) (h : ∀ i, i < n → Dy e K (p i)) (hK : n * K < 2 ^ 53) (he : e ≤ 1000) (hn : 0 < n) : Fv (sumO z n) (psum p n) := by
  induction n with
  | zero => omega
  | succ n ih =>
    unfold sumO
    by_cases h0 : n = 0
    · subst h0
      rw [if_pos rfl]
      show Fv (z 0) (0 + p 0)
      rw [Rat.zero_add]
      exact hz 0 (by omega)
    · rw [if_neg h0]
      have hle : n * K ≤ (n + 1) * K := Nat.mul_le_mul_right _ (by omega)
      exact (psum_dy h).fv_add hK he (ih (fun i hi => hz i (by omega)) (fun i hi => h i (by omega)) (by omega) (by omega)) (hz n (by omega))

end Flt
end Go.Proofs.Ytocjhanehphibaa
/-
  Sums of rational numbers; sums of floats that are near. No program.
-/
set_option linter.unusedVariables false
set_option linter.unusedSimpArgs false
namespace Go.Proofs.Ytocjhanehphibaa
open Go Flt
namespace Flt

theorem psum_succ (p : Nat → Rat) (n : Nat) : psum p (n + 1) = psum p n + p n := rfl
theorem psum_congr {p q : Nat → Rat} {n : Nat} (h : ∀ i, i < n → p i = q i) : psum p n = psum q n := by
  induction n with
  | zero => rfl
  | succ n ih => rw [psum_succ, psum_succ, ih fun i hi => h i (by omega), h n (by omega)]
theorem psum_nonneg {p : Nat → Rat} {n : Nat} (h : ∀ i, i < n → 0 ≤ p i) : 0 ≤ psum p n := by
  induction n with
  | zero => exact Rat.le_refl
  | succ n ih => rw [psum_succ]; exact Rat.add_nonneg (ih fun i hi => h i (by omega)) (h n (by omega))
theorem psum_mono {p : Nat → Rat} {m n : Nat} (h : ∀ i, i < n → 0 ≤ p i) (hm : m ≤ n) : psum p m ≤ psum p n := by
  induction n with
  | zero => rw [show m = 0 by omega]; exact Rat.le_refl
  | succ n ih =>
    by_cases hmn : m = n + 1
    · rw [hmn]; exact Rat.le_refl
    · have h1 := ih (fun i hi => h i (by omega)) (by omega)
      have h2 := h n (by omega)
      rw [psum_succ]; grind
theorem psum_term {p : Nat → Rat} {n t : Nat} (h : ∀ i, i < n → 0 ≤ p i) (ht : t < n) : p t ≤ psum p n := by
  have h1 := psum_mono (m := t + 1) h (by omega)
  have h2 := psum_nonneg (p := p) (n := t) fun i hi => h i (by omega)
  rw [psum_succ] at h1; grind
theorem psum_mul (p : Nat → Rat) (c : Rat) (n : Nat) : psum (fun i => p i * c) n = psum p n * c := by
  induction n with
  | zero => exact (Rat.zero_mul _).symm
  | succ n ih => rw [psum_succ, psum_succ, ih]; grind

/-- Sums of numbers that are known nearly. -/
theorem sumO_near {z : Nat → Option Nat} {r p : Nat → Rat} {e B : Rat} {n : Nat} (hz : ∀ i, i < n → Fv (z i) (r i)) (hr : ∀ i, i < n → Near (r i) (p i) e)
    (he : 0 ≤ e) (hB : B ≤ two 1000) (hB0 : 0 ≤ B) (hs : ∀ k, k < n → Size (psum p (k + 1)) (B - ((k : Rat) + 1) * (e + (B / two 52 + tiny)))) (hn : 0 < n) :
    ∃ s, Fv (sumO z n) s ∧ Near s (psum p n) ((n : Rat) * (e + (B / two 52 + tiny))) := by
  have hd0 : 0 ≤ B / two 52 + tiny := by
    have h1 : 0 ≤ B / two 52 := by rw [Rat.div_def]; exact Rat.mul_nonneg hB0 (Rat.le_of_lt (Rat.inv_pos.2 (two_pos _)))
    exact Rat.add_nonneg h1 (Rat.le_of_lt tiny_pos)
  generalize hd : B / two 52 + tiny = d at *
  induction n with
  | zero => omega
  | succ n ih =>
    by_cases h0 : n = 0
    · subst h0
      refine ⟨r 0, hz 0 (by omega), ?_⟩
      have h1 := hr 0 (by omega)
      show Near (r 0) (0 + p 0) (((0 + 1 : Nat) : Rat) * (e + d))
      rw [Rat.zero_add, show ((0 + 1 : Nat) : Rat) = 1 from rfl, Rat.one_mul]
      unfold Near at *
      grind
    · obtain ⟨s, h1, h2⟩ := ih (fun i hi => hz i (by omega)) (fun i hi => hr i (by omega)) (by omega) (fun k hk => hs k (by omega))
      have h3 := hs n (by omega)
      have h4 := hr n (by omega)
      have ec : ((n + 1 : Nat) : Rat) = (n : Rat) + 1 := by rw [Rat.natCast_add]; rfl
      have hX : ((n : Rat) + 1) * (e + d) = (n : Rat) * (e + d) + (e + d) := by grind
      have hsz : Size (s + r n) B := by
        rw [psum_succ, hX] at h3
        obtain ⟨a1, a2⟩ := h2
        obtain ⟨b1, b2⟩ := h3
        obtain ⟨c1, c2⟩ := h4
        generalize (n : Rat) * (e + d) = X at *
        clear hs hr hz ih hd hX
        constructor <;> grind
      obtain ⟨t, h5, h6⟩ := fv_add h1 (hz n (by omega)) ⟨Rat.le_trans hsz.1 hB, Rat.le_trans hsz.2 hB⟩
      refine ⟨t, ?_, ?_⟩
      · unfold sumO; rw [if_neg h0]; exact h5
      · have h7 := h6.near hsz
        rw [hd] at h7
        rw [ec, psum_succ, hX]
        obtain ⟨a1, a2⟩ := h2
        obtain ⟨b1, b2⟩ := h7
        obtain ⟨c1, c2⟩ := h4
        generalize (n : Rat) * (e + d) = X at *
        clear hs hr hz ih hd hX h3 hsz h5 h6
        constructor <;> grind

end Flt
end Go.Proofs.Ytocjhanehphibaa
/-
  Words with a value, and the operations on them. No program.
-/
set_option linter.unusedVariables false
set_option linter.unusedSimpArgs false
namespace Go.Proofs.Ytocjhanehphibaa
open Go.RowKit Flt

/-- A word with a value. -/
def Has (u : Nat) (q : Rat) : Prop := Fin u ∧ fq u = q
theorem Has.lt {u : Nat} {q : Rat} (h : Has u q) : u < 18446744073709551616 := h.1.1
theorem Has.isF {u : Nat} {q : Rat} (h : Has u q) : IsF u (some u) := by
  refine IsF.lit ?_ h.1.1
  show nan Ieee.double u = false
  rw [nan64]
  have := h.1.2
  simp; omega
theorem Has.fv {u : Nat} {q : Rat} (h : Has u q) : Fv (some u) q := ⟨u, rfl, h.1, h.2⟩
theorem Has.of {u : Nat} {z : Option Nat} {q : Rat} (h : IsF u z) (hz : Fv z q) : Has u q := Fv.of_isF h hz
theorem has_int {u : Nat} {n : Int} (h : n.natAbs < 2 ^ 53) (e : floatOfInt .f64 n = u) : Has u (n : Rat) := by
  obtain ⟨x, e1, h1, h2⟩ := fv_int_exact h
  cases e1
  rw [e] at h1 h2
  exact ⟨h1, h2⟩
theorem has_one : Has 4607182418800017408 1 := has_int (n := 1) (by decide) (by decide)
theorem has_three : Has 4613937818241073152 3 := has_int (n := 3) (by decide) (by decide)
theorem has_eight : Has 4620693217682128896 8 := has_int (n := 8) (by decide) (by decide)
theorem has_zero : Has 0 0 := has_int (n := 0) (by decide) (by decide)

theorem has_neg {u : Nat} {q : Rat} (h : Has u q) : Has (Op.negFloat .f64 u) (-q) := by
  have e : Op.negFloat .f64 u = u ^^^ 2 ^ 63 := rfl
  obtain ⟨h1, rfl⟩ := h
  obtain ⟨neg, r, hr, rfl⟩ := fin_parts h1
  have hs : Ieee.double.signWeight = 9223372036854775808 := by decide
  have hr' := hr
  rw [ir64] at hr'
  have e2 : Op.negFloat .f64 (Ieee.double.word neg r) = Ieee.double.word (!neg) r := by
    show Ieee.double.word neg r ^^^ 2 ^ 63 = _
    unfold Ieee.Format.word
    rw [hs]
    cases neg
    · simp only [Bool.false_eq_true, if_false, Bool.not_false, if_true]
      rw [neg64_lo (x := r) (by omega)]; omega
    · simp only [Bool.not_true, Bool.false_eq_true, if_false, if_true]
      rw [neg64_hi (x := 9223372036854775808 + r) (by omega) (by omega)]; omega
  rw [e2]
  refine ⟨fin_word _ hr, ?_⟩
  rw [fq_word _ hr, fq_word _ hr]
  cases neg
  · rfl
  · simp only [Bool.not_true, Bool.false_eq_true, if_false, if_true]; rw [Rat.neg_neg]

theorem run_has {op : BinOp} (hop : op = .add ∨ op = .sub ∨ op = .mul ∨ op = .quo) {x y : Nat} {r : Rat} (hr : Fv (fop op .f64 (some x) (some y)) r) :
    ∃ d, Has d r ∧ ∀ (P : Program) (t : TypeId) (w : World), (binOp op t (.float .f64 x) (.float .f64 y)).run P w = .ok (.float .f64 d) w := by
  obtain ⟨d, e, h1, h2⟩ := hr
  have e' : floatBits op .f64 x y = some d := e
  refine ⟨d, ⟨h1, h2⟩, fun P t w => ?_⟩
  have f1 : fres op .f64 x y w = d := by unfold fres; rw [e']
  have f2 : fcnt op .f64 x y = 0 := by unfold fcnt; rw [e']
  rcases hop with rfl | rfl | rfl | rfl
  · rw [run_fadd, f1, f2]; rfl
  · rw [run_fsub, f1, f2]; rfl
  · rw [run_fmul, f1, f2]; rfl
  · rw [run_fquo, f1, f2]; rfl

theorem eq_has {x y : Nat} {q : Rat} (hx : Has x q) (hy : Has y q) : (FloatKind.f64.format.order x y == some .eq) = true := by
  have := order_eq_q hx.1 hy.1 (by rw [hx.2, hy.2])
  show (Ieee.double.order x y == some .eq) = true
  rw [this]; rfl

end Go.Proofs.Ytocjhanehphibaa
/-
  Numbers that are added at places, block by block. No program is named here.
-/
set_option linter.unusedVariables false
set_option linter.unusedSimpArgs false
namespace Go.Proofs.Ytocjhanehphibaa

section
variable {Z : Type} (add : Z → Z → Z) (d : Z)
/-- A number is added at a place, or stands there as the first one. -/
def addAt (zs : List Z) (k : Nat) (p : Z) : List Z := if k < zs.length then zs.set k (add (zs.getD k d) p) else zs ++ [p]
def addBlk (zs : List Z) (f : Nat) (q : Nat → Z) : Nat → List Z
  | 0 => zs
  | m + 1 => addAt add d (addBlk zs f q m) (f + m) (q m)
def addAll (q : Nat → Nat → Z) (ln : Nat → Nat) (h : Nat) : Nat → List Z
  | 0 => []
  | b + 1 => addBlk add d (addAll q ln h b) (b * h) (q b) (ln b)

theorem addAt_lt {zs : List Z} {k : Nat} {p : Z} (h : k < zs.length) : addAt add d zs k p = zs.set k (add (zs.getD k d) p) := if_pos h
theorem addAt_ge {zs : List Z} {k : Nat} {p : Z} (h : ¬ k < zs.length) : addAt add d zs k p = zs ++ [p] := if_neg h
theorem addAt_len_le (zs : List Z) (k : Nat) (p : Z) : (addAt add d zs k p).length ≤ zs.length + 1 := by
  unfold addAt; split <;> simp
theorem addBlk_len_le (zs : List Z) (f : Nat) (q : Nat → Z) (m : Nat) : (addBlk add d zs f q m).length ≤ zs.length + m := by
  induction m with
  | zero => exact Nat.le_refl _
  | succ m ih => have := addAt_len_le add d (addBlk add d zs f q m) (f + m) (q m); rw [addBlk]; omega
theorem addAll_len_le (q : Nat → Nat → Z) (ln : Nat → Nat) (h N : Nat) (hl : ∀ b, ln b ≤ N) (b : Nat) : (addAll add d q ln h b).length ≤ b * N := by
  induction b with
  | zero => simp [addAll]
  | succ b ih => have := addBlk_len_le add d (addAll add d q ln h b) (b * h) (q b) (ln b); have := hl b; rw [addAll, Nat.add_mul]; omega
theorem addBlk_len {zs : List Z} {f : Nat} (q : Nat → Z) (hf : f ≤ zs.length) (m : Nat) : (addBlk add d zs f q m).length = max zs.length (f + m) := by
  induction m with
  | zero => simp [addBlk]; omega
  | succ m ih =>
    rw [addBlk]
    by_cases h : f + m < (addBlk add d zs f q m).length
    · rw [addAt_lt add d h, List.length_set, ih]; rw [ih] at h; omega
    · rw [addAt_ge add d h, List.length_append, ih]; rw [ih] at h; simp; omega
theorem addAll_le (q : Nat → Nat → Z) (n h : Nat) (hh : h ≤ n) (b : Nat) : b * h ≤ (addAll add d q (fun _ => n) h b).length := by
  induction b with
  | zero => simp
  | succ b ih => rw [addAll, addBlk_len add d _ ih, Nat.add_mul]; omega
theorem addAll_len (q : Nat → Nat → Z) (n h : Nat) (hh : h ≤ n) (b : Nat) : (addAll add d q (fun _ => n) h (b + 1)).length = b * h + n := by
  rw [addAll, addBlk_len add d _ (addAll_le add d q n h hh b)]
  cases b with
  | zero => simp [addAll]
  | succ b =>
    have : (addAll add d q (fun _ => n) h (b + 1)).length = b * h + n := addAll_len q n h hh b
    rw [this, Nat.add_mul]; omega
end

end Go.Proofs.Ytocjhanehphibaa
/-
  Sums at places over wide complex numbers: sumsAtPlaces of the program; blocks that are read wherever they lie.
-/
set_option linter.unusedVariables false
set_option linter.unusedSimpArgs false
namespace Go.Proofs.Ytocjhanehphibaa
open Go.RowKit Flt Fast
attribute [local go_sem] run_fadd run_fsub run_fmul run_fquo run_cadd run_csub

/-- A slice of complex numbers as the walk reads it, at whatever place of a block it begins. -/
def RdC (w : World) (v : Value) (xs : List C) : Prop :=
  ∃ a cap, v = .slice a xs.length cap ∧ xs.length ≤ cap ∧ cap ≤ maxLen ∧ ∀ j, j < xs.length → ∃ g o, a = some ⟨g, o, none⟩ ∧ g < w.heap.size ∧ w.cell? ⟨g, o + j, none⟩ = some (.complex .f64 (xs.getD j (0, 0)).1 (xs.getD j (0, 0)).2)

theorem RdC.below {w w' : World} {v : Value} {xs : List C} (h : RdC w v xs) (hb : Below w.heap.size w w') : RdC w' v xs := by
  obtain ⟨a, cap, rfl, h1, h2, h3⟩ := h
  refine ⟨a, cap, rfl, h1, h2, fun j hj => ?_⟩
  obtain ⟨g, o, rfl, hg, hc⟩ := h3 j hj
  exact ⟨g, o, rfl, Nat.lt_of_lt_of_le hg hb.size, by rw [hb.cell hg]; exact hc⟩
theorem RdC.draws {w : World} {v : Value} {xs : List C} (h : RdC w v xs) (n : Nat) : RdC (w.drewN n) v xs := h
theorem RdC.of_row {w : World} {B : Nat} {e : TypeId} {v : Value} {xs : List C} (h : Row w B e v (cvals xs)) : RdC w v xs := by
  have h' := h
  rcases h.shape with ⟨a, cap, rfl, h0⟩ | ⟨g, cap, rfl, h0, hB, hg, h1, h2⟩
  · have e0 : xs = [] := by
      have := congrArg List.length h0
      rw [cvals_length] at this
      exact List.eq_nil_of_length_eq_zero (by simpa using this)
    subst e0
    rcases h.2 with ⟨e1, -⟩ | ⟨g, cap', cur, e1, -, -, h3, h4, -⟩
    · simp only [Value.slice.injEq] at e1
      obtain ⟨rfl, -, rfl⟩ := e1
      exact ⟨none, 0, rfl, Nat.le_refl _, Nat.zero_le _, fun j hj => by simp at hj⟩
    · simp only [Value.slice.injEq] at e1
      obtain ⟨rfl, -, rfl⟩ := e1
      exact ⟨_, cap, rfl, Nat.zero_le _, h4, fun j hj => by simp at hj⟩
  · rw [cvals_length] at h0 h1 h' ⊢
    refine ⟨_, cap, rfl, h1, h2, fun j hj => ⟨g, 0, rfl, hg, ?_⟩⟩
    rw [Nat.zero_add, h'.cellAt hj, cvals_getD hj]

/-- Complex numbers that are these. -/
structure FitsC (fs : List C) (zs : List Z) : Prop where
  len : fs.length = zs.length
  good : ∀ i, i < fs.length → IsC (fs.getD i (0, 0)) (zs.getD i z0)

theorem FitsC.nil : FitsC [] [] := ⟨rfl, fun i hi => by simp at hi⟩
theorem FitsC.snoc {fs : List C} {zs : List Z} (h : FitsC fs zs) {a : C} {z : Z} (ha : IsC a z) : FitsC (fs ++ [a]) (zs ++ [z]) := by
  refine ⟨by simp [h.len], fun i hi => ?_⟩
  by_cases hl : i < fs.length
  · rw [show (fs ++ [a]).getD i (0, 0) = fs.getD i (0, 0) by simp [List.getD, List.getElem?_append_left, hl], show (zs ++ [z]).getD i z0 = zs.getD i z0 by simp [List.getD, List.getElem?_append_left, ← h.len, hl]]
    exact h.good i hl
  · have e : i = fs.length := by simp at hi; omega
    subst e
    rw [show (fs ++ [a]).getD fs.length (0, 0) = a by simp [List.getD], show (zs ++ [z]).getD fs.length z0 = z by simp [List.getD, h.len]]
    exact ha
theorem FitsC.set {fs : List C} {zs : List Z} (h : FitsC fs zs) {k : Nat} {a : C} {z : Z} (ha : IsC a z) : FitsC (fs.set k a) (zs.set k z) := by
  refine ⟨by simp [h.len], fun i hi => ?_⟩
  simp at hi
  by_cases hk : k = i
  · subst hk
    rw [show (fs.set k a).getD k (0, 0) = a by simp [List.getD, hi], show (zs.set k z).getD k z0 = z by simp [List.getD, ← h.len, hi]]
    exact ha
  · rw [show (fs.set k a).getD i (0, 0) = fs.getD i (0, 0) by simp [List.getD, List.getElem?_set, hk], show (zs.set k z).getD i z0 = zs.getD i z0 by simp [List.getD, List.getElem?_set, hk]]
    exact h.good i hi

theorem cvals_set (fs : List C) (k : Nat) (a b : Nat) : (cvals fs).set k (.complex .f64 a b) = cvals (fs.set k (a, b)) := by simp [cvals, List.map_set, cval]

/-- A row of complex numbers with sums at places, in the world wr, made behind w. -/
structure SumsC (w wr : World) (v : Value) (zs : List Z) (fs : List C) : Prop where
  row : Row wr w.heap.size 30 v (cvals fs)
  fits : FitsC fs zs
  below : Below w.heap.size w wr

theorem SumsC.draws {w wr : World} {v : Value} {zs : List Z} {fs : List C} (h : SumsC w wr v zs fs) (n : Nat) : SumsC w (wr.drewN n) v zs fs := ⟨h.row.drewN n, h.fits, below_draws h.below n⟩
theorem SumsC.store {w wr : World} {g cap L : Nat} {zs : List Z} {fs : List C} (h : SumsC w wr (.slice (some ⟨g, 0, none⟩) L cap) zs fs) {k x y : Nat} {q : Z} (hk : k < L)
    (hx : IsC (x, y) (addZ (zs.getD k z0) q)) : SumsC w (wr.setCell ⟨g, k, none⟩ (.complex .f64 x y)) (.slice (some ⟨g, 0, none⟩) L cap) (addAt addZ z0 zs k q) (fs.set k (x, y)) := by
  have hl : fs.length = L := by have := h.row.len; rwa [cvals_length] at this
  have hS := h.row.set k (.complex .f64 x y)
  rw [cvals_set] at hS
  have hg : w.heap.size ≤ g := (h.row.lt g rfl).1
  rw [addAt_lt addZ z0 (by rw [← h.fits.len, hl]; exact hk)]
  exact ⟨hS.1, h.fits.set hx, h.below.setCell (p := ⟨g, k, none⟩) hg _⟩

theorem cform {w : World} {v : Value} {cs : List Value} (h : Reads w v cs) : ∃ a cap, v = .slice a cs.length cap := by
  cases h with
  | none a cap => exact ⟨a, cap, rfl⟩
  | row g cap L cs hL => subst hL; exact ⟨_, cap, rfl⟩

end Go.Proofs.Ytocjhanehphibaa
/-
  Convolutions, pure: terms, their counts, sums. Signals as slices that begin anywhere.
-/
set_option linter.unusedVariables false
set_option linter.unusedSimpArgs false
namespace Go.Proofs.Ytocjhanehphibaa
open Go.RowKit Flt Fast

/-- How many numbers a convolution has. -/
def cvLen (a b : Nat) : Nat := if a = 0 ∨ b = 0 then 0 else a + b - 1
/-- The first place of h that meets a number of x, at the place n; and how many there are. -/
def cvLo (a n : Nat) : Nat := n + 1 - a
def cvCnt (a b n : Nat) : Nat := min (n + 1) b - (n + 1 - a)
def cvTerm (x h : List Z) (n j : Nat) : Z := mulZ (h.getD (cvLo x.length n + j) z0) (x.getD (n - (cvLo x.length n + j)) z0)
def cvSum (x h : List Z) (n m : Nat) : Z := sumC (cvTerm x h n) m
def cvAt (x h : List Z) (n : Nat) : Z := cvSum x h n (cvCnt x.length h.length n)
/-- The convolution. -/
def cvAll (x h : List Z) : List Z := (List.range (cvLen x.length h.length)).map (cvAt x h)

theorem cvLen_nil (b : Nat) : cvLen 0 b = 0 := by simp [cvLen]
theorem cvLen_nil' (a : Nat) : cvLen a 0 = 0 := by simp [cvLen]
theorem cvLen_pos {a b : Nat} (ha : a ≠ 0) (hb : b ≠ 0) : cvLen a b = a + b - 1 := by simp [cvLen, ha, hb]
theorem cvLen_le (a b : Nat) : cvLen a b ≤ a + b := by unfold cvLen; split <;> omega
theorem cvLen_zero {a b : Nat} (h : a = 0 ∨ b = 0) : cvLen a b = 0 := by simp [cvLen, h]
theorem cvCnt_pos {a b n : Nat} (h : n < cvLen a b) : 0 < cvCnt a b n := by
  unfold cvLen at h; split at h
  · omega
  · unfold cvCnt; omega
theorem cvCnt_le (a b n : Nat) : cvCnt a b n ≤ b := by unfold cvCnt; omega
/-- Each term has both numbers. -/
theorem cvIn {a b n j : Nat} (hj : j < cvCnt a b n) : cvLo a n + j < b ∧ cvLo a n + j ≤ n ∧ n - (cvLo a n + j) < a := by
  unfold cvCnt cvLo at *; omega
theorem cvLo_cnt {a b n : Nat} (h : n < cvLen a b) : cvLo a n + cvCnt a b n = min (n + 1) b := by
  unfold cvLen at h; split at h
  · omega
  · unfold cvCnt cvLo; omega
theorem cvAll_length (x h : List Z) : (cvAll x h).length = cvLen x.length h.length := by simp [cvAll]
theorem cvAll_getD {x h : List Z} {n : Nat} (hn : n < cvLen x.length h.length) : (cvAll x h).getD n z0 = cvAt x h n := by simp [cvAll, List.getD, hn]
theorem cvSum_one (x h : List Z) (n : Nat) : cvSum x h n 1 = cvTerm x h n 0 := sumC_one _
theorem cvSum_succ (x h : List Z) (n : Nat) {m : Nat} (hm : m ≠ 0) : cvSum x h n (m + 1) = addZ (cvSum x h n m) (cvTerm x h n m) := sumC_succ _ hm

/-- A slice that reads as these numbers, in a block below B; it may begin anywhere. -/
inductive RdO (B : Nat) (w : World) : Value → List C → Prop
  | nil (a : Option Addr) (cap : Nat) (hm : cap ≤ maxLen) : RdO B w (.slice a 0 cap) []
  | row (g o cap L : Nat) (xs : List C) (hL : xs.length = L) (h0 : 0 < L) (hc : L ≤ cap) (hm : cap ≤ maxLen) (hb : g < B) (h : ∀ j, j < L → w.cell? ⟨g, o + j, Option.none⟩ = some (cval (xs.getD j (0, 0)))) : RdO B w (.slice (some ⟨g, o, Option.none⟩) L cap) xs

theorem RdO.below {B : Nat} {w w' : World} {v : Value} {xs : List C} (h : RdO B w v xs) (hb : Below B w w') : RdO B w' v xs := by
  cases h with
  | nil a cap hm => exact .nil a cap hm
  | row g o cap L xs hL h0 hc hm hg h => exact .row g o cap L xs hL h0 hc hm hg fun j hj => by rw [hb.cell (p := ⟨g, o + j, none⟩) hg]; exact h j hj
theorem RdO.base {B B' : Nat} {w : World} {v : Value} {xs : List C} (h : RdO B w v xs) (hB : B ≤ B') : RdO B' w v xs := by
  cases h with
  | nil a cap hm => exact .nil a cap hm
  | row g o cap L xs hL h0 hc hm hg h => exact .row g o cap L xs hL h0 hc hm (by omega) h
/-- The form of the value, and what is read. -/
theorem RdO.find {B : Nat} {w : World} {v : Value} {xs : List C} (h : RdO B w v xs) :
    ∃ a cap, v = .slice a xs.length cap ∧ xs.length ≤ cap + xs.length ∧ xs.length ≤ maxLen ∧ ∀ j, j < xs.length → ∃ g o, a = some ⟨g, o, none⟩ ∧ g < B ∧ w.cell? ⟨g, o + j, none⟩ = some (cval (xs.getD j (0, 0))) := by
  cases h with
  | nil a cap hm => exact ⟨a, cap, rfl, by omega, by simp, fun j hj => absurd hj (by simp)⟩
  | row g o cap L xs hL h0 hc hm hg h => subst hL; exact ⟨_, cap, rfl, by omega, by omega, fun j hj => ⟨g, o, rfl, hg, h j hj⟩⟩
theorem RdO.of_row {B b e : Nat} {w : World} {v : Value} {xs : List C} (h : Row w b e v (cvals xs)) (hb : ∀ k, v.ownBlock = some k → k < B) : RdO B w v xs := by
  rcases h.2 with ⟨rfl, h0⟩ | ⟨g, cap, cur, rfl, hbb, hg, hnc, hcm, _⟩
  · rw [cvals_length] at h0
    obtain rfl := List.eq_nil_of_length_eq_zero h0
    exact .nil none 0 (by simp)
  · have h' := h
    rw [cvals_length] at hnc
    by_cases h0 : xs.length = 0
    · obtain rfl := List.eq_nil_of_length_eq_zero h0
      exact .nil _ _ hcm
    · have hc : ∀ j, j < xs.length → w.cell? ⟨g, 0 + j, none⟩ = some (cval (xs.getD j (0, 0))) := fun j hj => by
        rw [Nat.zero_add, h'.cellAt (by rw [cvals_length]; exact hj), cvals_getD hj]; rfl
      rw [cvals_length]
      exact .row g 0 cap xs.length xs rfl (by omega) hnc hcm (hb g (by simp [Value.ownBlock])) hc
theorem RdO.rdC {B : Nat} {w : World} {v : Value} {xs : List C} (h : RdO B w v xs) (hB : B ≤ w.heap.size) : RdC w v xs := by
  cases h with
  | nil a cap hm => exact ⟨a, cap, rfl, Nat.zero_le _, hm, fun j hj => absurd hj (by simp)⟩
  | row g o cap L xs hL h0 hc hm hg h => subst hL; exact ⟨_, cap, rfl, hc, hm, fun j hj => ⟨g, o, rfl, by omega, h j hj⟩⟩

/-- Numbers that fit what they should be, one by one. -/
def IsCs (ps : List C) (zs : List Z) : Prop := ps.length = zs.length ∧ ∀ i, i < zs.length → IsC (ps.getD i (0, 0)) (zs.getD i z0)

end Go.Proofs.Ytocjhanehphibaa
