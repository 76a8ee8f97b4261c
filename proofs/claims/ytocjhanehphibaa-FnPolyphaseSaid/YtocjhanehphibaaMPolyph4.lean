/-
  Several texts of this claim, one behind the other; each says what it holds.
-/
import Derived.Test.YtocjhanehphibaaMPolyph3
import Derived.Test.YtocjhanehphibaaRows
import Derived.Lib.Hide
import Derived.BigRegion
import Derived.Deep.RegionLaw
import Derived.Deep.AppendLies
import Derived.Deep.CutRange
import Derived.Deep.CutBlock
import Derived.Deep.RegionWith
/-
  The walk of the law on TurnOf.
-/
set_option linter.unusedVariables false
set_option linter.unusedSimpArgs false
namespace Go.Proofs.Ytocjhanehphibaa
open Go.RowKit Flt Turn

end Go.Proofs.Ytocjhanehphibaa
/-
  The walks of eqInt64S, markInt64S and heldInt64S over slices that the call itself has made.
-/
set_option linter.unusedVariables false
set_option linter.unusedSimpArgs false
namespace Go.Proofs.Ytocjhanehphibaa
open Go.RowKit

/-- Integers as values. -/
def ints (zs : List Int) : List Value := zs.map (Value.int .i64)
theorem ints_length (zs : List Int) : (ints zs).length = zs.length := by simp [ints]
theorem ints_getD {zs : List Int} {j : Nat} (h : j < zs.length) : (ints zs).getD j undef = .int .i64 (zs.getD j 0) := getD_map _ zs 0 h

/-- The numbers that are laid in a row: from m on. -/
def marks (m n : Nat) : List Int := (List.range n).map fun i => ((m + i : Nat) : Int)

theorem marks_length (m n : Nat) : (marks m n).length = n := by simp [marks]
theorem marks_getD {m n j : Nat} (h : j < n) : (marks m n).getD j 0 = ((m + j : Nat) : Int) := by simp [marks, List.getD, h]

/-- The first k values of a row are turned, by f. -/
def turned (f : Nat → Value) (k : Nat) (cs : List Value) : List Value := (List.range k).map f ++ cs.drop k
theorem turned_zero (f : Nat → Value) (cs : List Value) : turned f 0 cs = cs := by simp [turned]
theorem turned_all (f : Nat → Value) (cs : List Value) : turned f cs.length cs = (List.range cs.length).map f := by simp [turned]
theorem turned_step {f : Nat → Value} {k : Nat} {cs : List Value} (h : k < cs.length) : (turned f k cs).set k (f k) = turned f (k + 1) cs := by
  unfold turned
  rw [List.set_append_right _ _ (by simp), List.length_map, List.length_range, Nat.sub_self]
  rw [List.drop_eq_getElem_cons h, List.set_cons_zero]
  rw [List.range_succ, List.map_append, List.append_assoc]
  rfl
theorem turned_length {f : Nat → Value} {k : Nat} {cs : List Value} (h : k ≤ cs.length) : (turned f k cs).length = cs.length := by simp [turned]; omega

theorem ints_marks (m n : Nat) : ints (marks m n) = (List.range n).map fun i => .int .i64 ((m + i : Nat) : Int) := by simp [ints, marks]

end Go.Proofs.Ytocjhanehphibaa
/-
  Slices of wide complex numbers that the call itself has made: compared, marked, held; and listOf.
-/
set_option linter.unusedVariables false
set_option linter.unusedSimpArgs false
namespace Go.Proofs.Ytocjhanehphibaa
open Go.RowKit Flt Turn

/-- The numbers that are laid in a row: from m on, with the imaginary part 1. -/
def cmark (m i : Nat) : Value := .complex .f64 (floatOfInt .f64 ((m + i : Nat) : Int)) 4607182418800017408
def cmarks (m n : Nat) : List Value := (List.range n).map (cmark m)
theorem cmarks_length (m n : Nat) : (cmarks m n).length = n := by simp [cmarks]
theorem cmarks_getD {m n j : Nat} (h : j < n) : (cmarks m n).getD j undef = cmark m j := by simp [cmarks, List.getD, h]

theorem eqC_self (k : FloatKind) (a b : Nat) (ha : nan k.format a = false) (hb : nan k.format b = false) : k.format.order a a = some .eq ∧ k.format.order b b = some .eq := ⟨ord_eq ha ha rfl, ord_eq hb hb rfl⟩

end Go.Proofs.Ytocjhanehphibaa
/-
  What an operation on floats gives in a world, as an equation (a NaN's bits are the tape's): for regions that draw their order. No program is named here.
-/
set_option linter.unusedVariables false
set_option linter.unusedSimpArgs false
namespace Go.Proofs.Ytocjhanehphibaa.Flt
open Go

/-- The bits of a result in the world w. -/
def fres (op : BinOp) (k : FloatKind) (x y : Nat) (w : World) : Nat := match floatBits op k x y with
  | some r => r
  | none => Question.cut (.nanBits k x y) (w.tape w.drawn (.nanBits k x y))
/-- How often it draws. -/
def fcnt (op : BinOp) (k : FloatKind) (x y : Nat) : Nat := match floatBits op k x y with
  | some _ => 0
  | none => 1

theorem cn_fres (op : BinOp) (k : FloatKind) (x y : Nat) (w : World) : cn k (fres op k x y w) = floatBits op k x y := by
  unfold fres
  split
  · rename_i r h; rw [h]; exact cn_some (floatBits_num h)
  · rename_i h; rw [h]; exact cn_none (cut_nan k x y _).1
theorem fres_lt64 (op : BinOp) (x y : Nat) (w : World) : fres op .f64 x y w < 18446744073709551616 := by
  unfold fres
  split
  · rename_i r h; have := floatBits_wf h; simpa [Lit.wf] using this
  · exact (cut_nan .f64 x y _).2

theorem isF_fres {op : BinOp} {x y : Nat} {a b : Option Nat} (hx : IsF x a) (hy : IsF y b) (w : World) : IsF (fres op .f64 x y w) (fop op .f64 a b) :=
  ⟨cn_op (cn_fres op .f64 x y w) hx.cn hy.cn, fres_lt64 op x y w⟩

section
variable {P : Program} (w : World)

theorem run_fres (op : BinOp) (hop : op = .add ∨ op = .sub ∨ op = .mul ∨ op = .quo) (k : FloatKind) (x y : Nat) :
    (Op.floatArith op k x y).run P w = .ok (.float k (fres op k x y w)) (w.drewN (fcnt op k x y)) := by
  cases h : floatBits op k x y with
  | some r =>
    have e1 : fres op k x y w = r := by unfold fres; rw [h]
    have e2 : fcnt op k x y = 0 := by unfold fcnt; rw [h]
    rw [e1, e2]
    exact run_floatArith w h
  | none =>
    have e1 : fres op k x y w = Question.cut (.nanBits k x y) (w.tape w.drawn (.nanBits k x y)) := by unfold fres; rw [h]
    have e2 : fcnt op k x y = 1 := by unfold fcnt; rw [h]
    rw [e1, e2]
    rcases hop with rfl | rfl | rfl | rfl <;> simp only [floatBits] at h <;> simp [Op.floatArith, h, Question.forced] <;> rfl

theorem run_fadd (t : TypeId) (k : FloatKind) (x y : Nat) : (binOp .add t (.float k x) (.float k y)).run P w = .ok (.float k (fres .add k x y w)) (w.drewN (fcnt .add k x y)) := by
  simpa [binOp] using run_fres (P := P) w .add (by simp) k x y
theorem run_fsub (t : TypeId) (k : FloatKind) (x y : Nat) : (binOp .sub t (.float k x) (.float k y)).run P w = .ok (.float k (fres .sub k x y w)) (w.drewN (fcnt .sub k x y)) := by
  simpa [binOp] using run_fres (P := P) w .sub (by simp) k x y
theorem run_fmul (t : TypeId) (k : FloatKind) (x y : Nat) : (binOp .mul t (.float k x) (.float k y)).run P w = .ok (.float k (fres .mul k x y w)) (w.drewN (fcnt .mul k x y)) := by
  simpa [binOp] using run_fres (P := P) w .mul (by simp) k x y
theorem run_fquo (t : TypeId) (k : FloatKind) (x y : Nat) : (binOp .quo t (.float k x) (.float k y)).run P w = .ok (.float k (fres .quo k x y w)) (w.drewN (fcnt .quo k x y)) := by
  simpa [binOp] using run_fres (P := P) w .quo (by simp) k x y
theorem run_cadd (t : TypeId) (k : FloatKind) (x y u v : Nat) : (binOp .add t (.complex k x y) (.complex k u v)).run P w =
    .ok (.complex k (fres .add k x u w) (fres .add k y v (w.drewN (fcnt .add k x u)))) (w.drewN (fcnt .add k x u + fcnt .add k y v)) := by
  simp [binOp, Op.complexOp, Op.Complex.arith, run_fres, World.drewN_drewN]
theorem run_csub (t : TypeId) (k : FloatKind) (x y u v : Nat) : (binOp .sub t (.complex k x y) (.complex k u v)).run P w =
    .ok (.complex k (fres .sub k x u w) (fres .sub k y v (w.drewN (fcnt .sub k x u)))) (w.drewN (fcnt .sub k x u + fcnt .sub k y v)) := by
  simp [binOp, Op.complexOp, Op.Complex.arith, run_fres, World.drewN_drewN]
end

end Go.Proofs.Ytocjhanehphibaa.Flt
/-
  Narrowing of complex numbers, in whatever program. No program is named here.
-/
set_option linter.unusedVariables false
set_option linter.unusedSimpArgs false
namespace Go.Proofs.Ytocjhanehphibaa.Flt
open Go

theorem run_f2f {P : Program} (w : World) (u : Nat) : ∃ r n, (Conv.floatToFloat .f64 u .f32).run P w = .ok (.float .f32 r) (w.drewN n) ∧ Narrows u r := by
  cases h : floatToFloatBits .f64 u .f32 with
  | some v =>
    refine ⟨v, 0, run_floatToFloat w h, ?_, fun x e => Option.some.inj (h.symm.trans e), fun hn => ?_⟩
    · unfold floatToFloatBits at h
      rw [if_neg (by decide)] at h
      split at h
      · cases h
      · cases h; exact Ieee.single.write_lt _
      · split at h
        · cases h
        · cases h; exact Ieee.single.write_lt _
    · obtain ⟨s, t, e⟩ := read_nan Ieee.double hbi64 (x := u) hn
      unfold floatToFloatBits at h
      rw [if_neg (by decide)] at h
      have d1 : FloatKind.f64.decode u = .nan s t := e
      rw [d1] at h
      cases h
  | none =>
    unfold floatToFloatBits at h
    rw [if_neg (by decide)] at h
    split at h
    · rename_i s t d1
      have c := cut_nanConv .f32 u (w.tape w.drawn (.nanConv .f32 u))
      refine ⟨_, 1, ?_, c.2, fun v e => ?_, fun _ => c.1⟩
      · simp [Conv.floatToFloat, d1, Question.forced]; rfl
      · unfold floatToFloatBits at e
        rw [if_neg (by decide), d1] at e
        cases e
    · cases h
    · rename_i s m p d1
      split at h
      · rename_i hi
        refine ⟨Question.cut (.floatToFloat u) (w.tape w.drawn (.floatToFloat u)), 1, ?_, ?_, fun v e => ?_, fun hn => ?_⟩
        · simp [Conv.floatToFloat, d1, hi, Question.forced]; rfl
        · exact Nat.mod_lt _ (by decide)
        · unfold floatToFloatBits at e
          rw [if_neg (by decide), d1] at e
          simp only [hi, if_true] at e
          cases e
        · obtain ⟨s', t', e⟩ := read_nan Ieee.double hbi64 (x := u) hn
          have d2 : FloatKind.f64.decode u = .nan s' t' := e
          rw [d2] at d1
          cases d1
      · cases h

/-- The law of the walk: a wide complex number, narrowed. -/
theorem wpList_narrowD {P : Program} (w : World) {ops : Array Oper} {rest : List Oper} {o : Oper} {a : Act} {Q : Exit → Act → World → Prop} (hw : Region.wanted o (yielded ops a.tmps) = true)
    (src dst : TypeId) (x : Operand) (ho : o.op = Op.convert src dst x) (u v : Nat) (hx : a.eval x = .complex .f64 u v) (hs : (P.underlying src).isSome = true) (hd : P.underlying dst = some (.complex .f32))
    (hK : ∀ r s n, Narrows u r → Narrows v s → wpList P ops Q rest (a.put o.dst (.complex .f32 r s)) (w.drewN n)) : wpList P ops Q (o :: rest) a w := by
  refine BigFrame.wpList_want hw fun K hK' => ?_
  obtain ⟨r, n, e1, h1⟩ := run_f2f (P := P) w u
  obtain ⟨s, m, e2, h2⟩ := run_f2f (P := P) (w.drewN n) v
  have hk := hK' _ _ (hK r s (n + m) h1 h2)
  rw [World.drewN_drewN] at e2
  have hr : (convert src dst (.complex .f64 u v)).run P w = .ok (.complex .f32 r s) (w.drewN (n + m)) := by
    obtain ⟨t, hs'⟩ := Option.isSome_iff_exists.1 hs
    cases t <;> simp [convert, run_underlying hs', run_underlying hd, Conv.complexToComplex, e1, e2]
  unfold Oper.wp
  simp [execOp, ho, hx, hr, Result.andThen]
  exact hk

end Go.Proofs.Ytocjhanehphibaa.Flt
/-
  The walks of NextUp and NextUpNarrow.
-/
set_option linter.unusedVariables false
set_option linter.unusedSimpArgs false
namespace Go.Proofs.Ytocjhanehphibaa
open Go.RowKit Flt

theorem inf_any (w : World) :
    Calls Try.prog 105 #[.int .i64 1] w fun e w' => e = .returned (.float .f64 9218868437227405312) ∧ w' = w := by
  go_enter Try.func105, Try.ntmps105
  go_wp2
  go_ret
  exact ⟨rfl, rfl⟩

set_option maxRecDepth 100000 in
theorem copysign_one (w : World) :
    Calls Try.prog 106 #[.float .f64 1, .float .f64 9218868437227405312] w fun e w' => e = .returned (.float .f64 1) ∧ w' = w := by
  go_enter Try.func106, Try.ntmps106
  go_wp2
  go_ret
  exact ⟨by kernel_rfl, rfl⟩

theorem upBits_lt {a : Nat} (h : a < 18446744073709551616) : upBits a < 18446744073709551616 := by
  unfold upBits; split
  · omega
  · split
    · split <;> omega
    · omega

end Go.Proofs.Ytocjhanehphibaa
/-
  Contracts of the program's functions on complex numbers: same, equal, finite, narrow, wide.
-/
set_option linter.unusedVariables false
set_option linter.unusedSimpArgs false
namespace Go.Proofs.Ytocjhanehphibaa
open Go.RowKit Flt

/-- Two reals are the same. -/
def sameB (a b : Nat) : Bool := decide (cn .f64 a = cn .f64 b)
/-- A real is finite. -/
def finO (o : Option Nat) : Bool := match o with | some x => decide (x % 9223372036854775808 < 9218868437227405312) | none => false

theorem sameB_nan {a b : Nat} (ha : nan FloatKind.f64.format a = true) (hb : nan FloatKind.f64.format b = true) : sameB a b = true := by
  unfold sameB; rw [cn_none ha, cn_none hb]; rfl
theorem sameB_l {a b : Nat} (ha : nan FloatKind.f64.format a = true) (hb : nan FloatKind.f64.format b = false) : sameB a b = false := by
  unfold sameB; rw [cn_none ha, cn_some hb]; rfl
theorem sameB_r {a b : Nat} (ha : nan FloatKind.f64.format a = false) (hb : nan FloatKind.f64.format b = true) : sameB a b = false := by
  unfold sameB; rw [cn_some ha, cn_none hb]; rfl
theorem sameB_num {a b : Nat} (ha : nan FloatKind.f64.format a = false) (hb : nan FloatKind.f64.format b = false) : sameB a b = decide (a = b) := by
  unfold sameB; rw [cn_some ha, cn_some hb]; simp

/-- Below, told once more: what a callee leaves. -/
theorem below_step {B : Nat} {w w1 w2 : World} (h : Below B w w1) (k : Below w1.heap.size w1 w2) (hB : B ≤ w1.heap.size) : Below B w w2 := h.trans (k.mono hB)

/-- Equal by Go's own ==. -/
def eqC (k : FloatKind) (a b c d : Nat) : Bool := (k.format.order a c == some .eq) && (k.format.order b d == some .eq)

theorem finO_nan {a : Nat} (ha : nan FloatKind.f64.format a = true) : finO (cn .f64 a) = false := by rw [cn_none ha]; rfl
theorem finO_num {a : Nat} (ha : nan FloatKind.f64.format a = false) : finO (cn .f64 a) = decide (a % 9223372036854775808 < 9218868437227405312) := by rw [cn_some ha]; rfl

theorem andNot_mod {a : Nat} (la : a < 18446744073709551616) : bits .andNot .u64 (a : Int) 9223372036854775808 = ((a % 9223372036854775808 : Nat) : Int) := by
  have := u64_andNot_nat a 9223372036854775808 la (by omega)
  rw [show ((9223372036854775808 : Nat) : Int) = 9223372036854775808 from rfl] at this
  rw [this, show (18446744073709551615 - 9223372036854775808 : Nat) = 2 ^ 63 - 1 by omega, Nat.and_two_pow_sub_one_eq_mod]

/-- A narrow complex number, of these parts. -/
def RetsN (p q : Nat → Prop) (w : World) (e : Ending) (w' : World) : Prop := ∃ u v, p u ∧ q v ∧ e = .returned (.complex .f32 u v) ∧ Below w.heap.size w w'
/-- A wide complex number, of these parts. -/
def RetsW (p q : Nat → Prop) (w : World) (e : Ending) (w' : World) : Prop := ∃ u v, p u ∧ q v ∧ e = .returned (.complex .f64 u v) ∧ Below w.heap.size w w'

theorem numberOf32_any (a b : Nat) (w : World) :
    Calls Try.prog 101 #[.complex .f32 a b] w (Rets (.agg #[.complex .f32 a b]) w) := by
  go_enter Try.func101, Try.ntmps101
  go_wp2
  exact bodyPost_ret (v := .agg #[.complex .f32 a b]) (by simp [results, Try.results101, go_sem]) rfl ⟨rfl, by repeat (first | exact Below.refl _ _ | refine Below.alloc ?_ (by simp; try omega) _)⟩

/-- A real is one that a narrow one is widened to. -/
def Wide (u r : Nat) : Prop := cn .f64 r = floatToFloatBits .f32 u .f64 ∧ r < 18446744073709551616

theorem wide_any (a b : Nat) (w : World) :
    Calls Try.prog 115 #[.agg #[.complex .f32 a b]] w (RetsW (Wide a) (Wide b) w) := by
  go_enter Try.func115, Try.ntmps115
  go_wp2_with (first
    | (refine wpList_widenC _ rfl 36 30 _ rfl a b rfl (by kernel_rfl) Try.underlying30 ?_; intro r s n hr hs lr ls; have HR := Lib.hid hr; have HS := Lib.hid hs; have LR := Lib.hid lr; have LS := Lib.hid ls; clear hr hs lr ls)
    | go_in)
  go_ret
  exact ⟨_, _, ⟨HR.out, LR.out⟩, ⟨HS.out, LS.out⟩, rfl, by repeat (first | exact Below.refl _ _ | refine below_draws ?_ _ | refine Below.alloc ?_ (by simp; try omega) _)⟩

/-- Two parts, widened. -/
def RetsP (p q : Nat → Prop) (w : World) (e : Ending) (w' : World) : Prop := ∃ u v, p u ∧ q v ∧ e = .returned (.tuple #[.float .f64 u, .float .f64 v]) ∧ Below w.heap.size w w'

theorem parts32_any (a b : Nat) (w : World) :
    Calls Try.prog 111 #[.agg #[.complex .f32 a b]] w (RetsP (Wide a) (Wide b) w) := by
  go_enter Try.func111, Try.ntmps111
  go_wp2_with fail
  refine (wide_any a b _).mono ?_
  rintro e w2 ⟨r, s, hr, hs, rfl, h2⟩
  have HR := Lib.hid hr
  have HS := Lib.hid hs
  have h : Below w.heap.size w w2 := ((Below.refl _ _).alloc (Nat.le_refl _) _).trans (h2.mono (by simp))
  clear hr hs h2
  go_wp2
  go_ret2
  exact ⟨_, _, HR.out, HS.out, rfl, h⟩

/-- Two narrow reals are the same: their wide ones are. -/
def sameN (u v : Nat) : Bool := decide (floatToFloatBits .f32 u .f64 = floatToFloatBits .f32 v .f64)
theorem sameB_wide {u v r s : Nat} (h : Wide u r) (k : Wide v s) : sameB r s = sameN u v := by unfold sameB sameN; rw [h.1, k.1]

/-- A narrow real is finite: its wide one is. -/
def finN (u : Nat) : Bool := finO (floatToFloatBits .f32 u .f64)

end Go.Proofs.Ytocjhanehphibaa
/-
  Products, squares and kin of complex numbers, of the program and of the model.
-/
set_option linter.unusedVariables false
set_option linter.unusedSimpArgs false
namespace Go.Proofs.Ytocjhanehphibaa
open Go.RowKit Flt Fast
attribute [local go_sem] run_fadd run_fsub run_fmul run_fquo run_cadd run_csub

/-- A complex number is returned, up to the choice of NaNs; what was there has not turned. -/
def RetsC (z : Z) (w : World) (e : Ending) (w' : World) : Prop := ∃ a b, e = .returned (.complex .f64 a b) ∧ IsC (a, b) z ∧ Below w.heap.size w w'
/-- A float is returned, up to the choice of NaNs; what was there has not turned. -/
def RetsR (z : Option Nat) (w : World) (e : Ending) (w' : World) : Prop := ∃ a, e = .returned (.float .f64 a) ∧ IsF a z ∧ Below w.heap.size w w'

set_option maxRecDepth 100000 in
set_option maxHeartbeats 4000000 in
theorem mul_spec (a b c d : Nat) (x y : Z) (h1 : IsC (a, b) x) (h2 : IsC (c, d) y) (w : World) :
    Calls Try.prog 71 #[.complex .f64 a b, .complex .f64 c d] w (RetC (mulZ x y) w) := by
  have H1 := Lib.hid h1
  have H2 := Lib.hid h2
  clear h1 h2
  go_enter Try.func71, Try.ntmps71
  go_wp2
  go_ret
  exact ⟨_, _, rfl, isF_fres (isF_fres H1.out.re H2.out.re _) (isF_fres H1.out.im H2.out.im _) _, isF_fres (isF_fres H1.out.re H2.out.im _) (isF_fres H1.out.im H2.out.re _) _, _, rfl⟩

set_option maxRecDepth 100000 in
set_option maxHeartbeats 4000000 in
theorem times_any (a b c d : Nat) (x y : Z) (h1 : IsC (a, b) x) (h2 : IsC (c, d) y) (w : World) :
    Calls Try.prog 89 #[.agg #[.complex .f64 a b], .agg #[.complex .f64 c d]] w (RetsC (mulZ x y) w) := by
  have H1 := Lib.hid h1
  have H2 := Lib.hid h2
  clear h1 h2
  go_enter Try.func89, Try.ntmps89
  go_wp2_with fail
  refine (parts_any a b _).mono ?_
  rintro e w1 ⟨rfl, hb1⟩
  have hy : w.heap.size + 1 < w1.heap.size := by have := hb1.size; simp at this; omega
  have c3 : w1.cell? ⟨w.heap.size + 1, 0, none⟩ = some (.complex .f64 c d) := by
    rw [hb1.cell (by simp)]; simp
  have HB1 : Hid (Below w.heap.size w w1) := (((Below.refl _ _).alloc (Nat.le_refl _) _).alloc (by simp) _).trans (hb1.mono (by simp; omega))
  clear hb1
  go_wp2_with fail
  refine (parts_any c d _).mono ?_
  rintro e w2 ⟨rfl, hb2⟩
  have HB2 : Hid (Below w.heap.size w w2) := HB1.out.trans (hb2.mono HB1.out.size)
  clear hb2 HB1 c3 hy
  go_wp2
  go_ret
  exact ⟨_, _, rfl, ⟨isF_fres (isF_fres H1.out.re H2.out.re _) (isF_fres H1.out.im H2.out.im _) _, isF_fres (isF_fres H1.out.re H2.out.im _) (isF_fres H1.out.im H2.out.re _) _⟩, below_draws HB2.out _⟩

/-- The square of a size. -/
def sqZ (x : Z) : Option Nat := fop .add .f64 (fop .mul .f64 x.1 x.1) (fop .mul .f64 x.2 x.2)

end Go.Proofs.Ytocjhanehphibaa
/-
  The factors of a number, as lists of naturals: no program.
-/
set_option linter.unusedVariables false
namespace Go.Proofs.Ytocjhanehphibaa
namespace Fac

/-- p is the least divisor from 2 on. -/
structure Least (n p : Nat) : Prop where
  two : 2 ≤ p
  dvd : n % p = 0
  least : ∀ q, 2 ≤ q → q < p → n % q ≠ 0

theorem Least.unique {n p q : Nat} (h : Least n p) (h' : Least n q) : p = q := by
  rcases Nat.lt_trichotomy p q with a | a | a
  · exact absurd h.dvd (h'.least p h.two a)
  · exact a
  · exact absurd h'.dvd (h.least q h'.two a)

theorem Least.le {n p : Nat} (h : Least n p) (hn : 1 < n) : p ≤ n :=
  Nat.le_of_not_lt fun hlt => h.least n hn hlt (Nat.mod_self n)

/-- xs are the prime factors of n, each the least one of what is left. -/
inductive Facs : Nat → List Nat → Prop
  | one : Facs 1 []
  | more {n p : Nat} {xs : List Nat} (hn : 1 < n) (hp : Least n p) (h : Facs (n / p) xs) : Facs n (p :: xs)

theorem Facs.unique {n : Nat} {xs ys : List Nat} (h : Facs n xs) (h' : Facs n ys) : xs = ys := by
  induction h generalizing ys with
  | one =>
    cases h' with
    | one => rfl
    | more hn => omega
  | more hn hp _ ih =>
    cases h' with
    | one => omega
    | more hn' hp' h' =>
      obtain rfl := hp.unique hp'
      rw [ih h']

theorem Facs.pos {n : Nat} {xs : List Nat} (h : Facs n xs) : 1 ≤ n := by cases h <;> omega

theorem dvd_trans_mod {a b c : Nat} (h : a % b = 0) (h' : b % c = 0) : a % c = 0 :=
  Nat.mod_eq_zero_of_dvd (Nat.dvd_trans (Nat.dvd_of_mod_eq_zero h') (Nat.dvd_of_mod_eq_zero h))

theorem div_dvd {n p : Nat} (h : n % p = 0) : n % (n / p) = 0 :=
  Nat.mod_eq_zero_of_dvd (Nat.div_dvd_of_dvd (Nat.dvd_of_mod_eq_zero h))

theorem Facs.len {n : Nat} {xs : List Nat} (h : Facs n xs) : 2 ^ xs.length ≤ n := by
  induction h with
  | one => simp
  | @more n p xs hn hp _ ih =>
    have e : n / p * p = n := Nat.div_mul_cancel (Nat.dvd_of_mod_eq_zero hp.dvd)
    have : n / p * 2 ≤ n / p * p := Nat.mul_le_mul_left _ hp.two
    simp only [List.length_cons, Nat.pow_succ]
    omega

theorem Facs.len_le {n : Nat} {xs : List Nat} (h : Facs n xs) (hn : n ≤ 1024) : xs.length ≤ 10 := by
  have := h.len
  apply Nat.le_of_not_lt
  intro hc
  have h1 : 2 ^ 11 ≤ 2 ^ xs.length := Nat.pow_le_pow_right (by omega) hc
  have h2 : (2 : Nat) ^ 11 = 2048 := by decide
  omega

/-- Each factor divides the number, is 2 or more, and has no divisor of its own. -/
theorem Facs.each {n : Nat} {xs : List Nat} (h : Facs n xs) : ∀ x ∈ xs, 2 ≤ x ∧ n % x = 0 ∧ ∀ d, 2 ≤ d → d < x → x % d ≠ 0 := by
  induction h with
  | one => intro x hx; cases hx
  | @more n p xs hn hp _ ih =>
    intro x hx
    rcases List.mem_cons.1 hx with rfl | hx
    · exact ⟨hp.two, hp.dvd, fun d h2 hd he => hp.least d h2 hd (dvd_trans_mod hp.dvd he)⟩
    · obtain ⟨a, b, c⟩ := ih x hx
      exact ⟨a, dvd_trans_mod (div_dvd hp.dvd) b, c⟩

theorem Facs.rises {n : Nat} {xs : List Nat} (h : Facs n xs) : ∀ i, i + 1 < xs.length → xs.getD i 0 ≤ xs.getD (i + 1) 0 := by
  induction h with
  | one => intro i hi; simp at hi
  | @more n p xs hn hp ht ih =>
    intro i hi
    cases i with
    | zero =>
      cases xs with
      | nil => simp at hi
      | cons q ys =>
        simp only [List.getD_cons_zero, List.getD_cons_succ]
        obtain ⟨a, b, _⟩ := ht.each q (by simp)
        exact Nat.le_of_not_lt fun hlt => hp.least q a hlt (dvd_trans_mod (div_dvd hp.dvd) b)
    | succ i =>
      simp only [List.getD_cons_succ]
      exact ih i (by simpa using hi)

/-- The product of the first k. -/
def prod (xs : List Nat) (k : Nat) : Nat := (xs.take k).foldl (· * ·) 1

theorem foldl_mul (xs : List Nat) : ∀ a, xs.foldl (· * ·) a = a * xs.foldl (· * ·) 1 := by
  induction xs with
  | nil => intro a; simp
  | cons x xs ih => intro a; simp only [List.foldl_cons]; rw [ih (a * x), ih (1 * x), Nat.one_mul, Nat.mul_assoc]

theorem prod_zero (xs : List Nat) : prod xs 0 = 1 := rfl

theorem prod_succ {xs : List Nat} {k : Nat} (h : k < xs.length) : prod xs (k + 1) = prod xs k * xs.getD k 0 := by
  unfold prod
  rw [List.take_add_one, List.foldl_append]
  have e : xs[k]? = some (xs.getD k 0) := by simp [List.getD, h]
  rw [e]; rfl

theorem Facs.product {n : Nat} {xs : List Nat} (h : Facs n xs) : xs.foldl (· * ·) 1 = n := by
  induction h with
  | one => rfl
  | @more n p xs hn hp _ ih =>
    simp only [List.foldl_cons]
    rw [foldl_mul, ih, Nat.one_mul, Nat.mul_comm]
    exact Nat.div_mul_cancel (Nat.dvd_of_mod_eq_zero hp.dvd)

theorem Facs.prod_all {n : Nat} {xs : List Nat} (h : Facs n xs) : prod xs xs.length = n := by
  unfold prod; rw [List.take_length]; exact h.product

theorem Facs.prod_le {n : Nat} {xs : List Nat} (h : Facs n xs) (k : Nat) : prod xs k ≤ n := by
  have hn := h.pos
  have e : xs.foldl (· * ·) 1 = prod xs k * (xs.drop k).foldl (· * ·) 1 := by
    unfold prod
    rw [← foldl_mul, ← List.foldl_append, List.take_append_drop]
  rw [h.product] at e
  exact Nat.le_of_dvd (by omega) ⟨_, e⟩

end Fac
end Go.Proofs.Ytocjhanehphibaa
/-
  The fast transform as a plain relation between lists. No program.
-/
set_option linter.unusedVariables false
set_option linter.unusedSimpArgs false
namespace Go.Proofs.Ytocjhanehphibaa
open Go Flt Turn
namespace Fast

/-- The rest of -j by division by n. -/
def rst (n j : Nat) : Nat := (n - j % n) % n
def twid (n j : Nat) : Z := turn n (rst n j)

/-- The numbers at r, r + p, r + 2 * p and so on. -/
def every (xs : List Z) (r p : Nat) : List Z := (List.range ((xs.length - r + p - 1) / p)).map fun i => xs.getD (r + i * p) z0

/-- The terms of a place. -/
def term (n : Nat) (ys : Nat → List Z) (k r : Nat) : Z := if r = 0 then (ys 0).getD k z0 else mulZ ((ys r).getD k z0) (twid n (r * k))

/-- The sum of the first j terms, turned. -/
def sumT (t : Nat → Z) (p q : Nat) : Nat → Z
  | 0 => t 0
  | j + 1 => if j = 0 then t 0 else addZ (sumT t p q j) (mulZ (t j) (twid p (j * q)))

def outP (n p : Nat) (ys : Nat → List Z) (k q : Nat) : Z :=
  if p = 2 then (if q = 0 then addZ (term n ys k 0) (term n ys k 1) else subZ (term n ys k 0) (term n ys k 1))
  else sumT (term n ys k) p q p

def joinP (n p : Nat) (ys : Nat → List Z) : List Z := (List.range n).map fun i => outP n p ys (i % (n / p)) (i / (n / p))

inductive Fast : List Z → List Z → Prop
  | small {xs : List Z} (h : xs.length ≤ 1) : Fast xs xs
  | step {xs : List Z} {p : Nat} {ys : Nat → List Z} (hn : 1 < xs.length) (hp : Fac.Least xs.length p) (h : ∀ r, r < p → Fast (every xs r p) (ys r)) : Fast xs (joinP xs.length p ys)

theorem term_congr {n p : Nat} {ys ys' : Nat → List Z} (h : ∀ r, r < p → ys r = ys' r) {k r : Nat} (hr : r < p) (hp : 0 < p) : term n ys k r = term n ys' k r := by
  unfold term
  split
  · rw [h 0 hp]
  · rw [h r hr]

theorem sumT_congr {t t' : Nat → Z} {p q : Nat} (hp : 0 < p) (h : ∀ r, r < p → t r = t' r) : ∀ j, j ≤ p → sumT t p q j = sumT t' p q j
  | 0, _ => h 0 hp
  | j + 1, hj => by
    unfold sumT
    split
    · exact h 0 hp
    · rw [sumT_congr hp h j (by omega), h j (by omega)]

theorem joinP_congr {n p : Nat} {ys ys' : Nat → List Z} (h : ∀ r, r < p → ys r = ys' r) (hp : 2 ≤ p) : joinP n p ys = joinP n p ys' := by
  unfold joinP
  congr 1
  funext i
  unfold outP
  split
  · rw [term_congr h (by omega) (by omega), term_congr h (r := 1) (by omega) (by omega)]
  · exact sumT_congr (by omega) (fun r hr => term_congr h hr (by omega)) p (Nat.le_refl _)

theorem Fast.unique {xs ys zs : List Z} (h : Fast xs ys) (h' : Fast xs zs) : ys = zs := by
  induction h generalizing zs with
  | small h =>
    cases h' with
    | small => rfl
    | step hn => omega
  | step hn hp _ ih =>
    cases h' with
    | small h => omega
    | step hn' hp' h' =>
      obtain rfl := hp.unique hp'
      exact joinP_congr (fun r hr => ih r hr (h' r hr)) hp.two

theorem joinP_length (n p : Nat) (ys : Nat → List Z) : (joinP n p ys).length = n := by simp [joinP]
theorem Fast.length {xs ys : List Z} (h : Fast xs ys) : ys.length = xs.length := by
  cases h with
  | small => rfl
  | step => exact joinP_length _ _ _

theorem joinP_getD {n p : Nat} {ys : Nat → List Z} {i : Nat} (h : i < n) : (joinP n p ys).getD i z0 = outP n p ys (i % (n / p)) (i / (n / p)) := by
  simp [joinP, List.getD, h]

/-- How many numbers a part has. -/
theorem every_length {xs : List Z} {r p m : Nat} (hp : 0 < p) (hn : xs.length = p * m) (hr : r < p) : (every xs r p).length = m := by
  unfold every
  rw [List.length_map, List.length_range, hn]
  by_cases hm : m = 0
  · subst hm
    rw [Nat.mul_zero, Nat.zero_sub, Nat.zero_add]
    exact Nat.div_eq_of_lt (by omega)
  · have h1 : p ≤ p * m := Nat.le_mul_of_pos_right _ (by omega)
    have e : p * m - r + p - 1 = (p - 1 - r) + m * p := by rw [Nat.mul_comm m p]; omega
    rw [e, Nat.add_mul_div_right _ _ hp, Nat.div_eq_of_lt (by omega), Nat.zero_add]

theorem every_getD {xs : List Z} {r p m i : Nat} (hp : 0 < p) (hn : xs.length = p * m) (hr : r < p) (hi : i < m) : (every xs r p).getD i z0 = xs.getD (r + i * p) z0 := by
  have hl := every_length hp hn hr
  unfold every at hl ⊢
  rw [List.length_map, List.length_range] at hl
  rw [hl]
  simp [List.getD, hi]

end Fast
end Go.Proofs.Ytocjhanehphibaa
/-
  The model's products and rests.
-/
set_option linter.unusedVariables false
set_option linter.unusedSimpArgs false
namespace Go.Proofs.Ytocjhanehphibaa
open Go.RowKit Flt Turn Fast
attribute [local go_sem] run_fadd run_fsub run_fmul run_fquo run_cadd run_csub

end Go.Proofs.Ytocjhanehphibaa
/-
  listOf over wide complex numbers, whatever makes them.
-/
set_option linter.unusedVariables false
set_option linter.unusedSimpArgs false
namespace Go.Proofs.Ytocjhanehphibaa
open Go.RowKit Flt Turn

set_option maxRecDepth 100000 in
set_option maxHeartbeats 4000000 in
theorem listOf_c128 (fn : Nat) (capt : Array Value) (n : Nat) (hn : n ≤ 1000000) (z : Nat → Option Nat × Option Nat) (I : Nat → World → Prop) (row : Option Nat) (w : World)
    (hfn : ∀ (args : Array Value) (w : World), (callFunc fn args).run Try.prog w = .ok (.enter fn args) w) (hrow : ∀ k, row = some k → k < w.heap.size) (hI0 : ∀ w', w.grownBy w' none → I 0 w')
    (hIs : ∀ i w1 w2, w.heap.size < w1.heap.size → I i w1 → w1.grownBy w2 (some w.heap.size) → I i w2)
    (hcall : ∀ i w1, i < n → w.heap.size < w1.heap.size → I i w1 → Calls Try.prog fn (#[.int .i64 (i : Int)] ++ capt) w1 fun e w2 => ∃ p : C, e = .returned (cval p) ∧ IsC p (z i) ∧ I (i + 1) w2 ∧ w1.grownBy w2 row) :
    Calls Try.prog 78 #[.int .i64 n, .func (.func fn) #[] capt] w fun e w' =>
      ∃ v xs, e = .returned v ∧ Row w' w.heap.size 30 v (cvals xs) ∧ xs.length = n ∧ (∀ i, i < n → IsC (xs.getD i (0, 0)) (z i)) ∧ I n w' ∧ w.grownBy w' row := by
  obtain ⟨i0, hi, hz0, hz1, hz2⟩ := info_parts info_c128
  have HC := Lib.hid hcall
  have HS := Lib.hid hIs
  have HI := Lib.hid hI0
  have HR := Lib.hid hrow
  clear hcall hIs hI0 hrow
  go_enter Try.func78, Try.ntmps78
  go_wp2_with (at_make; refine wpList_make_full _ rfl _ _ 24 rfl w.heap.size 30 i0 (.complex .f64 0 0) 1 Try.underlying24 hi hz0 hz1 .i64 .i64 _ _ n rfl rfl rfl rfl (by rw [hz2]; omega) (by simp only [maxLen]; omega) (Nat.le_refl _) ?_)
  intro w1 hown hg1
  rw [toList_madeCells_one] at hown
  have HO : Hid (Row w1 w.heap.size 30 (.slice (some ⟨w.heap.size, 0, none⟩) n n) (List.replicate n (.complex .f64 0 0))) := by
    show w1.ownsRow _ _ _ _ _ _
    simpa using hown
  have HG := Lib.hid hg1
  clear hown hg1 hi hz0 hz1 hz2
  go_wp2
  go_loopw [10] (fun i wr => ∃ (k : Nat) (xs : List C), i = .int .i64 k ∧ k ≤ n ∧ xs.length = k ∧ Row wr w.heap.size 30 (.slice (some ⟨w.heap.size, 0, none⟩) n n) (cvals xs ++ List.replicate (n - k) (.complex .f64 0 0)) ∧ (∀ j, j < k → IsC (xs.getD j (0, 0)) (z j)) ∧ I k wr ∧ w.grownBy wr row ∧ w.heap.size < wr.heap.size) (fun i _ => n - (intOf i).toNat)
  case atStart => exact ⟨0, [], rfl, Nat.zero_le _, rfl, HO.out, fun j hj => by omega, HI.out _ HG.out, grown_up HG.out _, (HO.out.lt _ rfl).2⟩
  case round =>
    obtain ⟨k, xs, rfl, hk, hx, hrw, hgd, hI, hg, hsz⟩ := hrel
    have HX := Lib.hid hx
    have HRW := Lib.hid hrw
    have HGD := Lib.hid hgd
    have HIk := Lib.hid hI
    have HGk := Lib.hid hg
    clear hx hrw hgd hI hg
    by_cases hlt : k < n
    · go_wp2_with fail
      refine (HC.out k wr hlt hsz HIk.out).mono ?_
      rintro e w2 ⟨⟨a, b⟩, rfl, hp, hI2, hg2⟩
      have hr2 := HRW.out.kept hg2 (.inr (fun e => by have := HR.out _ e.symm; simp at this))
      have hS := hr2.set k (cval (a, b))
      rw [fill_step hlt HX.out] at hS
      have hF := fill_good HX.out HGD.out hp
      have c1 := hr2.cellAt hlt
      have f1 := hr2.frozenAt k
      have hsz2 : w.heap.size < w2.heap.size := Nat.lt_of_lt_of_le hsz hg2.size
      have hI3 := HS.out _ _ _ hsz2 hI2 hS.2
      have hg3 := grown_new (HGk.out.trans hg2) hS.2 (Nat.le_refl _)
      have hsz3 : w.heap.size < (w2.setCell ⟨w.heap.size, k, none⟩ (cval (a, b))).heap.size := Nat.lt_of_lt_of_le hsz2 hS.2.size
      simp only [cval] at hS hI3 hg3 hsz3 ⊢
      obtain ⟨u, hu⟩ : ∃ u, (cvals xs ++ List.replicate (n - k) (Value.complex .f64 0 0)).getD k undef = u := ⟨_, rfl⟩
      rw [hu] at c1
      have HS2 := Lib.hid hS
      have HF := Lib.hid hF
      have HI3 := Lib.hid hI3
      have HG3 := Lib.hid hg3
      have HZ3 := Lib.hid hsz3
      clear hu hr2 hS hF hp hI2 hg2 hI3 hg3 hsz3
      go_wp2
      go_roundw
      case rel => exact ⟨k + 1, xs ++ [(a, b)], by go_num, by omega, HF.out.1, HS2.out.1, HF.out.2, HI3.out, HG3.out, HZ3.out⟩
      case measure => simp [intOf]; omega
    · have e : k = n := by omega
      subst e
      go_wp2
      go_ret
      refine ⟨_, xs, rfl, ?_, HX.out, HGD.out, HIk.out, HGk.out⟩
      have := HRW.out
      rwa [Nat.sub_self, List.replicate_zero, List.append_nil] at this

end Go.Proofs.Ytocjhanehphibaa
/-
  The walks of the factors of a number.
-/
set_option linter.unusedVariables false
set_option linter.unusedSimpArgs false
namespace Go.Proofs.Ytocjhanehphibaa
open Go.RowKit

theorem tmod_nat (n k : Nat) : (n : Int).tmod (k : Int) = ((n % k : Nat) : Int) := rfl
theorem tdiv_nat (n k : Nat) : (n : Int).tdiv (k : Int) = ((n / k : Nat) : Int) := rfl

theorem info_i64 : (Try.prog.info? 2).map (fun i => (i.zero, i.size, i.bytes)) = some (some (.int .i64 0), 1, 8) := by kernel_rfl

/-- A slice that owns these naturals, each a cell. -/
def OwnsN (w : World) (B : Nat) (v : Value) (xs : List Nat) : Prop := w.ownsRow B 2 1 v xs.length (xs.map fun (x : Nat) => Value.int .i64 (x : Int))

theorem pow_len {k m n : Nat} (h : 2 ^ k * m ≤ n) (hm : 1 ≤ m) (hn : n ≤ 1024) : k ≤ 10 := by
  apply Nat.le_of_not_lt
  intro hc
  have h1 : 2 ^ 11 ≤ 2 ^ k := Nat.pow_le_pow_right (by omega) hc
  have h2 : (2 : Nat) ^ 11 = 2048 := by decide
  have h3 : 2 ^ k * 1 ≤ 2 ^ k * m := Nat.mul_le_mul_left _ hm
  omega

/-- What a round of the factors does. -/
theorem fac_step {n m p : Nat} {xs : List Nat} (hm : 1 < m) (hp : Fac.Least m p) (hF : ∀ ys, Fac.Facs m ys → Fac.Facs n (xs ++ ys)) (hl : 2 ^ xs.length * m ≤ n) :
    (∀ ys, Fac.Facs (m / p) ys → Fac.Facs n ((xs ++ [p]) ++ ys)) ∧ 2 ^ (xs ++ [p]).length * (m / p) ≤ n ∧ 1 ≤ m / p ∧ m / p < m := by
  have hle := hp.le hm
  have h2 := hp.two
  have e : m / p * p = m := Nat.div_mul_cancel (Nat.dvd_of_mod_eq_zero hp.dvd)
  have h1 : 1 ≤ m / p := (Nat.le_div_iff_mul_le (by omega)).2 (by omega)
  have h3 : m / p * 2 ≤ m / p * p := Nat.mul_le_mul_left _ h2
  refine ⟨fun ys h => ?_, ?_, h1, by omega⟩
  · rw [List.append_assoc]
    exact hF _ (.more hm hp h)
  · simp only [List.length_append, List.length_cons, List.length_nil, Nat.zero_add, Nat.pow_succ]
    have : 2 ^ xs.length * (m / p * 2) ≤ 2 ^ xs.length * m := Nat.mul_le_mul_left _ (by omega)
    rw [Nat.mul_assoc, Nat.mul_comm 2 (m / p)]
    omega

/-- What FactorsOf returns: the factors, or an error. -/
def FR (n : Int) (zs : List Int) (c : Int) : Prop :=
  (∃ m : Nat, n = m ∧ 1 ≤ m ∧ m ≤ 1024 ∧ c = 0 ∧ ∃ xs, zs = xs.map (fun (x : Nat) => (x : Int)) ∧ Fac.Facs m xs) ∨ (¬ (1 ≤ n ∧ n ≤ 1024) ∧ zs = [] ∧ c = 2)

theorem FR.unique {n c c' : Int} {zs zs' : List Int} (h : FR n zs c) (h' : FR n zs' c') : zs = zs' ∧ c = c' := by
  rcases h with ⟨m, rfl, h1, h2, rfl, xs, rfl, hf⟩ | ⟨h1, rfl, rfl⟩
  · rcases h' with ⟨m', e, _, _, rfl, xs', rfl, hf'⟩ | ⟨h3, _⟩
    · obtain rfl : m = m' := by omega
      rw [hf.unique hf']; exact ⟨rfl, rfl⟩
    · omega
  · rcases h' with ⟨m', e, _, _, _⟩ | ⟨_, rfl, rfl⟩
    · omega
    · exact ⟨rfl, rfl⟩

theorem FR.len {n c : Int} {zs : List Int} (h : FR n zs c) : zs.length ≤ 10 := by
  rcases h with ⟨m, rfl, h1, h2, rfl, xs, rfl, hf⟩ | ⟨h1, rfl, rfl⟩
  · have := hf.len_le h2; simpa using this
  · simp

theorem OwnsN.row {w : World} {B : Nat} {v : Value} {xs : List Nat} (h : OwnsN w B v xs) : Row w B 2 v (ints (xs.map fun (x : Nat) => (x : Int))) := by
  unfold OwnsN at h
  unfold Row ints
  rw [List.length_map, List.length_map, List.map_map]
  exact h

end Go.Proofs.Ytocjhanehphibaa
/-
  The walk of the model's fast transform.
-/
set_option linter.unusedVariables false
set_option linter.unusedSimpArgs false
namespace Go.Proofs.Ytocjhanehphibaa
open Go.RowKit Flt Turn Fast
attribute [local go_sem] run_fadd run_fsub run_fmul run_fquo run_cadd run_csub

/-- Rows of different types lie in different blocks. -/
theorem Row.apart {w : World} {B B' : Nat} {e e' : TypeId} {v v' : Value} {cs cs' : List Value} (h : Row w B e v cs) (h' : Row w B' e' v' cs') (hne : e ≠ e') : v.ownBlock = none ∨ v.ownBlock ≠ v'.ownBlock := by
  rcases h.2 with ⟨rfl, _⟩ | ⟨g, cap, cur, rfl, _, hg, _⟩
  · exact .inl rfl
  · right
    rcases h'.2 with ⟨rfl, _⟩ | ⟨g', cap', cur', rfl, _, hg', _⟩
    · simp [Value.ownBlock]
    · intro e2
      simp only [Value.ownBlock, Option.some.injEq] at e2
      subst e2
      rw [hg] at hg'
      simp only [Option.some.injEq, Obj.cells.injEq] at hg'
      exact hne hg'.2.1

theorem info_rows : (Try.prog.info? 24).map (fun i => (i.zero, i.size, i.bytes)) = some (some (.slice none 0 0), 1, 24) := by kernel_rfl

/-- The first i numbers of a part. -/
def partN (xs : List C) (r p i : Nat) : List C := (List.range i).map fun t => xs.getD (r + t * p) (0, 0)
theorem partN_length (xs : List C) (r p i : Nat) : (partN xs r p i).length = i := by simp [partN]
theorem partN_succ (xs : List C) (r p i : Nat) : partN xs r p (i + 1) = partN xs r p i ++ [xs.getD (r + i * p) (0, 0)] := by simp [partN, List.range_succ]
theorem partN_wf {xs : List C} {r p i m : Nat} (hw : WfC xs) (hn : xs.length = p * m) (hr : r < p) (hi : i ≤ m) : WfC (partN xs r p i) := by
  intro q hq
  obtain ⟨t, ht, rfl⟩ := List.mem_map.1 hq
  have ht := List.mem_range.1 ht
  refine hw _ (getD_memC ?_)
  rw [hn]
  have : (t + 1) * p ≤ m * p := Nat.mul_le_mul_right _ (by omega)
  rw [Nat.add_mul, Nat.one_mul, Nat.mul_comm m p] at this
  omega
theorem part_every {xs : List C} {r p m : Nat} (hp : 0 < p) (hn : xs.length = p * m) (hr : r < p) : zsOf (partN xs r p m) = every (zsOf xs) r p := by
  have hl : (every (zsOf xs) r p).length = m := every_length hp (by rw [zsOf_length, hn]) hr
  unfold every at hl ⊢
  rw [List.length_map, List.length_range] at hl
  rw [hl]
  unfold zsOf partN
  rw [List.map_map]
  apply List.map_congr_left
  intro t ht
  have ht := List.mem_range.1 ht
  have hlt : r + t * p < xs.length := by
    rw [hn]
    have : (t + 1) * p ≤ m * p := Nat.mul_le_mul_right _ (by omega)
    rw [Nat.add_mul, Nat.one_mul, Nat.mul_comm m p] at this
    omega
  exact (zsOf_getD hlt).symm

/-- What the fast transform returns. -/
def FastR (xs : List C) (w : World) (e : Ending) (w' : World) : Prop :=
  ∃ v ys, e = .returned v ∧ Row w' w.heap.size 30 v (cvals ys) ∧ WfC ys ∧ Fast (zsOf xs) (zsOf ys) ∧ Below w.heap.size w w'

theorem row_one {w : World} {B : Nat} {e : TypeId} {v : Value} {cs : List Value} (h : Row w B e v cs) : v.oneCell' = true := by
  rcases h.2 with ⟨rfl, _⟩ | ⟨g, cap, cur, rfl, _⟩ <;> rfl

/-- A row that is not empty, as the walk reads it. -/
theorem Row.get {w : World} {B : Nat} {e : TypeId} {v : Value} {ys : List C} {m : Nat} (h : Row w B e v (cvals ys)) (hl : ys.length = m) (hm : 0 < m) :
    ∃ g cap, v = .slice (some ⟨g, 0, none⟩) m cap ∧ m ≤ cap ∧ g < w.heap.size ∧ ∀ j, j < m → w.cell? ⟨g, j, none⟩ = some (.complex .f64 (ys.getD j (0, 0)).1 (ys.getD j (0, 0)).2) := by
  have h' := h
  have hl' : (cvals ys).length = m := by rw [cvals_length, hl]
  rcases h.shape with ⟨a, cap, rfl, e⟩ | ⟨g, cap, rfl, h0, _, hg, hc, _⟩
  · rw [e] at hl'; simp at hl'; omega
  · rw [hl'] at hc h' ⊢
    exact ⟨g, cap, rfl, hc, hg, fun j hj => by rw [h'.cellAt hj, cvals_getD (by omega)]⟩

/-- A row of whatever values that is not empty. -/
theorem Row.getV {w : World} {B : Nat} {e : TypeId} {v : Value} {cs : List Value} {m : Nat} (h : Row w B e v cs) (hl : cs.length = m) (hm : 0 < m) :
    ∃ g cap, v = .slice (some ⟨g, 0, none⟩) m cap ∧ m ≤ cap ∧ g < w.heap.size ∧ ∀ j, j < m → w.cell? ⟨g, j, none⟩ = some (cs.getD j undef) := by
  have h' := h
  rcases h.shape with ⟨a, cap, rfl, e⟩ | ⟨g, cap, rfl, h0, _, hg, hc, _⟩
  · rw [e] at hl; simp at hl; omega
  · rw [hl] at hc h' ⊢
    exact ⟨g, cap, rfl, hc, hg, fun j hj => h'.cellAt hj⟩

theorem Row.heap {w w' : World} {B : Nat} {e : TypeId} {v : Value} {cs : List Value} (h : Row w B e v cs) (e2 : w'.heap = w.heap) : Row w' B e v cs := by
  unfold Row World.ownsRow at *
  rw [e2]
  exact h

/-- What the second loop fills. -/
structure Outs (W wr : World) (n m p k : Nat) (zy : Nat → List Z) (os : List C) : Prop where
  len : os.length = n
  row : Row wr W.heap.size 30 (.slice (some ⟨W.heap.size, 0, none⟩) n n) (cvals os)
  wf : WfC os
  good : ∀ i, i < n → i % m < k → (zsOf os).getD i z0 = outP n p zy (i % m) (i / m)
  below : Below W.heap.size W wr

theorem Outs.all {W wr : World} {n m p : Nat} {zy : Nat → List Z} {os : List C} (h : Outs W wr n m p m zy os) (hm : 0 < m) (hd : n / p = m) : zsOf os = joinP n p zy := by
  apply List.ext_getElem (by rw [zsOf_length, h.len, joinP_length])
  intro i h1 h2
  rw [joinP_length] at h2
  have e := h.good i h2 (Nat.mod_lt _ hm)
  have e2 := joinP_getD (p := p) (ys := zy) h2
  rw [hd] at e2
  rw [← e2] at e
  simpa [List.getD, h1, joinP_length, h2] using e

theorem wfC_snoc2 {xs : List C} {p q : Nat} (h : WfC xs) (hp : p < 18446744073709551616) (hq : q < 18446744073709551616) : WfC (xs ++ [(p, q)]) := by
  intro u hu
  rcases List.mem_append.1 hu with h1 | h1
  · exact h u h1
  · rw [List.mem_singleton.1 h1]; exact ⟨hp, hq⟩

/-- The terms of a round. -/
structure Terms (W wr : World) (n k r : Nat) (zy : Nat → List Z) (v : Value) (ts : List C) : Prop where
  len : ts.length = r
  row : Row wr W.heap.size 30 v (cvals ts)
  wf : WfC ts
  good : ∀ i, i < r → (zsOf ts).getD i z0 = term n zy k i
  below : Below W.heap.size W wr

/-- One term more. -/
theorem Terms.next {W wt w2 : World} {n k s nn : Nat} {zy : Nat → List Z} {v v' : Value} {ts : List C} {c d : Nat} {o : Obj} (h : Terms W wt n k s zy v ts) (hown : w2.ownsRow W.heap.size 30 1 v' (s + 1) (cvals ts ++ [.complex .f64 c d]))
    (hgr : ((wt.drewN nn).alloc o).grownBy w2 v.ownBlock) (hcd : IsC (c, d) (term n zy k s)) : Terms W w2 n k (s + 1) zy v' (ts ++ [(c, d)]) := by
  have hl : (cvals ts).length = s := by rw [cvals_length, h.len]
  have hlt := (h.row.alloc o).lt
  refine ⟨by rw [List.length_append, h.len]; rfl, ?_, wfC_snoc2 h.wf hcd.re.lt hcd.im.lt, fun i hi => ?_, ?_⟩
  · show w2.ownsRow _ _ _ _ _ _
    rw [cvals_snoc, List.length_append, hl]
    exact hown
  · have hlz : (zsOf ts).length = s := by rw [zsOf_length, h.len]
    have e : zsOf (ts ++ [(c, d)]) = zsOf ts ++ [zOf (c, d)] := by simp [zsOf]
    rw [e]
    rcases Nat.lt_or_eq_of_le (Nat.le_of_lt_succ hi) with h1 | h1
    · rw [show (zsOf ts ++ [zOf (c, d)]).getD i z0 = (zsOf ts).getD i z0 by simp [List.getD, List.getElem?_append_left, hlz, h1]]
      exact h.good i h1
    · subst h1
      rw [show (zsOf ts ++ [zOf (c, d)]).getD i z0 = zOf (c, d) by simp [List.getD, ← hlz]]
      unfold zOf
      rw [hcd.re.cn, hcd.im.cn]
  · exact (below_draws h.below nn).alloc h.below.size o |>.grown hgr (by have := h.below.size; show _ ≤ (wt.alloc o).heap.size; simp; omega) (fun b e => (hlt b e).1)

/-- What the first loop gathers: the transforms of the parts. -/
structure Parts (w wr : World) (xs : List C) (p r : Nat) (v6 : Value) (vs : List Value) (ys : Nat → List C) : Prop where
  len : vs.length = r
  row : Row wr w.heap.size 24 v6 vs
  each : ∀ i, i < r → Row wr w.heap.size 30 (vs.getD i undef) (cvals (ys i)) ∧ WfC (ys i) ∧ Fast (every (zsOf xs) i p) (zsOf (ys i))
  below : Below w.heap.size w wr

/-- The parts stay while new blocks are made. -/
theorem Parts.below' {w wr wq : World} {xs : List C} {p r : Nat} {v6 : Value} {vs : List Value} {ys : Nat → List C} (h : Parts w wr xs p r v6 vs ys) (hb : Below wr.heap.size wr wq) : Parts w wq xs p r v6 vs ys :=
  ⟨h.len, h.row.below hb (fun k hk => (h.row.lt k hk).2), fun i hi => ⟨(h.each i hi).1.below hb (fun k hk => ((h.each i hi).1.lt k hk).2), (h.each i hi).2⟩, h.below.trans (hb.mono h.below.size)⟩

/-- One part more. -/
theorem Parts.next {w w2 w3 : World} {xs : List C} {p r B2 : Nat} {v6 v6' v' : Value} {vs : List Value} {ys : Nat → List C} {y : List C} (h : Parts w w2 xs p r v6 vs ys)
    (hv : Row w2 B2 30 v' (cvals y)) (hB2 : w.heap.size ≤ B2) (hw : WfC y) (hf : Fast (every (zsOf xs) r p) (zsOf y)) (hr6 : Row w3 w.heap.size 24 v6' (vs ++ [v'])) (hg : w2.grownBy w3 v6.ownBlock) :
    Parts w w3 xs p (r + 1) v6' (vs ++ [v']) (fun i => if i = r then y else ys i) := by
  have ne : (30 : TypeId) ≠ 24 := by decide
  refine ⟨by simp [h.len], hr6, fun i hi => ?_, h.below.grown hg h.below.size (fun b e => (h.row.lt b e).1)⟩
  by_cases hir : i = r
  · subst hir
    rw [if_pos rfl, show (vs ++ [v']).getD i undef = v' by simp [List.getD, ← h.len]]
    exact ⟨(hv.base hB2).kept hg (hv.apart h.row ne), hw, hf⟩
  · rw [if_neg hir, show (vs ++ [v']).getD i undef = vs.getD i undef by simp [List.getD, List.getElem?_append_left, h.len, show i < r by omega]]
    obtain ⟨a, b⟩ := h.each i (by omega)
    exact ⟨a.kept hg (a.apart h.row ne), b⟩

/-- What has been filled of a column. -/
structure OutsQ (W wr : World) (n m p k q : Nat) (zy : Nat → List Z) (os : List C) : Prop where
  len : os.length = n
  row : Row wr W.heap.size 30 (.slice (some ⟨W.heap.size, 0, none⟩) n n) (cvals os)
  wf : WfC os
  good : ∀ i, i < n → (i % m < k ∨ i % m = k ∧ i / m < q) → (zsOf os).getD i z0 = outP n p zy (i % m) (i / m)
  below : Below W.heap.size W wr

theorem Outs.start {W wr wq : World} {n m p k : Nat} {zy : Nat → List Z} {os : List C} (h : Outs W wr n m p k zy os) (hb : Below wr.heap.size wr wq) : OutsQ W wq n m p k 0 zy os :=
  ⟨h.len, h.row.below hb (fun j hj => (h.row.lt j hj).2), h.wf, fun i hi hc => h.good i hi (hc.resolve_right (fun e => Nat.not_lt_zero _ e.2)), h.below.trans (hb.mono h.below.size)⟩

theorem OutsQ.draws {W wr : World} {n m p k q : Nat} {zy : Nat → List Z} {os : List C} (h : OutsQ W wr n m p k q zy os) (nn : Nat) : OutsQ W (wr.drewN nn) n m p k q zy os :=
  ⟨h.len, h.row.drewN nn, h.wf, h.good, below_draws h.below nn⟩

theorem OutsQ.done {W wr : World} {n m p k : Nat} {zy : Nat → List Z} {os : List C} (h : OutsQ W wr n m p k p zy os) (hn : n = p * m) (hm : 0 < m) : Outs W wr n m p (k + 1) zy os :=
  ⟨h.len, h.row, h.wf, fun i hi hc => h.good i hi (by
    have : i / m < p := Nat.div_lt_of_lt_mul (by rw [Nat.mul_comm]; omega)
    omega), h.below⟩

theorem OutsQ.next {W wr : World} {n m p k q : Nat} {zy : Nat → List Z} {os : List C} {c d : Nat} (h : OutsQ W wr n m p k q zy os) (hk : k < m) (hi : k + q * m < n) (hcd : IsC (c, d) (outP n p zy k q)) :
    OutsQ W (wr.setCell ⟨W.heap.size, k + q * m, none⟩ (.complex .f64 c d)) n m p k (q + 1) zy (os.set (k + q * m) (c, d)) := by
  have hS := h.row.set (k + q * m) (.complex .f64 c d)
  have hm : 0 < m := by omega
  have e1 : (k + q * m) % m = k := by rw [Nat.add_mul_mod_self_right, Nat.mod_eq_of_lt hk]
  have e2 : (k + q * m) / m = q := by rw [Nat.add_mul_div_right _ _ hm, Nat.div_eq_of_lt hk, Nat.zero_add]
  refine ⟨by rw [List.length_set, h.len], ?_, fun u hu => ?_, fun i hi' hc => ?_, h.below.setCell (p := ⟨W.heap.size, k + q * m, none⟩) (Nat.le_refl _) _⟩
  · have : cvals (os.set (k + q * m) (c, d)) = (cvals os).set (k + q * m) (.complex .f64 c d) := by simp [cvals, cval, List.map_set]
    rw [this]; exact hS.1
  · rcases List.mem_or_eq_of_mem_set hu with h1 | rfl
    · exact h.wf u h1
    · exact ⟨hcd.re.lt, hcd.im.lt⟩
  · have ez : zsOf (os.set (k + q * m) (c, d)) = (zsOf os).set (k + q * m) (zOf (c, d)) := by simp [zsOf, List.map_set]
    rw [ez]
    by_cases he : k + q * m = i
    · subst he
      rw [e1, e2]
      rw [show ((zsOf os).set (k + q * m) (zOf (c, d))).getD (k + q * m) z0 = zOf (c, d) by simp [List.getD, zsOf_length, h.len, hi]]
      unfold zOf
      rw [hcd.re.cn, hcd.im.cn]
    · rw [show ((zsOf os).set (k + q * m) (zOf (c, d))).getD i z0 = (zsOf os).getD i z0 by simp [List.getD, he]]
      refine h.good i hi' ?_
      rcases hc with h1 | ⟨h1, h2⟩
      · exact .inl h1
      · refine .inr ⟨h1, ?_⟩
        have : i / m ≠ q := fun e => he (by rw [← e, ← h1, Nat.mul_comm]; exact Nat.mod_add_div i m)
        omega

/-- The row of the terms stays while a number of the result is written. -/
theorem Row.far {w : World} {B g j : Nat} {e : TypeId} {v u : Value} {cs : List Value} (h : Row w B e v cs) (hg : g < B) : Row (w.setCell ⟨g, j, none⟩ u) B e v cs := by
  refine ⟨h.1, ?_⟩
  · rcases h.2 with hn | ⟨g', cap, cur, rfl, hb, hc, r⟩
    · exact .inl hn
    · refine .inr ⟨g', cap, cur, rfl, hb, ?_, r⟩
      rw [Below.heap_setCell _ _ _ _ (by show g' ≠ g; omega)]
      exact hc

theorem one_single (a b : Nat) : ∀ u ∈ [Value.complex .f64 a b], u.oneCell' = true := by intro u hu; simp at hu; subst hu; rfl

end Go.Proofs.Ytocjhanehphibaa
/-
  mapSignal, whatever function is taken (written by genmap.py).
-/
set_option linter.unusedVariables false
set_option linter.unusedSimpArgs false
namespace Go.Proofs.Ytocjhanehphibaa
open Go.RowKit Flt Fast

/-- Narrow complex numbers as values. -/
def nval (p : C) : Value := .complex .f32 p.1 p.2
def nvals (xs : List C) : List Value := xs.map nval
theorem nvals_length (xs : List C) : (nvals xs).length = xs.length := by simp [nvals]
theorem nvals_getD {xs : List C} {j : Nat} (h : j < xs.length) : (nvals xs).getD j undef = .complex .f32 (xs.getD j (0, 0)).1 (xs.getD j (0, 0)).2 := getD_map _ xs (0, 0) h
def fval (x : Nat) : Value := .float .f64 x
def fvals (xs : List Nat) : List Value := xs.map fval
theorem fvals_length (xs : List Nat) : (fvals xs).length = xs.length := by simp [fvals]
theorem fvals_getD {xs : List Nat} {j : Nat} (h : j < xs.length) : (fvals xs).getD j undef = .float .f64 (xs.getD j 0) := getD_map _ xs 0 h
theorem info_c64 : (Try.prog.info? 36).map (fun i => (i.zero, i.size, i.bytes)) = some (some (.complex .f32 0 0), 1, 8) := by kernel_rfl
theorem info_f64' : (Try.prog.info? 55).map (fun i => (i.zero, i.size, i.bytes)) = some (some (.float .f64 0), 1, 8) := by kernel_rfl

/-- The next place of a row that is being filled. -/
theorem fillV {vs : List Value} {n k : Nat} (hk : k < n) (hx : vs.length = k) (z u : Value) :
    (vs ++ List.replicate (n - k) z).set k u = (vs ++ [u]) ++ List.replicate (n - (k + 1)) z := by
  rw [List.set_append_right _ _ (by omega), hx, Nat.sub_self]
  obtain ⟨m, hm⟩ : ∃ m, n - k = m + 1 := ⟨n - k - 1, by omega⟩
  rw [hm, List.replicate_succ, List.set_cons_zero, show n - (k + 1) = m by omega, List.append_assoc]
  rfl

theorem snocGood {α : Type} {d : α} {xs : List α} {p : α} {k : Nat} {G : Nat → α → Prop} (hx : xs.length = k) (hg : ∀ i, i < k → G i (xs.getD i d)) (hp : G k p) :
    (xs ++ [p]).length = k + 1 ∧ ∀ i, i < k + 1 → G i ((xs ++ [p]).getD i d) := by
  refine ⟨by simp [hx], fun i hi => ?_⟩
  rcases Nat.lt_or_eq_of_le (Nat.le_of_lt_succ hi) with h | h
  · rw [show (xs ++ [p]).getD i d = xs.getD i d by simp [List.getD, List.getElem?_append_left, hx, h]]
    exact hg i h
  · subst h
    rw [show (xs ++ [p]).getD i d = p by simp [List.getD, ← hx]]
    exact hp

/-- What lies in a row stays behind whatever leaves the blocks that are there. -/
theorem Reads.below {w w' : World} {v : Value} {cs : List Value} (h : Reads w v cs) (hb : Below w.heap.size w w') : Reads w' v cs := by
  cases h with
  | none a cap => exact .none a cap
  | row g cap L cs hL h0 hc hm hh => exact .row g cap L cs hL h0 hc hm fun j hj => by rw [hb.cell (World.block_lt_of_cell? _ _ (hh j hj)), hh j hj]

/-- What mapSignal returns. -/
def MapsTo {α : Type} (e : TypeId) (val : List α → List Value) (d : α) (n : Nat) (G : Nat → α → Prop) (w : World) (en : Ending) (w' : World) : Prop :=
  ∃ v qs, en = .returned (.tuple #[v, .int .i64 0]) ∧ Row w' w.heap.size e v (val qs) ∧ qs.length = n ∧ (∀ i, i < n → G i (qs.getD i d)) ∧ Below w.heap.size w w'

end Go.Proofs.Ytocjhanehphibaa
/-
  sumOfTerms over floats and over wide complex numbers.
-/
set_option linter.unusedVariables false
set_option linter.unusedSimpArgs false
namespace Go.Proofs.Ytocjhanehphibaa
open Go.RowKit Flt Fast
attribute [local go_sem] run_fadd run_fsub run_fmul run_fquo run_cadd run_csub

/-- The sum of the first n terms, from left to right. -/
def sumO (z : Nat → Option Nat) : Nat → Option Nat
  | 0 => some 0
  | n + 1 => if n = 0 then z 0 else fop .add .f64 (sumO z n) (z n)
def sumC (z : Nat → Z) : Nat → Z
  | 0 => z0
  | n + 1 => if n = 0 then z 0 else addZ (sumC z n) (z n)
theorem sumO_one (z : Nat → Option Nat) : sumO z 1 = z 0 := rfl
theorem sumO_succ (z : Nat → Option Nat) {n : Nat} (h : n ≠ 0) : sumO z (n + 1) = fop .add .f64 (sumO z n) (z n) := by rw [sumO, if_neg h]
theorem sumC_one (z : Nat → Z) : sumC z 1 = z 0 := rfl
theorem sumC_succ (z : Nat → Z) {n : Nat} (h : n ≠ 0) : sumC z (n + 1) = addZ (sumC z n) (z n) := by rw [sumC, if_neg h]

end Go.Proofs.Ytocjhanehphibaa
/-
  What a call leaves that may fill one cache: blocks below B, but for the cache, stay.
-/
set_option linter.unusedVariables false
set_option linter.unusedSimpArgs false
namespace Go.Proofs.Ytocjhanehphibaa
open Go.RowKit Flt Turn Fast

structure Keeps (B b : Nat) (w w' : World) : Prop where
  os : w'.os = w.os
  tape : w'.tape = w.tape
  output : w'.output = w.output
  size : w.heap.size ≤ w'.heap.size
  block : ∀ k, k < B → k ≠ b → w'.heap[k]? = w.heap[k]?

section
variable {B b : Nat} {w w1 w2 : World}
theorem Keeps.refl (B b : Nat) (w : World) : Keeps B b w w := ⟨rfl, rfl, rfl, Nat.le_refl _, fun _ _ _ => rfl⟩
theorem Keeps.trans (h : Keeps B b w w1) (k : Keeps B b w1 w2) : Keeps B b w w2 :=
  ⟨k.os.trans h.os, k.tape.trans h.tape, k.output.trans h.output, Nat.le_trans h.size k.size, fun i hi hb => (k.block i hi hb).trans (h.block i hi hb)⟩
theorem Keeps.mono {B' : Nat} (h : Keeps B b w w1) (hB : B' ≤ B) : Keeps B' b w w1 := ⟨h.os, h.tape, h.output, h.size, fun k hk hb => h.block k (Nat.lt_of_lt_of_le hk hB) hb⟩
theorem Keeps.of_below (h : Below B w w1) : Keeps B b w w1 := ⟨h.os, h.tape, h.output, h.size, fun k hk _ => h.block k hk⟩
theorem Keeps.of_grown (h : w.grownBy w1 (some b)) : Keeps w.heap.size b w w1 := ⟨h.os, h.tape, h.output, h.size, fun k hk hb => h.block k hk (by simpa using hb)⟩
theorem Keeps.below (h : Keeps B b w w1) (k : Below w1.heap.size w1 w2) (hB : B ≤ w1.heap.size) : Keeps B b w w2 := h.trans (.of_below (k.mono hB))
theorem Keeps.grown (h : Keeps B b w w1) (k : w1.grownBy w2 (some b)) (hB : B ≤ w1.heap.size) : Keeps B b w w2 := h.trans ((Keeps.of_grown k).mono hB)
theorem Keeps.keeps (h : Keeps B b w w1) (k : Keeps w1.heap.size b w1 w2) (hB : B ≤ w1.heap.size) : Keeps B b w w2 := h.trans (k.mono hB)
theorem Keeps.draws (h : Keeps B b w w1) (n : Nat) : Keeps B b w (w1.drewN n) := ⟨h.os, h.tape, h.output, h.size, h.block⟩
theorem Keeps.alloc (h : Keeps B b w w1) (hB : B ≤ w1.heap.size) (o : Obj) : Keeps B b w (w1.alloc o) := h.trans (.of_below ((Below.refl _ _).alloc hB o))
theorem Keeps.setCell (h : Keeps B b w w1) {p : Addr} (hp : B ≤ p.block) (u : Value) : Keeps B b w (w1.setCell p u) := h.trans (.of_below ((Below.refl _ _).setCell hp u))
theorem Keeps.cell (h : Keeps B b w w1) {p : Addr} (hp : p.block < B) (hb : p.block ≠ b) : w1.cell? p = w.cell? p := World.cell?_of_block (w := w) (h.block p.block hp hb)
theorem Keeps.frozen (h : Keeps B b w w1) {p : Addr} (hp : p.block < B) (hb : p.block ≠ b) : w1.frozen? p = w.frozen? p := World.frozen?_of_block (w := w) (h.block p.block hp hb)

/-- A row is no cache. -/
theorem Row.notCache {B c : Nat} {e : TypeId} {v : Value} {cs : List Value} (h : Row w B e v cs) (hc : Cache w b c) : v.ownBlock ≠ some b := by
  intro e1
  obtain ⟨es, clock, hb, _⟩ := hc
  rcases h.2 with ⟨rfl, _⟩ | ⟨g, cap, cur, rfl, _, hg, _⟩
  · cases e1
  · simp only [Value.ownBlock, Option.some.injEq] at e1
    subst e1
    rw [hb] at hg
    cases hg
theorem Row.keeps {B' : Nat} {e : TypeId} {v : Value} {cs : List Value} (h : Row w B' e v cs) (hk : Keeps B b w w1) (hv : ∀ k, v.ownBlock = some k → k < B) (hb : v.ownBlock ≠ some b) : Row w1 B' e v cs := by
  refine ⟨h.1, ?_⟩
  rcases h.2 with hn | ⟨g, cap, cur, rfl, hbb, hgg, rest⟩
  · exact .inl hn
  · refine .inr ⟨g, cap, cur, rfl, hbb, ?_, rest⟩
    rw [hk.block g (hv g (by simp [Value.ownBlock])) (fun e => hb (by rw [← e]; rfl))]
    exact hgg
theorem Row.grownK {B' : Nat} {e : TypeId} {v : Value} {cs : List Value} {c : Nat} (h : Row w B' e v cs) (hc : Cache w b c) (hk : w.grownBy w1 (some b)) : Row w1 B' e v cs :=
  h.keeps (Keeps.of_grown hk) (fun k e => (h.lt k e).2) (h.notCache hc)
theorem Cache.below {c : Nat} (h : Cache w b c) (hb : Below w.heap.size w w1) : Cache w1 b c := h.kept (grown_of_below hb) (by simp)
theorem cell_notCache {p : Addr} {c : Nat} {v : Value} (h : w.cell? p = some v) (hc : Cache w b c) : p.block ≠ b := by
  intro e
  obtain ⟨es, clock, hb, _⟩ := hc
  unfold World.cell? at h
  rw [e, hb] at h
  cases h
end

theorem readsAt' {w : World} {v : Value} {xs : List C} (h : Reads w v (cvals xs)) : ∀ a n cap, v = .slice a n cap → ∀ k, k < n → ∃ g, a = some ⟨g, 0, none⟩ ∧ g < w.heap.size ∧ w.cell? ⟨g, k, none⟩ = some (.complex .f64 (xs.getD k (0, 0)).1 (xs.getD k (0, 0)).2) := by
  intro a n cap e k hk
  generalize hcs : cvals xs = cs at h
  cases h with
  | none a' cap' => simp only [Value.slice.injEq] at e; omega
  | row g cap' L cs hL h0 hc hm hcell =>
    simp only [Value.slice.injEq] at e
    obtain ⟨rfl, rfl, rfl⟩ := e
    have c := hcell k hk
    rw [← hcs, cvals_getD (by rw [← hcs, cvals_length] at hL; omega)] at c
    exact ⟨g, rfl, World.block_lt_of_cell? _ _ c, c⟩

/-- The shape of what is read. -/
theorem Reads.form' {w : World} {v : Value} {cs : List Value} (h : Reads w v cs) : ∃ a cap, v = .slice a cs.length cap := by
  cases h with
  | none a cap => exact ⟨a, cap, rfl⟩
  | row g cap L cs hL => subst hL; exact ⟨_, cap, rfl⟩

end Go.Proofs.Ytocjhanehphibaa
