/-
  Several texts of this claim, one behind the other; each says what it holds.
-/
import Derived.Test.YteamnfockjnilaaMBins7
/-
  Real pairs: halves of sums and differences. No program.
-/
set_option linter.unusedVariables false
set_option linter.unusedSimpArgs false
namespace Go.Proofs.Yteamnfockjnilaa
open Go Flt
namespace Flt
open Turn Fast Ieee

def hlf (a : Option Nat) : Option Nat := fop .mul .f64 a (some 4602678819172646912)
theorem half_dy : double.read 4602678819172646912 = double.read 4602678819172646912 := rfl
theorem has_half' : Has 4602678819172646912 (1 / 2) := by
  have h1 : Has 4607182418800017408 1 := has_int (n := 1) (by decide) (by decide)
  have h2 : Has 4611686018427387904 2 := has_int (n := 2) (by decide) (by decide)
  have hd : Dy 1 1 ((1 : Rat) / 2) := ⟨1, by decide, by rw [show two 1 = 2 from rfl]; decide +kernel⟩
  have := hd.fv_div (by decide) (by decide) (by decide) h1.fv h2.fv
  obtain ⟨u, e, hu, hq⟩ := this
  have e' : fop .quo .f64 (some 4607182418800017408) (some 4611686018427387904) = some 4602678819172646912 := by decide +kernel
  rw [e'] at e
  cases e
  exact ⟨hu, hq⟩

theorem hlf_zero {a : Option Nat} (h : Fv a 0) : Fv (hlf a) 0 := fv_mul_zero h has_half'.fv (Rat.zero_mul _)
theorem hlf_near {s : Option Nat} {r T B : Rat} {d : Rat} (hs : Fv s r) (hr : Near r T d) (hT : Size T B) (hd : d ≤ B) (hB1 : 1 / 16 ≤ B) (hB2 : B ≤ 8388608) : ∃ v, Fv (hlf s) v ∧ Near v (T / 2) (d / 2 + 2 * (B * ulp)) := by
  have hsz : Size (r * (1 / 2)) B := by
    obtain ⟨a, b⟩ := hT
    obtain ⟨c, e⟩ := hr
    constructor <;> grind
  obtain ⟨v, h1, h2⟩ := fmul_near hs has_half'.fv hsz (by grind)
  refine ⟨v, h1, ?_⟩
  have ht := tiny_le
  have hu : 4503599627370496 * (B * ulp) = B := by
    have : 4503599627370496 * ulp = 1 := by decide +kernel
    grind
  obtain ⟨c, e⟩ := hr
  obtain ⟨a, b⟩ := h2
  generalize B * ulp = U at *
  clear h1 hs hsz hT
  constructor <;> grind
theorem pair_add {a b : Option Nat} {p q P Q e f S : Rat} (ha : Fv a p) (hb : Fv b q) (hp : Near p P e) (hq : Near q Q f) (hs : Size (P + Q) (21 / 10 * S)) (hef : e + f ≤ S / 20) (hef0 : 0 ≤ e + f) (h1 : 1 / 16 ≤ S) (h2 : S ≤ 1048576) : ∃ v, Fv (hlf (fop .add .f64 a b)) v ∧ Near v ((P + Q) / 2) ((e + f) / 2 + 20 * (S * ulp)) := by
  have hsz : Size (p + q) (3 * S) := by
    obtain ⟨a, b⟩ := hs; obtain ⟨c, d⟩ := hp; obtain ⟨g, h⟩ := hq
    constructor <;> grind
  obtain ⟨r, r1, r2⟩ := fadd_near ha hb hsz (by grind)
  have ht := tiny_le
  have hu : 4503599627370496 * (S * ulp) = S := by
    have : 4503599627370496 * ulp = 1 := by decide +kernel
    grind
  have e3 : 3 * S * ulp = 3 * (S * ulp) := by grind
  rw [e3] at r2
  have hr : Near r (P + Q) (e + f + 4 * (S * ulp)) := by
    obtain ⟨c, d⟩ := hp; obtain ⟨g, h⟩ := hq; obtain ⟨i, j⟩ := r2
    generalize S * ulp = U at *
    constructor <;> grind
  obtain ⟨v, v1, v2⟩ := hlf_near (B := 3 * S) r1 hr (by obtain ⟨a, b⟩ := hs; constructor <;> grind) (by generalize S * ulp = U at *; grind) (by grind) (by grind)
  refine ⟨v, v1, ?_⟩
  rw [e3] at v2
  obtain ⟨i, j⟩ := v2
  generalize S * ulp = U at *
  clear hs hp hq r1 r2 hr v1 ha hb hsz
  constructor <;> grind
theorem pair_sub {a b : Option Nat} {p q P Q e f S : Rat} (ha : Fv a p) (hb : Fv b q) (hp : Near p P e) (hq : Near q Q f) (hs : Size (P - Q) (21 / 10 * S)) (hef : e + f ≤ S / 20) (hef0 : 0 ≤ e + f) (h1 : 1 / 16 ≤ S) (h2 : S ≤ 1048576) : ∃ v, Fv (hlf (fop .sub .f64 a b)) v ∧ Near v ((P - Q) / 2) ((e + f) / 2 + 20 * (S * ulp)) := by
  have hsz : Size (p - q) (3 * S) := by
    obtain ⟨a, b⟩ := hs; obtain ⟨c, d⟩ := hp; obtain ⟨g, h⟩ := hq
    constructor <;> grind
  obtain ⟨r, r1, r2⟩ := fsub_near ha hb hsz (by grind)
  have ht := tiny_le
  have hu : 4503599627370496 * (S * ulp) = S := by
    have : 4503599627370496 * ulp = 1 := by decide +kernel
    grind
  have e3 : 3 * S * ulp = 3 * (S * ulp) := by grind
  rw [e3] at r2
  have hr : Near r (P - Q) (e + f + 4 * (S * ulp)) := by
    obtain ⟨c, d⟩ := hp; obtain ⟨g, h⟩ := hq; obtain ⟨i, j⟩ := r2
    generalize S * ulp = U at *
    constructor <;> grind
  obtain ⟨v, v1, v2⟩ := hlf_near (B := 3 * S) r1 hr (by obtain ⟨a, b⟩ := hs; constructor <;> grind) (by generalize S * ulp = U at *; grind) (by grind) (by grind)
  refine ⟨v, v1, ?_⟩
  rw [e3] at v2
  obtain ⟨i, j⟩ := v2
  generalize S * ulp = U at *
  clear hs hp hq r1 r2 hr v1 ha hb hsz
  constructor <;> grind

/-- The two transforms of a pair, exactly. -/
def reQ (x : Nat → Q2) (j : Nat) : Q2 := ((x j).1, 0)
def imQ (x : Nat → Q2) (j : Nat) : Q2 := ((x j).2, 0)
theorem dft_pair (x : Nat → Q2) (n k : Nat) : dft x n k = addQ (dft (reQ x) n k) (mulQ (dft (imQ x) n k) (0, 1)) := by
  unfold dft
  rw [sumQ_mul, ← sumQ_add]
  refine sumQ_congr fun j _ => ?_
  show mulQ (x j) _ = addQ (mulQ (reQ x j) _) (mulQ (mulQ (imQ x j) _) _)
  generalize cisr n (j * k) = c
  unfold reQ imQ addQ mulQ
  refine Prod.ext ?_ ?_ <;> simp only <;> grind

/-- Both numbers of a pair at a place, of the number there and of the other one. -/
theorem pair_vals {zk wk : Z} {v w A B A' B' : Q2} {S : Rat} (hZ : FvQ zk v) (hW : FvQ wk w) (hv : NearQ v (addQ A (mulQ B (0, 1))) (S / 2199023255552)) (hw : NearQ w (addQ A' (mulQ B' (0, 1))) (S / 2199023255552)) (hA : NearQ (conjQ A') A (S * (5 * dl))) (hB : NearQ (conjQ B') B (S * (5 * dl))) (sA : SizeQ A (S * (1001 / 1000))) (sB : SizeQ B (S * (1001 / 1000))) (h1 : 1 / 16 ≤ S) (h2 : S ≤ 1048576) :
    (∃ p : Q2, FvQ (hlf (fop .add .f64 zk.1 wk.1), hlf (fop .add .f64 zk.2 (fneg .f64 wk.2))) p ∧ NearQ p A (S / 549755813888)) ∧ (∃ q : Q2, FvQ (hlf (fop .sub .f64 zk.2 (fneg .f64 wk.2)), fneg .f64 (hlf (fop .sub .f64 zk.1 wk.1))) q ∧ NearQ q B (S / 549755813888)) := by
  obtain ⟨d0, d1, d2⟩ := dl_small
  have hdS : S * (5 * dl) ≤ S * ulp := Rat.mul_le_mul_of_nonneg_left (by have := ulp_pos; grind) (by grind)
  have hdS0 : 0 ≤ S * (5 * dl) := Rat.mul_nonneg (by grind) (by grind)
  -- the other number
  have hw1 : Near w.1 (A.1 + B.2) (S / 2199023255552 + 2 * (S * (5 * dl))) := by
    have a := hw.re; have b := hA.re; have c := hB.im
    have e1 : (addQ A' (mulQ B' (0, 1))).1 = A'.1 - B'.2 := by unfold addQ mulQ; simp only; grind
    rw [e1] at a
    have e2 : (conjQ A').1 = A'.1 := rfl
    have e3 : (conjQ B').2 = -B'.2 := rfl
    rw [e2] at b; rw [e3] at c
    obtain ⟨a1, a2⟩ := a; obtain ⟨b1, b2⟩ := b; obtain ⟨c1, c2⟩ := c
    constructor <;> grind
  have hw2 : Near (-w.2) (A.2 - B.1) (S / 2199023255552 + 2 * (S * (5 * dl))) := by
    have a := hw.im; have b := hA.im; have c := hB.re
    have e1 : (addQ A' (mulQ B' (0, 1))).2 = A'.2 + B'.1 := by unfold addQ mulQ; simp only; grind
    rw [e1] at a
    have e2 : (conjQ A').2 = -A'.2 := rfl
    have e3 : (conjQ B').1 = B'.1 := rfl
    rw [e2] at b; rw [e3] at c
    obtain ⟨a1, a2⟩ := a; obtain ⟨b1, b2⟩ := b; obtain ⟨c1, c2⟩ := c
    constructor <;> grind
  have hv1 : Near v.1 (A.1 - B.2) (S / 2199023255552) := by
    have a := hv.re
    have e1 : (addQ A (mulQ B (0, 1))).1 = A.1 - B.2 := by unfold addQ mulQ; simp only; grind
    rwa [e1] at a
  have hv2 : Near v.2 (A.2 + B.1) (S / 2199023255552) := by
    have a := hv.im
    have e1 : (addQ A (mulQ B (0, 1))).2 = A.2 + B.1 := by unfold addQ mulQ; simp only; grind
    rwa [e1] at a
  have hWn := fv_neg hW.2
  have hu : 4503599627370496 * (S * ulp) = S := by
    have : 4503599627370496 * ulp = 1 := by decide +kernel
    grind
  have hE : S / 2199023255552 + (S / 2199023255552 + 2 * (S * (5 * dl))) ≤ S / 20 := by
    generalize S * (5 * dl) = D at *
    generalize S * ulp = U at *
    clear hv hw hA hB sA sB hw1 hw2 hv1 hv2 hWn
    grind
  have hE0 : 0 ≤ S / 2199023255552 + (S / 2199023255552 + 2 * (S * (5 * dl))) := by
    generalize S * (5 * dl) = D at *
    generalize S * ulp = U at *
    clear hv hw hA hB sA sB hw1 hw2 hv1 hv2 hWn hE
    grind
  have sA1 := sA.re; have sA2 := sA.im; have sB1 := sB.re; have sB2 := sB.im
  have fin : ∀ {t T X : Rat}, Near t T ((S / 2199023255552 + (S / 2199023255552 + 2 * (S * (5 * dl)))) / 2 + 20 * (S * ulp)) → T = X → Near t X (S / 549755813888) := fun {t T X} h e => by
    rw [← e]
    refine h.mono ?_
    generalize S * (5 * dl) = D at *
    generalize S * ulp = U at *
    clear hv hw hA hB sA sB hw1 hw2 hv1 hv2 hWn hE hE0 h e sA1 sA2 sB1 sB2
    grind
  obtain ⟨r1, f1, g1⟩ := pair_add hZ.1 hW.1 hv1 hw1 (S := S) (by obtain ⟨a, b⟩ := sA1; constructor <;> grind) hE hE0 h1 h2
  obtain ⟨r2, f2, g2⟩ := pair_add hZ.2 hWn hv2 hw2 (S := S) (by obtain ⟨a, b⟩ := sA2; constructor <;> grind) hE hE0 h1 h2
  obtain ⟨r3, f3, g3⟩ := pair_sub hZ.2 hWn hv2 hw2 (S := S) (by obtain ⟨a, b⟩ := sB1; constructor <;> grind) hE hE0 h1 h2
  obtain ⟨r4, f4, g4⟩ := pair_sub hZ.1 hW.1 hv1 hw1 (S := S) (by obtain ⟨a, b⟩ := sB2; constructor <;> grind) hE hE0 h1 h2
  refine ⟨⟨(r1, r2), ⟨f1, f2⟩, ⟨fin g1 (by grind), fin g2 (by grind)⟩⟩, ⟨(r3, -r4), ⟨f3, fv_neg f4⟩, ⟨fin g3 (by grind), ?_⟩⟩⟩
  have := fin g4 (X := -B.2) (by grind)
  obtain ⟨a, b⟩ := this
  constructor <;> grind

end Flt
end Go.Proofs.Yteamnfockjnilaa
/-
  Real pairs: the numbers of places that lie opposite. No program.
-/
set_option linter.unusedVariables false
set_option linter.unusedSimpArgs false
namespace Go.Proofs.Yteamnfockjnilaa
open Go Flt
namespace Flt
open Turn Fast Ieee

theorem fneg_fneg (a : Option Nat) : fneg .f64 (fneg .f64 a) = a := by
  cases a with
  | none => rfl
  | some x =>
    show some ((x ^^^ 2 ^ 63) ^^^ 2 ^ 63) = some x
    rw [Nat.xor_assoc, Nat.xor_self, Nat.xor_zero]
theorem Fv.wfO {a : Option Nat} {p : Rat} (h : Fv a p) : WfO a := fun x e => by
  obtain ⟨u, e', h1, -⟩ := h
  rw [e] at e'
  cases e'
  exact h1.1
/-- Floats that are each other's opposite. -/
def Opp (X Y : Option Nat) : Prop := Y = fneg .f64 X ∨ (Fv X 0 ∧ Fv Y 0)
theorem add_turned {a b : Option Nat} {p q : Rat} (ha : Fv a p) (hb : Fv b q) : Opp (fop .add .f64 a b) (fop .add .f64 (fneg .f64 a) (fneg .f64 b)) := by
  obtain ⟨x, rfl, hx, -⟩ := ha
  obtain ⟨y, rfl, hy, -⟩ := hb
  obtain ⟨s, m, i, e1, -, -⟩ := read_dq hx
  obtain ⟨t, n, j, e2, -, -⟩ := read_dq hy
  have r1 : double.read (Op.negFloat .f64 x) = .number (!s) m i := by rw [read_neg hx.1, e1]; rfl
  have r2 : double.read (Op.negFloat .f64 y) = .number (!t) n j := by rw [read_neg hy.1, e2]; rfl
  have f1 : fop .add .f64 (some x) (some y) = ((Datum.number s m i).sum (.number t n j)).map double.write := by
    rw [← e1, ← e2]; rfl
  have f2 : fop .add .f64 (fneg .f64 (some x)) (fneg .f64 (some y)) = ((Datum.number (!s) m i).sum (.number (!t) n j)).map double.write := by
    rw [← r1, ← r2]; rfl
  rw [f1, f2]
  rcases sum_turned (s := s) (t := t) (m := m) (n := n) (i := i) (j := j) with h | ⟨⟨u, h1, h2⟩, ⟨v, h3, h4⟩⟩
  · left
    rw [h]
    cases ((Datum.number s m i).sum (.number t n j)).map double.write <;> rfl
  · right
    rw [h1, h3]
    exact ⟨h2.fv, h4.fv⟩
theorem hlf_opp {X Y : Option Nat} (h : Opp X Y) (hX : WfO X) {r s : Rat} (h1 : Fv (hlf X) r) (h2 : Fv (hlf Y) s) : s = -r := by
  rcases h with rfl | ⟨a, b⟩
  · have e : hlf (fneg .f64 X) = fneg .f64 (hlf X) := by
      unfold hlf
      rw [fop_mul_comm, fop_mul_neg hX, fop_mul_comm]
    rw [e] at h2
    exact h2.uniq (fv_neg h1)
  · rw [h1.uniq (hlf_zero a), h2.uniq (hlf_zero b)]
    grind
/-- The first number of a pair, and that of the opposite place. -/
theorem first_opp {Z W : Fast.Z} {v w : Q2} (hZ : FvQ Z v) (hW : FvQ W w) {r s : Rat} (h1 : Fv (hlf (fop .add .f64 Z.2 (fneg .f64 W.2))) r) (h2 : Fv (hlf (fop .add .f64 W.2 (fneg .f64 Z.2))) s) : s = -r := by
  have h := add_turned hZ.2 (fv_neg hW.2)
  rw [fneg_fneg, fop_add_comm _ (fneg .f64 Z.2)] at h
  exact hlf_opp h (wfO_fop _ _ _) h1 h2
theorem second_opp {Z W : Fast.Z} {v w : Q2} (hZ : FvQ Z v) (hW : FvQ W w) {r s : Rat} (h1 : Fv (hlf (fop .sub .f64 Z.1 W.1)) r) (h2 : Fv (hlf (fop .sub .f64 W.1 Z.1)) s) : s = -r := by
  have e : ∀ a b : Option Nat, WfO b → fop .sub .f64 a b = fop .add .f64 a (fneg .f64 b) := fun a b hb => by
    have := fop_sub_neg (a := a) (wfO_neg hb)
    rwa [fneg_fneg] at this
  rw [e _ _ hW.1.wfO] at h1
  rw [e _ _ hZ.1.wfO] at h2
  have h := add_turned hZ.1 (fv_neg hW.1)
  rw [fneg_fneg, fop_add_comm _ (fneg .f64 Z.1)] at h
  exact hlf_opp h (wfO_fop _ _ _) h1 h2

/-- Both numbers of a pair are near the transforms of both parts. -/
theorem pair_near {xs zf : List Fast.Z} (h : Fast xs zf) {x : Nat → Q2} {n : Nat} {S : Rat} (hl : xs.length = n) (hn : n ≤ 20) (hx : ∀ j, j < n → FvQ (xs.getD j z0) (x j)) (hS : Sz x n S) {k : Nat} (hk : k < n) :
    (∃ p : Q2, FvQ (hlf (fop .add .f64 (zf.getD k z0).1 (zf.getD ((n - k) % n) z0).1), hlf (fop .add .f64 (zf.getD k z0).2 (fneg .f64 (zf.getD ((n - k) % n) z0).2))) p ∧ NearQ p (dft (reQ x) n k) (S / 549755813888)) ∧
    (∃ q : Q2, FvQ (hlf (fop .sub .f64 (zf.getD k z0).2 (fneg .f64 (zf.getD ((n - k) % n) z0).2)), fneg .f64 (hlf (fop .sub .f64 (zf.getD k z0).1 (zf.getD ((n - k) % n) z0).1))) q ∧ NearQ q (dft (imQ x) n k) (S / 549755813888)) := by
  have hn0 : 0 < n := by omega
  have hk' : (n - k) % n < n := Nat.mod_lt _ hn0
  rcases hS.lo with h0 | h0
  · subst h0
    have hz := hS.zeros
    have hzz := fast_zero h (by omega) (fun j hj => by have := hx j (by omega); rwa [hz j (by omega)] at this)
    have a := hzz k (by omega)
    have b := hzz ((n - k) % n) (by omega)
    have nz : (-0 : Rat) = 0 := by grind
    have c := fv_neg b.2
    rw [nz] at c
    have e0 : (0 : Rat) / 549755813888 = 0 := by decide +kernel
    rw [dft_zeros (x := reQ x) (fun j hj => by unfold reQ; rw [hz j hj]), dft_zeros (x := imQ x) (fun j hj => by unfold imQ; rw [hz j hj]), e0]
    have d := fv_neg (hlf_zero (fv_sub_zero a.1 b.1))
    rw [nz] at d
    exact ⟨⟨(0, 0), ⟨hlf_zero (fv_add_zero a.1 b.1), hlf_zero (fv_add_zero a.2 c)⟩, NearQ.refl _ Rat.le_refl⟩, ⟨(0, 0), ⟨hlf_zero (fv_sub_zero a.2 c), d⟩, NearQ.refl _ Rat.le_refl⟩⟩
  · obtain ⟨v, v1, v2⟩ := few_fast h hl hn hx hS k hk
    obtain ⟨w, w1, w2⟩ := few_fast h hl hn hx hS ((n - k) % n) hk'
    rw [dft_pair] at v2 w2
    have nr : ∀ j, j < n → nrm (reQ x j) ≤ nrm (x j) := fun j _ => by
      show Flt.ab (x j).1 + Flt.ab 0 ≤ Flt.ab (x j).1 + Flt.ab (x j).2
      have := ab_nonneg (x j).2
      have e : Flt.ab 0 = 0 := by decide +kernel
      rw [e]; grind
    have ni : ∀ j, j < n → nrm (imQ x j) ≤ nrm (x j) := fun j _ => by
      show Flt.ab (x j).2 + Flt.ab 0 ≤ Flt.ab (x j).1 + Flt.ab (x j).2
      have := ab_nonneg (x j).1
      have e : Flt.ab 0 = 0 := by decide +kernel
      rw [e]; grind
    have hA := dft_conj hk nr (fun j _ => rfl)
    have hB := dft_conj hk ni (fun j _ => rfl)
    rw [hS.sum] at hA hB
    have hd := dl_small
    have sA : SizeQ (dft (reQ x) n k) (S * (1001 / 1000)) := by
      rw [← hS.sum]
      exact weighted_size (by decide +kernel) nr fun i hi => (cisr_size _ hn0).mono (by grind)
    have sB : SizeQ (dft (imQ x) n k) (S * (1001 / 1000)) := by
      rw [← hS.sum]
      exact weighted_size (by decide +kernel) ni fun i hi => (cisr_size _ hn0).mono (by grind)
    exact pair_vals v1 w1 v2 w2 hA hB sA sB h0 hS.hi

end Flt
end Go.Proofs.Yteamnfockjnilaa
/-
  The exact transform leads back: sums of turns. No program.
-/
set_option linter.unusedVariables false
set_option linter.unusedSimpArgs false
namespace Go.Proofs.Yteamnfockjnilaa
open Go Flt
namespace Flt
open Turn Fast

/-- No part of a turn is near 1 (checked in the kernel, for up to 20 parts). -/
def lowTo (n : Nat) : Bool := (List.range n).all fun r => r == 0 || decide (1 / 25 ≤ 1 - cq ((r : Rat) / (n : Rat)))
theorem low_all : (List.range 21).all lowTo = true := by decide +kernel
theorem low_at {n r : Nat} (hn : n ≤ 20) (h0 : 0 < r) (hr : r < n) : 1 / 25 ≤ 1 - cq ((r : Rat) / (n : Rat)) := by
  have h1 := List.all_eq_true.1 low_all n (List.mem_range.2 (by omega))
  have h2 := List.all_eq_true.1 h1 r (List.mem_range.2 hr)
  simp only [Bool.or_eq_true, beq_iff_eq, decide_eq_true_eq] at h2
  rcases h2 with h | h
  · omega
  · exact h

/-- The sum of the turns of a place. -/
def turnSum (n j : Nat) : Q2 := sumQ (fun k => cisr n (k * j)) n
theorem turnSum_full {n j : Nat} (h : j % n = 0) (hn : 0 < n) : turnSum n j = ((n : Rat), 0) := by
  have e : ∀ k, cisr n (k * j) = (1, 0) := fun k => by
    rw [cisr_congr (b := 0) (by rw [Nat.mul_mod, h, Nat.mul_zero]), cisr_zero hn]
  have : ∀ m : Nat, sumQ (fun k => cisr n (k * j)) m = ((m : Rat), 0) := fun m => by
    induction m with
    | zero => rfl
    | succ m ih =>
      show addQ (sumQ _ m) (cisr n (m * j)) = _
      rw [ih, e m, Rat.natCast_add]
      unfold addQ
      refine Prod.ext rfl ?_
      show (0 : Rat) + 0 = 0
      exact Rat.add_zero _
  exact this n
theorem turnSum_small {n j : Nat} (h : j % n ≠ 0) (hn : n ≤ 20) (hn0 : 0 < n) : SizeQ (turnSum n j) ((n : Rat) * (25000 * dl)) := by
  have hd := dl_small.1
  have hnQ : (0 : Rat) < (n : Rat) := Rat.natCast_pos.2 hn0
  have hn2 : 2 ≤ n := by
    apply Nat.le_of_not_lt
    intro h1
    have : n = 1 := by omega
    subst this
    exact h (Nat.mod_one _)
  -- turning the sum leaves it
  have h1 : NearQ (mulQ (turnSum n j) (cisr n j)) (turnSum n j) ((n : Rat) * (6 * dl)) := by
    have e1 : mulQ (turnSum n j) (cisr n j) = sumQ (fun k => mulQ (cisr n (k * j)) (cisr n j)) n := sumQ_mul _ _ _
    have e2 : turnSum n j = sumQ (fun k => cisr n (k * j + j)) n := by
      unfold turnSum
      refine Eq.trans (sumQ_rot (fun k => cisr n (k * j)) (show 1 ≤ n by omega)).symm (sumQ_congr fun k hk => ?_)
      show cisr n ((k + 1) % n * j) = cisr n (k * j + j)
      refine cisr_congr ?_
      rw [Nat.mod_mul_mod, Nat.add_mul, Nat.one_mul]
    rw [e1]
    have := sumQ_near (s := fun k => mulQ (cisr n (k * j)) (cisr n j)) (t := fun k => cisr n (k * j + j)) (e := fun _ => 6 * dl) (n := n) (fun k _ => cisr_mul _ _ hn0)
    rw [psum_const, ← e2] at this
    exact this
  generalize turnSum n j = G at *
  have hr0 : 0 < rst n j := by
    unfold rst
    have := Nat.mod_lt j hn0
    rw [Nat.mod_eq_of_lt (by omega)]
    omega
  have hrn : rst n j < n := rst_lt j hn0
  have hlow := low_at hn hr0 hrn
  have hcs : SizeQ (cisr n j) (1 + dl) := cisr_size j hn0
  have hlow' : 1 / 25 ≤ 1 - (cisr n j).1 := hlow
  generalize cisr n j = c at *
  have hd2 := dl_small.2.2
  -- the difference to 1
  obtain ⟨c1, c2⟩ := c
  obtain ⟨g1, g2⟩ := G
  have x1 := h1.re
  have x2 := h1.im
  unfold mulQ at x1 x2
  simp only at x1 x2 hlow' hcs
  have s1 := hcs.re
  have s2 := hcs.im
  have hE : (0 : Rat) < (n : Rat) * dl := Rat.mul_pos hnQ hd
  have e6 : (n : Rat) * (6 * dl) = 6 * ((n : Rat) * dl) := by grind
  have e7 : (n : Rat) * (25000 * dl) = 25000 * ((n : Rat) * dl) := by grind
  rw [e6] at x1 x2
  rw [e7]
  generalize (n : Rat) * dl = E at *
  have y1 : Size (g1 * (c1 - 1) - g2 * c2) (6 * E) := by have := near_size.1 x1; rwa [show g1 * c1 - g2 * c2 - g1 = g1 * (c1 - 1) - g2 * c2 by grind] at this
  have y2 : Size (g1 * c2 + g2 * (c1 - 1)) (6 * E) := by have := near_size.1 x2; rwa [show g1 * c2 + g2 * c1 - g2 = g1 * c2 + g2 * (c1 - 1) by grind] at this
  have z1 : Size (c1 - 1) 3 := by obtain ⟨a, b⟩ := s1; constructor <;> grind
  have z2 : Size c2 3 := by obtain ⟨a, b⟩ := s2; constructor <;> grind
  have N : 1 / 625 ≤ (c1 - 1) * (c1 - 1) + c2 * c2 := by
    have a : 1 / 25 * (1 / 25) ≤ (1 - c1) * (1 - c1) := Rat.le_trans (Rat.mul_le_mul_of_nonneg_right hlow' (by decide +kernel)) (Rat.mul_le_mul_of_nonneg_left hlow' (by grind))
    have b : 0 ≤ c2 * c2 := by
      rcases Rat.le_total (a := 0) (b := c2) with h | h
      · exact Rat.mul_nonneg h h
      · have := Rat.mul_nonneg (show 0 ≤ -c2 by grind) (show 0 ≤ -c2 by grind)
        grind
    grind
  have w1 : Size (g1 * ((c1 - 1) * (c1 - 1) + c2 * c2)) (36 * E) := by
    have a := (y1.mul z1).add (y2.mul z2)
    have e : (g1 * (c1 - 1) - g2 * c2) * (c1 - 1) + (g1 * c2 + g2 * (c1 - 1)) * c2 = g1 * ((c1 - 1) * (c1 - 1) + c2 * c2) := by grind
    rw [e] at a
    exact a.mono (by grind)
  have w2 : Size (g2 * ((c1 - 1) * (c1 - 1) + c2 * c2)) (36 * E) := by
    have a := (y2.mul z1).sub (y1.mul z2)
    have e : (g1 * c2 + g2 * (c1 - 1)) * (c1 - 1) - (g1 * (c1 - 1) - g2 * c2) * c2 = g2 * ((c1 - 1) * (c1 - 1) + c2 * c2) := by grind
    rw [e] at a
    exact a.mono (by grind)
  generalize (c1 - 1) * (c1 - 1) + c2 * c2 = M at *
  have fin : ∀ g : Rat, Size (g * M) (36 * E) → Size g (25000 * E) := fun g hg => by
    obtain ⟨a, b⟩ := hg
    constructor
    · refine Rat.not_lt.1 fun k => ?_
      have k1 : 25000 * E * (1 / 625) ≤ g * (1 / 625) := Rat.mul_le_mul_of_nonneg_right (Rat.le_of_lt k) (by decide +kernel)
      have k2 : g * (1 / 625) ≤ g * M := Rat.mul_le_mul_of_nonneg_left N (by grind)
      have := Rat.le_trans (Rat.le_trans k1 k2) a
      grind
    · refine Rat.not_lt.1 fun k => ?_
      have k1 : 25000 * E * (1 / 625) ≤ -g * (1 / 625) := Rat.mul_le_mul_of_nonneg_right (Rat.le_of_lt k) (by decide +kernel)
      have k2 : -g * (1 / 625) ≤ -g * M := Rat.mul_le_mul_of_nonneg_left N (by grind)
      have := Rat.le_trans k1 k2
      grind
  exact ⟨fin g1 w1, fin g2 w2⟩

end Flt
end Go.Proofs.Yteamnfockjnilaa
/-
  The exact transform, led back. No program.
-/
set_option linter.unusedVariables false
set_option linter.unusedSimpArgs false
namespace Go.Proofs.Yteamnfockjnilaa
open Go Flt
namespace Flt
open Turn Fast

/-- What leads back, before the division. -/
def dftB (y : Nat → Q2) (n i : Nat) : Q2 := sumQ (fun k => mulQ (y k) (cisr n ((n - 1) * (k * i)))) n
theorem mulQ_sum (c : Q2) (t : Nat → Q2) (n : Nat) : mulQ c (sumQ t n) = sumQ (fun i => mulQ c (t i)) n := by
  rw [mulQ_comm, sumQ_mul]
  exact sumQ_congr fun i _ => mulQ_comm _ _
theorem place_same {n i : Nat} (hn : 0 < n) : (i + (n - 1) * i) % n = 0 := by
  cases n with
  | zero => omega
  | succ m =>
    rw [Nat.add_sub_cancel, show i + m * i = (m + 1) * i by rw [Nat.add_mul, Nat.one_mul, Nat.add_comm], Nat.mul_mod_right]
theorem place_other {n i j : Nat} (hi : i < n) (hj : j < n) (h : j ≠ i) : (j + (n - 1) * i) % n ≠ 0 := by
  obtain ⟨m, rfl⟩ : ∃ m, n = m + 1 := ⟨n - 1, by omega⟩
  rw [Nat.add_sub_cancel]
  intro h0
  have e : j + m * i + i = j + (m + 1) * i := by rw [Nat.add_mul, Nat.one_mul, Nat.add_assoc]
  have h1 : (j + m * i + i) % (m + 1) = j := by rw [e, Nat.add_mul_mod_self_left, Nat.mod_eq_of_lt hj]
  rw [Nat.add_mod, h0, Nat.zero_add, Nat.mod_mod, Nat.mod_eq_of_lt hi] at h1
  exact h h1.symm

/-- A sum one term of which counts. -/
theorem sumQ_one_term {t : Nat → Q2} {u : Q2} {e : Nat → Rat} {n i : Nat} (hi : i < n) (h1 : NearQ (t i) u (e i)) (h2 : ∀ j, j < n → j ≠ i → SizeQ (t j) (e j)) : NearQ (sumQ t n) u (psum e n) := by
  have key : ∀ m, m ≤ n → (i < m → NearQ (sumQ t m) u (psum e m)) ∧ (m ≤ i → SizeQ (sumQ t m) (psum e m)) := by
    intro m
    induction m with
    | zero => exact fun _ => ⟨fun h => by omega, fun _ => by
        show SizeQ (0, 0) 0
        exact ⟨⟨Rat.le_refl, by decide +kernel⟩, ⟨Rat.le_refl, by decide +kernel⟩⟩⟩
    | succ m ih =>
      intro hm
      obtain ⟨ih1, ih2⟩ := ih (by omega)
      rw [psum_succ]
      constructor
      · intro him
        by_cases h : i = m
        · subst h
          have a := ih2 (Nat.le_refl _)
          show NearQ (addQ (sumQ t i) (t i)) u _
          obtain ⟨a1, a2⟩ := a.re
          obtain ⟨a3, a4⟩ := a.im
          obtain ⟨b1, b2⟩ := near_size.1 h1.re
          obtain ⟨b3, b4⟩ := near_size.1 h1.im
          refine ⟨near_size.2 ⟨?_, ?_⟩, near_size.2 ⟨?_, ?_⟩⟩ <;> (unfold addQ; simp only; grind)
        · have a := ih1 (by omega)
          have b := h2 m (by omega) (by omega)
          show NearQ (addQ (sumQ t m) (t m)) u _
          obtain ⟨a1, a2⟩ := near_size.1 a.re
          obtain ⟨a3, a4⟩ := near_size.1 a.im
          obtain ⟨b1, b2⟩ := b.re
          obtain ⟨b3, b4⟩ := b.im
          refine ⟨near_size.2 ⟨?_, ?_⟩, near_size.2 ⟨?_, ?_⟩⟩ <;> (unfold addQ; simp only; grind)
      · intro hmi
        exact (ih2 (by omega)).add (h2 m (by omega) (by omega))
  exact (key n (Nat.le_refl _)).1 hi

/-- The transform, led back, is the signal n times. -/
theorem dft_back {x : Nat → Q2} {s : Nat → Rat} {n i : Nat} (hi : i < n) (hn : n ≤ 20) (hx : ∀ j, j < n → nrm (x j) ≤ s j) : NearQ (dftB (fun k => dft x n k) n i) (mulQ (x i) ((n : Rat), 0)) (psum s n * ((n : Rat) * (25006 * dl))) := by
  have hd := dl_small.1
  have hn0 : 0 < n := by omega
  have hs : ∀ j, j < n → 0 ≤ s j := fun j hj => Rat.le_trans (nrm_nonneg _) (hx j hj)
  have hnQ : (0 : Rat) ≤ (n : Rat) := Rat.natCast_nonneg
  -- the order of the sums
  have e1 : dftB (fun k => dft x n k) n i = sumQ (fun j => mulQ (x j) (sumQ (fun k => mulQ (cisr n (j * k)) (cisr n ((n - 1) * (k * i)))) n)) n := by
    unfold dftB dft
    have : ∀ k, mulQ (sumQ (fun j => mulQ (x j) (cisr n (j * k))) n) (cisr n ((n - 1) * (k * i))) = sumQ (fun j => mulQ (x j) (mulQ (cisr n (j * k)) (cisr n ((n - 1) * (k * i))))) n := fun k => by
      rw [sumQ_mul]
      exact sumQ_congr fun j _ => mulQ_assoc _ _ _
    have e2 : sumQ (fun k => mulQ (sumQ (fun j => mulQ (x j) (cisr n (j * k))) n) (cisr n ((n - 1) * (k * i)))) n = sumQ (fun k => sumQ (fun j => mulQ (x j) (mulQ (cisr n (j * k)) (cisr n ((n - 1) * (k * i))))) n) n := sumQ_congr fun k _ => this k
    rw [e2, sumQ_swap]
    exact sumQ_congr fun j _ => (mulQ_sum _ _ _).symm
  rw [e1]
  have hin : ∀ j, NearQ (sumQ (fun k => mulQ (cisr n (j * k)) (cisr n ((n - 1) * (k * i)))) n) (turnSum n (j + (n - 1) * i)) ((n : Rat) * (6 * dl)) := fun j => by
    have := sumQ_near (s := fun k => mulQ (cisr n (j * k)) (cisr n ((n - 1) * (k * i)))) (t := fun k => cisr n (k * (j + (n - 1) * i))) (e := fun _ => 6 * dl) (n := n) (fun k _ => by
      have h := cisr_mul (j * k) ((n - 1) * (k * i)) hn0
      have e : j * k + (n - 1) * (k * i) = k * (j + (n - 1) * i) := by rw [Nat.mul_add, Nat.mul_comm j k, Nat.mul_left_comm]
      rwa [e] at h)
    rw [psum_const] at this
    exact this
  have hp6 : (0 : Rat) ≤ (n : Rat) * (6 * dl) := Rat.mul_nonneg hnQ (by grind)
  have hp : (n : Rat) * (6 * dl) + (n : Rat) * (25000 * dl) = (n : Rat) * (25006 * dl) := by grind
  have e0 : psum s n * ((n : Rat) * (25006 * dl)) = psum (fun j => s j * ((n : Rat) * (25006 * dl))) n := (psum_mul _ _ _).symm
  rw [e0]
  refine sumQ_one_term hi ?_ fun j hj hji => ?_
  · have h := hin i
    rw [turnSum_full (place_same hn0) hn0] at h
    refine (mulQ_near_r h (hx i hi) hp6).mono ?_
    exact Rat.mul_le_mul_of_nonneg_left (by have : 0 ≤ (n : Rat) * (25000 * dl) := Rat.mul_nonneg hnQ (by grind); grind) (hs i hi)
  · have h := (hin j).size (turnSum_small (place_other hi hj hji) hn hn0)
    refine (mulQ_size (hx j hj) h (by have : 0 ≤ (n : Rat) * (25000 * dl) := Rat.mul_nonneg hnQ (by grind); grind)).mono ?_
    rw [Rat.add_comm, hp]
    exact Rat.le_refl

end Flt
end Go.Proofs.Yteamnfockjnilaa
/-
  Sums of complex floats; plain transforms, both ways. No program.
-/
set_option linter.unusedVariables false
set_option linter.unusedSimpArgs false
namespace Go.Proofs.Yteamnfockjnilaa
open Go Flt
namespace Flt
open Turn Fast

/-- A float sum is near the sum. -/
theorem sumC_near {t : Nat → Fast.Z} {D : Nat → Q2} {e s : Nat → Rat} {p : Nat} {S : Rat}
    (h : ∀ r, r < p → ∃ v, FvQ (t r) v ∧ NearQ v (D r) (e r))
    (hD : ∀ r, r < p → SizeQ (D r) (s r * (1001 / 1000))) (he : ∀ r, r < p → 0 ≤ e r) (hs : ∀ r, r < p → 0 ≤ s r) (hsum : psum s p = S) (heS : psum e p ≤ S / 20) (hp2 : p ≤ 256) (hS : Mid S) (hS2 : S ≤ 140737488355328) :
    ∀ j, 0 < j → j ≤ p → ∃ v, FvQ (sumC t j) v ∧ NearQ v (sumQ D j) (psum e j + (j : Rat) * (6 / 5 * (ulp * S)))
  | 0, h, _ => by omega
  | j + 1, _, hj => by
    obtain ⟨hw, hw0⟩ := hS.small
    by_cases h0 : j = 0
    · subst h0
      obtain ⟨v, h1, h2⟩ := h 0 (by omega)
      refine ⟨v, by rw [sumC_one]; exact h1, ?_⟩
      have e1 : sumQ D (0 + 1) = D 0 := zero_addQ _
      have e2 : psum e (0 + 1) = e 0 := by rw [psum_succ]; exact Rat.zero_add _
      rw [e1, e2]
      refine h2.mono ?_
      have : ((0 + 1 : Nat) : Rat) = 1 := rfl
      rw [this]
      generalize ulp * S = U at *
      grind
    · obtain ⟨v, h1, h2⟩ := sumC_near h hD he hs hsum heS hp2 hS hS2 j (by omega) (by omega)
      obtain ⟨u, h3, h4⟩ := h j (by omega)
      have hp0 := hS.pos
      have z1 := sumQ_size (t := D) (B := fun r => s r * (1001 / 1000)) (n := j + 1) (fun r hr' => hD r (by omega))
      rw [psum_mul] at z1
      have z2 : psum s (j + 1) ≤ S := by rw [← hsum]; exact psum_mono (fun r hr' => hs r hr') (by omega)
      have z3 : psum e (j + 1) ≤ S / 20 := Rat.le_trans (psum_mono (fun r hr' => he r hr') (by omega)) heS
      have h5 := h2.add h4
      have e3 : psum e j + (j : Rat) * (6 / 5 * (ulp * S)) + e j = psum e (j + 1) + (j : Rat) * (6 / 5 * (ulp * S)) := by rw [psum_succ]; grind
      rw [e3] at h5
      have hj256 : (j : Rat) ≤ 256 := by
        have : j ≤ 256 := by omega
        exact Rat.natCast_le_natCast.2 this
      have hj0 : (0 : Rat) ≤ (j : Rat) := Rat.natCast_nonneg
      have hjU : (j : Rat) * (6 / 5 * (ulp * S)) ≤ 256 * (6 / 5 * (ulp * S)) := Rat.mul_le_mul_of_nonneg_right hj256 (by generalize ulp * S = U at *; grind)
      have z4 : SizeQ (addQ v u) (11 / 10 * S) := by
        refine (h5.size z1).mono ?_
        generalize (j : Rat) * (6 / 5 * (ulp * S)) = V at *
        generalize ulp * S = U at *
        generalize psum s (j + 1) = a at *
        generalize psum e (j + 1) = b at *
        clear h1 h2 h3 h4 h5 z1 h hD he hs hsum heS hS
        grind
      obtain ⟨w, h6, h7⟩ := cadd_near h1 h3 z4 ⟨by have := hS.lo; grind, by grind⟩
      refine ⟨w, by rw [sumC_succ _ h0]; exact h6, ?_⟩
      refine (h7.trans h5).mono ?_
      have e4 : ((j + 1 : Nat) : Rat) = (j : Rat) + 1 := by rw [Rat.natCast_add]; rfl
      have e5 : 257 / 256 * (ulp * (11 / 10 * S)) = 2827 / 2560 * (ulp * S) := by grind
      rw [e4, e5, Rat.add_mul, Rat.one_mul]
      generalize (j : Rat) * (6 / 5 * (ulp * S)) = V at *
      generalize ulp * S = U at *
      clear h1 h2 h3 h4 h5 h6 h7 z1 h hD he hs hsum heS hS z4
      grind
theorem sumC_zero {t : Nat → Fast.Z} {n : Nat} (h : ∀ j, j < n → FvQ (t j) (0, 0)) : FvQ (sumC t n) (0, 0) := by
  induction n with
  | zero => exact ⟨has_zero.fv, has_zero.fv⟩
  | succ n ih =>
    by_cases h0 : n = 0
    · subst h0; rw [sumC_one]; exact h 0 (by omega)
    · rw [sumC_succ _ h0]; exact addZ_zero (ih fun j hj => h j (by omega)) (h n (by omega))

/-- The plain transform of few sixteenths. -/
theorem few_plain {xs : List Fast.Z} {x : Nat → Q2} {n : Nat} {S : Rat} (hl : xs.length = n) (hn : n ≤ 20) (hx : ∀ j, j < n → FvQ (xs.getD j z0) (x j)) (hS : Sz x n S) {k : Nat} (hk : k < n) :
    ∃ v, FvQ (sumC (fun j => mulZ (xs.getD j z0) (twid n (j * k))) n) v ∧ NearQ v (dft x n k) (S / 17592186044416) := by
  have hn0 : 0 < n := by omega
  rcases hS.lo with h0 | h0
  · subst h0
    have hz := hS.zeros
    rw [dft_zeros hz]
    refine ⟨(0, 0), sumC_zero fun j hj => ?_, NearQ.refl _ (by decide +kernel)⟩
    obtain ⟨q, hq⟩ := twid_fv (n := n) (j := j * k) hn0 (by omega)
    have := hx j hj
    rw [hz j hj] at this
    exact mulZ_zero_l this hq
  · have hsum : psum (fun j => nrm (x j) + 1 / 1099511627776) n = S + (n : Rat) * (1 / 1099511627776) := by
      rw [psum_add (fun j => nrm (x j)) (fun _ => 1 / 1099511627776), hS.sum, psum_const]
    have hn2 : (n : Rat) ≤ 20 := Rat.natCast_le_natCast.2 (show n ≤ 20 by omega)
    have hn1 : (1 : Rat) ≤ (n : Rat) := Rat.natCast_le_natCast.2 (show 1 ≤ n by omega)
    have hhi := hS.hi
    obtain ⟨s, hsd⟩ : ∃ s : Nat → Rat, s = fun j => nrm (x j) + 1 / 1099511627776 := ⟨_, rfl⟩
    rw [← hsd] at hsum
    have hs0 : ∀ j, 0 ≤ s j := fun j => by rw [hsd]; have := nrm_nonneg (x j); simp only; grind
    have hsn : ∀ j, nrm (x j) ≤ s j := fun j => by rw [hsd]; simp only; grind
    have hslo : ∀ j, 1 / 1099511627776 ≤ s j := fun j => by rw [hsd]; have := nrm_nonneg (x j); simp only; grind
    obtain ⟨T, hT⟩ : ∃ T, S + (n : Rat) * (1 / 1099511627776) = T := ⟨_, rfl⟩
    rw [hT] at hsum
    have hT1 : T ≤ S * (1001 / 1000) := by rw [← hT]; grind
    have hT2 : S ≤ T := by rw [← hT]; grind
    have hTm : Mid T := ⟨by grind, by grind⟩
    obtain ⟨u1, u2⟩ := hTm.small
    have hsT : ∀ j, j < n → s j ≤ T := fun j hj => by rw [← hsum]; exact psum_term (fun i _ => hs0 i) hj
    have hd := dl_small
    have e35 : psum (fun j => s j * (35 * ulp)) n = 35 * (ulp * T) := by rw [psum_mul, hsum]; grind
    obtain ⟨v, h1, h2⟩ := sumC_near (t := fun j => mulZ (xs.getD j z0) (twid n (j * k))) (D := fun j => mulQ (x j) (cisr n (j * k))) (e := fun j => s j * (35 * ulp)) (s := s) (p := n) (S := T)
      (fun j hj => by
        have hm : Mid (s j) := ⟨hslo j, by have := hsT j hj; have := hTm.hi; exact Rat.le_trans (hsT j hj) (Rat.le_trans hT1 (by grind))⟩
        obtain ⟨v, v1, v2⟩ := cmul_cis (n := n) (k := rst n (j * k)) (e := 0) (hx j hj) (NearQ.refl _ Rat.le_refl) ((size_nrm (x j)).mono (by have := hsn j; have := hs0 j; grind)) Rat.le_refl (by have := hs0 j; grind) hm (by have := hsT j hj; grind) hn0 (by omega) (Nat.le_of_lt (rst_lt _ hn0))
        exact ⟨v, v1, v2.mono (by show 17 / 12 * 0 + 35 * (ulp * s j) ≤ s j * (35 * ulp); grind)⟩)
      (fun j hj => (mulQ_size (hsn j) (cisr_size _ hn0) (by grind)).mono (Rat.mul_le_mul_of_nonneg_left (by grind) (hs0 j)))
      (fun j hj => Rat.mul_nonneg (hs0 j) (Rat.mul_nonneg (by decide +kernel) (Rat.le_of_lt ulp_pos))) (fun j hj => hs0 j) hsum (by rw [e35]; grind) (by omega) hTm (by grind) n hn0 (Nat.le_refl _)
    refine ⟨v, h1, h2.mono ?_⟩
    rw [e35]
    have a1 : (n : Rat) * (6 / 5 * (ulp * T)) ≤ 20 * (6 / 5 * (ulp * T)) := Rat.mul_le_mul_of_nonneg_right hn2 (by generalize ulp * T = U at *; grind)
    have a2 : 4503599627370496 * (ulp * T) = T := by
      have : 4503599627370496 * ulp = 1 := by decide +kernel
      grind
    refine Rat.le_trans (Rat.add_le_add_left.2 a1) ?_
    generalize ulp * T = U at *
    clear h1 h2 hS hx hTm hsT hsd hs0 hsn hslo e35 hsum a1
    grind

end Flt
end Go.Proofs.Yteamnfockjnilaa
/-
  A number of a transform, by its polynomial. No program.
-/
set_option linter.unusedVariables false
set_option linter.unusedSimpArgs false
namespace Go.Proofs.Yteamnfockjnilaa
open Go Flt
namespace Flt
open Turn Fast

/-- The polynomial from the last number on, up to the choice of a NaN. -/
def hornZ (xs : List Fast.Z) (t : Fast.Z) (n : Nat) : Nat → Fast.Z
  | 0 => xs.getD (n - 1) z0
  | i + 1 => addZ (mulZ (hornZ xs t n i) t) (xs.getD (n - 1 - (i + 1)) z0)
def hornQ (D : Nat → Q2) (T : Q2) : Nat → Q2
  | 0 => D 0
  | i + 1 => addQ (mulQ (hornQ D T i) T) (D (i + 1))
def powQ (T : Q2) : Nat → Q2
  | 0 => (1, 0)
  | m + 1 => mulQ (powQ T m) T

theorem hornQ_sum (D : Nat → Q2) (T : Q2) (i : Nat) : hornQ D T i = sumQ (fun j => mulQ (D j) (powQ T (i - j))) (i + 1) := by
  induction i with
  | zero => show D 0 = addQ (0, 0) (mulQ (D 0) (1, 0)); rw [zero_addQ, mulQ_one]
  | succ i ih =>
    show addQ (mulQ (hornQ D T i) T) (D (i + 1)) = addQ (sumQ (fun j => mulQ (D j) (powQ T (i + 1 - j))) (i + 1)) (mulQ (D (i + 1)) (powQ T (i + 1 - (i + 1))))
    rw [ih, sumQ_mul, Nat.sub_self]
    show _ = addQ _ (mulQ (D (i + 1)) (1, 0))
    rw [mulQ_one]
    congr 1
    refine sumQ_congr fun j hj => ?_
    rw [show i + 1 - j = (i - j) + 1 by omega]
    exact mulQ_assoc _ _ _

/-- The error of a power. -/
def pe : Nat → Rat
  | 0 => 0
  | m + 1 => pe m * (17 / 12) + 6 * dl
theorem pe_small : ∀ m, m < 24 → pe m ≤ 8 * ulp := by
  have h : (List.range 24).all (fun m => decide (pe m ≤ 8 * ulp)) = true := by decide +kernel
  intro m hm
  have := List.all_eq_true.1 h m (List.mem_range.2 hm)
  exact of_decide_eq_true this
theorem pe_nonneg (m : Nat) : 0 ≤ pe m := by
  induction m with
  | zero => exact Rat.le_refl
  | succ m ih =>
    have hd := dl_small
    have := Rat.mul_nonneg ih (show (0 : Rat) ≤ 17 / 12 by decide +kernel)
    unfold pe
    grind

theorem cisr_nrm {n : Nat} (j : Nat) (hn : 0 < n) (hn2 : n ≤ 2048) : nrm (cisr n j) ≤ 17 / 12 := by
  refine sum_of_squares ?_
  have h := cq_sq (part_size hn (Nat.le_of_lt (rst_lt j hn)))
  obtain ⟨h1, h2⟩ := h
  have hd := dl_small
  grind
theorem mid_scale {S : Rat} (hlo : 1 / 16 ≤ S) (hhi : S ≤ 1048576) : Mid (S * (51 / 50)) ∧ S * (51 / 50) ≤ S * (51 / 50) * (1001 / 1000) ∧ 0 ≤ S * (51 / 50) / 20 ∧ S * (51 / 50) ≤ 140737488355328 := by
  refine ⟨⟨?_, ?_⟩, ?_, ?_, ?_⟩ <;> grind
theorem mid_four {S : Rat} (hlo : 1 / 16 ≤ S) (hhi : S ≤ 1048576) : Mid (4 * S) := by
  refine ⟨?_, ?_⟩ <;> grind

theorem pow_near {n k : Nat} (hn : 0 < n) (hn2 : n ≤ 2048) (m : Nat) : NearQ (powQ (cisr n k) m) (cisr n (m * k)) (pe m) := by
  induction m with
  | zero => rw [Nat.zero_mul, cisr_zero hn]; exact NearQ.refl _ Rat.le_refl
  | succ m ih =>
    have h1 := mulQ_near_l (c := cisr n k) ih (cisr_nrm k hn hn2) (pe_nonneg m)
    have h2 := cisr_mul (m * k) k hn
    have := h1.trans h2
    rw [show m * k + k = (m + 1) * k by rw [Nat.add_mul, Nat.one_mul]] at this
    exact this

def valQ (z : Fast.Z) : Q2 := (fq (z.1.getD 0), fq (z.2.getD 0))
theorem valQ_of {z : Fast.Z} {q : Q2} (h : FvQ z q) : valQ z = q := by
  obtain ⟨⟨x, e1, -, h1⟩, ⟨y, e2, -, h2⟩⟩ := h
  unfold valQ
  rw [e1, e2]
  exact Prod.ext h1 h2

theorem pow_size {n k : Nat} (hn : 0 < n) (hn2 : n ≤ 2048) {m : Nat} (hm : m < 24) : SizeQ (powQ (cisr n k) m) (101 / 100) := by
  refine ((pow_near hn hn2 m).size (cisr_size (m * k) hn)).mono ?_
  have h1 := pe_small m hm
  have h2 := dl_small
  have h3 : 8 * ulp ≤ 1 / 1000 := by decide +kernel
  grind

theorem four_le {S : Rat} (u1 : ulp * S ≤ S / 1000000) (u2 : 0 ≤ ulp * S) (hlo : 1 / 16 ≤ S) : 2 * (S * (51 / 50)) * (1 + dl) + 36 * (ulp * S) + S ≤ 4 * S := by
  obtain ⟨-, -, hd⟩ := dl_small
  have h := Rat.mul_le_mul_of_nonneg_left hd (show 0 ≤ 2 * (S * (51 / 50)) by grind)
  have e : 2 * (S * (51 / 50)) * (1 + dl) = 2 * (S * (51 / 50)) + 2 * (S * (51 / 50)) * dl := by grind
  rw [e]
  generalize 2 * (S * (51 / 50)) * dl = V at *
  generalize ulp * S = U at *
  grind
theorem step_near {v u m x : Q2} {U : Rat} (h : NearQ v m (36 * U)) (k : NearQ u (addQ v x) (257 / 64 * U)) (hU : 0 ≤ U) : NearQ (subQ u m) x (60 * U) := by
  obtain ⟨⟨h1, h2⟩, h3, h4⟩ := h
  obtain ⟨⟨k1, k2⟩, k3, k4⟩ := k
  unfold addQ at k1 k2 k3 k4
  unfold subQ
  simp only at k1 k2 k3 k4
  exact ⟨⟨by simp only; grind, by simp only; grind⟩, ⟨by simp only; grind, by simp only; grind⟩⟩

section
variable {xs : List Fast.Z} {x : Nat → Q2} {n k : Nat} {S : Rat}

/-- What each step adds, errors and all. -/
def stepD (xs : List Fast.Z) (n k : Nat) : Nat → Q2
  | 0 => valQ (hornZ xs (twid n k) n 0)
  | i + 1 => subQ (valQ (hornZ xs (twid n k) n (i + 1))) (mulQ (valQ (hornZ xs (twid n k) n i)) (cisr n k))
theorem horn_steps (i : Nat) : valQ (hornZ xs (twid n k) n i) = hornQ (stepD xs n k) (cisr n k) i := by
  induction i with
  | zero => rfl
  | succ i ih =>
    show _ = addQ (mulQ (hornQ _ _ i) _) (subQ _ _)
    rw [← ih]
    unfold addQ subQ
    refine Prod.ext ?_ ?_ <;> simp only <;> grind

theorem psum_part {s : Nat → Rat} (hs : ∀ i, 0 ≤ s i) {i n : Nat} (hi : i < n) : psum (fun j => s (n - 1 - j)) (i + 1) ≤ psum s n := by
  have h1 : psum (fun j => s (n - 1 - j)) n = psum s n := by
    have h := sumQ_rev (fun j => (s j, (0 : Rat))) n
    have e : ∀ (g : Nat → Rat) (n : Nat), (sumQ (fun i => (g i, (0 : Rat))) n).1 = psum g n := fun g n => by
      induction n with
      | zero => rfl
      | succ n ih => show (sumQ _ n).1 + g n = psum g n + g n; rw [ih]
    rw [← e, ← e, h]
  rw [← h1]
  exact psum_mono (fun j _ => hs _) (by omega)

theorem horn_all (hl : xs.length = n) (hn0 : 0 < n) (hn : n ≤ 24) (hx : ∀ j, j < n → FvQ (xs.getD j z0) (x j)) (hS : Sz x n S) (hlo : 1 / 16 ≤ S) :
    ∀ i, i < n → FvQ (hornZ xs (twid n k) n i) (valQ (hornZ xs (twid n k) n i)) ∧ ∀ j, j ≤ i → NearQ (stepD xs n k j) (x (n - 1 - j)) (60 * (ulp * S)) := by
  have hhi := hS.hi
  have hm : Mid S := ⟨by grind, by grind⟩
  obtain ⟨u1, u2⟩ := hm.small
  intro i
  induction i with
  | zero =>
    intro hi
    have h := hx (n - 1) (by omega)
    refine ⟨?_, fun j hj => ?_⟩
    · show FvQ (xs.getD (n - 1) z0) (valQ (xs.getD (n - 1) z0))
      rw [valQ_of h]; exact h
    · obtain rfl : j = 0 := by omega
      show NearQ (valQ (xs.getD (n - 1) z0)) _ _
      rw [valQ_of h]
      exact NearQ.refl _ (by grind)
  | succ i ih =>
    intro hi
    obtain ⟨f1, d1⟩ := ih (by omega)
    obtain ⟨H, hH⟩ : ∃ H, valQ (hornZ xs (twid n k) n i) = H := ⟨_, rfl⟩
    have hst := horn_steps (xs := xs) (n := n) (k := k) i
    rw [hornQ_sum, hH] at hst
    rw [hH] at f1
    -- the size of what there is
    have sz : SizeQ H (S * (51 / 50)) := by
      rw [hst]
      have h1 := weighted_size (x := stepD xs n k) (w := fun j => powQ (cisr n k) (i - j)) (s := fun j => nrm (x (n - 1 - j)) + 120 * (ulp * S)) (B := 101 / 100) (n := i + 1) (by decide +kernel) (fun j hj => by
        have h2 := d1 j (by omega)
        have h3 := nrm_le (z := subQ (stepD xs n k j) (x (n - 1 - j))) (B := 60 * (ulp * S)) (by
          obtain ⟨⟨a, b⟩, c, d⟩ := h2
          unfold subQ
          exact ⟨⟨by simp only; grind, by simp only; grind⟩, ⟨by simp only; grind, by simp only; grind⟩⟩)
        have h4 : nrm (stepD xs n k j) ≤ nrm (x (n - 1 - j)) + nrm (subQ (stepD xs n k j) (x (n - 1 - j))) := by
          unfold nrm subQ ab
          simp only
          split <;> split <;> split <;> split <;> split <;> split <;> grind
        grind) (fun j hj => pow_size hn0 (by omega) (by omega))
      refine h1.mono ?_
      rw [psum_add (fun j => nrm (x (n - 1 - j))) (fun _ => 120 * (ulp * S)), psum_const]
      have p1 := psum_part (s := fun j => nrm (x j)) (fun j => nrm_nonneg _) (show i < n by omega)
      rw [hS.sum] at p1
      have p2 : ((i + 1 : Nat) : Rat) ≤ 24 := Rat.natCast_le_natCast.2 (show i + 1 ≤ 24 by omega)
      have p3 : ((i + 1 : Nat) : Rat) * (120 * (ulp * S)) ≤ 24 * (120 * (ulp * S)) := Rat.mul_le_mul_of_nonneg_right p2 (by grind)
      generalize ((i + 1 : Nat) : Rat) * (120 * (ulp * S)) = V at *
      generalize ulp * S = U at *
      generalize psum (fun j => nrm (x (n - 1 - j))) (i + 1) = A at *
      clear h1 hst f1 d1 ih hx hS hm
      grind
    obtain ⟨m1, m2, m3, m4⟩ := mid_scale hlo hhi
    obtain ⟨v, v1, v2⟩ := cmul_cis (n := n) (k := rst n k) (e := 0) f1 (NearQ.refl _ Rat.le_refl) (sz.mono m2) Rat.le_refl m3 m1 m4 hn0 (by omega) (Nat.le_of_lt (rst_lt _ hn0))
    have v2 : NearQ v (mulQ H (cisr n k)) (36 * (ulp * S)) := v2.mono (by
      have e : ulp * (S * (51 / 50)) = ulp * S * (51 / 50) := by rw [Rat.mul_assoc]
      rw [e]
      generalize ulp * S = U at *
      grind)
    have hxs : SizeQ (x (n - 1 - (i + 1))) S := (size_nrm _).mono (by
      have := psum_term (p := fun j => nrm (x j)) (n := n) (t := n - 1 - (i + 1)) (fun i _ => nrm_nonneg _) (by omega)
      rw [hS.sum] at this; exact this)
    have hms : SizeQ (mulQ H (cisr n k)) (2 * (S * (51 / 50)) * (1 + dl)) := mulQ_size (nrm_le sz) (cisr_size k hn0) (by have := dl_small; grind)
    have hvs : SizeQ (addQ v (x (n - 1 - (i + 1)))) (4 * S) := ((v2.size hms).add hxs).mono (four_le u1 (Rat.le_of_lt u2) hlo)
    obtain ⟨u, w1, w2⟩ := cadd_near v1 (hx (n - 1 - (i + 1)) (by omega)) hvs (mid_four hlo hhi)
    have w1 : FvQ (hornZ xs (twid n k) n (i + 1)) u := w1
    have e1 := valQ_of w1
    refine ⟨by rw [e1]; exact w1, fun j hj => ?_⟩
    by_cases hji : j ≤ i
    · exact d1 j hji
    · obtain rfl : j = i + 1 := by omega
      show NearQ (subQ (valQ (hornZ xs (twid n k) n (i + 1))) (mulQ (valQ (hornZ xs (twid n k) n i)) (cisr n k))) _ _
      rw [e1, hH]
      have e5 : 257 / 256 * (ulp * (4 * S)) = 257 / 64 * (ulp * S) := by grind
      rw [e5] at w2
      exact step_near v2 w2 (Rat.le_of_lt u2)


theorem horn_zero (hx : ∀ j, j < n → FvQ (xs.getD j z0) (0, 0)) (hn0 : 0 < n) (hn : n ≤ 24) : ∀ i, i < n → FvQ (hornZ xs (twid n k) n i) (0, 0) := by
  intro i
  induction i with
  | zero => intro hi; exact hx (n - 1) (by omega)
  | succ i ih =>
    intro hi
    obtain ⟨q, hq⟩ := twid_fv (n := n) (j := k) hn0 (by omega)
    exact addZ_zero (mulZ_zero_l (ih (by omega)) hq) (hx _ (by omega))

/-- A number of a transform, by its polynomial. -/
theorem horn_near (hl : xs.length = n) (hn0 : 0 < n) (hn : n ≤ 24) (hx : ∀ j, j < n → FvQ (xs.getD j z0) (x j)) (hS : Sz x n S) : ∃ v, FvQ (hornZ xs (twid n k) n (n - 1)) v ∧ NearQ v (dft x n k) (S / 1099511627776) := by
  rcases hS.lo with h0 | h0
  · subst h0
    have hz := hS.zeros
    rw [dft_zeros hz]
    exact ⟨(0, 0), horn_zero (fun j hj => by have := hx j hj; rwa [hz j hj] at this) hn0 hn (n - 1) (by omega), NearQ.refl _ (by decide +kernel)⟩
  · obtain ⟨f, d⟩ := horn_all (k := k) hl hn0 hn hx hS h0 (n - 1) (by omega)
    refine ⟨_, f, ?_⟩
    rw [horn_steps, hornQ_sum, show n - 1 + 1 = n by omega]
    have hU : 0 ≤ ulp * S := Rat.mul_nonneg (Rat.le_of_lt ulp_pos) (by grind)
    have a := sumQ_near (s := fun j => mulQ (stepD xs n k j) (powQ (cisr n k) (n - 1 - j))) (t := fun j => mulQ (x (n - 1 - j)) (powQ (cisr n k) (n - 1 - j))) (e := fun _ => 60 * (ulp * S) * (21 / 10)) (n := n)
      (fun j hj => mulQ_near_l (d j (by omega)) (Rat.le_trans (nrm_le (pow_size (k := k) hn0 (by omega) (show n - 1 - j < 24 by omega))) (by decide +kernel)) (by grind))
    have b := weighted_near (x := fun j => x (n - 1 - j)) (w := fun j => powQ (cisr n k) (n - 1 - j)) (v := fun j => cisr n ((n - 1 - j) * k)) (s := fun j => nrm (x (n - 1 - j))) (e := 8 * ulp) (n := n) (by have := ulp_pos; grind) (fun j _ => Rat.le_refl) (fun j hj => (pow_near hn0 (by omega) (n - 1 - j)).mono (pe_small _ (by omega)))
    have c := a.trans b
    have e : sumQ (fun j => mulQ (x (n - 1 - j)) (cisr n ((n - 1 - j) * k))) n = dft x n k := by
      unfold dft
      rw [sumQ_rev (fun j => mulQ (x j) (cisr n (j * k))) n]
    rw [e, psum_const] at c
    refine c.mono ?_
    have p1 := psum_part (s := fun j => nrm (x j)) (fun j => nrm_nonneg _) (show n - 1 < n by omega)
    rw [hS.sum, show n - 1 + 1 = n by omega] at p1
    have p2 : psum (fun j => nrm (x (n - 1 - j))) n * (8 * ulp) ≤ S * (8 * ulp) := Rat.mul_le_mul_of_nonneg_right p1 (by have := ulp_pos; grind)
    have p3 : (n : Rat) ≤ 24 := Rat.natCast_le_natCast.2 hn
    have p4 : (n : Rat) * (60 * (ulp * S) * (21 / 10)) ≤ 24 * (60 * (ulp * S) * (21 / 10)) := Rat.mul_le_mul_of_nonneg_right p3 (by grind)
    have p5 : 4503599627370496 * (ulp * S) = S := by
      have : 4503599627370496 * ulp = 1 := by decide +kernel
      grind
    have e8 : S * (8 * ulp) = 8 * (ulp * S) := by grind
    rw [e8] at p2
    generalize (n : Rat) * (60 * (ulp * S) * (21 / 10)) = V at *
    generalize psum (fun j => nrm (x (n - 1 - j))) n * (8 * ulp) = W at *
    generalize ulp * S = U at *
    clear a b c e d f hS hx p1 e8 p3
    grind

end

/-- The plain transform of few sixteenths. -/
theorem few_plain24 {xs : List Fast.Z} {x : Nat → Q2} {n : Nat} {S : Rat} (hl : xs.length = n) (hn : n ≤ 24) (hx : ∀ j, j < n → FvQ (xs.getD j z0) (x j)) (hS : Sz x n S) {k : Nat} (hk : k < n) :
    ∃ v, FvQ (sumC (fun j => mulZ (xs.getD j z0) (twid n (j * k))) n) v ∧ NearQ v (dft x n k) (S / 17592186044416) := by
  have hn0 : 0 < n := by omega
  rcases hS.lo with h0 | h0
  · subst h0
    have hz := hS.zeros
    rw [dft_zeros hz]
    refine ⟨(0, 0), sumC_zero fun j hj => ?_, NearQ.refl _ (by decide +kernel)⟩
    obtain ⟨q, hq⟩ := twid_fv (n := n) (j := j * k) hn0 (by omega)
    have := hx j hj
    rw [hz j hj] at this
    exact mulZ_zero_l this hq
  · have hsum : psum (fun j => nrm (x j) + 1 / 1099511627776) n = S + (n : Rat) * (1 / 1099511627776) := by
      rw [psum_add (fun j => nrm (x j)) (fun _ => 1 / 1099511627776), hS.sum, psum_const]
    have hn2 : (n : Rat) ≤ 24 := Rat.natCast_le_natCast.2 (show n ≤ 24 by omega)
    have hn1 : (1 : Rat) ≤ (n : Rat) := Rat.natCast_le_natCast.2 (show 1 ≤ n by omega)
    have hhi := hS.hi
    obtain ⟨s, hsd⟩ : ∃ s : Nat → Rat, s = fun j => nrm (x j) + 1 / 1099511627776 := ⟨_, rfl⟩
    rw [← hsd] at hsum
    have hs0 : ∀ j, 0 ≤ s j := fun j => by rw [hsd]; have := nrm_nonneg (x j); simp only; grind
    have hsn : ∀ j, nrm (x j) ≤ s j := fun j => by rw [hsd]; simp only; grind
    have hslo : ∀ j, 1 / 1099511627776 ≤ s j := fun j => by rw [hsd]; have := nrm_nonneg (x j); simp only; grind
    obtain ⟨T, hT⟩ : ∃ T, S + (n : Rat) * (1 / 1099511627776) = T := ⟨_, rfl⟩
    rw [hT] at hsum
    have hT1 : T ≤ S * (1001 / 1000) := by rw [← hT]; grind
    have hT2 : S ≤ T := by rw [← hT]; grind
    have hTm : Mid T := ⟨by grind, by grind⟩
    obtain ⟨u1, u2⟩ := hTm.small
    have hsT : ∀ j, j < n → s j ≤ T := fun j hj => by rw [← hsum]; exact psum_term (fun i _ => hs0 i) hj
    have hd := dl_small
    have e35 : psum (fun j => s j * (35 * ulp)) n = 35 * (ulp * T) := by rw [psum_mul, hsum]; grind
    obtain ⟨v, h1, h2⟩ := sumC_near (t := fun j => mulZ (xs.getD j z0) (twid n (j * k))) (D := fun j => mulQ (x j) (cisr n (j * k))) (e := fun j => s j * (35 * ulp)) (s := s) (p := n) (S := T)
      (fun j hj => by
        have hm : Mid (s j) := ⟨hslo j, by have := hsT j hj; have := hTm.hi; exact Rat.le_trans (hsT j hj) (Rat.le_trans hT1 (by grind))⟩
        obtain ⟨v, v1, v2⟩ := cmul_cis (n := n) (k := rst n (j * k)) (e := 0) (hx j hj) (NearQ.refl _ Rat.le_refl) ((size_nrm (x j)).mono (by have := hsn j; have := hs0 j; grind)) Rat.le_refl (by have := hs0 j; grind) hm (by have := hsT j hj; grind) hn0 (by omega) (Nat.le_of_lt (rst_lt _ hn0))
        exact ⟨v, v1, v2.mono (by show 17 / 12 * 0 + 35 * (ulp * s j) ≤ s j * (35 * ulp); grind)⟩)
      (fun j hj => (mulQ_size (hsn j) (cisr_size _ hn0) (by grind)).mono (Rat.mul_le_mul_of_nonneg_left (by grind) (hs0 j)))
      (fun j hj => Rat.mul_nonneg (hs0 j) (Rat.mul_nonneg (by decide +kernel) (Rat.le_of_lt ulp_pos))) (fun j hj => hs0 j) hsum (by rw [e35]; grind) (by omega) hTm (by grind) n hn0 (Nat.le_refl _)
    refine ⟨v, h1, h2.mono ?_⟩
    rw [e35]
    have a1 : (n : Rat) * (6 / 5 * (ulp * T)) ≤ 24 * (6 / 5 * (ulp * T)) := Rat.mul_le_mul_of_nonneg_right hn2 (by generalize ulp * T = U at *; grind)
    have a2 : 4503599627370496 * (ulp * T) = T := by
      have : 4503599627370496 * ulp = 1 := by decide +kernel
      grind
    refine Rat.le_trans (Rat.add_le_add_left.2 a1) ?_
    generalize ulp * T = U at *
    clear h1 h2 hS hx hTm hsT hsd hs0 hsn hslo e35 hsum a1
    grind


end Flt
end Go.Proofs.Yteamnfockjnilaa
