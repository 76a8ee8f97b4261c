import Derived.Test.YtgolfdngpphndaaQuoN
import Derived.Test.YtgolfdngpphndaaFew
/-
  A quotient by a power of 2.
-/
set_option linter.unusedVariables false
set_option linter.unusedSimpArgs false
namespace Go.Proofs.Ytgolfdngpphndaa
open Go.RowKit Flt Fast
attribute [local go_sem] run_fadd run_fsub run_fmul run_fquo run_cadd run_csub

theorem rq_inj {r s : Nat} (h : rq r = rq s) : r = s :=
  Nat.le_antisymm (rq_le.1 (by rw [h]; exact Rat.le_refl)) (rq_le.1 (by rw [h]; exact Rat.le_refl))
theorem fq_inj {x y : Nat} (hx : Flt.Fin x) (hy : Flt.Fin y) (h : fq x = fq y) (h0 : fq x ≠ 0) : x = y := by
  obtain ⟨s, r, hr, rfl⟩ := fin_parts hx
  obtain ⟨t, q, hq, rfl⟩ := fin_parts hy
  rw [fq_word _ hr] at h h0
  rw [fq_word _ hq] at h
  have n1 := rq_nonneg r
  have n2 := rq_nonneg q
  cases s <;> cases t <;> simp only [Bool.false_eq_true, if_false, if_true] at h h0
  · rw [rq_inj h]
  · exfalso; apply h0; grind
  · exfalso; apply h0; grind
  · have : rq r = rq q := by grind
    rw [rq_inj this]

def topR : Nat := 9218868437227405311
theorem topR_lt : topR < Ieee.double.infRung := by rw [ir64]; decide
theorem fin_size {x : Nat} (hx : Flt.Fin x) : Size (fq x) (rq topR) := by
  obtain ⟨s, r, hr, rfl⟩ := fin_parts hx
  rw [fq_word _ hr]
  have h1 : rq r ≤ rq topR := rq_le.2 (by rw [ir64] at hr; unfold topR; omega)
  have h0 := rq_nonneg r
  cases s
  · exact ⟨h1, by simp only [Bool.false_eq_true, if_false]; grind⟩
  · simp only [if_true]; exact ⟨by grind, by rw [Rat.neg_neg]; exact h1⟩

/-- A number of any size, divided by one that is 1 at least. -/
theorem quo_fin {a c : Nat} {C : Rat} (ha : Flt.Fin a) (hc : Has c C) (h1 : 1 ≤ C) : ∃ v, Fv (fop .quo .f64 (some a) (some c)) v ∧ (fq a = 0 → v = 0) := by
  have C0 : 0 < C := by grind
  have ci := Rat.mul_inv_cancel _ (Rat.ne_of_gt C0)
  have cp := Rat.inv_pos.2 C0
  have c1 : C⁻¹ ≤ 1 := by
    have := Rat.mul_le_mul_of_nonneg_right h1 (Rat.le_of_lt cp)
    rw [ci] at this; grind
  have hs : Size (fq a / fq c) (rq topR) := by
    rw [hc.2, Rat.div_def]
    have := (fin_size ha).mul (Size.of_nonneg (Rat.le_of_lt cp) c1)
    rwa [Rat.mul_one] at this
  obtain ⟨r, e, h2, h3⟩ := div_rnd ha hc.1 (by rw [hc.2]; exact Rat.ne_of_gt C0) topR_lt hs
  refine ⟨fq r, ⟨r, e, h2, rfl⟩, fun h0 => ?_⟩
  have : fq a / fq c = 0 := by rw [h0, Rat.div_def]; exact Rat.zero_mul _
  rw [this] at h3
  exact h3.exact rep_zero

theorem mul_zero_fv {b r : Nat} (hb : Flt.Fin b) (hr : Has r 0) : ∃ x, fop .mul .f64 (some b) (some r) = some x ∧ Has x 0 := by
  have h0 : fq b * fq r = 0 := by rw [hr.2]; exact Rat.mul_zero _
  obtain ⟨x, e, h1, h2⟩ := mul_rnd hb hr.1 topR_lt (by rw [h0]; constructor <;> (have := rq_nonneg topR; grind))
  rw [h0] at h2
  exact ⟨x, e, h1, h2.exact rep_zero⟩

/-- Nothing is added: then nothing is changed but the sign of nothing. -/
theorem pow_quot {a b c r : Nat} {C : Rat} (ha : Flt.Fin a) (hb : Flt.Fin b) (hc : Has c C) (h1 : 1 ≤ C) (hr : Has r 0) :
    (∃ v, Fv (fop .quo .f64 (some a) (some c)) v ∧ Fv (fop .quo .f64 (fop .add .f64 (some a) (fop .mul .f64 (some b) (some r))) (some c)) v) ∧
    (∃ v, Fv (fop .quo .f64 (some a) (some c)) v ∧ Fv (fop .quo .f64 (fop .sub .f64 (some a) (fop .mul .f64 (some b) (some r))) (some c)) v) := by
  obtain ⟨x, e, hx⟩ := mul_zero_fv hb hr
  obtain ⟨v, v1, v2⟩ := quo_fin ha hc h1
  rw [e]
  have same : ∀ n, Flt.Fin n → fq n = fq a → ∃ v, Fv (fop .quo .f64 (some a) (some c)) v ∧ Fv (fop .quo .f64 (some n) (some c)) v := by
    intro n hn hq
    by_cases h0 : fq a = 0
    · obtain ⟨u, u1, u2⟩ := quo_fin hn hc h1
      have k1 := v2 h0
      have k2 := u2 (by rw [hq]; exact h0)
      subst k1 k2
      exact ⟨0, v1, u1⟩
    · have := fq_inj hn ha hq (by rw [hq]; exact h0)
      subst this
      exact ⟨v, v1, v1⟩
  constructor
  · have h0 : fq a + fq x = fq a := by rw [hx.2]; exact Rat.add_zero _
    obtain ⟨n, e1, n1, n2⟩ := add_rnd ha hx.1 topR_lt (by rw [h0]; exact fin_size ha)
    rw [h0] at n2
    have e2 : fop .add .f64 (some a) (some x) = some n := e1
    rw [e2]
    exact same n n1 (n2.exact ⟨a, ha, rfl⟩)
  · have h0 : fq a - fq x = fq a := by rw [hx.2]; grind
    obtain ⟨n, e1, n1, n2⟩ := sub_rnd ha hx.1 topR_lt (by rw [h0]; exact fin_size ha)
    rw [h0] at n2
    have e2 : fop .sub .f64 (some a) (some x) = some n := e1
    rw [e2]
    exact same n n1 (n2.exact ⟨a, ha, rfl⟩)

/-- The words on the way. -/
theorem pow_words {c : Nat} {C : Rat} (hc : Has c C) (h1 : 1 ≤ C) :
    ∃ r t, Has r 0 ∧ floatBits .quo .f64 0 c = some r ∧ floatBits .mul .f64 0 r = some t ∧ floatBits .add .f64 c t = some c := by
  have C0 : 0 < C := by grind
  have e0 : (0 : Rat) / C = 0 := by rw [Rat.div_def]; exact Rat.zero_mul _
  obtain ⟨r, R, ⟨r1, r2⟩, r3⟩ : ∃ r R, Has r R ∧ R = 0 ∧ floatBits .quo .f64 0 c = some r := by
    obtain ⟨v, ⟨x, e, x1, x2⟩, v2⟩ := quo_fin has_zero.1 hc h1
    exact ⟨x, v, ⟨x1, x2⟩, v2 has_zero.2, e⟩
  obtain ⟨rfl, r4⟩ := r3
  obtain ⟨t, e, ht⟩ := mul_zero_fv (b := 0) has_zero.1 ⟨r1, r2⟩
  have h0 : fq c + fq t = fq c := by rw [ht.2]; exact Rat.add_zero _
  obtain ⟨n, e1, n1, n2⟩ := add_rnd hc.1 ht.1 topR_lt (by rw [h0]; exact fin_size hc.1)
  rw [h0] at n2
  have := fq_inj n1 hc.1 (n2.exact ⟨c, hc.1, rfl⟩) (by rw [n2.exact ⟨c, hc.1, rfl⟩, hc.2]; exact Rat.ne_of_gt C0)
  subst this
  exact ⟨r, t, ⟨r1, r2⟩, r4, e, e1⟩

set_option maxRecDepth 100000 in
set_option maxHeartbeats 4000000 in
theorem overP_any {c r t : Nat} {C : Rat} (hc : Has c C) (h1 : 1 ≤ C) (hr : Has r 0) (b1 : floatBits .quo .f64 0 c = some r) (b2 : floatBits .mul .f64 0 r = some t) (b3 : floatBits .add .f64 c t = some c) (a b : Nat) (za zb : Option Nat) (ha : IsF a za) (hb : IsF b zb) (w : World) :
    Calls Try.prog 19 #[.agg #[.complex .f64 a b], .agg #[.complex .f64 c 0]] w fun e w' => ∃ u v, e = .returned (.complex .f64 u v) ∧
      IsF u (fop .quo .f64 (fop .add .f64 za (fop .mul .f64 zb (some r))) (some c)) ∧ IsF v (fop .quo .f64 (fop .sub .f64 zb (fop .mul .f64 za (some r))) (some c)) ∧ Below w.heap.size w w' := by
  have A1 := Lib.hid (fun w => abs_any c hc.lt w)
  have A2 := Lib.hid (fun w => abs_any 0 (by omega) w)
  have hge := absGe_of hc has_zero
  rw [decide_eq_true (.inl ⟨by grind, by grind⟩)] at hge
  unfold absGe at hge
  have g1 : (FloatKind.f64.format.order (c % 9223372036854775808) (0 % 9223372036854775808) == some .gt || FloatKind.f64.format.order (c % 9223372036854775808) (0 % 9223372036854775808) == some .eq) = true := hge
  rw [Nat.zero_mod] at g1
  have f1 : ∀ w, fres .quo .f64 0 c w = r := fun w => by unfold fres; rw [b1]
  have f2 : fcnt .quo .f64 0 c = 0 := by unfold fcnt; rw [b1]
  have f3 : ∀ w, fres .mul .f64 0 r w = t := fun w => by unfold fres; rw [b2]
  have f4 : fcnt .mul .f64 0 r = 0 := by unfold fcnt; rw [b2]
  have f5 : ∀ w, fres .add .f64 c t w = c := fun w => by unfold fres; rw [b3]
  have f6 : fcnt .add .f64 c t = 0 := by unfold fcnt; rw [b3]
  have HA := Lib.hid ha
  have HB := Lib.hid hb
  have HC := Lib.hid hc.isF
  have HR := Lib.hid hr.isF
  clear b1 b2 b3 hge ha hb hc hr h1
  have d0 : ∀ w : World, w.drewN 0 = w := fun w => rfl
  have A2' : Hid (∀ w, Calls Try.prog 33 #[.float .f64 0] w fun e w' => e = .returned (.float .f64 0) ∧ w' = w) := A2.out
  generalize c % 9223372036854775808 = cc at *
  go_enter Try.func19, Try.ntmps19
  go_wp2_with fail
  refine (parts_any a b _).mono ?_
  rintro e w1 ⟨rfl, hb1⟩
  have hy : w.heap.size + 1 < w1.heap.size := by have := hb1.size; simp at this; omega
  have c3 : w1.cell? ⟨w.heap.size + 1, 0, none⟩ = some (.complex .f64 c 0) := by
    rw [hb1.cell (by simp)]; simp
  have HB1 : Hid (Below w.heap.size w w1) := (((Below.refl _ _).alloc (Nat.le_refl _) _).alloc (by simp) _).trans (hb1.mono (by simp; omega))
  clear hb1
  go_wp2_with fail
  refine (parts_any c 0 _).mono ?_
  rintro e w2 ⟨rfl, hb2⟩
  have HB2 : Hid (Below w.heap.size w w2) := HB1.out.trans (hb2.mono HB1.out.size)
  clear hb2 HB1 c3 hy
  go_wp2_with (first | (go_at_call 33; first | (with_reducible refine (A1.out _).mono ?_; rintro e w3 ⟨rfl, rfl⟩) | (with_reducible refine (A2'.out _).mono ?_; rintro e w3 ⟨rfl, rfl⟩)))
  go_ret
  exact ⟨_, _, rfl, isF_fres (isF_fres HA.out (isF_fres HB.out HR.out _) _) HC.out _, isF_fres (isF_fres HB.out (isF_fres HA.out HR.out _) _) HC.out _, below_draws HB2.out _⟩

end Go.Proofs.Ytgolfdngpphndaa
