import Derived.Test.YtgolfdngpphndaaQuoP
import Derived.Test.YtgolfdngpphndaaApart
import Derived.Test.YtgolfdngpphndaaWalkSame
import Derived.Deep.CutRange
import Derived.Deep.RegionHeld3
/-
  FnQuotients: what the law calls, and its numbers.
-/
set_option linter.unusedVariables false
set_option linter.unusedSimpArgs false
namespace Go.Proofs.Ytgolfdngpphndaa
open Go.RowKit Flt Fast
attribute [local go_sem ↓] run_eqlC run_neqC

theorem litOf (e r : Nat) (he : e ≤ 1000) (hr : r = (1074 - e) * 4503599627370496 + 4503599627370496) {q : Rat} (hq : ((4503599627370496 : Nat) : Rat) / two e = q) : Has r q := by
  have h := word_fv (k := 4503599627370496) (e := e) (r := r) (by decide) (by decide) he hr
  rw [hq] at h
  obtain ⟨x, e1, h1, h2⟩ := h
  cases e1
  exact ⟨h1, h2⟩
theorem l36 : Has 4445052832214679552 (1 / 68719476736) := litOf 88 _ (by decide) (by decide) (by decide +kernel)
theorem l30 : Has 4472074429978902528 (1 / 1073741824) := litOf 82 _ (by decide) (by decide) (by decide +kernel)
theorem l8 : Has 4571153621781053440 (1 / 256) := litOf 60 _ (by decide) (by decide) (by decide +kernel)

theorem qc_reads {w : World} {v : Value} {xs : List C} (h : Reads w v (cvals xs)) : ∀ a n cap, v = .slice a n cap → ∀ k, k < n → ∃ g, a = some ⟨g, 0, none⟩ ∧ g < w.heap.size ∧ w.cell? ⟨g, k, none⟩ = some (.complex .f64 (xs.getD k (0, 0)).1 (xs.getD k (0, 0)).2) := by
  intro a n cap e k hk
  generalize hcs : cvals xs = cs at h
  cases h with
  | none a cap => simp only [Value.slice.injEq] at e; omega
  | row g cap L cs hL h0 hc hm hh =>
    simp only [Value.slice.injEq] at e
    obtain ⟨e1, e2, -⟩ := e
    have hl : xs.length = L := by rw [← hL, ← hcs, cvals_length]
    have hc := hh k (by omega)
    refine ⟨g, e1.symm, World.block_lt_of_cell? _ _ hc, ?_⟩
    rw [hc, ← hcs]
    simp [cvals, cval, List.getD, show k < xs.length by omega]
theorem qc_form {w : World} {v : Value} {cs : List Value} (h : Reads w v cs) : ∃ a cap, v = .slice a cs.length cap := by
  cases h with
  | none a cap => exact ⟨a, cap, rfl⟩
  | row g cap L cs hL => subst hL; exact ⟨_, cap, rfl⟩

theorem eqC_has {a b c d : Nat} {p q : Rat} (ha : Has a p) (hb : Has b q) (hc : Has c p) (hd : Has d q) : eqC .f64 a b c d = true := by
  unfold eqC
  rw [eq_has ha hc, eq_has hb hd]; rfl

/-- What few sixteenths are. -/
structure FewV (p : Nat) (A : Rat) : Prop where
  has : Has p A
  size : Size A 64
  part : Sixteenth A
  narrow : Nar.Rep A
theorem Few.val {p : Nat} (h : Few p) : ∃ A, FewV p A := by
  obtain ⟨k, hk, hp⟩ := h
  refine ⟨_, hp, ?_, ?_, Nar.rep_int (k := k) (e := 4) (by omega) (by omega) (by rw [show two 4 = 16 from rfl]; exact Rat.div_mul_cancel (by decide))⟩
  · have h1 : (k : Rat) ≤ 1024 := Rat.intCast_le_intCast.2 (show k ≤ 1024 by omega)
    have h2 : -1024 ≤ (k : Rat) := Rat.intCast_le_intCast.2 (show (-1024 : Int) ≤ k by omega)
    constructor <;> grind
  · rcases Int.lt_trichotomy k 0 with h | h | h
    · right; right
      have h1 : (k : Rat) ≤ -1 := Rat.intCast_le_intCast.2 (show k ≤ -1 by omega)
      grind
    · left; subst h; decide +kernel
    · right; left
      have h1 : (1 : Rat) ≤ (k : Rat) := Rat.intCast_le_intCast.2 (show 1 ≤ k by omega)
      grind

/-- There and back through the narrow width. -/
theorem FewV.there {p : Nat} {A : Rat} (h : FewV p A) : ∃ u x, floatToFloatBits .f64 p .f32 = some u ∧ floatToFloatBits .f32 u .f64 = some x ∧ Has x A := by
  obtain ⟨u, e, h1, h2⟩ := Nar.narrow_rnd h.has.1 (by
    rw [h.has.2]
    exact h.size.mono (Rat.le_trans (show (64 : Rat) ≤ two 6 from Rat.le_refl) (two_le (by omega))))
  rw [h.has.2] at h2
  have h3 := h2.exact h.narrow
  obtain ⟨x, e2, x1, x2⟩ := Nar.widen_fq h1
  exact ⟨u, x, e, e2, x1, by rw [x2, h3]⟩

theorem narrow_fix {a r u : Nat} (h : Narrows a u) (e : floatToFloatBits .f64 a .f32 = some r) : u = r := h.val r e

/-- The product of the quotient and the divisor. -/
theorem prod_vals {q p c d : Nat} {A B C D Q P X Y : Rat} (hq : Has q Q) (hp : Has p P) (hc : Has c C) (hd : Has d D) (h : QV A B C D Q P X Y) (sA : Size A 64) (sB : Size B 64) :
    ∃ U V, Fv (mulZ (some q, some p) (some c, some d)).1 U ∧ Fv (mulZ (some q, some p) (some c, some d)).2 V ∧ Near U A (3000 * ulp) ∧ Near V B (3000 * ulp) := by
  obtain ⟨u0, u1, u2, u3⟩ := ulp_small
  obtain ⟨x1, X1, f1, g1, b1⟩ := bits_mul hq hc (by decide +kernel) h.qc
  obtain ⟨x2, X2, f2, g2, b2⟩ := bits_mul hp hd (by decide +kernel) h.pd
  obtain ⟨x3, X3, f3, g3, b3⟩ := bits_mul hq hd (by decide +kernel) h.qd
  obtain ⟨x4, X4, f4, g4, b4⟩ := bits_mul hp hc (by decide +kernel) h.pc
  have re := h.re
  have im := h.im
  clear h
  generalize Q * C = v1 at *
  generalize P * D = v2 at *
  generalize Q * D = v3 at *
  generalize P * C = v4 at *
  have n1 : Near (X1 - X2) A (2700 * ulp) := by
    obtain ⟨a1, a2⟩ := g1
    obtain ⟨c1, c2⟩ := g2
    obtain ⟨d1, d2⟩ := re
    constructor <;> grind
  have n2 : Near (X3 + X4) B (2700 * ulp) := by
    obtain ⟨a1, a2⟩ := g3
    obtain ⟨c1, c2⟩ := g4
    obtain ⟨d1, d2⟩ := im
    constructor <;> grind
  have s1 : Size (X1 - X2) 65 := by
    obtain ⟨a1, a2⟩ := n1
    obtain ⟨c1, c2⟩ := sA
    constructor <;> grind
  have s2 : Size (X3 + X4) 65 := by
    obtain ⟨a1, a2⟩ := n2
    obtain ⟨c1, c2⟩ := sB
    constructor <;> grind
  obtain ⟨y1, Y1, k1, m1, e1⟩ := bits_sub f1 f2 (by decide +kernel) s1
  obtain ⟨y2, Y2, k2, m2, e2⟩ := bits_add f3 f4 (by decide +kernel) s2
  refine ⟨Y1, Y2, ?_, ?_, ?_, ?_⟩
  · have : (mulZ (some q, some p) (some c, some d)).1 = some y1 := by
      show fop .sub .f64 (floatBits .mul .f64 q c) (floatBits .mul .f64 p d) = _
      rw [b1, b2]; exact e1
    rw [this]; exact k1.fv
  · have : (mulZ (some q, some p) (some c, some d)).2 = some y2 := by
      show fop .add .f64 (floatBits .mul .f64 q d) (floatBits .mul .f64 p c) = _
      rw [b3, b4]; exact e2
    rw [this]; exact k2.fv
  · obtain ⟨a1, a2⟩ := n1
    obtain ⟨c1, c2⟩ := m1
    constructor <;> grind
  · obtain ⟨a1, a2⟩ := n2
    obtain ⟨c1, c2⟩ := m2
    constructor <;> grind

/-- What is narrowed is near. -/
theorem narrow_near {q : Nat} {Q : Rat} (hq : Has q Q) (h : Size Q 2200) : ∃ u x R, floatToFloatBits .f64 q .f32 = some u ∧ floatToFloatBits .f32 u .f64 = some x ∧ Has x R ∧ Near R Q (1 / 3000) := by
  obtain ⟨u, e, h1, h2⟩ := Nar.narrow_rnd hq.1 (by
    rw [hq.2]
    exact h.mono (Rat.le_trans (show (2200 : Rat) ≤ two 12 by decide +kernel) (two_le (by omega))))
  rw [hq.2] at h2
  obtain ⟨x, e2, x1, x2⟩ := Nar.widen_fq h1
  refine ⟨u, x, Nar.fq u, e, e2, ⟨x1, x2⟩, (h2.near h).mono ?_⟩
  unfold Nar.tiny
  decide +kernel

/-- It is nothing just if both parts are. -/
theorem eqC_zero {c d : Nat} {C D : Rat} (hc : Has c C) (hd : Has d D) : eqC .f64 c d 0 0 = decide (C = 0 ∧ D = 0) := by
  have one : ∀ {x : Nat} {q : Rat}, Has x q → (FloatKind.f64.format.order x 0 == some .eq) = decide (q = 0) := by
    intro x q h
    by_cases h0 : q = 0
    · rw [decide_eq_true h0]
      exact eq_has (q := 0) (by rw [← h0]; exact h) has_zero
    · rw [decide_eq_false h0]
      by_cases hl : q < 0
      · have : FloatKind.f64.format.order x 0 = some .lt := order_lt h.1 has_zero.1 (by rw [h.2, has_zero.2]; exact hl)
        rw [this]; rfl
      · have : FloatKind.f64.format.order x 0 = some .gt := order_gt h.1 has_zero.1 (by rw [h.2, has_zero.2]; exact Rat.lt_of_le_of_ne (Rat.not_lt.1 hl) (Ne.symm h0))
        rw [this]; rfl
  unfold eqC
  rw [one hc, one hd]
  by_cases h1 : C = 0 <;> by_cases h2 : D = 0 <;> simp [h1, h2]

theorem quotientP_any {c r t : Nat} {C : Rat} (hc : Has c C) (h1 : 1 ≤ C) (hr : Has r 0) (b1 : floatBits .quo .f64 0 c = some r) (b2 : floatBits .mul .f64 0 r = some t) (b3 : floatBits .add .f64 c t = some c) (a b : Nat) (za zb : Option Nat) (ha : IsF a za) (hb : IsF b zb) (w : World) :
    Calls Try.prog 7 #[.complex .f64 a b, .complex .f64 c 0] w fun e w' => ∃ u v, e = .returned (.complex .f64 u v) ∧
      IsF u (fop .quo .f64 (fop .add .f64 za (fop .mul .f64 zb (some r))) (some c)) ∧ IsF v (fop .quo .f64 (fop .sub .f64 zb (fop .mul .f64 za (some r))) (some c)) ∧ Below w.heap.size w w' := by
  have O := Lib.hid (fun w => overP_any hc h1 hr b1 b2 b3 a b za zb ha hb w)
  clear b1 b2 b3 hc h1 hr ha hb
  go_enter Try.func7, Try.ntmps7
  go_wp2_with fail
  refine (numberOf_any a b _).mono ?_
  rintro e w1 ⟨rfl, b1⟩
  go_wp2_with fail
  refine (numberOf_any c 0 _).mono ?_
  rintro e w2 ⟨rfl, b2⟩
  have HB := Lib.hid (below_step b1 b2 b1.size)
  clear b1 b2
  go_wp2_with fail
  refine (O.out _).mono ?_
  rintro e w3 ⟨u, v, rfl, hu, hv, b3⟩
  replace HB := Lib.hid (below_step HB.out b3 HB.out.size)
  have HX := Lib.hid (And.intro hu hv)
  clear b3 hu hv
  go_wp2
  go_ret
  exact ⟨u, v, rfl, HX.out.1, HX.out.2, HB.out⟩

set_option maxRecDepth 100000 in
set_option maxHeartbeats 16000000 in
theorem fnQuotients_law (a0 : Option Addr) (len0 cap0 : Nat) (z0 : List Int) (a1 : Option Addr) (len1 cap1 : Nat) (z1 : List Int) (w : World) (h0 : IsRow .u8 w a0 len0 cap0 z0) (h1 : IsRow .u8 w a1 len1 cap1 z1) :
    Calls Try.prog 3 #[.slice a0 len0 cap0, .slice a1 len1 cap1] w fun e w' => e = .returned (.bool true) ∧ Below w.heap.size w w' := by
  have hm0 := isRow_len h0
  have hm1 := isRow_len h1
  by_cases hl0 : len0 ≤ 3000
  · by_cases hl1 : len1 ≤ 3000
    · go_enter Try.func3, Try.ntmps3
      go_wp2_with (first | (go_at_call 4; go_in))
      refine (a2Any_any a0 len0 cap0 z0 0 (by omega) w h0).mono ?_
      rintro e w1 ⟨x, y, hx, hy, rfl, hb1⟩
      go_wp2_with fail
      refine (a2At_any a1 len1 cap1 z1 0 (by omega) 12 (by omega) (by omega) _ (isRow_below h1 hb1)).mono ?_
      rintro e w2 ⟨j, j0, j1, rfl, rfl⟩
      have hP : ∃ C, Has (floatOfInt .f64 (wrap64 (2 ^ j.toNat))) C ∧ 1 ≤ C := by
        obtain ⟨m, rfl⟩ : ∃ m : Nat, j = m := ⟨j.toNat, by omega⟩
        have hm : m = 0 ∨ m = 1 ∨ m = 2 ∨ m = 3 ∨ m = 4 ∨ m = 5 ∨ m = 6 ∨ m = 7 ∨ m = 8 ∨ m = 9 ∨ m = 10 ∨ m = 11 := by omega
        rcases hm with rfl | rfl | rfl | rfl | rfl | rfl | rfl | rfl | rfl | rfl | rfl | rfl
        all_goals exact ⟨_, has_int (n := wrap64 (2 ^ _)) (by decide +kernel) rfl, by decide +kernel⟩
      obtain ⟨C0, hC0, hC1⟩ := hP
      obtain ⟨c0, hc0⟩ : ∃ c0, floatOfInt .f64 (wrap64 (2 ^ j.toNat)) = c0 := ⟨_, rfl⟩
      rw [hc0] at hC0
      have HJ := Lib.hid hc0
      obtain ⟨r0, t0, hr0, q1, q2, q3⟩ := pow_words hC0 hC1
      have QP := Lib.hid (fun w => quotientP_any hC0 hC1 hr0 q1 q2 q3 x y _ _ (IsF.self hx) (IsF.self hy) w)
      have FX := Lib.hid (fun w => isFinite_any x y hx hy w)
      have FIN : Hid ((finO (cn .f64 x) && finO (cn .f64 y)) = true → Flt.Fin x ∧ Flt.Fin y ∧ cn .f64 x = some x ∧ cn .f64 y = some y) := fun h => by
        have one : ∀ z : Nat, z < 18446744073709551616 → finO (cn .f64 z) = true → Flt.Fin z ∧ cn .f64 z = some z := fun z hz h => by
          by_cases hn : nan FloatKind.f64.format z = true
          · rw [finO_nan hn] at h; cases h
          · have hn : nan FloatKind.f64.format z = false := by simpa using hn
            rw [finO_num hn] at h
            exact ⟨⟨hz, of_decide_eq_true h⟩, cn_some hn⟩
        obtain ⟨ha, hb⟩ := Bool.and_eq_true_iff.1 h
        obtain ⟨p1, p2⟩ := one x hx ha
        obtain ⟨p3, p4⟩ := one y hy hb
        exact ⟨p1, p3, p2, p4⟩
      have HB1 := Lib.hid hb1
      have R1 := Lib.hid (fun w1 (hb : Below w.heap.size w w1) => isRow_below h1 hb)
      clear h0 h1 hl0 hl1 hb1 hx hy q1 q2 q3 hc0
      go_wp2_with fail
      rw [HJ.out]
      refine (QP.out _).mono ?_
      rintro e w3 ⟨u, v, rfl, hu, hv, hb3⟩
      have HB3 := Lib.hid (below_step HB1.out hb3 HB1.out.size)
      have HU := Lib.hid (And.intro hu hv)
      clear hu hv hb3 QP HB1
      obtain ⟨s, hs⟩ : ∃ s, (finO (cn .f64 x) && finO (cn .f64 y)) = s := ⟨_, rfl⟩
      rw [hs] at FX FIN
      go_wp2_with fail
      refine (FX.out _).mono ?_
      rintro e w4 ⟨rfl, hb4⟩
      have HB4 := Lib.hid (below_step HB3.out hb4 HB3.out.size)
      clear hb4 FX HB3 hs
      cases s
      case' false => clear FIN HU hr0
      case' true =>
        obtain ⟨fx, fy, cx, cy⟩ := FIN.out rfl
        obtain ⟨xq, yq, X1, X2, e1, e2⟩ : ∃ xq yq, (∀ (P : Program) (t : TypeId) (w : World), (binOp .quo t (.float .f64 x) (.float .f64 c0)).run P w = .ok (.float .f64 xq) w) ∧ (∀ (P : Program) (t : TypeId) (w : World), (binOp .quo t (.float .f64 y) (.float .f64 c0)).run P w = .ok (.float .f64 yq) w) ∧ eqC .f64 u v xq yq = true ∧ True := by
          have hU := HU.out
          rw [cx, cy] at hU
          obtain ⟨⟨v1, f1, f2⟩, -⟩ := pow_quot fx fy hC0 hC1 hr0
          obtain ⟨-, ⟨v2, f3, f4⟩⟩ := pow_quot fy fx hC0 hC1 hr0
          obtain ⟨xq, X1, E1⟩ := run_has (.inr (.inr (.inr rfl))) f1
          obtain ⟨yq, Y1, E2⟩ := run_has (.inr (.inr (.inr rfl))) f3
          exact ⟨xq, yq, E1, E2, eqC_has (Has.of hU.1 f2) (Has.of hU.2 f4) X1 Y1, trivial⟩
        clear FIN HU hr0 fx fy cx cy e2
      all_goals
        go_wp2_with fail
        refine (a2Signal_any a1 len1 cap1 z1 2 (by omega) (by omega) _ (R1.out _ HB4.out)).mono ?_
        rintro e w5 ⟨V, xs, rfl, hrow, hl2, hfew, hb5⟩
        have HB5 := Lib.hid (below_step HB4.out hb5 HB4.out.size)
        have hrd := qc_reads hrow.reads
        obtain ⟨ga, gc, rfl⟩ := qc_form hrow.reads
        rw [cvals_length] at hrd ⊢
        clear hrow hb5 HB4
        by_cases hlen : xs.length = 2
        · rw [hlen] at hrd ⊢
          obtain ⟨g, rfl, hg, cc0⟩ := hrd _ _ _ rfl 0 (by omega)
          obtain ⟨g', e', -, cc1⟩ := hrd _ _ _ rfl 1 (by omega)
          obtain rfl : g = g' := by simpa using e'
          obtain ⟨a, b, hab⟩ : ∃ a b, xs.getD 0 (0, 0) = (a, b) := ⟨_, _, rfl⟩
          obtain ⟨c, d, hcd⟩ : ∃ a b, xs.getD 1 (0, 0) = (a, b) := ⟨_, _, rfl⟩
          have m0 : xs.getD 0 (0, 0) ∈ xs := by rw [List.getD_eq_getElem?_getD, List.getElem?_eq_getElem (by omega)]; exact List.getElem_mem _
          have m1 : xs.getD 1 (0, 0) ∈ xs := by rw [List.getD_eq_getElem?_getD, List.getElem?_eq_getElem (by omega)]; exact List.getElem_mem _
          have k0 := hfew _ m0
          have k1 := hfew _ m1
          rw [hab] at cc0 k0
          rw [hcd] at cc1 k1
          obtain ⟨A, fa⟩ := k0.1.val
          obtain ⟨B, fb⟩ := k0.2.val
          obtain ⟨C, fc⟩ := k1.1.val
          obtain ⟨D, fd⟩ := k1.2.val
          have EZ := eqC_zero fc.has fd.has
          clear hrd e' hab hcd m0 m1 k0 k1 hfew hlen hl2 R1
          by_cases hz : C = 0 ∧ D = 0
          · rw [decide_eq_true hz] at EZ
            clear fa fb fc fd hz
            go_wp2
            go_ret
            exact ⟨rfl, HB5.out⟩
          · rw [decide_eq_false hz] at EZ
            obtain ⟨q, p, Q, P, hW, hq, hp, hV⟩ := qw_ex fa.has fb.has fc.has fd.has fa.size fb.size fc.size fd.size fc.part fd.part hz
            obtain ⟨ua, xa, ea, ea', ha'⟩ := fa.there
            obtain ⟨ub, xb, eb, eb', hb'⟩ := fb.there
            obtain ⟨uc, xc, ec, ec', hc'⟩ := fc.there
            obtain ⟨ud, xd, ed, ed', hd'⟩ := fd.there
            obtain ⟨q', p', Q', P', hW', hq', hp', hV'⟩ := qw_ex ha' hb' hc' hd' fa.size fb.size fc.size fd.size fc.part fd.part hz
            obtain ⟨uq, xq', R, e5, e5', hR, nR⟩ := narrow_near hq' hV'.sq
            obtain ⟨up, xp', S, e6, e6', hS, nS⟩ := narrow_near hp' hV'.sp
            have QU := Lib.hid (fun w => quotient_any hW fc.has.lt fd.has.lt w)
            have GO := Lib.hid (fun w => goQuotient_any hW hq w)
            have GN := Lib.hid (fun w => goNarrow_any ea' eb' ec' ed' hW' hq' e5 e6 w)
            have N0 := Lib.hid (fun w => (narrowOf_any a b w).mono (fun e w' (h : RetsN (Narrows a) (Narrows b) w e w') => (show e = .returned (.complex .f32 ua ub) ∧ Below w.heap.size w w' from by
              obtain ⟨u1, u2, n1, n2, rfl, hb⟩ := h
              rw [narrow_fix n1 ea, narrow_fix n2 eb]; exact ⟨rfl, hb⟩)))
            have N1 := Lib.hid (fun w => (narrowOf_any c d w).mono (fun e w' (h : RetsN (Narrows c) (Narrows d) w e w') => (show e = .returned (.complex .f32 uc ud) ∧ Below w.heap.size w w' from by
              obtain ⟨u1, u2, n1, n2, rfl, hb⟩ := h
              rw [narrow_fix n1 ec, narrow_fix n2 ed]; exact ⟨rfl, hb⟩)))
            have WD := Lib.hid (fun w => (wideOf_any uq up w).mono (fun e w' (h : RetsW (Wide uq) (Wide up) w e w') => (show e = .returned (.complex .f64 xq' xp') ∧ Below w.heap.size w w' from by
              obtain ⟨u1, u2, n1, n2, rfl, hb⟩ := h
              rw [wide_fix e5' n1, wide_fix e6' n2]; exact ⟨rfl, hb⟩)))
            obtain ⟨U, W, f1, f2, g1, g2⟩ := prod_vals hq hp fc.has fd.has hV fa.size fb.size
            have PR := Lib.hid (fun w => (product_impl q p c d _ _ ⟨hq.isF, hp.isF⟩ ⟨fc.has.isF, fd.has.isF⟩ w).mono (fun e w' (h : RetsC _ w e w') => (show ∃ s t, e = .returned (.complex .f64 s t) ∧ Has s U ∧ Has t W ∧ Below w.heap.size w w' from by
              obtain ⟨s, t, rfl, hc, hb⟩ := h
              exact ⟨s, t, rfl, Has.of hc.re f1, Has.of hc.im f2, hb⟩)))
            have near1 : Near R Q (1 / 1000) := by
              have := hV.nq
              have h2 := hV'.nq
              obtain ⟨u0, u1, u2, u3⟩ := ulp_small
              have hk : 18300 * ulp ≤ 1 / 1000000 := by decide +kernel
              obtain ⟨a1, a2⟩ := nR
              obtain ⟨b1, b2⟩ := this
              obtain ⟨c1, c2⟩ := h2
              constructor <;> grind
            have near2 : Near S P (1 / 1000) := by
              have := hV.np
              have h2 := hV'.np
              have hk : 18300 * ulp ≤ 1 / 1000000 := by decide +kernel
              obtain ⟨a1, a2⟩ := nS
              obtain ⟨b1, b2⟩ := this
              obtain ⟨c1, c2⟩ := h2
              constructor <;> grind
            have AP1 := Lib.hid (fun (s t : Nat) (hs : Has s U) (ht : Has t W) w => a2Apart_any s t a b U W A B (3000 * ulp) hs ht fa.has fb.has g1 g2 (by decide +kernel) w)
            have AP2 := Lib.hid (fun w => a2Apart_any q p q p Q P Q P 0 hq hp hq hp (Near.refl _ Rat.le_refl) (Near.refl _ Rat.le_refl) (by decide) w)
            have AP3 := Lib.hid (fun w => a2Apart_any xq' xp' q p R S Q P (1 / 1000) hR hS hq hp near1 near2 (by decide +kernel) w)
            clear hW hq hp hV ea eb ec ed ea' eb' ec' ed' ha' hb' hc' hd' hW' hq' hp' hV' e5 e5' hR nR e6 e6' hS nS f1 f2 g1 g2 near1 near2 fa fb fc fd hz
            have HK := Lib.hid (fun W (hW : Below w5.heap.size w5 W) => (show W.cell? ⟨g, 0, none⟩ = some (.complex .f64 a b) ∧ W.cell? ⟨g, 1, none⟩ = some (.complex .f64 c d) from ⟨by rw [hW.cell hg]; exact cc0, by rw [hW.cell hg]; exact cc1⟩))
            have cd0 : w5.drew.cell? ⟨g, 0, none⟩ = some (.complex .f64 a b) := cc0
            have cd1 : w5.drew.cell? ⟨g, 1, none⟩ = some (.complex .f64 c d) := cc1
            clear hg
            go_wp2_with fail
            go_cut [9] from 52 to 58 (fun v wx => v = .complex .f64 q p ∧ Below w5.heap.size w5 wx)
            case first =>
              go_region_law (go_simp; go_at_call 7; refine (QU.out _).mono ?_; rintro e w6 ⟨rfl, hb⟩; have HB6 : Hid (Below w5.heap.size w5 w6) := below_step (below_draws (Below.refl _ _) 1) hb (Nat.le_refl _); clear hb)
              all_goals
                go_wp2
                go_meet
                exact ⟨rfl, HB6.out⟩
            case rest =>
              obtain ⟨rfl, hb⟩ := hcut
              have HB6 := Lib.hid hb
              obtain ⟨w6, rfl⟩ : ∃ z, z = wc := ⟨_, rfl⟩
              clear cc0 cc1 cd0 cd1 hb QU
              obtain ⟨cc0, cc1⟩ := HK.out _ HB6.out
              have cd0 : w6.drew.cell? ⟨g, 0, none⟩ = some (.complex .f64 a b) := cc0
              have cd1 : w6.drew.cell? ⟨g, 1, none⟩ = some (.complex .f64 c d) := cc1
              go_wp2_with fail
              go_cut [10] from 59 to 65 (fun v wx => v = .complex .f64 q p ∧ Below w5.heap.size w5 wx)
              case first =>
                go_region_law (go_simp; go_at_call 10; refine (GO.out _).mono ?_; rintro e w7 ⟨rfl, hb⟩; have HB7 : Hid (Below w5.heap.size w5 w7) := below_step (below_draws HB6.out 1) hb HB6.out.size; clear hb)
                all_goals
                  go_wp2
                  go_meet
                  exact ⟨rfl, HB7.out⟩
              case rest =>
                obtain ⟨rfl, hb⟩ := hcut
                have HB7 := Lib.hid hb
                obtain ⟨w7, rfl⟩ : ∃ z, z = wc := ⟨_, rfl⟩
                clear cc0 cc1 cd0 cd1 hb GO HB6
                obtain ⟨cc0, cc1⟩ := HK.out _ HB7.out
                have cd0 : w7.drew.cell? ⟨g, 0, none⟩ = some (.complex .f64 a b) := cc0
                have cd1 : w7.drew.cell? ⟨g, 1, none⟩ = some (.complex .f64 c d) := cc1
                go_wp2_with fail
                go_cut [11] from 66 to 74 (fun v wx => v = .complex .f32 uq up ∧ Below w5.heap.size w5 wx)
                case first =>
                  go_region_law (go_simp; first
                    | (go_at_call 12; first
                      | (refine (N0.out _).mono ?_; rintro e w8 ⟨rfl, hb⟩; have HB8 : Hid (Below w5.heap.size w5 w8) := below_step (below_draws HB7.out 1) hb HB7.out.size; have ce := (HK.out _ HB8.out).2; clear hb)
                      | (refine (N1.out _).mono ?_; rintro e w9 ⟨rfl, hb⟩; have HB9 : Hid (Below w5.heap.size w5 w9) := below_step HB8.out hb HB8.out.size; clear hb))
                    | (go_at_call 11; refine (GN.out _).mono ?_; rintro e w10 ⟨rfl, hb⟩; have HB10 : Hid (Below w5.heap.size w5 w10) := below_step HB9.out hb HB9.out.size; clear hb))
                  all_goals
                    go_wp2
                    go_meet
                    exact ⟨rfl, HB10.out⟩
                case rest =>
                  obtain ⟨rfl, hb⟩ := hcut
                  have HB10 := Lib.hid hb
                  obtain ⟨w10, rfl⟩ : ∃ z, z = wc := ⟨_, rfl⟩
                  clear cc0 cc1 cd0 cd1 hb N0 N1 GN HB7
                  obtain ⟨cc0, cc1⟩ := HK.out _ HB10.out
                  have cd0 : w10.drew.cell? ⟨g, 0, none⟩ = some (.complex .f64 a b) := cc0
                  have cd1 : w10.drew.cell? ⟨g, 1, none⟩ = some (.complex .f64 c d) := cc1
                  have LQ1 : ∀ (v : Nat) (z : Rat), Has v z → z ≤ 3000 * ulp + (3000 * ulp * ulp + tiny) → FloatKind.f64.format.order v 4445052832214679552 = some .lt := fun v z hv hz => by
                    refine order_lt hv.1 l36.1 ?_
                    rw [hv.2, l36.2]
                    have hti := tiny_le
                    have h3 : 3000 * ulp + (3000 * ulp * ulp + 1 / 1267650600228229401496703205376) < 1 / 68719476736 := by decide +kernel
                    grind
                  have LQ2 : ∀ (v : Nat) (z : Rat), Has v z → z ≤ 0 + (0 * ulp + tiny) → FloatKind.f64.format.order v 4472074429978902528 = some .lt := fun v z hv hz => by
                    refine order_lt hv.1 l30.1 ?_
                    rw [hv.2, l30.2]
                    have hti := tiny_le
                    have h3 : (0 : Rat) + (0 * ulp + 1 / 1267650600228229401496703205376) < 1 / 1073741824 := by decide +kernel
                    grind
                  have LQ3 : ∀ (v : Nat) (z : Rat), Has v z → z ≤ 1 / 1000 + (1 / 1000 * ulp + tiny) → FloatKind.f64.format.order v 4571153621781053440 = some .lt := fun v z hv hz => by
                    refine order_lt hv.1 l8.1 ?_
                    rw [hv.2, l8.2]
                    have hti := tiny_le
                    have h3 : (1 : Rat) / 1000 + (1 / 1000 * ulp + 1 / 1267650600228229401496703205376) < 1 / 256 := by decide +kernel
                    grind
                  have LQ1 := Lib.hid LQ1
                  have LQ2 := Lib.hid LQ2
                  have LQ3 := Lib.hid LQ3
                  go_wp2_with fail
                  go_region_held3 (fun w' => w'.cell? ⟨g, 0, none⟩ = some (.complex .f64 a b) ∧ w'.cell? ⟨g, 1, none⟩ = some (.complex .f64 c d))
                    (first | exact HK.out _ HB14.out | exact HK.out _ HB11.out | exact ⟨cd0, cd1⟩)
                    (first
                      | (go_at_call 14; refine (PR.out _).mono ?_; rintro e w11 ⟨s1, s2, rfl, hs1, hs2, hb⟩; have HB11 : Hid (Below w5.heap.size w5 w11) := below_step (below_draws HB10.out 1) hb HB10.out.size; have HSS := Lib.hid (And.intro hs1 hs2); clear hb hs1 hs2)
                      | (go_at_call 13; first
                        | (with_reducible refine (AP1.out _ _ HSS.out.1 HSS.out.2 _).mono ?_; rintro e w12 ⟨o1, o1', rfl, ho1, ho2, rfl⟩; have gO1 := LQ1.out _ _ ho1 ho2; clear ho1 ho2)
                        | (with_reducible refine (AP2.out _).mono ?_; rintro e w13 ⟨o2, o2', rfl, ho1, ho2, rfl⟩; have gO2 := LQ2.out _ _ ho1 ho2; clear ho1 ho2)
                        | (with_reducible refine (AP3.out _).mono ?_; rintro e w15 ⟨o3, o3', rfl, ho1, ho2, rfl⟩; have gO3 := LQ3.out _ _ ho1 ho2; clear ho1 ho2))
                      | (go_at_call 15; refine (WD.out _).mono ?_; rintro e w14 ⟨rfl, hb⟩; have HB14 : Hid (Below w5.heap.size w5 w14) := below_step HB11.out hb HB11.out.size; clear hb))
                  all_goals
                    go_wp2
                    go_ret
                    exact ⟨rfl, below_step HB5.out HB14.out HB5.out.size⟩
        · have hlt : xs.length < 2 := by omega
          obtain ⟨n, hn⟩ : ∃ n, xs.length = n := ⟨_, rfl⟩
          rw [hn] at hlt ⊢
          have gl : decide ((n : Int) < 2) = true := decide_eq_true (by omega)
          clear hrd hl2 hfew hlen R1 hn
          go_wp2
          go_ret
          exact ⟨rfl, HB5.out⟩
    · clear h0 h1
      go_enter Try.func3, Try.ntmps3
      go_wp2_with (first | (go_at_call 4; go_in))
      go_ret
      exact ⟨rfl, Below.refl _ _⟩
  · clear h0 h1
    go_enter Try.func3, Try.ntmps3
    go_wp2_with (first | (go_at_call 4; go_in))
    go_ret
    exact ⟨rfl, Below.refl _ _⟩

end Go.Proofs.Ytgolfdngpphndaa
