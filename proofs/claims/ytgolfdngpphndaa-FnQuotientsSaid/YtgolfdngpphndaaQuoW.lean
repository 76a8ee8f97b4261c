import Derived.Test.YtgolfdngpphndaaSmithW
import Derived.Test.YtgolfdngpphndaaNumC
import Derived.Laws.ComplexQuo
import Derived.Deep.RegionLaw
/-
  Quotient, GoQuotient of the program at numbers of few digits.
-/
set_option linter.unusedVariables false
set_option linter.unusedSimpArgs false
namespace Go.Proofs.Ytgolfdngpphndaa
open Go.RowKit Flt Fast

/-- The words of a quotient. -/
def GeW (a b c d q p : Nat) : Prop := ∃ r t s x n y m : Nat,
  floatBits .quo .f64 d c = some r ∧ floatBits .mul .f64 d r = some t ∧ floatBits .add .f64 c t = some s ∧
  floatBits .mul .f64 b r = some x ∧ floatBits .add .f64 a x = some n ∧ floatBits .quo .f64 n s = some q ∧
  floatBits .mul .f64 a r = some y ∧ floatBits .sub .f64 b y = some m ∧ floatBits .quo .f64 m s = some p
def LtW (a b c d q p : Nat) : Prop := ∃ r t s x n y m : Nat,
  floatBits .quo .f64 c d = some r ∧ floatBits .mul .f64 c r = some t ∧ floatBits .add .f64 d t = some s ∧
  floatBits .mul .f64 a r = some x ∧ floatBits .add .f64 x b = some n ∧ floatBits .quo .f64 n s = some q ∧
  floatBits .mul .f64 b r = some y ∧ floatBits .sub .f64 y a = some m ∧ floatBits .quo .f64 m s = some p
def QW (a b c d q p : Nat) : Prop := (absGe c d = true ∧ GeW a b c d q p) ∨ (absGe c d = false ∧ LtW a b c d q p)

/-- What is known of a quotient: X, Y are the exact parts. -/
structure QV (A B C D Q P X Y : Rat) : Prop where
  re : Near (Q * C - P * D) A (2400 * ulp)
  im : Near (Q * D + P * C) B (2400 * ulp)
  qc : Size (Q * C) 132
  pc : Size (P * C) 132
  qd : Size (Q * D) 132
  pd : Size (P * D) 132
  sq : Size Q 2200
  sp : Size P 2200
  nq : Near Q X (18300 * ulp)
  np : Near P Y (18300 * ulp)

/-- The exact quotient. -/
def xQ (A B C D : Rat) : Rat := if D ≤ C ∧ -D ≤ C ∨ D ≤ -C ∧ -D ≤ -C then exQ A B C D else exQ B (-A) D (-C)
def xP (A B C D : Rat) : Rat := if D ≤ C ∧ -D ≤ C ∨ D ≤ -C ∧ -D ≤ -C then exP A B C D else exP B (-A) D (-C)

theorem absGe_of {c d : Nat} {C D : Rat} (hc : Has c C) (hd : Has d D) : absGe c d = decide (D ≤ C ∧ -D ≤ C ∨ D ≤ -C ∧ -D ≤ -C) := by
  obtain ⟨u, u1, u2⟩ := abs_has hc
  obtain ⟨v, v1, v2⟩ := abs_has hd
  unfold absGe
  show (Ieee.double.order (c % 9223372036854775808) (d % 9223372036854775808) == some .gt || Ieee.double.order (c % 9223372036854775808) (d % 9223372036854775808) == some .eq) = _
  have hiff : (D ≤ C ∧ -D ≤ C ∨ D ≤ -C ∧ -D ≤ -C) ↔ v ≤ u := by
    rcases u2 with ⟨p1, rfl⟩ | ⟨p1, rfl⟩ <;> rcases v2 with ⟨p2, rfl⟩ | ⟨p2, rfl⟩
    · constructor
      · rintro (⟨a1, a2⟩ | ⟨a1, a2⟩) <;> grind
      · intro h; exact .inl ⟨h, by grind⟩
    · constructor
      · rintro (⟨a1, a2⟩ | ⟨a1, a2⟩) <;> grind
      · intro h; exact .inl ⟨by grind, h⟩
    · constructor
      · rintro (⟨a1, a2⟩ | ⟨a1, a2⟩) <;> grind
      · intro h; exact .inr ⟨h, by grind⟩
    · constructor
      · rintro (⟨a1, a2⟩ | ⟨a1, a2⟩) <;> grind
      · intro h; exact .inr ⟨by grind, h⟩
  by_cases h : v ≤ u
  · rw [decide_eq_true (hiff.2 h)]
    by_cases he : v = u
    · rw [order_eq_q u1.1 v1.1 (by rw [u1.2, v1.2, he])]; rfl
    · rw [order_gt u1.1 v1.1 (by rw [u1.2, v1.2]; exact Rat.lt_of_le_of_ne h he)]; rfl
  · rw [decide_eq_false (fun k => h (hiff.1 k))]
    rw [order_lt u1.1 v1.1 (by rw [u1.2, v1.2]; exact Rat.not_le.1 h)]; rfl

/-- A part that is not nothing is a sixteenth at least. -/
def Sixteenth (C : Rat) : Prop := C = 0 ∨ 1 / 16 ≤ C ∨ C ≤ -(1 / 16)

theorem qw_ex {a b c d : Nat} {A B C D : Rat} (ha : Has a A) (hb : Has b B) (hc : Has c C) (hd : Has d D) (sA : Size A 64) (sB : Size B 64) (sC : Size C 64) (sD : Size D 64)
    (mC : Sixteenth C) (mD : Sixteenth D) (h0 : ¬ (C = 0 ∧ D = 0)) :
    ∃ q p Q P, QW a b c d q p ∧ Has q Q ∧ Has p P ∧ QV A B C D Q P (xQ A B C D) (xP A B C D) := by
  have hg := absGe_of hc hd
  by_cases hge : D ≤ C ∧ -D ≤ C ∨ D ≤ -C ∧ -D ≤ -C
  · rw [decide_eq_true hge] at hg
    have g : ∃ e, Great C D e := by
      rcases hge with ⟨p1, p2⟩ | ⟨p1, p2⟩
      · refine ⟨C, ?_, sC.1, .inl rfl, ⟨p1, p2⟩⟩
        rcases mC with k | k | k
        · exfalso; exact h0 ⟨k, by grind⟩
        · exact k
        · exfalso; grind
      · refine ⟨-C, ?_, sC.2, .inr (by grind), ⟨p1, p2⟩⟩
        rcases mC with k | k | k
        · exfalso; exact h0 ⟨k, by grind⟩
        · exfalso; grind
        · grind
    obtain ⟨e, g⟩ := g
    obtain ⟨r, t, s, x, n, q, y, m, p, R, T, S, X, N, Q, Y, M, P, hS, hq, hp, b1, b2, b3, b4, b5, b6, b7, b8, b9⟩ := smith_ge ha hb hc hd sA sB g
    obtain ⟨f1, f2, f3, f4, f5, f6, f7, f8, f9, f10⟩ := hS.near
    refine ⟨q, p, Q, P, .inl ⟨hg, r, t, s, x, n, y, m, b1, b2, b3, b4, b5, b6, b7, b8, b9⟩, hq, hp, f1, f2, f3, f4, f5, f6, f7, f8, ?_, ?_⟩
    · unfold xQ; rw [if_pos hge]; exact f9
    · unfold xP; rw [if_pos hge]; exact f10
  · rw [decide_eq_false hge] at hg
    have g : ∃ e, Great D (-C) e := by
      by_cases hD : 0 ≤ D
      · refine ⟨D, ?_, sD.1, .inl rfl, ?_⟩
        · rcases mD with k | k | k
          · exfalso; apply hge
            by_cases hC : 0 ≤ C
            · exact .inl ⟨by grind, by grind⟩
            · exact .inr ⟨by grind, by grind⟩
          · exact k
          · exfalso; grind
        · constructor
          · refine Rat.not_lt.1 fun k => hge (.inr ⟨by grind, by grind⟩)
          · refine Rat.not_lt.1 fun k => hge (.inl ⟨by grind, by grind⟩)
      · refine ⟨-D, ?_, sD.2, .inr (by grind), ?_⟩
        · rcases mD with k | k | k
          · exfalso; grind
          · exfalso; grind
          · grind
        · constructor
          · refine Rat.not_lt.1 fun k => hge (.inr ⟨by grind, by grind⟩)
          · refine Rat.not_lt.1 fun k => hge (.inl ⟨by grind, by grind⟩)
    obtain ⟨e, g⟩ := g
    obtain ⟨r, t, s, x, n, q, y, m, p, R, T, S, X, N, Q, Y, M, P, hS, hq, hp, b1, b2, b3, b4, b5, b6, b7, b8, b9⟩ := smith_lt ha hb hc hd sA sB g
    obtain ⟨f1, f2, f3, f4, f5, f6, f7, f8, f9, f10⟩ := hS.near
    refine ⟨q, p, Q, P, .inr ⟨hg, r, t, s, x, n, y, m, b1, b2, b3, b4, b5, b6, b7, b8, b9⟩, hq, hp, ?_, ?_, ?_, ?_, f3, f4, f7, f8, ?_, ?_⟩
    · have := f2.neg
      rwa [Rat.neg_neg, show -(Q * -C + P * D) = Q * C - P * D by grind] at this
    · rwa [show Q * D - P * -C = Q * D + P * C by grind] at f1
    · have := f5.neg
      rwa [show -(Q * -C) = Q * C by grind] at this
    · have := f6.neg
      rwa [show -(P * -C) = P * C by grind] at this
    · unfold xQ; rw [if_neg hge]; exact f9
    · unfold xP; rw [if_neg hge]; exact f10

/-- The operator at such words. -/
theorem mulBits_comm {x y r : Nat} (h : floatBits .mul .f64 x y = some r) : floatBits .mul .f64 y x = some r := by
  have := fop_mul_comm .f64 (some x) (some y)
  unfold fop at this
  rw [← h]; exact this.symm
theorem run_operator {a b c d q p : Nat} {Q : Rat} (h : QW a b c d q p) (hq : Has q Q) (P : Program) (t : TypeId) (w : World) :
    (binOp .quo t (.complex .f64 a b) (.complex .f64 c d)).run P w = .ok (.complex .f64 q p) w := by
  have hn : (!(Op.Complex.isNaN q && Op.Complex.isNaN p)) = true := by
    have : Op.Complex.isNaN q = false := by
      obtain ⟨s, m, e, h1, -, -⟩ := read_dq hq.1
      show (Ieee.double.read q).isNaN = false
      rw [h1]; rfl
    rw [this]; rfl
  rcases h with ⟨hge, r, t', s, x, n, y, m, b1, b2, b3, b4, b5, b6, b7, b8, b9⟩ | ⟨hge, r, t', s, x, n, y, m, b1, b2, b3, b4, b5, b6, b7, b8, b9⟩
  · exact run_complex_quo_of w t (run_quotient_ge w hge b1 (mulBits_comm b2) b3 b4 b5 b6 b7 b8 b9 hn)
  · exact run_complex_quo_of w t (run_quotient_lt w hge b1 (mulBits_comm b2) b3 b4 b5 b6 b7 b8 b9 hn)

set_option maxRecDepth 100000 in
set_option maxHeartbeats 4000000 in
theorem over_any {a b c d q p : Nat} (h : QW a b c d q p) (lc : c < 18446744073709551616) (ld : d < 18446744073709551616) (w : World) :
    Calls Try.prog 19 #[.agg #[.complex .f64 a b], .agg #[.complex .f64 c d]] w fun e w' => e = .returned (.complex .f64 q p) ∧ Below w.heap.size w w' := by
  have A1 := Lib.hid (fun w => abs_any c lc w)
  have A2 := Lib.hid (fun w => abs_any d ld w)
  rcases h with ⟨hge, r, t, s, x, n, y, m, b1, b2, b3, b4, b5, b6, b7, b8, b9⟩ | ⟨hge, r, t, s, x, n, y, m, b1, b2, b3, b4, b5, b6, b7, b8, b9⟩
  all_goals
    unfold absGe at hge
    have E1 := run_bits (.inr (.inr (.inr rfl))) b1
    have E2 := run_bits (.inr (.inr (.inl rfl))) b2
    have E3 := run_bits (.inl rfl) b3
    have E4 := run_bits (.inr (.inr (.inl rfl))) b4
    have E5 := run_bits (.inl rfl) b5
    have E6 := run_bits (.inr (.inr (.inr rfl))) b6
    have E7 := run_bits (.inr (.inr (.inl rfl))) b7
    have E8 := run_bits (.inr (.inl rfl)) b8
    have E9 := run_bits (.inr (.inr (.inr rfl))) b9
    clear b1 b2 b3 b4 b5 b6 b7 b8 b9
    have g1 : (FloatKind.f64.format.order (c % 9223372036854775808) (d % 9223372036854775808) == some .gt || FloatKind.f64.format.order (c % 9223372036854775808) (d % 9223372036854775808) == some .eq) = _ := hge
    clear hge
    generalize c % 9223372036854775808 = cc at *
    generalize d % 9223372036854775808 = dd at *
    go_enter Try.func19, Try.ntmps19
    go_wp2_with fail
    refine (parts_any a b _).mono ?_
    rintro e w1 ⟨rfl, hb1⟩
    have hy : w.heap.size + 1 < w1.heap.size := by have := hb1.size; simp at this; omega
    have c3 : w1.cell? ⟨w.heap.size + 1, 0, none⟩ = some (.complex .f64 c d) := by
      rw [hb1.cell (by simp)]; simp
    have HB1 : Hid (Below w.heap.size w w1) := (((Below.refl _ _).alloc (Nat.le_refl _) _).alloc (by simp) _).trans (hb1.mono (by simp; omega))
    clear hb1
    go_wp2_with fail
    refine (parts_any c d _).mono ?_
    rintro e w2 ⟨rfl, hb2⟩
    have HB2 : Hid (Below w.heap.size w w2) := HB1.out.trans (hb2.mono HB1.out.size)
    clear hb2 HB1 c3 hy
    go_wp2_with (first | (go_at_call 33; first | (with_reducible refine (A1.out _).mono ?_; rintro e w3 ⟨rfl, rfl⟩) | (with_reducible refine (A2.out _).mono ?_; rintro e w3 ⟨rfl, rfl⟩)))
    go_ret
    exact ⟨rfl, HB2.out⟩

theorem quotient_any {a b c d q p : Nat} (h : QW a b c d q p) (lc : c < 18446744073709551616) (ld : d < 18446744073709551616) (w : World) :
    Calls Try.prog 7 #[.complex .f64 a b, .complex .f64 c d] w fun e w' => e = .returned (.complex .f64 q p) ∧ Below w.heap.size w w' := by
  have O := Lib.hid (fun w => over_any h lc ld w)
  clear h
  go_enter Try.func7, Try.ntmps7
  go_wp2_with fail
  refine (numberOf_any a b _).mono ?_
  rintro e w1 ⟨rfl, b1⟩
  go_wp2_with fail
  refine (numberOf_any c d _).mono ?_
  rintro e w2 ⟨rfl, b2⟩
  have HB := Lib.hid (below_step b1 b2 b1.size)
  clear b1 b2
  go_wp2_with fail
  refine (O.out _).mono ?_
  rintro e w3 ⟨rfl, b3⟩
  replace HB := Lib.hid (below_step HB.out b3 HB.out.size)
  clear b3
  go_wp2
  go_ret
  exact ⟨rfl, HB.out⟩

theorem wide128_any (a b : Nat) (w : World) :
    Calls Try.prog 36 #[.agg #[.complex .f64 a b]] w fun e w' => e = .returned (.complex .f64 a b) ∧ Below w.heap.size w w' := by
  go_enter Try.func36, Try.ntmps36
  go_wp2
  go_ret
  exact ⟨rfl, by repeat (first | exact Below.refl _ _ | refine Below.alloc ?_ (by simp; try omega) _)⟩

theorem op_step {w w1 : World} {u v : Value} {e1 e2 : TypeId} (hb : Below ((w.alloc (.cells #[u] e1)).alloc (.cells #[v] e2)).drew.heap.size ((w.alloc (.cells #[u] e1)).alloc (.cells #[v] e2)).drew w1) :
    w1.cell? ⟨w.heap.size + 1, 0, none⟩ = some v ∧ Below w.heap.size w w1 := by
  have hs : ((w.alloc (.cells #[u] e1)).alloc (.cells #[v] e2)).drew.heap.size = w.heap.size + 2 := by
    show ((w.alloc (.cells #[u] e1)).alloc (.cells #[v] e2)).heap.size = _
    simp
  refine ⟨?_, ?_⟩
  · rw [hb.cell (by rw [hs]; show w.heap.size + 1 < _; omega)]
    show ((w.alloc (.cells #[u] e1)).alloc (.cells #[v] e2)).cell? _ = _
    simp
  · have h1 : Below w.heap.size w ((w.alloc (.cells #[u] e1)).alloc (.cells #[v] e2)).drew := below_draws (((Below.refl _ _).alloc (Nat.le_refl _) _).alloc (by simp) _) 1
    exact below_step h1 hb (by rw [hs]; omega)

set_option maxRecDepth 100000 in
theorem operator_any {a b c d q p : Nat} {Q : Rat} (h : QW a b c d q p) (hq : Has q Q) (w : World) :
    Calls Try.prog 22 #[.agg #[.complex .f64 a b], .agg #[.complex .f64 c d]] w fun e w' => e = .returned (.complex .f64 q p) ∧ Below w.heap.size w w' := by
  have EO := run_operator h hq
  have WA := Lib.hid (fun W => wide128_any a b W)
  have WB := Lib.hid (fun W => wide128_any c d W)
  clear h hq
  go_enter Try.func22, Try.ntmps22
  go_wp2
  go_region_law (go_simp; go_at_call 36; first
    | (refine (WA.out _).mono ?_; rintro e w1 ⟨rfl, hb⟩; have c3 := (op_step hb).1; have HB1 := Lib.hid (op_step hb).2; clear hb)
    | (refine (WB.out _).mono ?_; rintro e w2 ⟨rfl, hb⟩; have HB2 := Lib.hid (below_step HB1.out hb HB1.out.size); clear hb HB1))
  all_goals
    go_wp2
    go_ret
    exact ⟨rfl, HB2.out⟩

theorem goQuotient_any {a b c d q p : Nat} {Q : Rat} (h : QW a b c d q p) (hq : Has q Q) (w : World) :
    Calls Try.prog 10 #[.complex .f64 a b, .complex .f64 c d] w fun e w' => e = .returned (.complex .f64 q p) ∧ Below w.heap.size w w' := by
  have O := Lib.hid (fun w => operator_any h hq w)
  clear h hq
  go_enter Try.func10, Try.ntmps10
  go_wp2_with fail
  refine (numberOf_any a b _).mono ?_
  rintro e w1 ⟨rfl, b1⟩
  go_wp2_with fail
  refine (numberOf_any c d _).mono ?_
  rintro e w2 ⟨rfl, b2⟩
  have HB := Lib.hid (below_step b1 b2 b1.size)
  clear b1 b2
  go_wp2_with fail
  refine (O.out _).mono ?_
  rintro e w3 ⟨rfl, b3⟩
  replace HB := Lib.hid (below_step HB.out b3 HB.out.size)
  clear b3
  go_wp2
  go_ret
  exact ⟨rfl, HB.out⟩

end Go.Proofs.Ytgolfdngpphndaa
