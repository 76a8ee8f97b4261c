import Derived.Test.YtpobbicbfnglaaaSpA
import Derived.Test.YtpobbicbfnglaaaHas
/-
  The value of the greatest integer that is at most a number.
-/
set_option linter.unusedVariables false
set_option linter.unusedSimpArgs false
namespace Go.Proofs.Ytpobbicbfnglaaa
open Go.RowKit Flt Ieee

theorem cut_down (s : Bool) (n d : Nat) : Toward.down.cut s n d = n / 2 ^ d + (s && n % 2 ^ d != 0).toNat := by
  unfold Toward.cut
  simp only [Nat.shiftLeft_eq, Nat.one_mul]
  rcases Nat.lt_or_ge (n.log2 + 2) d with h | h
  · rw [Nat.min_eq_right (by omega)]
    have h1 : n < 2 ^ (n.log2 + 2) := by
      have := Nat.lt_log2_self (n := n)
      rw [Nat.pow_succ]; omega
    have h2 : n < 2 ^ d := Nat.lt_of_lt_of_le h1 (Nat.pow_le_pow_right (by omega) (by omega))
    rw [Nat.div_eq_of_lt h1, Nat.div_eq_of_lt h2, Nat.mod_eq_of_lt h1, Nat.mod_eq_of_lt h2]
  · rw [Nat.min_eq_left h]

theorem floor_pos {f q r D : Int} (hD : 0 < D) (h0 : 0 ≤ r) (h1 : r < D) (h2 : f * D ≤ q * D + r) (h3 : q * D + r < (f + 1) * D) : f = q := by
  rcases Int.lt_trichotomy f q with h | h | h
  · have := Int.mul_le_mul_of_nonneg_right (show f + 1 ≤ q by omega) (Int.le_of_lt hD)
    omega
  · exact h
  · have := Int.mul_le_mul_of_nonneg_right (show q + 1 ≤ f by omega) (Int.le_of_lt hD)
    rw [Int.add_mul, Int.one_mul] at this
    omega
theorem floor_neg {f q r D : Int} (hD : 0 < D) (h0 : 0 ≤ r) (h1 : r < D) (h2 : f * D ≤ -(q * D + r)) (h3 : -(q * D + r) < (f + 1) * D) : f = -(q + if r = 0 then 0 else 1) := by
  by_cases hr : r = 0
  · rw [if_pos hr]
    refine floor_pos (q := -(q + 0)) hD (r := 0) (by omega) hD ?_ ?_
    · rw [Int.neg_mul, Int.add_mul, Int.zero_mul]; omega
    · rw [Int.neg_mul, Int.add_mul, Int.zero_mul]; omega
  · rw [if_neg hr]
    refine floor_pos (q := -(q + 1)) hD (r := D - r) (by omega) (by omega) ?_ ?_
    · rw [Int.neg_mul, Int.add_mul, Int.one_mul]; omega
    · rw [Int.neg_mul, Int.add_mul, Int.one_mul]; omega

theorem two_nat' (n : Nat) : two n = (((2 ^ n : Nat) : Int) : Rat) := by rw [Rat.intCast_natCast]; rfl

/-- A number's value over a power of 2. -/
theorem dq_cut (s : Bool) (m : Nat) (p : Int) (hp : -(lpn : Int) ≤ p) : dq s m p * two (-p).toNat = (((if s then -((m <<< p.toNat : Nat) : Int) else ((m <<< p.toNat : Nat) : Int)) : Int) : Rat) := by
  unfold dq
  rw [signed_eq, Nat.shiftLeft_eq]
  have h1 := Rat.mul_inv_cancel _ (Rat.ne_of_gt (two_pos lpn))
  have key : ((m * 2 ^ (p + lpn).toNat : Nat) : Rat) / two lpn * two (-p).toNat = ((m * 2 ^ p.toNat : Nat) : Rat) := by
    rw [Rat.natCast_mul, Rat.natCast_mul]
    have e : ((2 ^ (p + lpn).toNat : Nat) : Rat) * two (-p).toNat = ((2 ^ p.toNat : Nat) : Rat) * two lpn := by
      show two (p + lpn).toNat * two (-p).toNat = two p.toNat * two lpn
      rw [← two_add, ← two_add]; congr 1; omega
    rw [Rat.div_def]
    generalize ((2 ^ (p + lpn).toNat : Nat) : Rat) = A at *
    generalize ((2 ^ p.toNat : Nat) : Rat) = B at *
    generalize (m : Rat) = M at *
    grind
  cases s
  · simp only [Bool.false_eq_true, if_false]
    rw [Rat.intCast_natCast, Rat.intCast_natCast]; exact key
  · simp only [if_true]
    rw [Rat.intCast_neg, Rat.intCast_natCast, Rat.intCast_neg, Rat.intCast_natCast, ← key]
    generalize ((m * 2 ^ (p + lpn).toNat : Nat) : Rat) = A
    rw [Rat.div_def, Rat.div_def]; grind

theorem flo_parts {x : Nat} {f : Int} (hx : Flt.Fin x) (h1 : (f : Rat) ≤ fq x) (h2 : fq x < (f : Rat) + 1) : ∃ C s, floW x = double.nearest s C 0 ∧ (if s then -((C : Nat) : Int) else ((C : Nat) : Int)) = f := by
  obtain ⟨s, m, p, e, hp, hv⟩ := read_dq hx
  have hfl : floW x = double.nearest s (Toward.down.cut s (m <<< p.toNat) (-p).toNat) 0 := by
    show double.write ((double.read x).integral .down) = _
    rw [e]; rfl
  have hc := dq_cut s m p hp
  rw [← hv] at hc
  obtain ⟨n, hn⟩ : ∃ n, m <<< p.toNat = n := ⟨_, rfl⟩
  obtain ⟨d, hd⟩ : ∃ d, (-p).toNat = d := ⟨_, rfl⟩
  rw [hn, hd] at hfl hc
  have hpd := two_pos d
  have l1 : (f : Rat) * two d ≤ fq x * two d := Rat.mul_le_mul_of_nonneg_right h1 (Rat.le_of_lt hpd)
  have l2 : fq x * two d < ((f : Rat) + 1) * two d := Rat.mul_lt_mul_of_pos_right h2 hpd
  rw [hc, two_nat', ← Rat.intCast_mul, Rat.intCast_le_intCast] at l1
  rw [hc, two_nat', show ((f : Rat) + 1) = ((f + 1 : Int) : Rat) by rw [Rat.intCast_add]; rfl, ← Rat.intCast_mul, Rat.intCast_lt_intCast] at l2
  have hD : (0 : Int) < ((2 ^ d : Nat) : Int) := by have := Nat.two_pow_pos d; omega
  have hdm := Nat.div_add_mod n (2 ^ d)
  have hml := Nat.mod_lt n (Nat.two_pow_pos d)
  have hC : (if s then -((Toward.down.cut s n d : Nat) : Int) else ((Toward.down.cut s n d : Nat) : Int)) = f := by
    rw [cut_down]
    obtain ⟨q, hq⟩ : ∃ q, n / 2 ^ d = q := ⟨_, rfl⟩
    obtain ⟨r, hr⟩ : ∃ r, n % 2 ^ d = r := ⟨_, rfl⟩
    rw [hq, hr] at hdm ⊢
    rw [hr] at hml
    have hni : (n : Int) = (q : Int) * ((2 ^ d : Nat) : Int) + (r : Int) := by
      rw [← hdm, Nat.mul_comm]; simp
    rw [hni] at l1 l2
    have hml' : (r : Int) < ((2 ^ d : Nat) : Int) := by omega
    generalize ((2 ^ d : Nat) : Int) = D at *
    cases s
    · simp only [Bool.false_eq_true, if_false] at l1 l2
      simp only [Bool.false_eq_true, if_false, Bool.false_and]
      have := floor_pos hD (Int.natCast_nonneg r) hml' l1 l2
      rw [this]; simp
    · simp only [if_true] at l1 l2
      simp only [if_true, Bool.true_and]
      have := floor_neg hD (Int.natCast_nonneg r) hml' l1 l2
      rw [this]
      by_cases h0 : r = 0
      · subst h0; simp
      · have hb : (r != 0) = true := by simpa using h0
        rw [hb, if_neg (by omega)]; simp
  exact ⟨_, s, hfl, hC⟩

theorem flo_write {C : Nat} {s : Bool} {f : Int} (hC : (if s then -((C : Nat) : Int) else ((C : Nat) : Int)) = f) :
    (f : Rat) = (if s then -(((at_ C 0 (-(lpn : Int)) : Nat) : Rat) / two lpn) else ((at_ C 0 (-(lpn : Int)) : Nat) : Rat) / two lpn) := by
  have ea : at_ C 0 (-(lpn : Int)) = C * 2 ^ lpn := by unfold at_; congr 2
  have h1 := Rat.mul_inv_cancel _ (Rat.ne_of_gt (two_pos lpn))
  have ek : ((C * 2 ^ lpn : Nat) : Rat) / two lpn = (C : Rat) := by
    rw [Rat.natCast_mul, Rat.div_def]
    show (C : Rat) * two lpn * (two lpn)⁻¹ = _
    grind
  rw [ea, ek, ← hC]
  cases s
  · simp only [Bool.false_eq_true, if_false]; rw [Rat.intCast_natCast]
  · simp only [if_true]; rw [Rat.intCast_neg, Rat.intCast_natCast]

theorem flo_val {x : Nat} {f : Int} (hx : Flt.Fin x) (h1 : (f : Rat) ≤ fq x) (h2 : fq x < (f : Rat) + 1) (hf : f.natAbs < 2 ^ 53) : Flt.Fin (floW x) ∧ fq (floW x) = (f : Rat) := by
  obtain ⟨C, s, hfl, hC⟩ := flo_parts hx h1 h2
  rw [hfl]
  have hw := write_rnd (neg := s) (m := C) (p := 0) (b := lpn) (R := bigR) (t := (f : Rat)) (Nat.le_refl _) (by omega) bigR_lt (flo_write hC) ((Dy.of_int (n := f) (Nat.le_refl _)).moderate (by omega)).big
  exact ⟨hw.1, hw.2.exact ((Dy.of_int (n := f) (Nat.le_refl _)).rep hf (by omega))⟩

/-- The floor of a number of few digits. -/
theorem fv_flo {z : Option Nat} {q : Rat} {f : Int} (h : Fv z q) (h1 : (f : Rat) ≤ q) (h2 : q < (f : Rat) + 1) (hf : f.natAbs < 2 ^ 53) : Fv (floO z) (f : Rat) := by
  obtain ⟨x, rfl, hx, rfl⟩ := h
  have := flo_val hx h1 h2 hf
  exact ⟨_, rfl, this.1, this.2⟩

theorem cut_zero (s : Bool) (n d : Nat) : Ieee.Toward.zero.cut s n d = n / 2 ^ d := by
  unfold Ieee.Toward.cut
  simp only [Nat.shiftLeft_eq, Nat.one_mul, Bool.toNat_false, Nat.add_zero]
  rcases Nat.lt_or_ge (n.log2 + 2) d with h | h
  · rw [Nat.min_eq_right (by omega)]
    have h1 : n < 2 ^ (n.log2 + 2) := by
      have := Nat.lt_log2_self (n := n)
      rw [Nat.pow_succ]; omega
    have h2 : n < 2 ^ d := Nat.lt_of_lt_of_le h1 (Nat.pow_le_pow_right (by omega) (by omega))
    rw [Nat.div_eq_of_lt h1, Nat.div_eq_of_lt h2]
  · rw [Nat.min_eq_left h]

theorem toInt_val {x : Nat} {D : Int} (hx : Flt.Fin x) (hv : fq x = (D : Rat)) : (FloatKind.f64.decode x).toInt .zero = some D := by
  obtain ⟨s, m, p, e, hp, hq⟩ := read_dq hx
  have e' : FloatKind.f64.decode x = .number s m p := e
  have hc := dq_cut s m p hp
  rw [← hq, hv] at hc
  rw [e']
  show some (Ieee.signed s (Ieee.Toward.zero.cut s (m <<< p.toNat) (-p).toNat) 0) = some D
  obtain ⟨n, hn⟩ : ∃ n, m <<< p.toNat = n := ⟨_, rfl⟩
  obtain ⟨d, hd⟩ : ∃ d, (-p).toNat = d := ⟨_, rfl⟩
  rw [hn, hd] at hc ⊢
  rw [two_nat', ← Rat.intCast_mul, Rat.intCast_inj] at hc
  have hD : 0 < 2 ^ d := Nat.two_pow_pos d
  rw [cut_zero]
  congr 1
  unfold Ieee.signed
  cases s
  · simp only [Bool.false_eq_true, if_false] at hc ⊢
    obtain ⟨k, rfl⟩ : ∃ k : Nat, D = k := by
      refine ⟨D.toNat, ?_⟩
      have : 0 ≤ D := by
        refine Int.not_lt.1 fun h => ?_
        have := Int.mul_lt_mul_of_pos_right h (show (0 : Int) < ((2 ^ d : Nat) : Int) by omega)
        omega
      omega
    have hk : k * 2 ^ d = n := by
      have h2 : ((k * 2 ^ d : Nat) : Int) = (n : Int) := by rw [← hc]; simp
      omega
    rw [← hk, Nat.mul_div_cancel _ hD, Nat.shiftLeft_zero]
  · simp only [if_true] at hc ⊢
    obtain ⟨k, rfl⟩ : ∃ k : Nat, D = -(k : Int) := by
      refine ⟨(-D).toNat, ?_⟩
      have : D ≤ 0 := by
        refine Int.not_lt.1 fun h => ?_
        have := Int.mul_lt_mul_of_pos_right h (show (0 : Int) < ((2 ^ d : Nat) : Int) by omega)
        omega
      omega
    have hk : k * 2 ^ d = n := by
      have h2 : ((k * 2 ^ d : Nat) : Int) = (n : Int) := by
        have h3 : -((k : Int) * ((2 ^ d : Nat) : Int)) = -(n : Int) := by rw [← hc, Int.neg_mul]
        have h4 : ((k * 2 ^ d : Nat) : Int) = (k : Int) * ((2 ^ d : Nat) : Int) := by simp
        omega
      omega
    rw [← hk, Nat.mul_div_cancel _ hD, Nat.shiftLeft_zero]

theorem run_toInt {P : Program} (src dst : TypeId) {x : Nat} {D : Int} (hx : Flt.Fin x) (hv : fq x = (D : Rat)) (hb : D.natAbs < 2 ^ 53) (hs : (P.underlying src).isSome = true) (hd : P.underlying dst = some (.int .i64)) (w : World) :
    (convert src dst (.float .f64 x)).run P w = .ok (.int .i64 D) w := by
  have h := toInt_val hx hv
  have hr : IntKind.i64.min ≤ D ∧ D ≤ IntKind.i64.max := by
    show (-9223372036854775808 : Int) ≤ D ∧ D ≤ 9223372036854775807
    omega
  obtain ⟨u, hs'⟩ := Option.isSome_iff_exists.1 hs
  cases u <;> simp [convert, run_underlying hs', run_underlying hd, Conv.floatToInt, h, hr] <;> (intro hc; exfalso; omega)

end Go.Proofs.Ytpobbicbfnglaaa
