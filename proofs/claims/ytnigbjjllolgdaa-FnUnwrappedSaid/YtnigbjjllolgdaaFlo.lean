import Derived.Test.YtnigbjjllolgdaaSpA
import Derived.Test.YtnigbjjllolgdaaHas
/-
  The value of the greatest integer that is at most a number.
-/
set_option linter.unusedVariables false
set_option linter.unusedSimpArgs false
namespace Go.Proofs.Ytnigbjjllolgdaa
open Go.RowKit Flt Ieee

theorem cut_down (s : Bool) (n d : Nat) : Toward.down.cut s n d = n / 2 ^ d + (s && n % 2 ^ d != 0).toNat := by
  unfold Toward.cut
  simp only [Nat.shiftLeft_eq, Nat.one_mul]
  rcases Nat.lt_or_ge (n.log2 + 2) d with h | h
  · rw [Nat.min_eq_right (by omega)]
    have h1 : n < 2 ^ (n.log2 + 2) := by
      have := Nat.lt_log2_self (n := n)
      rw [Nat.pow_succ]; omega
    have h2 : n < 2 ^ d := Nat.lt_of_lt_of_le h1 (Nat.pow_le_pow_right (by omega) (by omega))
    rw [Nat.div_eq_of_lt h1, Nat.div_eq_of_lt h2, Nat.mod_eq_of_lt h1, Nat.mod_eq_of_lt h2]
  · rw [Nat.min_eq_left h]

theorem floor_pos {f q r D : Int} (hD : 0 < D) (h0 : 0 ≤ r) (h1 : r < D) (h2 : f * D ≤ q * D + r) (h3 : q * D + r < (f + 1) * D) : f = q := by
  rcases Int.lt_trichotomy f q with h | h | h
  · have := Int.mul_le_mul_of_nonneg_right (show f + 1 ≤ q by omega) (Int.le_of_lt hD)
    omega
  · exact h
  · have := Int.mul_le_mul_of_nonneg_right (show q + 1 ≤ f by omega) (Int.le_of_lt hD)
    rw [Int.add_mul, Int.one_mul] at this
    omega
theorem floor_neg {f q r D : Int} (hD : 0 < D) (h0 : 0 ≤ r) (h1 : r < D) (h2 : f * D ≤ -(q * D + r)) (h3 : -(q * D + r) < (f + 1) * D) : f = -(q + if r = 0 then 0 else 1) := by
  by_cases hr : r = 0
  · rw [if_pos hr]
    refine floor_pos (q := -(q + 0)) hD (r := 0) (by omega) hD ?_ ?_
    · rw [Int.neg_mul, Int.add_mul, Int.zero_mul]; omega
    · rw [Int.neg_mul, Int.add_mul, Int.zero_mul]; omega
  · rw [if_neg hr]
    refine floor_pos (q := -(q + 1)) hD (r := D - r) (by omega) (by omega) ?_ ?_
    · rw [Int.neg_mul, Int.add_mul, Int.one_mul]; omega
    · rw [Int.neg_mul, Int.add_mul, Int.one_mul]; omega

theorem two_nat' (n : Nat) : two n = (((2 ^ n : Nat) : Int) : Rat) := by rw [Rat.intCast_natCast]; rfl

/-- A number's value over a power of 2. -/
theorem dq_cut (s : Bool) (m : Nat) (p : Int) (hp : -(lpn : Int) ≤ p) : dq s m p * two (-p).toNat = (((if s then -((m <<< p.toNat : Nat) : Int) else ((m <<< p.toNat : Nat) : Int)) : Int) : Rat) := by
  unfold dq
  rw [signed_eq, Nat.shiftLeft_eq]
  have h1 := Rat.mul_inv_cancel _ (Rat.ne_of_gt (two_pos lpn))
  have key : ((m * 2 ^ (p + lpn).toNat : Nat) : Rat) / two lpn * two (-p).toNat = ((m * 2 ^ p.toNat : Nat) : Rat) := by
    rw [Rat.natCast_mul, Rat.natCast_mul]
    have e : ((2 ^ (p + lpn).toNat : Nat) : Rat) * two (-p).toNat = ((2 ^ p.toNat : Nat) : Rat) * two lpn := by
      show two (p + lpn).toNat * two (-p).toNat = two p.toNat * two lpn
      rw [← two_add, ← two_add]; congr 1; omega
    rw [Rat.div_def]
    generalize ((2 ^ (p + lpn).toNat : Nat) : Rat) = A at *
    generalize ((2 ^ p.toNat : Nat) : Rat) = B at *
    generalize (m : Rat) = M at *
    grind
  cases s
  · simp only [Bool.false_eq_true, if_false]
    rw [Rat.intCast_natCast, Rat.intCast_natCast]; exact key
  · simp only [if_true]
    rw [Rat.intCast_neg, Rat.intCast_natCast, Rat.intCast_neg, Rat.intCast_natCast, ← key]
    generalize ((m * 2 ^ (p + lpn).toNat : Nat) : Rat) = A
    rw [Rat.div_def, Rat.div_def]; grind

theorem flo_val {x : Nat} {f : Int} (hx : Flt.Fin x) (h1 : (f : Rat) ≤ fq x) (h2 : fq x < (f : Rat) + 1) (hf : f.natAbs < 2 ^ 53) : Flt.Fin (floW x) ∧ fq (floW x) = (f : Rat) := by
  obtain ⟨s, m, p, e, hp, hv⟩ := read_dq hx
  have hfl : floW x = double.nearest s (Toward.down.cut s (m <<< p.toNat) (-p).toNat) 0 := by
    show double.write ((double.read x).integral .down) = _
    rw [e]; rfl
  have hc := dq_cut s m p hp
  rw [← hv] at hc
  obtain ⟨n, hn⟩ : ∃ n, m <<< p.toNat = n := ⟨_, rfl⟩
  obtain ⟨d, hd⟩ : ∃ d, (-p).toNat = d := ⟨_, rfl⟩
  rw [hn, hd] at hfl hc
  have hpd := two_pos d
  have l1 : (f : Rat) * two d ≤ fq x * two d := Rat.mul_le_mul_of_nonneg_right h1 (Rat.le_of_lt hpd)
  have l2 : fq x * two d < ((f : Rat) + 1) * two d := Rat.mul_lt_mul_of_pos_right h2 hpd
  rw [hc, two_nat', ← Rat.intCast_mul, Rat.intCast_le_intCast] at l1
  rw [hc, two_nat', show ((f : Rat) + 1) = ((f + 1 : Int) : Rat) by rw [Rat.intCast_add]; rfl, ← Rat.intCast_mul, Rat.intCast_lt_intCast] at l2
  have hD : (0 : Int) < ((2 ^ d : Nat) : Int) := by have := Nat.two_pow_pos d; omega
  have hdm := Nat.div_add_mod n (2 ^ d)
  have hml := Nat.mod_lt n (Nat.two_pow_pos d)
  have hC : (if s then -((Toward.down.cut s n d : Nat) : Int) else ((Toward.down.cut s n d : Nat) : Int)) = f := by
    rw [cut_down]
    obtain ⟨q, hq⟩ : ∃ q, n / 2 ^ d = q := ⟨_, rfl⟩
    obtain ⟨r, hr⟩ : ∃ r, n % 2 ^ d = r := ⟨_, rfl⟩
    rw [hq, hr] at hdm ⊢
    rw [hr] at hml
    have hni : (n : Int) = (q : Int) * ((2 ^ d : Nat) : Int) + (r : Int) := by
      rw [← hdm, Nat.mul_comm]; simp
    rw [hni] at l1 l2
    have hml' : (r : Int) < ((2 ^ d : Nat) : Int) := by omega
    generalize ((2 ^ d : Nat) : Int) = D at *
    cases s
    · simp only [Bool.false_eq_true, if_false] at l1 l2
      simp only [Bool.false_eq_true, if_false, Bool.false_and]
      have := floor_pos hD (Int.natCast_nonneg r) hml' l1 l2
      rw [this]; simp
    · simp only [if_true] at l1 l2
      simp only [if_true, Bool.true_and]
      have := floor_neg hD (Int.natCast_nonneg r) hml' l1 l2
      rw [this]
      by_cases h0 : r = 0
      · subst h0; simp
      · have hb : (r != 0) = true := by simpa using h0
        rw [hb, if_neg (by omega)]; simp
  obtain ⟨C, hCC⟩ : ∃ C, Toward.down.cut s n d = C := ⟨_, rfl⟩
  rw [hCC] at hC hfl
  rw [hfl]
  have hw := write_rnd (neg := s) (m := C) (p := 0) (b := lpn) (R := bigR) (t := (f : Rat)) (Nat.le_refl _) (by omega) bigR_lt ?_ ?_
  · exact ⟨hw.1, hw.2.exact ((Dy.of_int (n := f) (Nat.le_refl _)).rep hf (by omega))⟩
  · have ea : at_ C 0 (-(lpn : Int)) = C * 2 ^ lpn := by unfold at_; congr 2
    have h1 := Rat.mul_inv_cancel _ (Rat.ne_of_gt (two_pos lpn))
    have ek : ((C * 2 ^ lpn : Nat) : Rat) / two lpn = (C : Rat) := by
      rw [Rat.natCast_mul, Rat.div_def]
      show (C : Rat) * two lpn * (two lpn)⁻¹ = _
      grind
    rw [ea, ek, ← hC]
    cases s
    · simp only [Bool.false_eq_true, if_false]; rw [Rat.intCast_natCast]
    · simp only [if_true]; rw [Rat.intCast_neg, Rat.intCast_natCast]
  · exact ((Dy.of_int (n := f) (Nat.le_refl _)).moderate (by omega)).big

/-- The floor of a number of few digits. -/
theorem fv_flo {z : Option Nat} {q : Rat} {f : Int} (h : Fv z q) (h1 : (f : Rat) ≤ q) (h2 : q < (f : Rat) + 1) (hf : f.natAbs < 2 ^ 53) : Fv (floO z) (f : Rat) := by
  obtain ⟨x, rfl, hx, rfl⟩ := h
  have := flo_val hx h1 h2 hf
  exact ⟨_, rfl, this.1, this.2⟩

end Go.Proofs.Ytnigbjjllolgdaa
