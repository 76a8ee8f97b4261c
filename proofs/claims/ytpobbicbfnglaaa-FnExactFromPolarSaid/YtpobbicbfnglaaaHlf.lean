import Derived.Test.YtpobbicbfnglaaaFlo
/-
  A half that is added to a great number; phases without whole turns are small.
-/
set_option linter.unusedVariables false
set_option linter.unusedSimpArgs false
namespace Go.Proofs.Ytpobbicbfnglaaa
open Go.RowKit Flt Ieee

theorem lt_of_mul {a b c : Nat} (h : a * c < b * c) : a < b := Nat.lt_of_mul_lt_mul_right h

/-- Half a unit beside a great number is rounded away. -/
theorem rung_big {k0 L0 M H T : Nat} {p : Int} (h0 : 4503599627370496 ≤ k0) (h1 : k0 < 9007199254740992) (hH : 8 * H ≤ 2 ^ L0) (hM : M = k0 * 2 ^ L0 + H ∨ M + H = k0 * 2 ^ L0) (hT : T ≠ 0) (hp : double.leastPlace ≤ p) (ha : at_ T p double.leastPlace = M) :
    rungOf double T p = min (L0 * 4503599627370496 + k0) double.infRung := by
  obtain ⟨L, k, hr, hq, hk, k1, k2, hb⟩ := rung_spec (f := double) hT hp (Int.le_refl _)
  rw [ha, show (double.leastPlace - double.leastPlace).toNat = 0 by omega, Nat.pow_zero, Nat.mul_one] at k1 k2 hb
  have hB : double.binade = 4503599627370496 := by decide
  rw [hB] at hr hq hk hb
  rw [hr]
  have hL1 : L ≤ L0 := by
    refine Nat.le_of_not_lt fun hlt => ?_
    have e : 2 ^ L = 2 ^ (L - L0 - 1) * (2 * 2 ^ L0) := by rw [← Nat.mul_assoc, ← Nat.pow_succ, ← Nat.pow_add]; congr 1; omega
    have hg : 2 * 2 ^ L0 ≤ 2 ^ L := by rw [e]; exact Nat.le_mul_of_pos_left _ (Nat.two_pow_pos _)
    have h3 := hb (by omega)
    have h4 : k0 * 2 ^ L0 ≤ 9007199254740991 * 2 ^ L0 := Nat.mul_le_mul_right _ (by omega)
    have hP := Nat.two_pow_pos L0
    generalize 2 ^ L = P at *
    generalize 2 ^ L0 = P0 at *
    generalize k0 * P0 = V at *
    omega
  have hL2 : L0 ≤ L + 1 := by
    refine Nat.le_of_not_lt fun hlt => ?_
    have e : 2 ^ L0 = 2 ^ (L0 - L - 2) * (4 * 2 ^ L) := by rw [show 4 * 2 ^ L = 2 ^ (L + 2) by rw [Nat.pow_add]; omega, ← Nat.pow_add]; congr 1; omega
    have hg : 4 * 2 ^ L ≤ 2 ^ L0 := by rw [e]; exact Nat.le_mul_of_pos_left _ (Nat.two_pow_pos _)
    have h4 : 4503599627370496 * 2 ^ L0 ≤ k0 * 2 ^ L0 := Nat.mul_le_mul_right _ h0
    have h5 : (2 * k + 1) * 2 ^ L ≤ 18014398509481985 * 2 ^ L := Nat.mul_le_mul_right _ (by omega)
    have hP := Nat.two_pow_pos L
    generalize (2 * k + 1) * 2 ^ L = X at *
    generalize 2 ^ L = P at *
    generalize 2 ^ L0 = P0 at *
    generalize k0 * P0 = V at *
    omega
  have hP := Nat.two_pow_pos L
  by_cases hL : L = L0
  · subst hL
    have a1 : k < k0 + 1 := by
      have : (2 * k) * 2 ^ L < (2 * (k0 + 1)) * 2 ^ L := by
        rw [show 2 * (k0 + 1) = 2 * k0 + 2 by omega, Nat.add_mul, Nat.mul_assoc 2 k0]
        generalize 2 * k * 2 ^ L = X at *
        generalize 2 ^ L = P at *
        generalize k0 * P = V at *
        omega
      have := lt_of_mul this
      omega
    have a2 : k0 < k + 1 := by
      have : (2 * k0) * 2 ^ L < (2 * k + 2) * 2 ^ L := by
        rw [Nat.mul_assoc 2 k0]
        rw [Nat.add_mul] at k2 ⊢
        generalize 2 * k * 2 ^ L = X at *
        generalize 2 ^ L = P at *
        generalize k0 * P = V at *
        omega
      have := lt_of_mul this
      omega
    rw [show k = k0 by omega]
  · have e : L0 = L + 1 := by omega
    subst e
    rw [Nat.pow_succ] at hH hM
    have a1 : k0 < 4503599627370497 := by
      have h5 : (2 * k + 1) * 2 ^ L ≤ 18014398509481985 * 2 ^ L := Nat.mul_le_mul_right _ (by omega)
      have : (4 * k0) * 2 ^ L < 18014398509481987 * 2 ^ L := by
        rw [show 4 * k0 = 2 * (k0 * 2) by omega, Nat.mul_assoc 2 (k0 * 2)]
        have e2 : k0 * (2 ^ L * 2) = k0 * 2 * 2 ^ L := by rw [Nat.mul_assoc, Nat.mul_comm 2]
        rw [e2] at hM
        generalize (2 * k + 1) * 2 ^ L = X at *
        generalize 2 ^ L = P at *
        generalize k0 * 2 * P = V at *
        omega
      have := lt_of_mul this
      omega
    have hk0 : k0 = 4503599627370496 := by omega
    subst hk0
    have a2 : 9007199254740992 < k + 1 := by
      have : (2 * 9007199254740992) * 2 ^ L < (2 * k + 2) * 2 ^ L := by
        rw [Nat.add_mul] at k2 ⊢
        generalize 2 * k * 2 ^ L = X at *
        generalize 2 ^ L = P at *
        omega
      have := lt_of_mul this
      omega
    rw [show k = 9007199254740992 by omega, show L * 4503599627370496 + 9007199254740992 = (L + 1) * 4503599627370496 + 4503599627370496 by omega]

def halfE : Nat := 1073
theorem half_val : val double half = 2 ^ halfE := by decide +kernel
theorem half_read : ∃ m p, double.read half = .number false m p ∧ -(lpn : Int) ≤ p ∧ m * 2 ^ (p + lpn).toNat = 2 ^ halfE := by
  have hs : double.signWeight = 9223372036854775808 := by decide
  obtain ⟨m, p, e, l, v⟩ := read_fin double (x := half) (by rw [hs, ir64]; decide)
  rw [lpn_eq] at l v
  refine ⟨m, p, ?_, l, ?_⟩
  · rw [e]; rfl
  · rw [show p + (lpn : Int) = p - -(lpn : Int) by omega, v]; exact half_val

def bigE : Nat := 1075
/-- A number of at least 2^54 in size keeps itself when a half is added. -/
theorem big_half {x : Nat} (hx : Flt.Fin x) (h : 2 ^ (bigE + 53) ≤ val double (x % 9223372036854775808)) : floatBits .add .f64 x half = some x := by
  have hw := word_self' hx.1
  obtain ⟨s, hs⟩ : ∃ s, (x / 9223372036854775808 % 2 == 1) = s := ⟨_, rfl⟩
  obtain ⟨r, hr⟩ : ∃ r, x % 9223372036854775808 = r := ⟨_, rfl⟩
  rw [hs, hr] at hw
  rw [hr] at h
  have hri : r < double.infRung := by rw [ir64, ← hr]; exact hx.2
  have hr0 : r ≠ 0 := fun e => by rw [e, val_zero] at h; have := Nat.two_pow_pos (bigE + 53); omega
  obtain ⟨k0, L0, hk0, hk1, hq, he, hv⟩ := rung_parts (f := double) hr0
  have hB : double.binade = 4503599627370496 := by decide
  rw [hB] at hk1 hq he
  have hL0 : 1076 ≤ L0 := by
    refine Nat.le_of_not_lt fun hlt => ?_
    have hb : bigE = 1075 := rfl
    have h1 : k0 * 2 ^ L0 < 9007199254740992 * 2 ^ bigE :=
      Nat.lt_of_lt_of_le (Nat.mul_lt_mul_of_pos_right (show k0 < 9007199254740992 by omega) (Nat.two_pow_pos _)) (Nat.mul_le_mul_left _ (Nat.pow_le_pow_right (by decide) (by omega)))
    rw [← hv] at h1
    rw [Nat.pow_add] at h
    generalize 2 ^ bigE = X at *
    omega
  have hk52 : 4503599627370496 ≤ k0 := by rcases hq with h | h <;> omega
  have h8 : 8 * 2 ^ halfE ≤ 2 ^ L0 := by
    have hb : halfE = 1073 := rfl
    rw [show 8 * 2 ^ halfE = 2 ^ (halfE + 3) by rw [Nat.pow_add]; omega]
    exact Nat.pow_le_pow_right (by omega) (by omega)
  obtain ⟨m, i, e1, l1, v1⟩ := read_word double s hri
  obtain ⟨n, j, e2, l2, v2⟩ := half_read
  have hfx : floatBits .add .f64 x half = ((double.read (double.word s r)).sum (double.read half)).map double.write := by rw [hw]; rfl
  rw [hfx, e1, e2]
  rw [lpn_eq] at l1 v1
  have v1' : m * 2 ^ (i + lpn).toNat = k0 * 2 ^ L0 := by rw [show i + (lpn : Int) = i - -(lpn : Int) by omega, v1, hv]
  simp only [Datum.sum, Option.map_some, Format.write]
  obtain ⟨b, hb⟩ : ∃ b, min i j = b := ⟨_, rfl⟩
  rw [hb]
  have hbl : -(lpn : Int) ≤ b := by omega
  have g1 : signed s m (i + lpn).toNat = signed s m (i - b).toNat * (2 ^ (b + lpn).toNat : Nat) := by
    rw [← signed_scale]; congr 1; omega
  have g2 : signed false n (j + lpn).toNat = signed false n (j - b).toNat * (2 ^ (b + lpn).toNat : Nat) := by
    rw [← signed_scale]; congr 1; omega
  rw [signed_eq, v1'] at g1
  rw [signed_eq, v2] at g2
  simp only [Bool.false_eq_true, if_false] at g2
  obtain ⟨A, hA⟩ : ∃ A, signed s m (i - b).toNat = A := ⟨_, rfl⟩
  obtain ⟨C, hC⟩ : ∃ C, signed false n (j - b).toNat = C := ⟨_, rfl⟩
  obtain ⟨E, hE⟩ : ∃ E, 2 ^ (b + lpn).toNat = E := ⟨_, rfl⟩
  rw [hA, hE] at g1
  rw [hC, hE] at g2
  rw [hA, hC]
  have hEp : 0 < E := by rw [← hE]; exact Nat.two_pow_pos _
  have hVH : 8 * 2 ^ halfE ≤ k0 * 2 ^ L0 := Nat.le_trans h8 (Nat.le_mul_of_pos_left _ (by omega))
  have hHp : 0 < 2 ^ halfE := Nat.two_pow_pos _
  have hT : (A + C) * (E : Int) = (if s then -((k0 * 2 ^ L0 : Nat) : Int) else ((k0 * 2 ^ L0 : Nat) : Int)) + ((2 ^ halfE : Nat) : Int) := by
    rw [Int.add_mul, ← g1, ← g2]
  obtain ⟨T, hTT⟩ : ∃ T, A + C = T := ⟨_, rfl⟩
  rw [hTT] at hT ⊢
  obtain ⟨V, hV⟩ : ∃ V, k0 * 2 ^ L0 = V := ⟨_, rfl⟩
  obtain ⟨H, hH⟩ : ∃ H, 2 ^ halfE = H := ⟨_, rfl⟩
  rw [hH] at h8
  have key : (s = true → T < 0) ∧ (s = false → 0 < T) ∧ T.natAbs ≠ 0 ∧ (T.natAbs * E = k0 * 2 ^ L0 + H ∨ T.natAbs * E + H = k0 * 2 ^ L0) := by
    rw [hV] at hT hVH ⊢
    rw [hH] at hT hVH hHp
    have hn : ((T.natAbs * E : Nat) : Int) = (T * (E : Int)).natAbs := by rw [Int.natAbs_mul]; simp
    cases s
    · simp only [Bool.false_eq_true, if_false] at hT
      have hpos : 0 < T := by
        refine Int.not_le.1 fun hc => ?_
        have := Int.mul_le_mul_of_nonneg_right hc (show (0 : Int) ≤ (E : Int) by omega)
        omega
      exact ⟨fun h => absurd h (by decide), fun _ => hpos, by omega, .inl (by omega)⟩
    · simp only [if_true] at hT
      have hneg : T < 0 := by
        refine Int.not_le.1 fun hc => ?_
        have := Int.mul_le_mul_of_nonneg_right hc (show (0 : Int) ≤ (E : Int) by omega)
        omega
      exact ⟨fun _ => hneg, fun h => absurd h (by decide), by omega, .inr (by omega)⟩
  obtain ⟨k1, k2, k3, k4⟩ := key
  have hsign : (if T = 0 then s && false else decide (T < 0)) = s := by
    rw [if_neg (by omega)]
    cases s
    · have := k2 rfl; exact decide_eq_false (by omega)
    · exact decide_eq_true (k1 rfl)
  rw [hsign, nearest_rung]
  have ha : at_ T.natAbs b double.leastPlace = T.natAbs * E := by
    unfold at_; rw [lpn_eq, ← hE]; congr 3
  rw [rung_big (M := T.natAbs * E) (H := H) hk52 (by omega) h8 k4 k3 (by rw [lpn_eq]; exact hbl) ha, he, Nat.min_eq_left (Nat.le_of_lt hri), hw]

/-- The floor of any number whose floor is one. -/
theorem flo_rep {x : Nat} {f : Int} {R : Nat} (hx : Flt.Fin x) (h1 : (f : Rat) ≤ fq x) (h2 : fq x < (f : Rat) + 1) (hR : R < double.infRung) (hB : Size (f : Rat) (rq R)) (hrep : Rep (f : Rat)) : Flt.Fin (floW x) ∧ fq (floW x) = (f : Rat) := by
  obtain ⟨C, s, hfl, hC⟩ := flo_parts hx h1 h2
  rw [hfl]
  have hw := write_rnd (neg := s) (m := C) (p := 0) (b := lpn) (R := R) (t := (f : Rat)) (Nat.le_refl _) (by omega) hR ?_ hB
  · exact ⟨hw.1, hw.2.exact hrep⟩
  · exact flo_write hC

/-- A great number is an integer. -/
theorem int_big {x : Nat} (hx : Flt.Fin x) (h : 2 ^ (halfE + 53) ≤ val double (x % 9223372036854775808)) : ∃ f : Int, fq x = (f : Rat) := by
  have hw := word_self' hx.1
  obtain ⟨s, hs⟩ : ∃ s, (x / 9223372036854775808 % 2 == 1) = s := ⟨_, rfl⟩
  obtain ⟨r, hr⟩ : ∃ r, x % 9223372036854775808 = r := ⟨_, rfl⟩
  rw [hs, hr] at hw
  rw [hr] at h
  have hri : r < double.infRung := by rw [ir64, ← hr]; exact hx.2
  have hr0 : r ≠ 0 := fun e => by rw [e, val_zero] at h; have := Nat.two_pow_pos (halfE + 53); omega
  obtain ⟨k0, L0, hk0, hk1, hq, he, hv⟩ := rung_parts (f := double) hr0
  have hB : double.binade = 4503599627370496 := by decide
  rw [hB] at hk1
  have hL0 : lpn ≤ L0 := by
    refine Nat.le_of_not_lt fun hlt => ?_
    have hb : halfE = 1073 := rfl
    have hl : lpn = 1074 := rfl
    have h1 : k0 * 2 ^ L0 < 9007199254740992 * 2 ^ halfE :=
      Nat.lt_of_lt_of_le (Nat.mul_lt_mul_of_pos_right (show k0 < 9007199254740992 by omega) (Nat.two_pow_pos _)) (Nat.mul_le_mul_left _ (Nat.pow_le_pow_right (by decide) (by omega)))
    rw [← hv] at h1
    rw [Nat.pow_add] at h
    generalize 2 ^ halfE = X at *
    omega
  have hrq : rq r = ((k0 * 2 ^ (L0 - lpn) : Nat) : Rat) := by
    unfold rq
    rw [hv, show 2 ^ L0 = 2 ^ (L0 - lpn) * 2 ^ lpn by rw [← Nat.pow_add]; congr 1; omega, ← Nat.mul_assoc, Rat.natCast_mul (k0 * 2 ^ (L0 - lpn))]
    have h1 := Rat.mul_inv_cancel _ (Rat.ne_of_gt (two_pos lpn))
    rw [Rat.div_def]
    show _ * two lpn * (two lpn)⁻¹ = _
    generalize ((k0 * 2 ^ (L0 - lpn) : Nat) : Rat) = A
    grind
  rw [← hw, fq_word _ hri, hrq]
  cases s
  · exact ⟨((k0 * 2 ^ (L0 - lpn) : Nat) : Int), by simp only [Bool.false_eq_true, if_false]; rw [Rat.intCast_natCast]⟩
  · exact ⟨-((k0 * 2 ^ (L0 - lpn) : Nat) : Int), by simp only [if_true]; rw [Rat.intCast_neg, Rat.intCast_natCast]⟩

theorem fq_size {x R : Nat} (hx : Flt.Fin x) (h : x % 9223372036854775808 ≤ R) : Size (fq x) (rq R) := by
  have hw := word_self' hx.1
  obtain ⟨s, hs⟩ : ∃ s, (x / 9223372036854775808 % 2 == 1) = s := ⟨_, rfl⟩
  obtain ⟨r, hr⟩ : ∃ r, x % 9223372036854775808 = r := ⟨_, rfl⟩
  rw [hs, hr] at hw
  rw [hr] at h
  have hri : r < double.infRung := by rw [ir64, ← hr]; exact hx.2
  have h1 := rq_le.2 h
  have h2 := rq_nonneg r
  rw [← hw, fq_word _ hri]
  cases s
  · simp only [Bool.false_eq_true, if_false]; exact ⟨h1, by grind⟩
  · simp only [if_true]; exact ⟨by grind, by grind⟩

theorem small_size {x : Nat} (hx : Flt.Fin x) (h : val double (x % 9223372036854775808) ≤ 2 ^ (bigE + 53)) : Size (fq x) 18014398509481984 := by
  have hw := word_self' hx.1
  obtain ⟨s, hs⟩ : ∃ s, (x / 9223372036854775808 % 2 == 1) = s := ⟨_, rfl⟩
  obtain ⟨r, hr⟩ : ∃ r, x % 9223372036854775808 = r := ⟨_, rfl⟩
  rw [hs, hr] at hw
  rw [hr] at h
  have hri : r < double.infRung := by rw [ir64, ← hr]; exact hx.2
  have h2 := rq_nonneg r
  have h1 : rq r ≤ 18014398509481984 := by
    have h3 : (val double r : Rat) ≤ two (bigE + 53) := Rat.natCast_le_natCast.2 h
    have h4 : two (bigE + 53) = two 54 * two lpn := by rw [← two_add]; rfl
    rw [h4] at h3
    have h5 := div_le_div (two_pos lpn) h3
    have h1 := Rat.mul_inv_cancel _ (Rat.ne_of_gt (two_pos lpn))
    have h6 : two 54 * two lpn / two lpn = two 54 := by rw [Rat.div_def]; grind
    rw [h6] at h5
    exact h5
  rw [← hw, fq_word _ hri]
  cases s
  · simp only [Bool.false_eq_true, if_false]; exact ⟨h1, by grind⟩
  · simp only [if_true]; exact ⟨by grind, by grind⟩

theorem half_fv' : Fv (some half) (1 / 2) := ⟨half, rfl, ⟨by decide, by decide⟩, by decide +kernel⟩
theorem small_size' {x : Nat} (hx : Flt.Fin x) (h : val double (x % 9223372036854775808) ≤ 2 ^ (halfE + 53)) : Size (fq x) 4503599627370496 := by
  have hw := word_self' hx.1
  obtain ⟨s, hs⟩ : ∃ s, (x / 9223372036854775808 % 2 == 1) = s := ⟨_, rfl⟩
  obtain ⟨r, hr⟩ : ∃ r, x % 9223372036854775808 = r := ⟨_, rfl⟩
  rw [hs, hr] at hw
  rw [hr] at h
  have hri : r < double.infRung := by rw [ir64, ← hr]; exact hx.2
  have h2 := rq_nonneg r
  have h1 : rq r ≤ 4503599627370496 := by
    have h3 : (val double r : Rat) ≤ two (halfE + 53) := Rat.natCast_le_natCast.2 h
    have h4 : two (halfE + 53) = two 52 * two lpn := by rw [← two_add]; rfl
    rw [h4] at h3
    have h5 := div_le_div (two_pos lpn) h3
    have h1 := Rat.mul_inv_cancel _ (Rat.ne_of_gt (two_pos lpn))
    have h6 : two 52 * two lpn / two lpn = two 52 := by rw [Rat.div_def]; grind
    rw [h6] at h5
    exact h5
  rw [← hw, fq_word _ hri]
  cases s
  · simp only [Bool.false_eq_true, if_false]; exact ⟨h1, by grind⟩
  · simp only [if_true]; exact ⟨by grind, by grind⟩

theorem rep_int {n : Int} (h : n.natAbs < 2 ^ 53) : Rep (n : Rat) := (Dy.of_int (n := n) (Nat.le_refl _)).rep h (by omega)
theorem flo_is (q : Rat) : ((q.floor : Int) : Rat) ≤ q ∧ q < ((q.floor : Int) : Rat) + 1 :=
  ⟨Rat.floor_le q, by have := Rat.lt_floor_add_one q; rwa [Rat.intCast_add] at this⟩
theorem mod_of_size {B : Rat} {q : Rat} (h : Size q B) (hB : B ≤ 1000000000000000000) : Moderate q := by
  have h1 : (1000000000000000000 : Rat) ≤ two 1000 := Rat.le_trans (show (1000000000000000000 : Rat) ≤ two 60 by decide +kernel) (two_le (by omega))
  exact ⟨Rat.le_trans h.1 (Rat.le_trans hB h1), Rat.le_trans h.2 (Rat.le_trans hB h1)⟩
/-- A rounded number is no greater than an integer that the number is not greater than. -/
theorem Rnd.size {t r : Rat} (h : Rnd t r) {n : Int} (hn : n.natAbs < 2 ^ 53) (hs : Size t (n : Rat)) : Size r (n : Rat) := by
  refine ⟨h.le _ (rep_int hn) hs.1, ?_⟩
  have h2 := h.ge _ (rep_neg (rep_int hn)) (by have := hs.2; grind)
  grind

set_option maxHeartbeats 2000000 in
theorem wrap_small {a : Nat} (hx : Flt.Fin a) : ∃ r, Fv (wrapO (some a)) r ∧ Size r 8 := by
  have hf : finO (some a) = true := decide_eq_true hx.2
  unfold wrapO
  rw [if_pos hf]
  have hfa : Fv (some a) (fq a) := Fv.mk hx
  have h8 : ((8 : Int) : Rat) = 8 := rfl
  by_cases hb : 2 ^ (bigE + 53) ≤ val double (a % 9223372036854775808)
  · have e1 : fop .add .f64 (some a) (some half) = some a := big_half hx hb
    rw [e1]
    obtain ⟨f, hfq⟩ := int_big hx (Nat.le_trans (Nat.pow_le_pow_right (by omega) (by decide)) hb)
    have hs := fq_size hx (Nat.le_refl _)
    have hri : a % 9223372036854775808 < double.infRung := by rw [ir64]; exact hx.2
    have hfl := flo_rep (f := f) hx (by rw [hfq]; exact Rat.le_refl) (by rw [hfq]; grind) hri (by rw [← hfq]; exact hs) ⟨a, hx, hfq⟩
    have hfv : Fv (floO (some a)) (fq a) := ⟨_, rfl, hfl.1, by rw [hfl.2, hfq]⟩
    have h0 : fq a - fq a = 0 := by grind
    obtain ⟨r, h1, h2⟩ := fv_sub hfa hfv (by rw [h0]; exact mod_of_size (B := 8) ⟨by decide, by decide⟩ (by decide +kernel))
    rw [h0] at h2
    have hr := h2.exact rep_zero
    exact ⟨r, h1, by rw [hr]; exact ⟨by decide, by decide⟩⟩
  · have hsz := small_size hx (Nat.le_of_lt (Nat.lt_of_not_le hb))
    have hhv : Fv (some half) (1 / 2) := by
      obtain ⟨x, e, h1, h2⟩ := half_fv'
      exact ⟨x, e, h1, h2⟩
    have hts : Size (fq a + 1 / 2) 18014398509481985 := by
      obtain ⟨s1, s2⟩ := hsz
      constructor
      · grind
      · grind
    obtain ⟨s, hs1, hs2⟩ := fv_add hfa hhv (mod_of_size hts (by decide +kernel))
    have hnear := hs2.near hts
    rw [two52] at hnear
    have htiny := tiny_le
    obtain ⟨n1, n2⟩ := hnear
    obtain ⟨x, ex, hxf, hxq⟩ := hs1
    have hfl := flo_is s
    obtain ⟨f, hff⟩ : ∃ f, s.floor = f := ⟨_, rfl⟩
    rw [hff] at hfl
    have hfv : Fv (floO (fop .add .f64 (some a) (some half))) (f : Rat) := by
      rw [ex]
      by_cases hbig : 2 ^ (halfE + 53) ≤ val double (x % 9223372036854775808)
      · obtain ⟨g, hg⟩ := int_big hxf hbig
        have hfg : f = g := by rw [← hff, ← hxq, hg, Rat.floor_intCast]
        have hri : x % 9223372036854775808 < double.infRung := by rw [ir64]; exact hxf.2
        have := flo_rep (f := f) hxf (by rw [hxq]; exact hfl.1) (by rw [hxq]; exact hfl.2) hri (by rw [hfg, ← hg]; exact fq_size hxf (Nat.le_refl _)) ⟨x, hxf, by rw [hg, hfg]⟩
        exact ⟨_, rfl, this.1, this.2⟩
      · have hss : Size s 4503599627370496 := by
          rw [← hxq]
          exact small_size' hxf (Nat.le_of_lt (Nat.lt_of_not_le hbig))
        have hfb : f.natAbs < 2 ^ 53 := by
          obtain ⟨b1, b2⟩ := hss
          obtain ⟨c1, c2⟩ := hfl
          have d1 : (f : Rat) ≤ ((4503599627370496 : Int) : Rat) := Rat.le_trans c1 b1
          have d2 : ((-4503599627370498 : Int) : Rat) ≤ (f : Rat) := by
            have : ((-4503599627370498 : Int) : Rat) = -4503599627370498 := rfl
            rw [this]; grind
          have e1 := Rat.intCast_le_intCast.1 d1
          have e2 := Rat.intCast_le_intCast.1 d2
          omega
        have := flo_val (f := f) hxf (by rw [hxq]; exact hfl.1) (by rw [hxq]; exact hfl.2) hfb
        exact ⟨_, rfl, this.1, this.2⟩
    obtain ⟨c1, c2⟩ := hfl
    have hds : Size (fq a - (f : Rat)) 8 := by
      generalize fq a = q at *
      generalize (f : Rat) = F at *
      clear hsz hts hfa hs2 hxq hff
      constructor
      · grind
      · grind
    obtain ⟨r, h1, h2⟩ := fv_sub hfa hfv (mod_of_size hds (by decide +kernel))
    exact ⟨r, h1, by rw [← h8]; exact Rnd.size h2 (n := 8) (by decide) (by rw [h8]; exact hds)⟩

end Go.Proofs.Ytpobbicbfnglaaa
