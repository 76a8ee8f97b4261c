/-
  Several texts of this claim, one behind the other; each says what it holds.
-/
import Derived.Test.YteamnfockjnilaaMBins10
import Derived.BigRegion
/-
  BinOf of the model.
-/
set_option linter.unusedVariables false
set_option linter.unusedSimpArgs false
namespace Go.Proofs.Yteamnfockjnilaa
open Go.RowKit Flt Fast Turn
attribute [local go_sem] run_fadd run_fsub run_fmul run_fquo run_cadd run_csub

theorem cv_reads {w : World} {v : Value} {xs : List C} (h : Reads w v (cvals xs)) : ∀ a n cap, v = .slice a n cap → ∀ k, k < n → ∃ g, a = some ⟨g, 0, none⟩ ∧ g < w.heap.size ∧ w.cell? ⟨g, k, none⟩ = some (.complex .f64 (xs.getD k (0, 0)).1 (xs.getD k (0, 0)).2) := by
  intro a n cap hv k hk
  generalize hc : cvals xs = cs at h
  cases h with
  | none a' cap' => cases hv; omega
  | row g cap' L cs hL h0 hc' hm h =>
    cases hv
    have c := h k hk
    refine ⟨g, rfl, World.block_lt_of_cell? _ _ c, ?_⟩
    rw [c, ← hc, cvals_getD (by rw [← hc, cvals_length] at hL; omega)]

set_option maxRecDepth 100000 in
set_option maxHeartbeats 4000000 in
theorem binOf_spec (xs : List C) (n : Nat) (hx : xs.length = n) (hn0 : 0 < n) (hn : n ≤ 100) (hw : WfC xs) (k : Nat) (hk : k < n) (v : Value) (w : World) (h : Reads w v (cvals xs)) :
    Calls Try.prog 8 #[v, .int .i64 k] w fun e w' => ∃ a b, e = .returned (.tuple #[.complex .f64 a b, .int .i64 0]) ∧ IsC (a, b) (hornZ (zsOf xs) (twid n k) n (n - 1)) ∧ ∃ q, w' = w.drewN q := by
  have hrd := cv_reads h
  obtain ⟨a, cap, rfl⟩ := fl_form h
  rw [cvals_length, hx] at hrd ⊢
  have HRD := Lib.hid (hrd _ _ _ rfl)
  have HW := Lib.hid (fun i (hi : i < n) => isC_getD hw (show i < xs.length by omega))
  have RS := Lib.hid (rest_spec n k hn0 (by omega) (by omega))
  have hr := rst_lt k hn0
  have TS := Lib.hid (fun w => turn_spec4 n (rst n k) hn0 (by omega) (by omega) w)
  obtain ⟨r, hrr⟩ : ∃ r, rst n k = r := ⟨_, rfl⟩
  have ht : twid n k = turn n r := by unfold twid; rw [hrr]
  rw [hrr] at RS TS hr
  rw [ht]
  have IN := Lib.hid (fun w => in_t (k : Int) 0 ((n : Int) - 1) ⟨by omega, by omega⟩ w)
  have g256 : decide (256 < (n : Int)) = false := by simp; omega
  have y1 : IntKind.i64.wrap ((n : Int) - 1) = (n : Int) - 1 := IntWalk.i64_in _ (by omega)
  have y2 : IntKind.i64.wrap ((n : Int) - 2) = (n : Int) - 2 := IntWalk.i64_in _ (by omega)
  have y3 : IntKind.i64.wrap (-(k : Int)) = -(k : Int) := IntWalk.i64_in _ (by omega)
  obtain ⟨l, hl⟩ : ∃ l, n - 1 = l := ⟨_, rfl⟩
  have hli : (n : Int) - 1 = (l : Int) := by omega
  have hln : l < n := by omega
  have hl3 : (l : Int) < (n : Int) := by omega
  obtain ⟨g, rfl, hg, cl⟩ := HRD.out l hln
  have hsum : IsC (xs.getD l (0, 0)) (hornZ (zsOf xs) (turn n r) n 0) := by
    show IsC _ ((zsOf xs).getD (n - 1) z0)
    rw [hl]; exact HW.out l hln
  obtain ⟨⟨p0, q0⟩, h0⟩ : ∃ z, xs.getD l (0, 0) = z := ⟨_, rfl⟩
  rw [h0] at cl hsum
  have HSUM := Lib.hid hsum
  have HL := Lib.hid hl
  rw [hli] at IN
  clear h hrd hw ht hrr hx hsum h0 hl
  go_enter Try.func8, Try.ntmps8
  go_wp2_with fail
  with_reducible refine (IN.out _).mono ?_
  rintro e w' ⟨rfl, rfl⟩
  go_wp2_with fail
  with_reducible refine (RS.out _).mono ?_
  rintro e w' ⟨rfl, rfl⟩
  go_wp2_with fail
  with_reducible refine (TS.out _).mono ?_
  rintro e w' ⟨tc, td, rfl, htc, htd, nt, rfl⟩
  have HT : Hid (IsC (tc, td) (turn n r)) := ⟨htc, htd⟩
  clear htc htd IN RS TS
  go_wp2
  go_loopw [8, 9] (fun s i wr => ∃ (m p q d : Nat) (J : Int), s = .complex .f64 p q ∧ i = .int .i64 J ∧ J = (n : Int) - 2 - (m : Int) ∧ m ≤ l ∧ IsC (p, q) (hornZ (zsOf xs) (turn n r) n m) ∧ wr = w'.drewN d) (fun _ i _ => (intOf i + 1).toNat)
  case atStart => exact ⟨0, p0, q0, nt, (n : Int) - 2, rfl, rfl, by omega, Nat.zero_le _, HSUM.out, rfl⟩
  case round =>
    obtain ⟨m, p, q, d, J, rfl, rfl, hJ, hm, hs, hwr⟩ := hrel
    have HS := Lib.hid hs
    have HWR := Lib.hid hwr
    clear hs hwr cl
    by_cases hlt : m < l
    · obtain ⟨D, hD⟩ : ∃ D : Nat, J = (D : Int) := ⟨J.toNat, by omega⟩
      subst hD
      have hDn : D < n := by omega
      obtain ⟨g', e', -, cD⟩ := HRD.out D hDn
      simp only [Option.some.injEq, Addr.mk.injEq, and_true] at e'
      subst e'
      have hz := HW.out D hDn
      have hstep : hornZ (zsOf xs) (turn n r) n (m + 1) = addZ (mulZ (hornZ (zsOf xs) (turn n r) n m) (turn n r)) ((zsOf xs).getD D z0) := by
        show addZ _ ((zsOf xs).getD (n - 1 - (m + 1)) z0) = _
        rw [show n - 1 - (m + 1) = D by omega]
      obtain ⟨⟨t, u⟩, hq⟩ : ∃ z, xs.getD D (0, 0) = z := ⟨_, rfl⟩
      rw [hq] at hz cD
      have HZ := Lib.hid hz
      have HST := Lib.hid hstep
      have HMUL := Lib.hid (fun w => mul_spec p q tc td _ _ HS.out HT.out w)
      have c2 : wr.cell? ⟨g, D, none⟩ = some (.complex .f64 t u) := by rw [HWR.out]; exact cD
      have hD3 : (D : Int) < (n : Int) := by omega
      have y4 : IntKind.i64.wrap ((D : Int) - 1) = (D : Int) - 1 := IntWalk.i64_in _ (by omega)
      have HJ := Lib.hid hJ
      clear hz hstep hq cD hJ
      go_wp2_with fail
      have c3 : wr.drew.cell? ⟨g, D, none⟩ = some (.complex .f64 t u) := c2
      go_region_law (go_simp; first | (go_at_call 22; refine (HMUL.out _).mono ?_; rintro e w3 ⟨x1, y1, rfl, hx1, hy1, nn, rfl⟩; have HX1 := Lib.hid hx1; have HY1 := Lib.hid hy1; clear hx1 hy1))
      all_goals
        go_wp2
        go_roundw
        case rel =>
          exact ⟨m + 1, _, _, _, (D : Int) - 1, rfl, by go_num, by have := HJ.out; omega, by omega, by rw [HST.out]; exact ⟨isF_fres HX1.out HZ.out.re _, isF_fres HY1.out HZ.out.im _⟩, by rw [HWR.out, World.drewN_drewN]⟩
        case measure => simp [intOf] <;> omega
    · have e : m = l := by omega
      subst e
      have hJ1 : J = -1 := by omega
      subst hJ1
      go_wp2
      go_ret2
      exact ⟨p, q, rfl, by rw [HL.out]; exact HS.out, d, HWR.out⟩

end Go.Proofs.Yteamnfockjnilaa
/-
  The value of the greatest integer that is at most a number.
-/
set_option linter.unusedVariables false
set_option linter.unusedSimpArgs false
namespace Go.Proofs.Yteamnfockjnilaa
open Go.RowKit Flt Ieee

theorem cut_down (s : Bool) (n d : Nat) : Toward.down.cut s n d = n / 2 ^ d + (s && n % 2 ^ d != 0).toNat := by
  unfold Toward.cut
  simp only [Nat.shiftLeft_eq, Nat.one_mul]
  rcases Nat.lt_or_ge (n.log2 + 2) d with h | h
  · rw [Nat.min_eq_right (by omega)]
    have h1 : n < 2 ^ (n.log2 + 2) := by
      have := Nat.lt_log2_self (n := n)
      rw [Nat.pow_succ]; omega
    have h2 : n < 2 ^ d := Nat.lt_of_lt_of_le h1 (Nat.pow_le_pow_right (by omega) (by omega))
    rw [Nat.div_eq_of_lt h1, Nat.div_eq_of_lt h2, Nat.mod_eq_of_lt h1, Nat.mod_eq_of_lt h2]
  · rw [Nat.min_eq_left h]

theorem floor_pos {f q r D : Int} (hD : 0 < D) (h0 : 0 ≤ r) (h1 : r < D) (h2 : f * D ≤ q * D + r) (h3 : q * D + r < (f + 1) * D) : f = q := by
  rcases Int.lt_trichotomy f q with h | h | h
  · have := Int.mul_le_mul_of_nonneg_right (show f + 1 ≤ q by omega) (Int.le_of_lt hD)
    omega
  · exact h
  · have := Int.mul_le_mul_of_nonneg_right (show q + 1 ≤ f by omega) (Int.le_of_lt hD)
    rw [Int.add_mul, Int.one_mul] at this
    omega
theorem floor_neg {f q r D : Int} (hD : 0 < D) (h0 : 0 ≤ r) (h1 : r < D) (h2 : f * D ≤ -(q * D + r)) (h3 : -(q * D + r) < (f + 1) * D) : f = -(q + if r = 0 then 0 else 1) := by
  by_cases hr : r = 0
  · rw [if_pos hr]
    refine floor_pos (q := -(q + 0)) hD (r := 0) (by omega) hD ?_ ?_
    · rw [Int.neg_mul, Int.add_mul, Int.zero_mul]; omega
    · rw [Int.neg_mul, Int.add_mul, Int.zero_mul]; omega
  · rw [if_neg hr]
    refine floor_pos (q := -(q + 1)) hD (r := D - r) (by omega) (by omega) ?_ ?_
    · rw [Int.neg_mul, Int.add_mul, Int.one_mul]; omega
    · rw [Int.neg_mul, Int.add_mul, Int.one_mul]; omega

theorem two_nat' (n : Nat) : two n = (((2 ^ n : Nat) : Int) : Rat) := by rw [Rat.intCast_natCast]; rfl

/-- A number's value over a power of 2. -/
theorem dq_cut (s : Bool) (m : Nat) (p : Int) (hp : -(lpn : Int) ≤ p) : dq s m p * two (-p).toNat = (((if s then -((m <<< p.toNat : Nat) : Int) else ((m <<< p.toNat : Nat) : Int)) : Int) : Rat) := by
  unfold dq
  rw [signed_eq, Nat.shiftLeft_eq]
  have h1 := Rat.mul_inv_cancel _ (Rat.ne_of_gt (two_pos lpn))
  have key : ((m * 2 ^ (p + lpn).toNat : Nat) : Rat) / two lpn * two (-p).toNat = ((m * 2 ^ p.toNat : Nat) : Rat) := by
    rw [Rat.natCast_mul, Rat.natCast_mul]
    have e : ((2 ^ (p + lpn).toNat : Nat) : Rat) * two (-p).toNat = ((2 ^ p.toNat : Nat) : Rat) * two lpn := by
      show two (p + lpn).toNat * two (-p).toNat = two p.toNat * two lpn
      rw [← two_add, ← two_add]; congr 1; omega
    rw [Rat.div_def]
    generalize ((2 ^ (p + lpn).toNat : Nat) : Rat) = A at *
    generalize ((2 ^ p.toNat : Nat) : Rat) = B at *
    generalize (m : Rat) = M at *
    grind
  cases s
  · simp only [Bool.false_eq_true, if_false]
    rw [Rat.intCast_natCast, Rat.intCast_natCast]; exact key
  · simp only [if_true]
    rw [Rat.intCast_neg, Rat.intCast_natCast, Rat.intCast_neg, Rat.intCast_natCast, ← key]
    generalize ((m * 2 ^ (p + lpn).toNat : Nat) : Rat) = A
    rw [Rat.div_def, Rat.div_def]; grind

theorem flo_parts {x : Nat} {f : Int} (hx : Flt.Fin x) (h1 : (f : Rat) ≤ fq x) (h2 : fq x < (f : Rat) + 1) : ∃ C s, floW x = double.nearest s C 0 ∧ (if s then -((C : Nat) : Int) else ((C : Nat) : Int)) = f := by
  obtain ⟨s, m, p, e, hp, hv⟩ := read_dq hx
  have hfl : floW x = double.nearest s (Toward.down.cut s (m <<< p.toNat) (-p).toNat) 0 := by
    show double.write ((double.read x).integral .down) = _
    rw [e]; rfl
  have hc := dq_cut s m p hp
  rw [← hv] at hc
  obtain ⟨n, hn⟩ : ∃ n, m <<< p.toNat = n := ⟨_, rfl⟩
  obtain ⟨d, hd⟩ : ∃ d, (-p).toNat = d := ⟨_, rfl⟩
  rw [hn, hd] at hfl hc
  have hpd := two_pos d
  have l1 : (f : Rat) * two d ≤ fq x * two d := Rat.mul_le_mul_of_nonneg_right h1 (Rat.le_of_lt hpd)
  have l2 : fq x * two d < ((f : Rat) + 1) * two d := Rat.mul_lt_mul_of_pos_right h2 hpd
  rw [hc, two_nat', ← Rat.intCast_mul, Rat.intCast_le_intCast] at l1
  rw [hc, two_nat', show ((f : Rat) + 1) = ((f + 1 : Int) : Rat) by rw [Rat.intCast_add]; rfl, ← Rat.intCast_mul, Rat.intCast_lt_intCast] at l2
  have hD : (0 : Int) < ((2 ^ d : Nat) : Int) := by have := Nat.two_pow_pos d; omega
  have hdm := Nat.div_add_mod n (2 ^ d)
  have hml := Nat.mod_lt n (Nat.two_pow_pos d)
  have hC : (if s then -((Toward.down.cut s n d : Nat) : Int) else ((Toward.down.cut s n d : Nat) : Int)) = f := by
    rw [cut_down]
    obtain ⟨q, hq⟩ : ∃ q, n / 2 ^ d = q := ⟨_, rfl⟩
    obtain ⟨r, hr⟩ : ∃ r, n % 2 ^ d = r := ⟨_, rfl⟩
    rw [hq, hr] at hdm ⊢
    rw [hr] at hml
    have hni : (n : Int) = (q : Int) * ((2 ^ d : Nat) : Int) + (r : Int) := by
      rw [← hdm, Nat.mul_comm]; simp
    rw [hni] at l1 l2
    have hml' : (r : Int) < ((2 ^ d : Nat) : Int) := by omega
    generalize ((2 ^ d : Nat) : Int) = D at *
    cases s
    · simp only [Bool.false_eq_true, if_false] at l1 l2
      simp only [Bool.false_eq_true, if_false, Bool.false_and]
      have := floor_pos hD (Int.natCast_nonneg r) hml' l1 l2
      rw [this]; simp
    · simp only [if_true] at l1 l2
      simp only [if_true, Bool.true_and]
      have := floor_neg hD (Int.natCast_nonneg r) hml' l1 l2
      rw [this]
      by_cases h0 : r = 0
      · subst h0; simp
      · have hb : (r != 0) = true := by simpa using h0
        rw [hb, if_neg (by omega)]; simp
  exact ⟨_, s, hfl, hC⟩

theorem flo_write {C : Nat} {s : Bool} {f : Int} (hC : (if s then -((C : Nat) : Int) else ((C : Nat) : Int)) = f) :
    (f : Rat) = (if s then -(((at_ C 0 (-(lpn : Int)) : Nat) : Rat) / two lpn) else ((at_ C 0 (-(lpn : Int)) : Nat) : Rat) / two lpn) := by
  have ea : at_ C 0 (-(lpn : Int)) = C * 2 ^ lpn := by unfold at_; congr 2
  have h1 := Rat.mul_inv_cancel _ (Rat.ne_of_gt (two_pos lpn))
  have ek : ((C * 2 ^ lpn : Nat) : Rat) / two lpn = (C : Rat) := by
    rw [Rat.natCast_mul, Rat.div_def]
    show (C : Rat) * two lpn * (two lpn)⁻¹ = _
    grind
  rw [ea, ek, ← hC]
  cases s
  · simp only [Bool.false_eq_true, if_false]; rw [Rat.intCast_natCast]
  · simp only [if_true]; rw [Rat.intCast_neg, Rat.intCast_natCast]

theorem flo_val {x : Nat} {f : Int} (hx : Flt.Fin x) (h1 : (f : Rat) ≤ fq x) (h2 : fq x < (f : Rat) + 1) (hf : f.natAbs < 2 ^ 53) : Flt.Fin (floW x) ∧ fq (floW x) = (f : Rat) := by
  obtain ⟨C, s, hfl, hC⟩ := flo_parts hx h1 h2
  rw [hfl]
  have hw := write_rnd (neg := s) (m := C) (p := 0) (b := lpn) (R := bigR) (t := (f : Rat)) (Nat.le_refl _) (by omega) bigR_lt (flo_write hC) ((Dy.of_int (n := f) (Nat.le_refl _)).moderate (by omega)).big
  exact ⟨hw.1, hw.2.exact ((Dy.of_int (n := f) (Nat.le_refl _)).rep hf (by omega))⟩

/-- The floor of a number of few digits. -/
theorem fv_flo {z : Option Nat} {q : Rat} {f : Int} (h : Fv z q) (h1 : (f : Rat) ≤ q) (h2 : q < (f : Rat) + 1) (hf : f.natAbs < 2 ^ 53) : Fv (floO z) (f : Rat) := by
  obtain ⟨x, rfl, hx, rfl⟩ := h
  have := flo_val hx h1 h2 hf
  exact ⟨_, rfl, this.1, this.2⟩

theorem cut_zero (s : Bool) (n d : Nat) : Ieee.Toward.zero.cut s n d = n / 2 ^ d := by
  unfold Ieee.Toward.cut
  simp only [Nat.shiftLeft_eq, Nat.one_mul, Bool.toNat_false, Nat.add_zero]
  rcases Nat.lt_or_ge (n.log2 + 2) d with h | h
  · rw [Nat.min_eq_right (by omega)]
    have h1 : n < 2 ^ (n.log2 + 2) := by
      have := Nat.lt_log2_self (n := n)
      rw [Nat.pow_succ]; omega
    have h2 : n < 2 ^ d := Nat.lt_of_lt_of_le h1 (Nat.pow_le_pow_right (by omega) (by omega))
    rw [Nat.div_eq_of_lt h1, Nat.div_eq_of_lt h2]
  · rw [Nat.min_eq_left h]

theorem toInt_val {x : Nat} {D : Int} (hx : Flt.Fin x) (hv : fq x = (D : Rat)) : (FloatKind.f64.decode x).toInt .zero = some D := by
  obtain ⟨s, m, p, e, hp, hq⟩ := read_dq hx
  have e' : FloatKind.f64.decode x = .number s m p := e
  have hc := dq_cut s m p hp
  rw [← hq, hv] at hc
  rw [e']
  show some (Ieee.signed s (Ieee.Toward.zero.cut s (m <<< p.toNat) (-p).toNat) 0) = some D
  obtain ⟨n, hn⟩ : ∃ n, m <<< p.toNat = n := ⟨_, rfl⟩
  obtain ⟨d, hd⟩ : ∃ d, (-p).toNat = d := ⟨_, rfl⟩
  rw [hn, hd] at hc ⊢
  rw [two_nat', ← Rat.intCast_mul, Rat.intCast_inj] at hc
  have hD : 0 < 2 ^ d := Nat.two_pow_pos d
  rw [cut_zero]
  congr 1
  unfold Ieee.signed
  cases s
  · simp only [Bool.false_eq_true, if_false] at hc ⊢
    obtain ⟨k, rfl⟩ : ∃ k : Nat, D = k := by
      refine ⟨D.toNat, ?_⟩
      have : 0 ≤ D := by
        refine Int.not_lt.1 fun h => ?_
        have := Int.mul_lt_mul_of_pos_right h (show (0 : Int) < ((2 ^ d : Nat) : Int) by omega)
        omega
      omega
    have hk : k * 2 ^ d = n := by
      have h2 : ((k * 2 ^ d : Nat) : Int) = (n : Int) := by rw [← hc]; simp
      omega
    rw [← hk, Nat.mul_div_cancel _ hD, Nat.shiftLeft_zero]
  · simp only [if_true] at hc ⊢
    obtain ⟨k, rfl⟩ : ∃ k : Nat, D = -(k : Int) := by
      refine ⟨(-D).toNat, ?_⟩
      have : D ≤ 0 := by
        refine Int.not_lt.1 fun h => ?_
        have := Int.mul_lt_mul_of_pos_right h (show (0 : Int) < ((2 ^ d : Nat) : Int) by omega)
        omega
      omega
    have hk : k * 2 ^ d = n := by
      have h2 : ((k * 2 ^ d : Nat) : Int) = (n : Int) := by
        have h3 : -((k : Int) * ((2 ^ d : Nat) : Int)) = -(n : Int) := by rw [← hc, Int.neg_mul]
        have h4 : ((k * 2 ^ d : Nat) : Int) = (k : Int) * ((2 ^ d : Nat) : Int) := by simp
        omega
      omega
    rw [← hk, Nat.mul_div_cancel _ hD, Nat.shiftLeft_zero]

theorem run_toInt {P : Program} (src dst : TypeId) {x : Nat} {D : Int} (hx : Flt.Fin x) (hv : fq x = (D : Rat)) (hb : D.natAbs < 2 ^ 53) (hs : (P.underlying src).isSome = true) (hd : P.underlying dst = some (.int .i64)) (w : World) :
    (convert src dst (.float .f64 x)).run P w = .ok (.int .i64 D) w := by
  have h := toInt_val hx hv
  have hr : IntKind.i64.min ≤ D ∧ D ≤ IntKind.i64.max := by
    show (-9223372036854775808 : Int) ≤ D ∧ D ≤ 9223372036854775807
    omega
  obtain ⟨u, hs'⟩ := Option.isSome_iff_exists.1 hs
  cases u <;> simp [convert, run_underlying hs', run_underlying hd, Conv.floatToInt, h, hr] <;> (intro hc; exfalso; omega)

end Go.Proofs.Yteamnfockjnilaa
/-
  A half that is added to a great number; phases without whole turns are small.
-/
set_option linter.unusedVariables false
set_option linter.unusedSimpArgs false
namespace Go.Proofs.Yteamnfockjnilaa
open Go.RowKit Flt Ieee

theorem lt_of_mul {a b c : Nat} (h : a * c < b * c) : a < b := Nat.lt_of_mul_lt_mul_right h

/-- Half a unit beside a great number is rounded away. -/
theorem rung_big {k0 L0 M H T : Nat} {p : Int} (h0 : 4503599627370496 ≤ k0) (h1 : k0 < 9007199254740992) (hH : 8 * H ≤ 2 ^ L0) (hM : M = k0 * 2 ^ L0 + H ∨ M + H = k0 * 2 ^ L0) (hT : T ≠ 0) (hp : double.leastPlace ≤ p) (ha : at_ T p double.leastPlace = M) :
    rungOf double T p = min (L0 * 4503599627370496 + k0) double.infRung := by
  obtain ⟨L, k, hr, hq, hk, k1, k2, hb⟩ := rung_spec (f := double) hT hp (Int.le_refl _)
  rw [ha, show (double.leastPlace - double.leastPlace).toNat = 0 by omega, Nat.pow_zero, Nat.mul_one] at k1 k2 hb
  have hB : double.binade = 4503599627370496 := by decide
  rw [hB] at hr hq hk hb
  rw [hr]
  have hL1 : L ≤ L0 := by
    refine Nat.le_of_not_lt fun hlt => ?_
    have e : 2 ^ L = 2 ^ (L - L0 - 1) * (2 * 2 ^ L0) := by rw [← Nat.mul_assoc, ← Nat.pow_succ, ← Nat.pow_add]; congr 1; omega
    have hg : 2 * 2 ^ L0 ≤ 2 ^ L := by rw [e]; exact Nat.le_mul_of_pos_left _ (Nat.two_pow_pos _)
    have h3 := hb (by omega)
    have h4 : k0 * 2 ^ L0 ≤ 9007199254740991 * 2 ^ L0 := Nat.mul_le_mul_right _ (by omega)
    have hP := Nat.two_pow_pos L0
    generalize 2 ^ L = P at *
    generalize 2 ^ L0 = P0 at *
    generalize k0 * P0 = V at *
    omega
  have hL2 : L0 ≤ L + 1 := by
    refine Nat.le_of_not_lt fun hlt => ?_
    have e : 2 ^ L0 = 2 ^ (L0 - L - 2) * (4 * 2 ^ L) := by rw [show 4 * 2 ^ L = 2 ^ (L + 2) by rw [Nat.pow_add]; omega, ← Nat.pow_add]; congr 1; omega
    have hg : 4 * 2 ^ L ≤ 2 ^ L0 := by rw [e]; exact Nat.le_mul_of_pos_left _ (Nat.two_pow_pos _)
    have h4 : 4503599627370496 * 2 ^ L0 ≤ k0 * 2 ^ L0 := Nat.mul_le_mul_right _ h0
    have h5 : (2 * k + 1) * 2 ^ L ≤ 18014398509481985 * 2 ^ L := Nat.mul_le_mul_right _ (by omega)
    have hP := Nat.two_pow_pos L
    generalize (2 * k + 1) * 2 ^ L = X at *
    generalize 2 ^ L = P at *
    generalize 2 ^ L0 = P0 at *
    generalize k0 * P0 = V at *
    omega
  have hP := Nat.two_pow_pos L
  by_cases hL : L = L0
  · subst hL
    have a1 : k < k0 + 1 := by
      have : (2 * k) * 2 ^ L < (2 * (k0 + 1)) * 2 ^ L := by
        rw [show 2 * (k0 + 1) = 2 * k0 + 2 by omega, Nat.add_mul, Nat.mul_assoc 2 k0]
        generalize 2 * k * 2 ^ L = X at *
        generalize 2 ^ L = P at *
        generalize k0 * P = V at *
        omega
      have := lt_of_mul this
      omega
    have a2 : k0 < k + 1 := by
      have : (2 * k0) * 2 ^ L < (2 * k + 2) * 2 ^ L := by
        rw [Nat.mul_assoc 2 k0]
        rw [Nat.add_mul] at k2 ⊢
        generalize 2 * k * 2 ^ L = X at *
        generalize 2 ^ L = P at *
        generalize k0 * P = V at *
        omega
      have := lt_of_mul this
      omega
    rw [show k = k0 by omega]
  · have e : L0 = L + 1 := by omega
    subst e
    rw [Nat.pow_succ] at hH hM
    have a1 : k0 < 4503599627370497 := by
      have h5 : (2 * k + 1) * 2 ^ L ≤ 18014398509481985 * 2 ^ L := Nat.mul_le_mul_right _ (by omega)
      have : (4 * k0) * 2 ^ L < 18014398509481987 * 2 ^ L := by
        rw [show 4 * k0 = 2 * (k0 * 2) by omega, Nat.mul_assoc 2 (k0 * 2)]
        have e2 : k0 * (2 ^ L * 2) = k0 * 2 * 2 ^ L := by rw [Nat.mul_assoc, Nat.mul_comm 2]
        rw [e2] at hM
        generalize (2 * k + 1) * 2 ^ L = X at *
        generalize 2 ^ L = P at *
        generalize k0 * 2 * P = V at *
        omega
      have := lt_of_mul this
      omega
    have hk0 : k0 = 4503599627370496 := by omega
    subst hk0
    have a2 : 9007199254740992 < k + 1 := by
      have : (2 * 9007199254740992) * 2 ^ L < (2 * k + 2) * 2 ^ L := by
        rw [Nat.add_mul] at k2 ⊢
        generalize 2 * k * 2 ^ L = X at *
        generalize 2 ^ L = P at *
        omega
      have := lt_of_mul this
      omega
    rw [show k = 9007199254740992 by omega, show L * 4503599627370496 + 9007199254740992 = (L + 1) * 4503599627370496 + 4503599627370496 by omega]

def halfE : Nat := 1073
theorem half_val : val double half = 2 ^ halfE := by decide +kernel
theorem half_read : ∃ m p, double.read half = .number false m p ∧ -(lpn : Int) ≤ p ∧ m * 2 ^ (p + lpn).toNat = 2 ^ halfE := by
  have hs : double.signWeight = 9223372036854775808 := by decide
  obtain ⟨m, p, e, l, v⟩ := read_fin double (x := half) (by rw [hs, ir64]; decide)
  rw [lpn_eq] at l v
  refine ⟨m, p, ?_, l, ?_⟩
  · rw [e]; rfl
  · rw [show p + (lpn : Int) = p - -(lpn : Int) by omega, v]; exact half_val

def bigE : Nat := 1075
/-- A number of at least 2^54 in size keeps itself when a half is added. -/
theorem big_half {x : Nat} (hx : Flt.Fin x) (h : 2 ^ (bigE + 53) ≤ val double (x % 9223372036854775808)) : floatBits .add .f64 x half = some x := by
  have hw := word_self' hx.1
  obtain ⟨s, hs⟩ : ∃ s, (x / 9223372036854775808 % 2 == 1) = s := ⟨_, rfl⟩
  obtain ⟨r, hr⟩ : ∃ r, x % 9223372036854775808 = r := ⟨_, rfl⟩
  rw [hs, hr] at hw
  rw [hr] at h
  have hri : r < double.infRung := by rw [ir64, ← hr]; exact hx.2
  have hr0 : r ≠ 0 := fun e => by rw [e, val_zero] at h; have := Nat.two_pow_pos (bigE + 53); omega
  obtain ⟨k0, L0, hk0, hk1, hq, he, hv⟩ := rung_parts (f := double) hr0
  have hB : double.binade = 4503599627370496 := by decide
  rw [hB] at hk1 hq he
  have hL0 : 1076 ≤ L0 := by
    refine Nat.le_of_not_lt fun hlt => ?_
    have hb : bigE = 1075 := rfl
    have h1 : k0 * 2 ^ L0 < 9007199254740992 * 2 ^ bigE :=
      Nat.lt_of_lt_of_le (Nat.mul_lt_mul_of_pos_right (show k0 < 9007199254740992 by omega) (Nat.two_pow_pos _)) (Nat.mul_le_mul_left _ (Nat.pow_le_pow_right (by decide) (by omega)))
    rw [← hv] at h1
    rw [Nat.pow_add] at h
    generalize 2 ^ bigE = X at *
    omega
  have hk52 : 4503599627370496 ≤ k0 := by rcases hq with h | h <;> omega
  have h8 : 8 * 2 ^ halfE ≤ 2 ^ L0 := by
    have hb : halfE = 1073 := rfl
    rw [show 8 * 2 ^ halfE = 2 ^ (halfE + 3) by rw [Nat.pow_add]; omega]
    exact Nat.pow_le_pow_right (by omega) (by omega)
  obtain ⟨m, i, e1, l1, v1⟩ := read_word double s hri
  obtain ⟨n, j, e2, l2, v2⟩ := half_read
  have hfx : floatBits .add .f64 x half = ((double.read (double.word s r)).sum (double.read half)).map double.write := by rw [hw]; rfl
  rw [hfx, e1, e2]
  rw [lpn_eq] at l1 v1
  have v1' : m * 2 ^ (i + lpn).toNat = k0 * 2 ^ L0 := by rw [show i + (lpn : Int) = i - -(lpn : Int) by omega, v1, hv]
  simp only [Datum.sum, Option.map_some, Format.write]
  obtain ⟨b, hb⟩ : ∃ b, min i j = b := ⟨_, rfl⟩
  rw [hb]
  have hbl : -(lpn : Int) ≤ b := by omega
  have g1 : signed s m (i + lpn).toNat = signed s m (i - b).toNat * (2 ^ (b + lpn).toNat : Nat) := by
    rw [← signed_scale]; congr 1; omega
  have g2 : signed false n (j + lpn).toNat = signed false n (j - b).toNat * (2 ^ (b + lpn).toNat : Nat) := by
    rw [← signed_scale]; congr 1; omega
  rw [signed_eq, v1'] at g1
  rw [signed_eq, v2] at g2
  simp only [Bool.false_eq_true, if_false] at g2
  obtain ⟨A, hA⟩ : ∃ A, signed s m (i - b).toNat = A := ⟨_, rfl⟩
  obtain ⟨C, hC⟩ : ∃ C, signed false n (j - b).toNat = C := ⟨_, rfl⟩
  obtain ⟨E, hE⟩ : ∃ E, 2 ^ (b + lpn).toNat = E := ⟨_, rfl⟩
  rw [hA, hE] at g1
  rw [hC, hE] at g2
  rw [hA, hC]
  have hEp : 0 < E := by rw [← hE]; exact Nat.two_pow_pos _
  have hVH : 8 * 2 ^ halfE ≤ k0 * 2 ^ L0 := Nat.le_trans h8 (Nat.le_mul_of_pos_left _ (by omega))
  have hHp : 0 < 2 ^ halfE := Nat.two_pow_pos _
  have hT : (A + C) * (E : Int) = (if s then -((k0 * 2 ^ L0 : Nat) : Int) else ((k0 * 2 ^ L0 : Nat) : Int)) + ((2 ^ halfE : Nat) : Int) := by
    rw [Int.add_mul, ← g1, ← g2]
  obtain ⟨T, hTT⟩ : ∃ T, A + C = T := ⟨_, rfl⟩
  rw [hTT] at hT ⊢
  obtain ⟨V, hV⟩ : ∃ V, k0 * 2 ^ L0 = V := ⟨_, rfl⟩
  obtain ⟨H, hH⟩ : ∃ H, 2 ^ halfE = H := ⟨_, rfl⟩
  rw [hH] at h8
  have key : (s = true → T < 0) ∧ (s = false → 0 < T) ∧ T.natAbs ≠ 0 ∧ (T.natAbs * E = k0 * 2 ^ L0 + H ∨ T.natAbs * E + H = k0 * 2 ^ L0) := by
    rw [hV] at hT hVH ⊢
    rw [hH] at hT hVH hHp
    have hn : ((T.natAbs * E : Nat) : Int) = (T * (E : Int)).natAbs := by rw [Int.natAbs_mul]; simp
    cases s
    · simp only [Bool.false_eq_true, if_false] at hT
      have hpos : 0 < T := by
        refine Int.not_le.1 fun hc => ?_
        have := Int.mul_le_mul_of_nonneg_right hc (show (0 : Int) ≤ (E : Int) by omega)
        omega
      exact ⟨fun h => absurd h (by decide), fun _ => hpos, by omega, .inl (by omega)⟩
    · simp only [if_true] at hT
      have hneg : T < 0 := by
        refine Int.not_le.1 fun hc => ?_
        have := Int.mul_le_mul_of_nonneg_right hc (show (0 : Int) ≤ (E : Int) by omega)
        omega
      exact ⟨fun _ => hneg, fun h => absurd h (by decide), by omega, .inr (by omega)⟩
  obtain ⟨k1, k2, k3, k4⟩ := key
  have hsign : (if T = 0 then s && false else decide (T < 0)) = s := by
    rw [if_neg (by omega)]
    cases s
    · have := k2 rfl; exact decide_eq_false (by omega)
    · exact decide_eq_true (k1 rfl)
  rw [hsign, nearest_rung]
  have ha : at_ T.natAbs b double.leastPlace = T.natAbs * E := by
    unfold at_; rw [lpn_eq, ← hE]; congr 3
  rw [rung_big (M := T.natAbs * E) (H := H) hk52 (by omega) h8 k4 k3 (by rw [lpn_eq]; exact hbl) ha, he, Nat.min_eq_left (Nat.le_of_lt hri), hw]

/-- The floor of any number whose floor is one. -/
theorem flo_rep {x : Nat} {f : Int} {R : Nat} (hx : Flt.Fin x) (h1 : (f : Rat) ≤ fq x) (h2 : fq x < (f : Rat) + 1) (hR : R < double.infRung) (hB : Size (f : Rat) (rq R)) (hrep : Rep (f : Rat)) : Flt.Fin (floW x) ∧ fq (floW x) = (f : Rat) := by
  obtain ⟨C, s, hfl, hC⟩ := flo_parts hx h1 h2
  rw [hfl]
  have hw := write_rnd (neg := s) (m := C) (p := 0) (b := lpn) (R := R) (t := (f : Rat)) (Nat.le_refl _) (by omega) hR ?_ hB
  · exact ⟨hw.1, hw.2.exact hrep⟩
  · exact flo_write hC

/-- A great number is an integer. -/
theorem int_big {x : Nat} (hx : Flt.Fin x) (h : 2 ^ (halfE + 53) ≤ val double (x % 9223372036854775808)) : ∃ f : Int, fq x = (f : Rat) := by
  have hw := word_self' hx.1
  obtain ⟨s, hs⟩ : ∃ s, (x / 9223372036854775808 % 2 == 1) = s := ⟨_, rfl⟩
  obtain ⟨r, hr⟩ : ∃ r, x % 9223372036854775808 = r := ⟨_, rfl⟩
  rw [hs, hr] at hw
  rw [hr] at h
  have hri : r < double.infRung := by rw [ir64, ← hr]; exact hx.2
  have hr0 : r ≠ 0 := fun e => by rw [e, val_zero] at h; have := Nat.two_pow_pos (halfE + 53); omega
  obtain ⟨k0, L0, hk0, hk1, hq, he, hv⟩ := rung_parts (f := double) hr0
  have hB : double.binade = 4503599627370496 := by decide
  rw [hB] at hk1
  have hL0 : lpn ≤ L0 := by
    refine Nat.le_of_not_lt fun hlt => ?_
    have hb : halfE = 1073 := rfl
    have hl : lpn = 1074 := rfl
    have h1 : k0 * 2 ^ L0 < 9007199254740992 * 2 ^ halfE :=
      Nat.lt_of_lt_of_le (Nat.mul_lt_mul_of_pos_right (show k0 < 9007199254740992 by omega) (Nat.two_pow_pos _)) (Nat.mul_le_mul_left _ (Nat.pow_le_pow_right (by decide) (by omega)))
    rw [← hv] at h1
    rw [Nat.pow_add] at h
    generalize 2 ^ halfE = X at *
    omega
  have hrq : rq r = ((k0 * 2 ^ (L0 - lpn) : Nat) : Rat) := by
    unfold rq
    rw [hv, show 2 ^ L0 = 2 ^ (L0 - lpn) * 2 ^ lpn by rw [← Nat.pow_add]; congr 1; omega, ← Nat.mul_assoc, Rat.natCast_mul (k0 * 2 ^ (L0 - lpn))]
    have h1 := Rat.mul_inv_cancel _ (Rat.ne_of_gt (two_pos lpn))
    rw [Rat.div_def]
    show _ * two lpn * (two lpn)⁻¹ = _
    generalize ((k0 * 2 ^ (L0 - lpn) : Nat) : Rat) = A
    grind
  rw [← hw, fq_word _ hri, hrq]
  cases s
  · exact ⟨((k0 * 2 ^ (L0 - lpn) : Nat) : Int), by simp only [Bool.false_eq_true, if_false]; rw [Rat.intCast_natCast]⟩
  · exact ⟨-((k0 * 2 ^ (L0 - lpn) : Nat) : Int), by simp only [if_true]; rw [Rat.intCast_neg, Rat.intCast_natCast]⟩

theorem fq_size {x R : Nat} (hx : Flt.Fin x) (h : x % 9223372036854775808 ≤ R) : Size (fq x) (rq R) := by
  have hw := word_self' hx.1
  obtain ⟨s, hs⟩ : ∃ s, (x / 9223372036854775808 % 2 == 1) = s := ⟨_, rfl⟩
  obtain ⟨r, hr⟩ : ∃ r, x % 9223372036854775808 = r := ⟨_, rfl⟩
  rw [hs, hr] at hw
  rw [hr] at h
  have hri : r < double.infRung := by rw [ir64, ← hr]; exact hx.2
  have h1 := rq_le.2 h
  have h2 := rq_nonneg r
  rw [← hw, fq_word _ hri]
  cases s
  · simp only [Bool.false_eq_true, if_false]; exact ⟨h1, by grind⟩
  · simp only [if_true]; exact ⟨by grind, by grind⟩

theorem small_size {x : Nat} (hx : Flt.Fin x) (h : val double (x % 9223372036854775808) ≤ 2 ^ (bigE + 53)) : Size (fq x) 18014398509481984 := by
  have hw := word_self' hx.1
  obtain ⟨s, hs⟩ : ∃ s, (x / 9223372036854775808 % 2 == 1) = s := ⟨_, rfl⟩
  obtain ⟨r, hr⟩ : ∃ r, x % 9223372036854775808 = r := ⟨_, rfl⟩
  rw [hs, hr] at hw
  rw [hr] at h
  have hri : r < double.infRung := by rw [ir64, ← hr]; exact hx.2
  have h2 := rq_nonneg r
  have h1 : rq r ≤ 18014398509481984 := by
    have h3 : (val double r : Rat) ≤ two (bigE + 53) := Rat.natCast_le_natCast.2 h
    have h4 : two (bigE + 53) = two 54 * two lpn := by rw [← two_add]; rfl
    rw [h4] at h3
    have h5 := div_le_div (two_pos lpn) h3
    have h1 := Rat.mul_inv_cancel _ (Rat.ne_of_gt (two_pos lpn))
    have h6 : two 54 * two lpn / two lpn = two 54 := by rw [Rat.div_def]; grind
    rw [h6] at h5
    exact h5
  rw [← hw, fq_word _ hri]
  cases s
  · simp only [Bool.false_eq_true, if_false]; exact ⟨h1, by grind⟩
  · simp only [if_true]; exact ⟨by grind, by grind⟩

theorem half_fv' : Fv (some half) (1 / 2) := ⟨half, rfl, ⟨by decide, by decide⟩, by decide +kernel⟩
theorem small_size' {x : Nat} (hx : Flt.Fin x) (h : val double (x % 9223372036854775808) ≤ 2 ^ (halfE + 53)) : Size (fq x) 4503599627370496 := by
  have hw := word_self' hx.1
  obtain ⟨s, hs⟩ : ∃ s, (x / 9223372036854775808 % 2 == 1) = s := ⟨_, rfl⟩
  obtain ⟨r, hr⟩ : ∃ r, x % 9223372036854775808 = r := ⟨_, rfl⟩
  rw [hs, hr] at hw
  rw [hr] at h
  have hri : r < double.infRung := by rw [ir64, ← hr]; exact hx.2
  have h2 := rq_nonneg r
  have h1 : rq r ≤ 4503599627370496 := by
    have h3 : (val double r : Rat) ≤ two (halfE + 53) := Rat.natCast_le_natCast.2 h
    have h4 : two (halfE + 53) = two 52 * two lpn := by rw [← two_add]; rfl
    rw [h4] at h3
    have h5 := div_le_div (two_pos lpn) h3
    have h1 := Rat.mul_inv_cancel _ (Rat.ne_of_gt (two_pos lpn))
    have h6 : two 52 * two lpn / two lpn = two 52 := by rw [Rat.div_def]; grind
    rw [h6] at h5
    exact h5
  rw [← hw, fq_word _ hri]
  cases s
  · simp only [Bool.false_eq_true, if_false]; exact ⟨h1, by grind⟩
  · simp only [if_true]; exact ⟨by grind, by grind⟩

theorem rep_int {n : Int} (h : n.natAbs < 2 ^ 53) : Rep (n : Rat) := (Dy.of_int (n := n) (Nat.le_refl _)).rep h (by omega)
theorem flo_is (q : Rat) : ((q.floor : Int) : Rat) ≤ q ∧ q < ((q.floor : Int) : Rat) + 1 :=
  ⟨Rat.floor_le q, by have := Rat.lt_floor_add_one q; rwa [Rat.intCast_add] at this⟩
theorem mod_of_size {B : Rat} {q : Rat} (h : Size q B) (hB : B ≤ 1000000000000000000) : Moderate q := by
  have h1 : (1000000000000000000 : Rat) ≤ two 1000 := Rat.le_trans (show (1000000000000000000 : Rat) ≤ two 60 by decide +kernel) (two_le (by omega))
  exact ⟨Rat.le_trans h.1 (Rat.le_trans hB h1), Rat.le_trans h.2 (Rat.le_trans hB h1)⟩
/-- A rounded number is no greater than an integer that the number is not greater than. -/
theorem Rnd.size {t r : Rat} (h : Rnd t r) {n : Int} (hn : n.natAbs < 2 ^ 53) (hs : Size t (n : Rat)) : Size r (n : Rat) := by
  refine ⟨h.le _ (rep_int hn) hs.1, ?_⟩
  have h2 := h.ge _ (rep_neg (rep_int hn)) (by have := hs.2; grind)
  grind

set_option maxHeartbeats 2000000 in
theorem wrap_small {a : Nat} (hx : Flt.Fin a) : ∃ r, Fv (wrapO (some a)) r ∧ Size r 8 := by
  have hf : finO (some a) = true := decide_eq_true hx.2
  unfold wrapO
  rw [if_pos hf]
  have hfa : Fv (some a) (fq a) := Fv.mk hx
  have h8 : ((8 : Int) : Rat) = 8 := rfl
  by_cases hb : 2 ^ (bigE + 53) ≤ val double (a % 9223372036854775808)
  · have e1 : fop .add .f64 (some a) (some half) = some a := big_half hx hb
    rw [e1]
    obtain ⟨f, hfq⟩ := int_big hx (Nat.le_trans (Nat.pow_le_pow_right (by omega) (by decide)) hb)
    have hs := fq_size hx (Nat.le_refl _)
    have hri : a % 9223372036854775808 < double.infRung := by rw [ir64]; exact hx.2
    have hfl := flo_rep (f := f) hx (by rw [hfq]; exact Rat.le_refl) (by rw [hfq]; grind) hri (by rw [← hfq]; exact hs) ⟨a, hx, hfq⟩
    have hfv : Fv (floO (some a)) (fq a) := ⟨_, rfl, hfl.1, by rw [hfl.2, hfq]⟩
    have h0 : fq a - fq a = 0 := by grind
    obtain ⟨r, h1, h2⟩ := fv_sub hfa hfv (by rw [h0]; exact mod_of_size (B := 8) ⟨by decide, by decide⟩ (by decide +kernel))
    rw [h0] at h2
    have hr := h2.exact rep_zero
    exact ⟨r, h1, by rw [hr]; exact ⟨by decide, by decide⟩⟩
  · have hsz := small_size hx (Nat.le_of_lt (Nat.lt_of_not_le hb))
    have hhv : Fv (some half) (1 / 2) := by
      obtain ⟨x, e, h1, h2⟩ := half_fv'
      exact ⟨x, e, h1, h2⟩
    have hts : Size (fq a + 1 / 2) 18014398509481985 := by
      obtain ⟨s1, s2⟩ := hsz
      constructor
      · grind
      · grind
    obtain ⟨s, hs1, hs2⟩ := fv_add hfa hhv (mod_of_size hts (by decide +kernel))
    have hnear := hs2.near hts
    rw [two52] at hnear
    have htiny := tiny_le
    obtain ⟨n1, n2⟩ := hnear
    obtain ⟨x, ex, hxf, hxq⟩ := hs1
    have hfl := flo_is s
    obtain ⟨f, hff⟩ : ∃ f, s.floor = f := ⟨_, rfl⟩
    rw [hff] at hfl
    have hfv : Fv (floO (fop .add .f64 (some a) (some half))) (f : Rat) := by
      rw [ex]
      by_cases hbig : 2 ^ (halfE + 53) ≤ val double (x % 9223372036854775808)
      · obtain ⟨g, hg⟩ := int_big hxf hbig
        have hfg : f = g := by rw [← hff, ← hxq, hg, Rat.floor_intCast]
        have hri : x % 9223372036854775808 < double.infRung := by rw [ir64]; exact hxf.2
        have := flo_rep (f := f) hxf (by rw [hxq]; exact hfl.1) (by rw [hxq]; exact hfl.2) hri (by rw [hfg, ← hg]; exact fq_size hxf (Nat.le_refl _)) ⟨x, hxf, by rw [hg, hfg]⟩
        exact ⟨_, rfl, this.1, this.2⟩
      · have hss : Size s 4503599627370496 := by
          rw [← hxq]
          exact small_size' hxf (Nat.le_of_lt (Nat.lt_of_not_le hbig))
        have hfb : f.natAbs < 2 ^ 53 := by
          obtain ⟨b1, b2⟩ := hss
          obtain ⟨c1, c2⟩ := hfl
          have d1 : (f : Rat) ≤ ((4503599627370496 : Int) : Rat) := Rat.le_trans c1 b1
          have d2 : ((-4503599627370498 : Int) : Rat) ≤ (f : Rat) := by
            have : ((-4503599627370498 : Int) : Rat) = -4503599627370498 := rfl
            rw [this]; grind
          have e1 := Rat.intCast_le_intCast.1 d1
          have e2 := Rat.intCast_le_intCast.1 d2
          omega
        have := flo_val (f := f) hxf (by rw [hxq]; exact hfl.1) (by rw [hxq]; exact hfl.2) hfb
        exact ⟨_, rfl, this.1, this.2⟩
    obtain ⟨c1, c2⟩ := hfl
    have hds : Size (fq a - (f : Rat)) 8 := by
      generalize fq a = q at *
      generalize (f : Rat) = F at *
      clear hsz hts hfa hs2 hxq hff
      constructor
      · grind
      · grind
    obtain ⟨r, h1, h2⟩ := fv_sub hfa hfv (mod_of_size hds (by decide +kernel))
    exact ⟨r, h1, by rw [← h8]; exact Rnd.size h2 (n := 8) (by decide) (by rw [h8]; exact hds)⟩

end Go.Proofs.Yteamnfockjnilaa
/-
  FromPolar of both.
-/
set_option linter.unusedVariables false
set_option linter.unusedSimpArgs false
namespace Go.Proofs.Yteamnfockjnilaa
open Go.RowKit Flt Turn
attribute [local go_sem] run_fadd run_fsub run_fmul run_fquo run_cadd run_csub

def w1024 : Nat := 4652218415073722368
theorem has_1024 : Has w1024 1024 := has_int (n := 1024) (by decide) (by decide)
/-- The nearest integer to a phase times 1024. -/
def poO (z : Option Nat) : Option Nat := floO (fop .add .f64 (fop .mul .f64 (wrapO z) (some w1024)) (some half))

theorem polar_num {a : Nat} (hx : Flt.Fin a) : ∃ (n : Int) (p m s : Nat), n.natAbs ≤ 10000 ∧ wrapO (some a) = some p ∧ floatBits .mul .f64 p w1024 = some m ∧ floatBits .add .f64 m half = some s ∧ Flt.Fin s ∧ Has (floW s) (n : Rat) := by
  obtain ⟨r, h1, h2⟩ := wrap_small hx
  obtain ⟨p, ep, hp1, hp2⟩ := h1
  have h1 : Fv (some p) r := ⟨p, rfl, hp1, hp2⟩
  have ht : Size (r * 1024) ((8192 : Int) : Rat) := by
    obtain ⟨a1, a2⟩ := h2
    have e : ((8192 : Int) : Rat) = 8192 := rfl
    rw [e]
    constructor <;> grind
  obtain ⟨u, hu, ru⟩ := fv_mul h1 has_1024.fv (mod_of_size ht (by decide +kernel))
  have su := Rnd.size ru (n := 8192) (by decide) ht
  have ht2 : Size (u + 1 / 2) ((8193 : Int) : Rat) := by
    obtain ⟨a1, a2⟩ := su
    have e : ((8192 : Int) : Rat) = 8192 := rfl
    have e' : ((8193 : Int) : Rat) = 8193 := rfl
    rw [e] at a1 a2
    rw [e']
    constructor <;> grind
  obtain ⟨v, hv, rv⟩ := fv_add hu half_fv' (mod_of_size ht2 (by decide +kernel))
  have sv := Rnd.size rv (n := 8193) (by decide) ht2
  obtain ⟨m, em, -, -⟩ := hu
  rw [em] at hv
  obtain ⟨s, es, hs, hq⟩ := hv
  have hfl := flo_is v
  obtain ⟨f, hff⟩ : ∃ f, v.floor = f := ⟨_, rfl⟩
  rw [hff] at hfl
  have hfb : f.natAbs ≤ 10000 := by
    obtain ⟨b1, b2⟩ := sv
    obtain ⟨c1, c2⟩ := hfl
    have d1 : (f : Rat) ≤ ((8193 : Int) : Rat) := Rat.le_trans c1 b1
    have d2 : ((-8195 : Int) : Rat) ≤ (f : Rat) := by
      have e : ((-8195 : Int) : Rat) = -8195 := rfl
      have e' : ((8193 : Int) : Rat) = 8193 := rfl
      rw [e'] at b2
      rw [e]; grind
    have e1 := Rat.intCast_le_intCast.1 d1
    have e2 := Rat.intCast_le_intCast.1 d2
    omega
  have := flo_val (f := f) hs (by rw [hq]; exact hfl.1) (by rw [hq]; exact hfl.2) (by omega)
  exact ⟨f, p, m, s, hfb, ep, em, es, hs, this⟩

theorem restM_any (k : Int) (n r : Nat) (hn : 0 < n) (hn2 : n ≤ 1000000) (hr : k % (n : Int) = (r : Int)) (w : World) :
    Calls Try.prog 21 #[.int .i64 k, .int .i64 n] w fun e w' => e = .returned (.int .i64 (r : Int)) ∧ w' = w := by
  obtain ⟨t, e1, h1, h2, e2, e3⟩ := rest_facts k n r hn hr
  have hz : ¬ (n : Int) = 0 := by omega
  have hz' : ¬ n = 0 := by omega
  have hb : (n : Int) ≤ 1000000 := by omega
  clear hr hn hn2
  go_enter Try.func21, Try.ntmps21
  go_wp2
  go_ret
  exact ⟨rfl, rfl⟩

theorem restT_any (n : Nat) (k : Int) (r b c : Nat) (w : World) (hn : 0 < n) (hn2 : n ≤ 100000) (hr : k % (n : Int) = (r : Int)) (hrn : r ≤ n) (hc : Cache w b c) (hcf : c ≤ 4000000000000000000) :
    Calls Try.prog 16 #[.map (some b), .int .i64 n, .int .i64 k] w (RetCa (turn n r) b (c + 8) w) := by
  have R := Lib.hid (fun w => restOf_any k n r hn (by omega) hr w)
  have T := Lib.hid (turn_cache n r b c w hn hn2 hrn hc hcf)
  clear hr hrn hc
  go_enter Try.func16, Try.ntmps16
  go_wp2_with fail
  refine (R.out _).mono ?_
  rintro e w' ⟨rfl, rfl⟩
  go_wp2_with fail
  refine T.out.mono ?_
  rintro e w1 ⟨x, y, rfl, hx, hy, hc1, hg1⟩
  have HE := Lib.hid (show RetCa (turn n r) b (c + 8) w' (.returned (.complex .f64 x y)) w1 from ⟨x, y, rfl, hx, hy, hc1, hg1⟩)
  clear hx hy hc1 hg1 T
  go_wp2
  go_ret
  exact HE.out

/-- A complex number of these parts. -/
def PolTo (z1 z2 : Option Nat) (w : World) (e : Ending) (w' : World) : Prop := ∃ x y, e = .returned (.complex .f64 x y) ∧ IsF x z1 ∧ IsF y z2 ∧ Below w.heap.size w w'

def nanW : Nat := 9221120237041090561
theorem isF_nan : IsF nanW none := ⟨cn_none (by decide), by decide⟩
theorem nan_any (w : World) : Calls Try.prog 59 #[] w fun e w' => e = .returned (.float .f64 nanW) ∧ w' = w := by
  unfold nanW
  go_enter Try.func59, Try.ntmps59
  go_wp2
  go_ret
  exact ⟨rfl, rfl⟩

theorem fin_num {s : Nat} (h : Flt.Fin s) : nan FloatKind.f64.format s = false := by
  show nan Ieee.double s = false
  rw [nan64]
  exact decide_eq_false (by have := h.2; omega)

end Go.Proofs.Yteamnfockjnilaa
/-
  BinOf of the program: a range over the numbers from the last one on.
-/
set_option linter.unusedVariables false
set_option linter.unusedSimpArgs false
namespace Go.Proofs.Yteamnfockjnilaa
open Go.RowKit Go.Shelf Flt Turn Fast
attribute [local go_sem] Oper.semAt_some wide_fn wide_depth wide_fnR wide_depthR run_fadd run_fsub run_fmul run_fquo run_cadd run_csub

theorem backwardC_any (a : Option Addr) (L cap : Nat) (w : World) :
    Calls Try.prog 17 #[.slice a L cap] w fun e w' =>
      e = .returned (.func (.func 33) #[] #[.pointer (some ⟨w.heap.size, 0, none⟩)]) ∧ w' = w.alloc (.cells #[.slice a L cap] 24) := by
  go_enter Try.func17, Try.ntmps17
  go_wp2
  go_ret
  exact ⟨rfl, rfl⟩

/-- Three blocks that are laid one after the other. -/
theorem laid3 (w : World) (a b c : Obj) {N : Nat} (hN : w.heap.size = N) {W : World} (hW : ((w.alloc a).alloc b).alloc c = W) :
    W.heap.size = N + 3 ∧ W.heap[N]? = some a ∧ W.heap[N + 1]? = some b ∧ W.heap[N + 2]? = some c ∧ Below w.heap.size w W := by
  subst hN; subst hW
  have up : ∀ (W : World) (o : Obj) (k : Nat) (x : Obj), W.heap[k]? = some x → (W.alloc o).heap[k]? = some x := fun W o k x h => (Below.heap_alloc W o k (Array.getElem?_eq_some_iff.1 h).1).trans h
  have n0 := World.alloc_heap_new w a
  have n1 := World.alloc_heap_new (w.alloc a) b
  have n2 := World.alloc_heap_new ((w.alloc a).alloc b) c
  simp only [World.size_alloc] at n1 n2
  exact ⟨by simp, up _ _ _ _ (up _ _ _ _ n0), up _ _ _ _ n1, n2, (((Below.refl _ w).alloc (Nat.le_refl _) _).alloc (by simp) _).alloc (by simp; omega) _⟩

theorem neg_rst {n k : Nat} (hn : 0 < n) (hk : k < n) : (-(k : Int)) % (n : Int) = ((rst n k : Nat) : Int) := by
  unfold rst
  rw [Nat.mod_eq_of_lt hk]
  by_cases h0 : k = 0
  · subst h0
    simp
  · rw [Nat.mod_eq_of_lt (show n - k < n by omega), show (-(k : Int)) = ((n : Int) - (k : Int)) + (n : Int) * (-1) by omega, Int.add_mul_emod_self_left, Int.emod_eq_of_lt (by omega) (by omega)]
    omega

/-- What the loop keeps: the number that has been found so far. -/
def BnHas (N n : Nat) (zs : List Z) (t : Z) (W0 : World) (k : Nat) (W : World) : Prop :=
  ∃ p q, Boxed W (N + 1) 27 (.complex .f64 p q) ∧ IsC (p, q) (hornZ zs t n (n - 1 - k)) ∧ KeptBut (N + 3) (N + 1) W0 W ∧ N + 3 ≤ W.heap.size
theorem BnHas.kept {N n : Nat} {zs : List Z} {t : Z} {W0 A A' : World} {k : Nat} {row : Option Nat} (h : BnHas N n zs t W0 k A) (hg : A.grownBy A' row) (hr : ∀ r, row = some r → N + 3 ≤ r) : BnHas N n zs t W0 k A' := by
  obtain ⟨p, q, h1, h2, h4, h5⟩ := h
  exact ⟨p, q, h1.kept hg (fun e => by have := hr _ e.symm; omega), h2, h4.grown hg hr h5, Nat.le_trans h5 hg.size⟩

set_option maxRecDepth 100000 in
set_option maxHeartbeats 8000000 in
theorem binOf_impl (xs : List C) (n : Nat) (hx : xs.length = n) (hn0 : 0 < n) (hn : n ≤ 100) (hw : WfC xs) (k : Nat) (hk : k < n) (v : Value) (w : World) (h : Reads w v (cvals xs)) :
    Calls Try.prog 7 #[v, .int .i64 k] w fun e w' => ∃ a b, e = .returned (.tuple #[.complex .f64 a b, .int .i64 0]) ∧ IsC (a, b) (hornZ (zsOf xs) (twid n k) n (n - 1)) ∧ Below w.heap.size w w' := by
  have hrd := cv_reads h
  obtain ⟨g, cap, rfl, hnc, hcm⟩ : ∃ g cap, v = .slice (some ⟨g, 0, none⟩) n cap ∧ n ≤ cap ∧ cap ≤ maxLen := by
    obtain ⟨a, cap, hv⟩ := fl_form h
    have hl : (cvals xs).length = n := by rw [cvals_length, hx]
    rw [hl] at hv
    obtain ⟨g, ha, -, -⟩ := hrd a n cap hv 0 hn0
    refine ⟨g, cap, by rw [hv, ha], ?_⟩
    subst hv
    obtain ⟨ys, hys⟩ : ∃ ys, cvals xs = ys := ⟨_, rfl⟩
    rw [hys] at h hl
    cases h with
    | none a cap => simp at hl; omega
    | row g cap L cs hL h0 hc hm h => exact ⟨hc, hm⟩
  have hrd := hrd _ _ _ rfl
  have hgs : g < w.heap.size := by
    obtain ⟨g', e, h1, -⟩ := hrd 0 hn0
    simp only [Option.some.injEq, Addr.mk.injEq, and_true] at e
    rw [e]; exact h1
  have hcell : ∀ j, j < n → w.cell? ⟨g, j, none⟩ = some (.complex .f64 (xs.getD j (0, 0)).1 (xs.getD j (0, 0)).2) := fun j hj => by
    obtain ⟨g', e, -, h1⟩ := hrd j hj
    simp only [Option.some.injEq, Addr.mk.injEq, and_true] at e
    rw [e]; exact h1
  have HW := Lib.hid (fun i (hi : i < n) => isC_getD hw (show i < xs.length by omega))
  have RT := Lib.hid (fun (b : Nat) w hc => restT_any n (-(k : Int)) (rst n k) b 0 w hn0 (by omega) (neg_rst hn0 hk) (Nat.le_of_lt (rst_lt k hn0)) hc (by omega))
  have hmm := @run_makeMap Try.prog
  obtain ⟨zs, hzs⟩ : ∃ zs, zsOf xs = zs := ⟨_, rfl⟩
  rw [hzs] at HW ⊢
  obtain ⟨t, ht⟩ : ∃ t, turn n (rst n k) = t := ⟨_, rfl⟩
  have htw : twid n k = t := ht
  rw [ht] at RT
  rw [htw]
  have g256 : decide (256 < (n : Int)) = false := by simp; omega
  have g0 : decide ((k : Int) < 0) = false := by simp
  have gk : decide ((n : Int) ≤ (k : Int)) = false := by simp; omega
  have gk2 : decide (n ≤ k) = false := decide_eq_false (by omega)
  have gk3 : ¬ n ≤ k := by omega
  have gk4 : ¬ (n : Int) ≤ (k : Int) := by omega
  have y3 : IntKind.i64.wrap (-1 * (k : Int)) = -(k : Int) := by rw [IntWalk.i64_in _ (by omega)]; omega
  have y4 : IntKind.i64.wrap (-(k : Int)) = -(k : Int) := IntWalk.i64_in _ (by omega)
  obtain ⟨l, hl⟩ : ∃ l, n - 1 = l := ⟨_, rfl⟩
  have y1 : IntKind.i64.wrap ((n : Int) - 1) = (l : Int) := by rw [IntWalk.i64_in _ (by omega)]; omega
  have hln : l < n := by omega
  have hl3 : (l : Int) < (n : Int) := by omega
  have hl4 : (l : Int) ≤ (cap : Int) := by omega
  have HL := Lib.hid hl
  have hcl := hcell l hln
  have HC := Lib.hid hcell
  obtain ⟨⟨p0, q0⟩, h0⟩ : ∃ z, xs.getD l (0, 0) = z := ⟨_, rfl⟩
  have hs0 : IsC (p0, q0) (hornZ zs t n 0) := by
    have := HW.out l hln
    rw [h0] at this
    show IsC _ (zs.getD (n - 1) z0)
    rw [hl]; exact this
  rw [h0] at hcl
  have HS0 := Lib.hid hs0
  have HNC : Hid (n ≤ cap ∧ cap ≤ maxLen) := ⟨hnc, hcm⟩
  have HGS := Lib.hid hgs
  have hcl' := fun (W : World) (hb : Below w.heap.size w W) => (hb.cell (p := ⟨g, l, none⟩) hgs).trans hcl
  have HCL := Lib.hid hcl'
  clear h hrd hw ht htw hzs hx h0 hs0 hcell hgs hcl' hnc hcm hl hk
  refine (callsIn_wide (n := 5)).1 ?_
  refine callsIn_of_wp_marks Try.func7 rfl trivial ?_ rfl
  simp only [Try.ntmps7, List.size_toArray, List.length_cons, List.length_nil, Nat.reduceAdd, Nat.reduceSub, Array.replicate_succ, Array.replicate_zero, List.push_toArray, List.append_toArray, List.nil_append, List.cons_append]
  gi_wp2
  refine (callsIn_wide.2 (RT.out _ _ (Cache.made _))).mono ?_
  rintro e w1 ⟨tc, td, rfl, htc, htd, hc1, hg1⟩
  have HT : Hid (IsC (tc, td) t) := ⟨htc, htd⟩
  have hb1 : Below w.heap.size w w1 := ((Below.refl w.heap.size w).alloc (Nat.le_refl _) _).grown hg1 (by simp) (fun b e => by cases e; simp)
  have HB1 := Lib.hid hb1
  have hcl2 := HCL.out _ (hb1.alloc hb1.size (.cells #[.complex .f64 tc td] 27))
  clear htc htd hc1 hg1 hb1 hcl RT hmm y3 y4
  gi_wp2_with (gi_at_call 17; refine (callsIn_wide.2 (backwardC_any _ _ _ _)).mono ?_; rintro e w2 ⟨rfl, rfl⟩)
  obtain ⟨W0, hW0⟩ : ∃ W0, (((w1.alloc (.cells #[.complex .f64 tc td] 27)).alloc (.cells #[.complex .f64 p0 q0] 27)).alloc (.cells #[.slice (some ⟨g, 0, none⟩) l cap] 24)) = W0 := ⟨_, rfl⟩
  obtain ⟨N, hN⟩ : ∃ N, w1.heap.size = N := ⟨_, rfl⟩
  obtain ⟨hsz, k0, k1, k2, hB0⟩ := laid3 w1 _ _ _ hN hW0
  rw [hW0, hN]
  simp only [Nat.add_assoc, Nat.reduceAdd]
  have hVL : ∀ j, j < l → ∃ g', (some ⟨g, 0, none⟩ : Option Addr) = some ⟨g', 0, none⟩ ∧ g' < N + 3 ∧ g' ≠ N + 1 ∧ l ≤ cap ∧ cap ≤ maxLen ∧ W0.cell? ⟨g', j, none⟩ = some (.complex .f64 (xs.getD j (0, 0)).1 (xs.getD j (0, 0)).2) := fun j hj => by
    have h1 := HGS.out
    have h2 := HB1.out.size
    rw [hN] at h2
    have h3 := HNC.out
    refine ⟨g, rfl, by omega, by omega, by omega, h3.2, ?_⟩
    rw [hB0.cell (p := ⟨g, j, none⟩) (by show g < w1.heap.size; omega), HB1.out.cell (p := ⟨g, j, none⟩) h1]
    exact HC.out j (by omega)
  have hT : Tells Fence.wide (5 - 1) Try.prog 33 #[.pointer (some ⟨N + 2, 0, none⟩)] (bwTold l (fun j => .complex .f64 (xs.getD j (0, 0)).1 (xs.getD j (0, 0)).2)) (KeptBut (N + 3) (N + 1)) W0 :=
    backwardC_tells _ _ _ _ l cap _ _ W0 (by omega) (by omega) (by omega) (show Boxed W0 (N + 2) 24 (.slice (some ⟨g, 0, none⟩) l cap) from k2).cell hVL
  have HI0 : Hid (BnHas N n zs t W0 l W0) := ⟨p0, q0, k1, by have := HL.out; rw [show n - 1 - l = 0 by omega]; exact HS0.out, KeptBut.refl _ _ _, by omega⟩
  have HK0 : Hid (Boxed W0 N 27 (.complex .f64 tc td)) := k0
  have HSZ := Lib.hid hsz
  have HN := Lib.hid hN
  have HB0 := Lib.hid hB0
  clear hW0 hN hsz k0 k1 k2 hB0 hVL hcl2
  refine wpIn_range_told (T := bwTold l (fun j => .complex .f64 (xs.getD j (0, 0)).1 (xs.getD j (0, 0)).2)) rfl (by omega) rfl trivial (enters_of Try.func33 (by kernel_rfl) rfl)
    hT (Below.refl _ _) (fun h k => h.trans k) (fun W l o o' hl _ _ _ => KeptBut.putObj W l o' (by have := HSZ.out; omega)) (fun _ => rfl)
    (BnHas N n zs t W0) (fun _ _ _ => False)
    (fun s A A' row hs hg hr => hs.kept hg (fun r e => by have := (hr r e).1; have := HSZ.out; omega))
    (fun c s A A' row hs _ _ => hs)
    (fun _ _ _ _ h => h.elim) HI0.out
    (fun y => { tmps := #[.slice (some ⟨g, 0, none⟩) n cap, .int .i64 k, undef, undef, .complex .f64 0 0, .int .i64 0, .int .i64 n, .pointer (some ⟨N, 0, none⟩), .pointer (some ⟨N + 1, 0, none⟩), undef,
          y.2, .slice (some ⟨g, 0, none⟩) n cap, .int .i64 n, .bool false, .int .i64 n, .bool false, .bool false, .int .i64 k, .bool false, .bool false, .int .i64 k, .int .i64 n, .bool false, .bool false,
          .map (some w.heap.size), .int .i64 n, .int .i64 k, .int .i64 (-k), .complex .f64 tc td, .slice (some ⟨g, 0, none⟩) n cap, .int .i64 n, .int .i64 l, .pointer (some ⟨g, l, none⟩), .complex .f64 p0 q0, .slice (some ⟨g, 0, none⟩) n cap, .int .i64 n, .int .i64 l, .slice (some ⟨g, 0, none⟩) l cap,
          .func (.func 33) #[] #[.pointer (some ⟨N + 2, 0, none⟩)], .int .i64 y.1, y.2, undef, undef, undef, undef, undef, undef], defers := [] })
    ?assign ?body ?done ?stop
  case assign =>
    rintro l' ⟨i, v⟩ W K hK
    dsimp only [bwTold]
    gi_wp2
    exact hK
  case body =>
    rintro l' k' m ⟨i, v⟩ W ⟨p, q, hb, hpq, hk, hsW⟩ ⟨e1, e2, e3⟩
    subst e1
    obtain ⟨rfl, rfl⟩ := Prod.mk.inj e3
    have hin : i < n := by omega
    have hz := HW.out i hin
    have hstep : hornZ zs t n (n - 1 - i) = addZ (mulZ (hornZ zs t n (n - 1 - (i + 1))) t) (zs.getD i z0) := by
      have := HL.out
      obtain ⟨m, hm⟩ : ∃ m, n - 1 - (i + 1) = m := ⟨_, rfl⟩
      rw [show n - 1 - i = m + 1 by omega, hm]
      show addZ _ (zs.getD (n - 1 - (m + 1)) z0) = _
      rw [show n - 1 - (m + 1) = i by omega]
    obtain ⟨⟨a, b⟩, hab⟩ : ∃ z, xs.getD i (0, 0) = z := ⟨_, rfl⟩
    dsimp only
    rw [hab] at hz
    simp only [hab]
    have HZ := Lib.hid hz
    have HST := Lib.hid hstep
    have PR := Lib.hid (fun w => product_impl p q tc td _ _ hpq HT.out w)
    have h0 : Boxed W N 27 (.complex .f64 tc td) := (hk.block N (by omega) (by omega)).trans HK0.out
    have d0 : W.cell? ⟨N + 1, 0, none⟩ = some (.complex .f64 p q) := hb.cell
    have d1 : W.cell? ⟨N, 0, none⟩ = some (.complex .f64 tc td) := h0.cell
    have HFin : Hid (∀ w2, Below W.heap.size W w2 → w2.cell? ⟨N + 1, 0, none⟩ = some (.complex .f64 p q) ∧ w2.frozen? ⟨N + 1, 0, none⟩ = false ∧
        (∀ (d x y : Nat), KeepsFrom W0.heap.size W ((w2.drewN d).setCell ⟨N + 1, 0, none⟩ (.complex .f64 x y)) ∧ KeptBut (N + 3) (N + 1) W ((w2.drewN d).setCell ⟨N + 1, 0, none⟩ (.complex .f64 x y)) ∧ (IsC (x, y) (hornZ zs t n (n - 1 - i)) → BnHas N n zs t W0 i ((w2.drewN d).setCell ⟨N + 1, 0, none⟩ (.complex .f64 x y))))) := fun w2 hb2 => by
      have b0 : Boxed w2 (N + 1) 27 (.complex .f64 p q) := (hb2.block (N + 1) (by omega)).trans hb
      refine ⟨b0.cell, b0.frozen, fun d x y => ?_⟩
      have hb3 : Below W.heap.size W (w2.drewN d) := below_draws hb2 d
      have b3 : Boxed (w2.drewN d) (N + 1) 27 (.complex .f64 p q) := b0
      have kf : KeepsOthers W (w2.drewN d) := KeepsOthers.of_grownBy (grown_of_below hb3) (fun j o e => by cases e)
      have kb : KeptBut (N + 3) (N + 1) W (w2.drewN d) := KeptBut.of_below hb3 hsW
      refine ⟨(kf.trans (KeepsOthers.setCell _ _ _)).from _, kb.setCell (N + 1) 0 _ (.inl rfl), fun hxy => ⟨x, y, b3.set _, hxy, (hk.trans kb).setCell (N + 1) 0 _ (.inl rfl), ?_⟩⟩
      have := hb3.size
      simp at this ⊢
      omega
    clear hb hpq hk h0 hz hstep hab e3 HI0 hT
    gi_wp2
    refine (CallsIn.inRound l' (callsIn_wide.2 (PR.out _))).mono ?_
    rintro e w2 ⟨p', q', rfl, hpq, hb2⟩
    obtain ⟨c0, f0, hgoes⟩ := HFin.out w2 hb2
    have HGO := Lib.hid hgoes
    have HPQ := Lib.hid hpq
    clear hgoes hb2 HFin d0 d1 hpq PR
    gi_wp2
    exact ⟨(HGO.out _ _ _).1, (HGO.out _ _ _).2.1, (HGO.out _ _ _).2.2 (by rw [HST.out]; exact ⟨isF_fres HPQ.out.re HZ.out.re _, isF_fres HPQ.out.im HZ.out.im _⟩)⟩
  case done =>
    rintro D W hD ⟨p, q, hb, hpq, hk, hsW⟩ hD2
    have hszN := HSZ.out
    have hwN := HN.out
    have hpq : IsC (p, q) (hornZ zs t n (n - 1)) := hpq
    have HPQ := Lib.hid hpq
    have d0 : W.cell? ⟨N + 1, 0, none⟩ = some (.complex .f64 p q) := hb.cell
    have HMK : Hid (Marks N W [{ target := .collected D, args := #[] }]) := ⟨[D], rfl, by simp, fun D' h => by
      simp only [List.mem_singleton] at h
      subst h
      exact ⟨by omega, hD2⟩⟩
    have low : Below w.heap.size w W := by
      have lw : Below N W0 W := ⟨hk.os, hk.tape, hk.output, hk.size, fun j hj => hk.block j (by omega) (by omega)⟩
      have l0 : Below w1.heap.size w1 W0 := HB0.out
      rw [hwN] at l0
      exact HB1.out.trans ((l0.trans lw).mono (by have := HB1.out.size; rw [hwN] at this; exact this))
    have HLOW : Hid (∀ w', Shut N W w' → Below w.heap.size w w') := fun w' hs => hs.below (by have := HB1.out.size; rw [hwN] at this; exact this) low
    clear hb hpq hk hD2 low HI0 hT
    gi_wp2
    refine leaves_marks _ _ HMK.out fun w' hs => ?_
    have HQ := Lib.hid (HLOW.out w' hs)
    exact ⟨.tuple #[.complex .f64 p q, .int .i64 0], (by simp [results, Try.results7, go_sem]), p, q, rfl, HPQ.out, HQ.out⟩
  case stop =>
    rintro D c s W hD h hD2
    exact h.elim

end Go.Proofs.Yteamnfockjnilaa
