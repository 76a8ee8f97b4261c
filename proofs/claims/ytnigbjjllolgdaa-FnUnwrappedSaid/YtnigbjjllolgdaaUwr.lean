import Derived.Test.YtnigbjjllolgdaaFlo
import Derived.Test.YtnigbjjllolgdaaSpF
/-
  Phases that are multiples of a 32nd: wrapped and unwrapped, exactly.
-/
set_option linter.unusedVariables false
set_option linter.unusedSimpArgs false
namespace Go.Proofs.Ytnigbjjllolgdaa
open Go.RowKit Flt

/-- A multiple of a 32nd. -/
def th (k : Int) : Rat := (k : Rat) / 32
theorem th_dy {k : Int} {K : Nat} (h : k.natAbs ≤ K) : Dy 5 K (th k) := ⟨k, h, by show (k : Rat) / 32 * 32 = _; rw [Rat.div_def]; grind⟩
theorem th_add (a b : Int) : th a + th b = th (a + b) := by unfold th; rw [Rat.intCast_add, Rat.div_def, Rat.div_def, Rat.div_def]; grind
theorem th_sub (a b : Int) : th a - th b = th (a - b) := by unfold th; rw [Rat.intCast_sub, Rat.div_def, Rat.div_def, Rat.div_def]; grind
theorem th_int (d : Int) : (d : Rat) = th (32 * d) := by unfold th; rw [Rat.intCast_mul, Rat.div_def]; show _ = (32 : Rat) * _ * _; grind
theorem th_le {a b : Int} (h : a ≤ b) : th a ≤ th b := by
  unfold th
  rw [Rat.div_def, Rat.div_def]
  exact Rat.mul_le_mul_of_nonneg_right (Rat.intCast_le_intCast.2 h) (by decide +kernel)
theorem th_lt {a b : Int} (h : a < b) : th a < th b := by
  unfold th
  rw [Rat.div_def, Rat.div_def]
  exact Rat.mul_lt_mul_of_pos_right (Rat.intCast_lt_intCast.2 h) (by decide +kernel)

theorem fv_th_add {a b : Option Nat} {k m : Int} (h : (k + m).natAbs ≤ 1073741824) (ha : Fv a (th k)) (hb : Fv b (th m)) : Fv (fop .add .f64 a b) (th (k + m)) := by
  rw [← th_add] at *
  exact Dy.fv_add (e := 5) (K := 1073741824) (by rw [th_add]; exact th_dy h) (by decide) (by decide) ha hb
theorem fv_th_sub {a b : Option Nat} {k m : Int} (h : (k - m).natAbs ≤ 1073741824) (ha : Fv a (th k)) (hb : Fv b (th m)) : Fv (fop .sub .f64 a b) (th (k - m)) := by
  rw [← th_sub] at *
  exact Dy.fv_sub (e := 5) (K := 1073741824) (by rw [th_sub]; exact th_dy h) (by decide) (by decide) ha hb

/-- A phase without whole turns. -/
def wrI (k : Int) : Int := k - 32 * ((k + 16) / 32)
theorem wrI_range (k : Int) : -16 ≤ wrI k ∧ wrI k ≤ 15 := by unfold wrI; omega

theorem half_fv : Fv (some half) (th 16) := by
  refine ⟨half, rfl, ⟨by decide, by decide⟩, ?_⟩
  decide +kernel

theorem fv_finO {z : Option Nat} {q : Rat} (h : Fv z q) : finO z = true := by
  obtain ⟨x, rfl, hx, -⟩ := h
  exact decide_eq_true hx.2

theorem fv_wrap {z : Option Nat} {k : Int} (hk : k.natAbs ≤ 1000000) (h : Fv z (th k)) : Fv (wrapO z) (th (wrI k)) := by
  have h1 := fv_th_add (by omega) h half_fv
  have h2 := fv_flo (f := (k + 16) / 32) h1 (by rw [th_int]; exact th_le (by omega)) (by
    rw [show (((k + 16) / 32 : Int) : Rat) + 1 = (((k + 16) / 32 + 1 : Int) : Rat) by rw [Rat.intCast_add]; rfl, th_int]; exact th_lt (by omega)) (by omega)
  rw [th_int] at h2
  unfold wrapO
  rw [if_pos (fv_finO h)]
  exact fv_th_sub (by omega) h h2

/-- Unwrapped phases. -/
def unI (K : Nat → Int) : Nat → Int
  | 0 => K 0
  | i + 1 => unI K i + wrI (K (i + 1) - K i)
theorem unI_range (K : Nat → Int) (hK : ∀ i, -128 ≤ K i ∧ K i ≤ 128) (i : Nat) : (unI K i).natAbs ≤ 128 + 16 * i := by
  induction i with
  | zero => have := hK 0; unfold unI; omega
  | succ i ih =>
    have := wrI_range (K (i + 1) - K i)
    unfold unI
    omega
theorem unI_whole (K : Nat → Int) (i : Nat) : ∃ D : Int, unI K i = K i + 32 * D := by
  induction i with
  | zero => exact ⟨0, by unfold unI; omega⟩
  | succ i ih =>
    obtain ⟨D, hD⟩ := ih
    refine ⟨D - (K (i + 1) - K i + 16) / 32, ?_⟩
    unfold unI wrI
    omega

theorem unw_fv {xs : List Nat} {n : Nat} {K : Nat → Int} (hK : ∀ i, -128 ≤ K i ∧ K i ≤ 128) (hx : ∀ i, i < n → Fv (wO xs i) (th (K i))) (hn : n ≤ 100) : ∀ i, i < n → Fv (unwO xs i) (th (unI K i)) := by
  intro i
  induction i with
  | zero => intro hi; exact hx 0 hi
  | succ i ih =>
    intro hi
    have h0 := ih (by omega)
    have k0 := hK i
    have k1 := hK (i + 1)
    have h1 := fv_wrap (by omega) (fv_th_sub (by omega) (hx (i + 1) hi) (hx i (by omega)))
    have r0 := unI_range K hK i
    have r1 := wrI_range (K (i + 1) - K i)
    unfold unwO unI
    exact fv_th_add (by omega) h0 h1

theorem cut_zero (s : Bool) (n d : Nat) : Ieee.Toward.zero.cut s n d = n / 2 ^ d := by
  unfold Ieee.Toward.cut
  simp only [Nat.shiftLeft_eq, Nat.one_mul, Bool.toNat_false, Nat.add_zero]
  rcases Nat.lt_or_ge (n.log2 + 2) d with h | h
  · rw [Nat.min_eq_right (by omega)]
    have h1 : n < 2 ^ (n.log2 + 2) := by
      have := Nat.lt_log2_self (n := n)
      rw [Nat.pow_succ]; omega
    have h2 : n < 2 ^ d := Nat.lt_of_lt_of_le h1 (Nat.pow_le_pow_right (by omega) (by omega))
    rw [Nat.div_eq_of_lt h1, Nat.div_eq_of_lt h2]
  · rw [Nat.min_eq_left h]

theorem toInt_val {x : Nat} {D : Int} (hx : Flt.Fin x) (hv : fq x = (D : Rat)) : (FloatKind.f64.decode x).toInt .zero = some D := by
  obtain ⟨s, m, p, e, hp, hq⟩ := read_dq hx
  have e' : FloatKind.f64.decode x = .number s m p := e
  have hc := dq_cut s m p hp
  rw [← hq, hv] at hc
  rw [e']
  show some (Ieee.signed s (Ieee.Toward.zero.cut s (m <<< p.toNat) (-p).toNat) 0) = some D
  obtain ⟨n, hn⟩ : ∃ n, m <<< p.toNat = n := ⟨_, rfl⟩
  obtain ⟨d, hd⟩ : ∃ d, (-p).toNat = d := ⟨_, rfl⟩
  rw [hn, hd] at hc ⊢
  rw [two_nat', ← Rat.intCast_mul, Rat.intCast_inj] at hc
  have hD : 0 < 2 ^ d := Nat.two_pow_pos d
  rw [cut_zero]
  congr 1
  unfold Ieee.signed
  cases s
  · simp only [Bool.false_eq_true, if_false] at hc ⊢
    obtain ⟨k, rfl⟩ : ∃ k : Nat, D = k := by
      refine ⟨D.toNat, ?_⟩
      have : 0 ≤ D := by
        refine Int.not_lt.1 fun h => ?_
        have := Int.mul_lt_mul_of_pos_right h (show (0 : Int) < ((2 ^ d : Nat) : Int) by omega)
        omega
      omega
    have hk : k * 2 ^ d = n := by
      have h2 : ((k * 2 ^ d : Nat) : Int) = (n : Int) := by rw [← hc]; simp
      omega
    rw [← hk, Nat.mul_div_cancel _ hD, Nat.shiftLeft_zero]
  · simp only [if_true] at hc ⊢
    obtain ⟨k, rfl⟩ : ∃ k : Nat, D = -(k : Int) := by
      refine ⟨(-D).toNat, ?_⟩
      have : D ≤ 0 := by
        refine Int.not_lt.1 fun h => ?_
        have := Int.mul_lt_mul_of_pos_right h (show (0 : Int) < ((2 ^ d : Nat) : Int) by omega)
        omega
      omega
    have hk : k * 2 ^ d = n := by
      have h2 : ((k * 2 ^ d : Nat) : Int) = (n : Int) := by
        have h3 : -((k : Int) * ((2 ^ d : Nat) : Int)) = -(n : Int) := by rw [← hc, Int.neg_mul]
        have h4 : ((k * 2 ^ d : Nat) : Int) = (k : Int) * ((2 ^ d : Nat) : Int) := by simp
        omega
      omega
    rw [← hk, Nat.mul_div_cancel _ hD, Nat.shiftLeft_zero]

theorem run_toInt {P : Program} (src dst : TypeId) {x : Nat} {D : Int} (hx : Flt.Fin x) (hv : fq x = (D : Rat)) (hb : D.natAbs < 2 ^ 53) (hs : (P.underlying src).isSome = true) (hd : P.underlying dst = some (.int .i64)) (w : World) :
    (convert src dst (.float .f64 x)).run P w = .ok (.int .i64 D) w := by
  have h := toInt_val hx hv
  have hr : IntKind.i64.min ≤ D ∧ D ≤ IntKind.i64.max := by
    show (-9223372036854775808 : Int) ≤ D ∧ D ≤ 9223372036854775807
    omega
  obtain ⟨u, hs'⟩ := Option.isSome_iff_exists.1 hs
  cases u <;> simp [convert, run_underlying hs', run_underlying hd, Conv.floatToInt, h, hr] <;> (intro hc; exfalso; omega)

end Go.Proofs.Ytnigbjjllolgdaa
