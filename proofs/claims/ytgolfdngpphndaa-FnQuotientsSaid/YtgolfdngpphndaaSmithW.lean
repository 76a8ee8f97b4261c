import Derived.Test.YtgolfdngpphndaaSmith
import Derived.Test.YtgolfdngpphndaaCom
/-
  Quotients of complex numbers after Smith, by their words. No program.
-/
set_option linter.unusedVariables false
set_option linter.unusedSimpArgs false
namespace Go.Proofs.Ytgolfdngpphndaa
open Go.RowKit Flt

theorem ulp_div (B : Rat) : B / two 52 = B * ulp := by
  rw [two52, show ulp = 1 / 4503599627370496 from rfl, Rat.div_def, Rat.div_def, Rat.one_mul]
theorem big60 {B : Rat} (h : B ≤ 1152921504606846976) : B ≤ two 1000 :=
  Rat.le_trans h (by rw [show (1152921504606846976 : Rat) = two 60 from rfl]; exact two_le (by omega))
section
variable {x y : Nat} {p q B : Rat} (hx : Has x p) (hy : Has y q) (hB : B ≤ 1152921504606846976)
include hx hy hB
theorem bits_add (hs : Size (p + q) B) : ∃ d r, Has d r ∧ Near r (p + q) (B * ulp + tiny) ∧ floatBits .add .f64 x y = some d := by
  obtain ⟨r, ⟨d, e, h1, h2⟩, h3⟩ := fv_add hx.fv hy.fv (hs.mono (big60 hB))
  have := h3.near hs
  rw [ulp_div] at this
  exact ⟨d, r, ⟨h1, h2⟩, this, e⟩
theorem bits_sub (hs : Size (p - q) B) : ∃ d r, Has d r ∧ Near r (p - q) (B * ulp + tiny) ∧ floatBits .sub .f64 x y = some d := by
  obtain ⟨r, ⟨d, e, h1, h2⟩, h3⟩ := fv_sub hx.fv hy.fv (hs.mono (big60 hB))
  have := h3.near hs
  rw [ulp_div] at this
  exact ⟨d, r, ⟨h1, h2⟩, this, e⟩
theorem bits_mul (hs : Size (p * q) B) : ∃ d r, Has d r ∧ Near r (p * q) (B * ulp + tiny) ∧ floatBits .mul .f64 x y = some d := by
  obtain ⟨r, ⟨d, e, h1, h2⟩, h3⟩ := fv_mul hx.fv hy.fv (hs.mono (big60 hB))
  have := h3.near hs
  rw [ulp_div] at this
  exact ⟨d, r, ⟨h1, h2⟩, this, e⟩
theorem bits_div (hq : q ≠ 0) (hs : Size (p / q) B) : ∃ d r, Has d r ∧ Near r (p / q) (B * ulp + tiny) ∧ floatBits .quo .f64 x y = some d := by
  obtain ⟨r, ⟨d, e, h1, h2⟩, h3⟩ := fv_div hx.fv hy.fv hq (hs.mono (big60 hB))
  have := h3.near hs
  rw [ulp_div] at this
  exact ⟨d, r, ⟨h1, h2⟩, this, e⟩
end
theorem run_bits {op : BinOp} (hop : op = .add ∨ op = .sub ∨ op = .mul ∨ op = .quo) {x y d : Nat} (h : floatBits op .f64 x y = some d) (P : Program) (t : TypeId) (w : World) :
    (binOp op t (.float .f64 x) (.float .f64 y)).run P w = .ok (.float .f64 d) w := by
  have f1 : fres op .f64 x y w = d := by unfold fres; rw [h]
  have f2 : fcnt op .f64 x y = 0 := by unfold fcnt; rw [h]
  rcases hop with rfl | rfl | rfl | rfl
  · rw [run_fadd, f1, f2]; rfl
  · rw [run_fsub, f1, f2]; rfl
  · rw [run_fmul, f1, f2]; rfl
  · rw [run_fquo, f1, f2]; rfl

theorem abs_has {u : Nat} {q : Rat} (h : Has u q) : ∃ a, Has (u % 9223372036854775808) a ∧ ((0 ≤ q ∧ a = q) ∨ (q ≤ 0 ∧ a = -q)) := by
  obtain ⟨h1, rfl⟩ := h
  obtain ⟨neg, r, hr, rfl⟩ := fin_parts h1
  have hr' := hr
  rw [ir64] at hr'
  have hs : Ieee.double.signWeight = 9223372036854775808 := by decide
  have e : Ieee.double.word neg r % 9223372036854775808 = Ieee.double.word false r := by
    unfold Ieee.Format.word
    rw [hs]
    cases neg
    · simp only [Bool.false_eq_true, if_false]; omega
    · simp only [if_true, Bool.false_eq_true, if_false]; omega
  rw [e]
  refine ⟨_, ⟨fin_word _ hr, rfl⟩, ?_⟩
  rw [fq_word _ hr, fq_word _ hr]
  have h0 := rq_nonneg r
  cases neg
  · exact .inl ⟨h0, rfl⟩
  · refine .inr ⟨?_, ?_⟩
    · simp only [if_true]; grind
    · simp only [if_true, Bool.false_eq_true, if_false]; rw [Rat.neg_neg]

/-- The divisor's greater part. -/
structure Great (C D e : Rat) : Prop where
  e0 : 1 / 16 ≤ e
  e2 : e ≤ 64
  ec : C = e ∨ C = -e
  sd : Size D e

theorem Great.facts {C D e : Rat} (h : Great C D e) : C ≠ 0 ∧ 0 < e ∧ Size C e ∧ Size C⁻¹ e⁻¹ ∧ C * C⁻¹ = 1 ∧ e * e⁻¹ = 1 ∧ e⁻¹ ≤ 16 := by
  have e0 : 0 < e := by have := h.e0; grind
  have ee := Rat.mul_inv_cancel _ (Rat.ne_of_gt e0)
  have ei := Rat.inv_pos.2 e0
  have e16 : e⁻¹ ≤ 16 := by
    have := Rat.mul_le_mul_of_nonneg_right h.e0 (Rat.le_of_lt ei)
    rw [ee] at this; grind
  have hC : C ≠ 0 := by rcases h.ec with k | k <;> rw [k] <;> grind
  refine ⟨hC, e0, ?_, ?_, Rat.mul_inv_cancel _ hC, ee, e16⟩
  · rcases h.ec with k | k <;> rw [k] <;> constructor <;> grind
  · rcases h.ec with k | k
    · rw [k]; exact Size.of_nonneg (Rat.le_of_lt ei) Rat.le_refl
    · have : (-e)⁻¹ = -e⁻¹ := Rat.inv_eq_of_mul_eq_one (by grind)
      rw [k, this]; exact (Size.of_nonneg (Rat.le_of_lt ei) Rat.le_refl).neg

/-- The size of what is divided at the end. -/
theorem quot_size {C D e r t s n : Rat} (g : Great C D e) (hr : Near r (D * C⁻¹) (ulp + tiny)) (ht : Near t (D * r) (101 / 100 * e * ulp + tiny)) (hs : Near s (C + t) (203 / 100 * e * ulp + tiny)) (hn : Size n 129) :
    s ≠ 0 ∧ Size (n / s) (132 * e⁻¹) := by
  obtain ⟨hC, e0, sc, si, ci, ee, e16⟩ := g.facts
  obtain ⟨u0, u1, u2, u3⟩ := ulp_small
  obtain ⟨-, S1, S2⟩ := den_near sc si ci ee g.sd e0 e16 hr ht hs
  have hsq := sq_nonneg (D * C⁻¹)
  have S3 : 99 / 100 ≤ s * C⁻¹ := by grind
  have S0 : 0 < s * C⁻¹ := by grind
  have s0 : s ≠ 0 := by rintro rfl; rw [Rat.zero_mul] at S0; exact Rat.lt_irrefl S0
  refine ⟨s0, ?_⟩
  have iS := Rat.mul_inv_cancel _ (Rat.ne_of_gt S0)
  have is := Rat.mul_inv_cancel _ s0
  have pS := Rat.inv_pos.2 S0
  have bS : (s * C⁻¹)⁻¹ ≤ 102 / 100 := by
    have := Rat.mul_le_mul_of_nonneg_right S3 (Rat.le_of_lt pS)
    rw [iS] at this; grind
  have es : s⁻¹ = (s * C⁻¹)⁻¹ * C⁻¹ := by
    have a1 : s * C⁻¹ * (s⁻¹ * C) = 1 := by grind
    have a2 : (s * C⁻¹)⁻¹ * (s * C⁻¹ * (s⁻¹ * C)) = (s * C⁻¹)⁻¹ := by rw [a1, Rat.mul_one]
    rw [← Rat.mul_assoc, Rat.mul_comm (s * C⁻¹)⁻¹, iS, Rat.one_mul] at a2
    rw [← a2]; grind
  rw [Rat.div_def, es]
  have := hn.mul ((Size.of_nonneg (Rat.le_of_lt pS) bS).mul si)
  refine this.mono ?_
  have ei := Rat.inv_pos.2 e0
  grind

theorem e_small {e : Rat} (h0 : 0 < e) (h16 : 1 / 16 ≤ e) : e * ulp ≤ e / 1000000 ∧ tiny ≤ e / 1000000 := by
  obtain ⟨u0, u1, u2, u3⟩ := ulp_small
  have := Rat.mul_le_mul_of_nonneg_left u1 (Rat.le_of_lt h0)
  have k : ulp / 1000000 ≤ 1 / 16000000 := by decide +kernel
  constructor <;> grind

theorem smith_ge {a b c d : Nat} {A B C D e : Rat} (ha : Has a A) (hb : Has b B) (hc : Has c C) (hd : Has d D) (sA : Size A 64) (sB : Size B 64) (g : Great C D e) :
    ∃ (r t s x n q y m p : Nat) (R T S X N Q Y M P : Rat), Smith A B C D e R T S X N Y M Q P ∧ Has q Q ∧ Has p P ∧
      floatBits .quo .f64 d c = some r ∧ floatBits .mul .f64 d r = some t ∧ floatBits .add .f64 c t = some s ∧
      floatBits .mul .f64 b r = some x ∧ floatBits .add .f64 a x = some n ∧ floatBits .quo .f64 n s = some q ∧
      floatBits .mul .f64 a r = some y ∧ floatBits .sub .f64 b y = some m ∧ floatBits .quo .f64 m s = some p := by
  obtain ⟨hC, e0, sc, si, ci, ee, e16⟩ := g.facts
  obtain ⟨u0, u1, u2, u3⟩ := ulp_small
  obtain ⟨k1, k2⟩ := e_small e0 g.e0
  have g2 := g.e2
  have sρ : Size (D / C) 1 := by
    have := g.sd.mul si
    rwa [ee, ← Rat.div_def] at this
  obtain ⟨r, R, hr, nr, b1⟩ := bits_div hd hc (by decide +kernel) hC sρ
  rw [Rat.one_mul, Rat.div_def] at nr
  have sR : Size R (101 / 100) := by
    rw [Rat.div_def] at sρ
    obtain ⟨a1, a2⟩ := sρ
    obtain ⟨c1, c2⟩ := nr
    constructor <;> grind
  have sDR : Size (D * R) (101 / 100 * e) := by have := g.sd.mul sR; rwa [Rat.mul_comm e] at this
  obtain ⟨t, T, ht, nt, b2⟩ := bits_mul hd hr (by grind) sDR
  have sCT : Size (C + T) (203 / 100 * e) := by
    obtain ⟨a1, a2⟩ := sc
    obtain ⟨c1, c2⟩ := nt
    obtain ⟨d1, d2⟩ := sDR
    constructor <;> grind
  obtain ⟨s, S, hs, ns, b3⟩ := bits_add hc ht (by grind) sCT
  obtain ⟨x, X, hx, nx, b4⟩ := bits_mul hb hr (B := 65) (by decide +kernel) ((sB.mul sR).mono (by decide +kernel))
  have sX : Size X (647 / 10) := by
    have := sB.mul sR
    obtain ⟨a1, a2⟩ := this
    obtain ⟨c1, c2⟩ := nx
    constructor <;> grind
  obtain ⟨n, N, hn, nn, b5⟩ := bits_add ha hx (B := 130) (by decide +kernel) ((sA.add sX).mono (by decide +kernel))
  have sN : Size N 129 := by
    have := sA.add sX
    obtain ⟨a1, a2⟩ := this
    obtain ⟨c1, c2⟩ := nn
    constructor <;> grind
  obtain ⟨s0, sq1⟩ := quot_size g nr nt ns sN
  obtain ⟨q, Q, hq, nq, b6⟩ := bits_div hn hs (by grind) s0 sq1
  obtain ⟨y, Y, hy, ny, b7⟩ := bits_mul ha hr (B := 65) (by decide +kernel) ((sA.mul sR).mono (by decide +kernel))
  have sY : Size Y (647 / 10) := by
    have := sA.mul sR
    obtain ⟨a1, a2⟩ := this
    obtain ⟨c1, c2⟩ := ny
    constructor <;> grind
  obtain ⟨m, M, hm, nm, b8⟩ := bits_sub hb hy (B := 130) (by decide +kernel) ((sB.sub sY).mono (by decide +kernel))
  have sM : Size M 129 := by
    have := sB.sub sY
    obtain ⟨a1, a2⟩ := this
    obtain ⟨c1, c2⟩ := nm
    constructor <;> grind
  obtain ⟨-, sq2⟩ := quot_size g nr nt ns sM
  obtain ⟨p, P, hp, np, b9⟩ := bits_div hm hs (by grind) s0 sq2
  exact ⟨r, t, s, x, n, q, y, m, p, R, T, S, X, N, Q, Y, M, P, ⟨sc, si, ci, ee, g.sd, e0, e16, g2, sA, sB, nr, nt, ns, nx, nn, ny, nm, nq, np⟩, hq, hp, b1, b2, b3, b4, b5, b6, b7, b8, b9⟩

theorem smith_lt {a b c d : Nat} {A B C D e : Rat} (ha : Has a A) (hb : Has b B) (hc : Has c C) (hd : Has d D) (sA : Size A 64) (sB : Size B 64) (g : Great D (-C) e) :
    ∃ (r t s x n q y m p : Nat) (R T S X N Q Y M P : Rat), Smith B (-A) D (-C) e (-R) T S X N (-Y) M Q P ∧ Has q Q ∧ Has p P ∧
      floatBits .quo .f64 c d = some r ∧ floatBits .mul .f64 c r = some t ∧ floatBits .add .f64 d t = some s ∧
      floatBits .mul .f64 a r = some x ∧ floatBits .add .f64 x b = some n ∧ floatBits .quo .f64 n s = some q ∧
      floatBits .mul .f64 b r = some y ∧ floatBits .sub .f64 y a = some m ∧ floatBits .quo .f64 m s = some p := by
  obtain ⟨hD, e0, sc, si, ci, ee, e16⟩ := g.facts
  obtain ⟨u0, u1, u2, u3⟩ := ulp_small
  obtain ⟨k1, k2⟩ := e_small e0 g.e0
  have g2 := g.e2
  have sC : Size C e := by have := g.sd.neg; rwa [Rat.neg_neg] at this
  have sρ : Size (C / D) 1 := by
    have := sC.mul si
    rwa [ee, ← Rat.div_def] at this
  obtain ⟨r, R, hr, nr, b1⟩ := bits_div hc hd (by decide +kernel) hD sρ
  rw [Rat.one_mul, Rat.div_def] at nr
  have nr' : Near (-R) (-C * D⁻¹) (ulp + tiny) := by
    have := nr.neg
    rwa [show -(C * D⁻¹) = -C * D⁻¹ by grind] at this
  have sR : Size R (101 / 100) := by
    rw [Rat.div_def] at sρ
    obtain ⟨a1, a2⟩ := sρ
    obtain ⟨c1, c2⟩ := nr
    constructor <;> grind
  have sDR : Size (C * R) (101 / 100 * e) := by have := sC.mul sR; rwa [Rat.mul_comm e] at this
  obtain ⟨t, T, ht, nt, b2⟩ := bits_mul hc hr (by grind) sDR
  have nt' : Near T (-C * -R) (101 / 100 * e * ulp + tiny) := by rwa [show -C * -R = C * R by grind]
  have sCT : Size (D + T) (203 / 100 * e) := by
    obtain ⟨a1, a2⟩ := sc
    obtain ⟨c1, c2⟩ := nt
    obtain ⟨d1, d2⟩ := sDR
    constructor <;> grind
  obtain ⟨s, S, hs, ns, b3⟩ := bits_add hd ht (by grind) sCT
  obtain ⟨x, X, hx, nx, b4⟩ := bits_mul ha hr (B := 65) (by decide +kernel) ((sA.mul sR).mono (by decide +kernel))
  have nx' : Near X (-A * -R) (65 * ulp + tiny) := by rwa [show -A * -R = A * R by grind]
  have sX : Size X (647 / 10) := by
    have := sA.mul sR
    obtain ⟨a1, a2⟩ := this
    obtain ⟨c1, c2⟩ := nx
    constructor <;> grind
  obtain ⟨n, N, hn, nn, b5⟩ := bits_add hx hb (B := 130) (by decide +kernel) ((sX.add sB).mono (by decide +kernel))
  have nn' : Near N (B + X) (130 * ulp + tiny) := by rwa [Rat.add_comm X B] at nn
  have sN : Size N 129 := by
    have := sX.add sB
    obtain ⟨a1, a2⟩ := this
    obtain ⟨c1, c2⟩ := nn
    constructor <;> grind
  obtain ⟨s0, sq1⟩ := quot_size g nr' nt' ns sN
  obtain ⟨q, Q, hq, nq, b6⟩ := bits_div hn hs (by grind) s0 sq1
  obtain ⟨y, Y, hy, ny, b7⟩ := bits_mul hb hr (B := 65) (by decide +kernel) ((sB.mul sR).mono (by decide +kernel))
  have ny' : Near (-Y) (B * -R) (65 * ulp + tiny) := by
    have := ny.neg
    rwa [show -(B * R) = B * -R by grind] at this
  have sY : Size Y (647 / 10) := by
    have := sB.mul sR
    obtain ⟨a1, a2⟩ := this
    obtain ⟨c1, c2⟩ := ny
    constructor <;> grind
  obtain ⟨m, M, hm, nm, b8⟩ := bits_sub hy ha (B := 130) (by decide +kernel) ((sY.sub sA).mono (by decide +kernel))
  have nm' : Near M (-A - -Y) (130 * ulp + tiny) := by rwa [show -A - -Y = Y - A by grind]
  have sM : Size M 129 := by
    have := sY.sub sA
    obtain ⟨a1, a2⟩ := this
    obtain ⟨c1, c2⟩ := nm
    constructor <;> grind
  obtain ⟨-, sq2⟩ := quot_size g nr' nt' ns sM
  obtain ⟨p, P, hp, np, b9⟩ := bits_div hm hs (by grind) s0 sq2
  exact ⟨r, t, s, x, n, q, y, m, p, R, T, S, X, N, Q, Y, M, P, ⟨sc, si, ci, ee, g.sd, e0, e16, g2, sB, sA.neg, nr', nt', ns, nx', nn', ny', nm', nq, np⟩, hq, hp, b1, b2, b3, b4, b5, b6, b7, b8, b9⟩

end Go.Proofs.Ytgolfdngpphndaa
