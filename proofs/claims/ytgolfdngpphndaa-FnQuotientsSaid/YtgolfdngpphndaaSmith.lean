import Derived.Test.YtgolfdngpphndaaTurnE
import Derived.Test.YtgolfdngpphndaaHas
/-
  Quotients of complex numbers after Smith: how near they are. No program.
-/
set_option linter.unusedVariables false
set_option linter.unusedSimpArgs false
namespace Go.Proofs.Ytgolfdngpphndaa
open Go Flt
namespace Flt

/-- What is found on the way, where the divisor's part C is the greater one: c is its size. -/
structure Smith (A B C D c r t s x n y m q p : Rat) : Prop where
  sc : Size C c
  si : Size C⁻¹ c⁻¹
  ci : C * C⁻¹ = 1
  cc : c * c⁻¹ = 1
  sd : Size D c
  c0 : 0 < c
  c1 : c⁻¹ ≤ 16
  c2 : c ≤ 64
  sA : Size A 64
  sB : Size B 64
  hr : Near r (D * C⁻¹) (ulp + tiny)
  ht : Near t (D * r) (101 / 100 * c * ulp + tiny)
  hs : Near s (C + t) (203 / 100 * c * ulp + tiny)
  hx : Near x (B * r) (65 * ulp + tiny)
  hn : Near n (A + x) (130 * ulp + tiny)
  hy : Near y (A * r) (65 * ulp + tiny)
  hm : Near m (B - y) (130 * ulp + tiny)
  hq : Near q (n / s) (132 * c⁻¹ * ulp + tiny)
  hp : Near p (m / s) (132 * c⁻¹ * ulp + tiny)

theorem ulp_small : 0 ≤ ulp ∧ ulp ≤ 1 / 1000000 ∧ tiny ≤ ulp / 1000000 ∧ 0 ≤ tiny := by
  have h1 := tiny_le
  have h2 : (1 : Rat) / 1267650600228229401496703205376 ≤ ulp / 1000000 := by decide +kernel
  exact ⟨by decide +kernel, by decide +kernel, Rat.le_trans h1 h2, Rat.le_of_lt tiny_pos⟩

/-- The scaled divisor. -/
theorem den_near {C D c r t s : Rat} (sc : Size C c) (si : Size C⁻¹ c⁻¹) (ci : C * C⁻¹ = 1) (cc : c * c⁻¹ = 1) (sd : Size D c) (c0 : 0 < c) (c1 : c⁻¹ ≤ 16)
    (hr : Near r (D * C⁻¹) (ulp + tiny)) (ht : Near t (D * r) (101 / 100 * c * ulp + tiny)) (hs : Near s (C + t) (203 / 100 * c * ulp + tiny)) :
    Size (D * C⁻¹) 1 ∧ Near (s * C⁻¹) (1 + D * C⁻¹ * (D * C⁻¹)) (5 * ulp) := by
  obtain ⟨u0, u1, u2, u3⟩ := ulp_small
  have cp : 0 < c⁻¹ := Rat.inv_pos.2 c0
  have h1 : Size (D * C⁻¹) 1 := by
    have := sd.mul si
    rwa [cc] at this
  refine ⟨h1, ?_⟩
  have t1 := near_mul ht si
  have s1 := near_mul hs si
  have r1 := near_mul hr h1
  have e1 : (101 / 100 * c * ulp + tiny) * c⁻¹ = 101 / 100 * ulp + tiny * c⁻¹ := by grind
  have e2 : (203 / 100 * c * ulp + tiny) * c⁻¹ = 203 / 100 * ulp + tiny * c⁻¹ := by grind
  have e3 : (C + t) * C⁻¹ = 1 + t * C⁻¹ := by grind
  have e4 : D * r * C⁻¹ = r * (D * C⁻¹) := by grind
  rw [e1, e4] at t1
  rw [e2, e3] at s1
  have k := Rat.mul_le_mul_of_nonneg_left c1 u3
  clear hr ht hs e1 e2 e3 e4 cp sc si sd ci cc c0 c1
  generalize D * C⁻¹ = ρ at *
  generalize t * C⁻¹ = T at *
  generalize s * C⁻¹ = S at *
  generalize r * ρ = R at *
  generalize ρ * ρ = P at *
  generalize tiny * c⁻¹ = z at *
  unfold Near at *
  constructor <;> grind
theorem Smith.den {A B C D c r t s x n y m q p : Rat} (h : Smith A B C D c r t s x n y m q p) :
    Size (D * C⁻¹) 1 ∧ Near (s * C⁻¹) (1 + D * C⁻¹ * (D * C⁻¹)) (5 * ulp) :=
  den_near h.sc h.si h.ci h.cc h.sd h.c0 h.c1 h.hr h.ht h.hs

/-- The numerators. -/
theorem Smith.num {A B C D c r t s x n y m q p : Rat} (h : Smith A B C D c r t s x n y m q p) :
    Near n (A + B * (D * C⁻¹)) (260 * ulp) ∧ Near m (B - A * (D * C⁻¹)) (260 * ulp) := by
  obtain ⟨u0, u1, u2, u3⟩ := ulp_small
  have b1 := near_mul h.hr h.sB
  have a1 := near_mul h.hr h.sA
  have hx := h.hx
  have hn := h.hn
  have hy := h.hy
  have hm := h.hm
  rw [Rat.mul_comm r, Rat.mul_comm (D * C⁻¹)] at b1 a1
  clear h
  generalize D * C⁻¹ = ρ at *
  generalize B * r = v1 at *
  generalize A * r = v2 at *
  generalize B * ρ = v3 at *
  generalize A * ρ = v4 at *
  unfold Near at *
  constructor <;> constructor <;> grind

/-- A quotient, times the divisor. -/
theorem scaled {N n S σ : Rat} (hn : Near n N (260 * ulp)) (hN : Size N 128) (hS : Near S σ (5 * ulp)) (hσ : 1 ≤ σ) : Near (n * S⁻¹) (N * σ⁻¹) (1000 * ulp) := by
  obtain ⟨u0, u1, u2, u3⟩ := ulp_small
  have hS1 : 99 / 100 ≤ S := by obtain ⟨a, b⟩ := hS; grind
  have S0 : 0 < S := by grind
  have σ0 : 0 < σ := by grind
  have iS := Rat.mul_inv_cancel _ (Rat.ne_of_gt S0)
  have iσ := Rat.mul_inv_cancel _ (Rat.ne_of_gt σ0)
  have pS := Rat.inv_pos.2 S0
  have pσ := Rat.inv_pos.2 σ0
  have bS : S⁻¹ ≤ 102 / 100 := by
    have := Rat.mul_le_mul_of_nonneg_right hS1 (Rat.le_of_lt pS)
    rw [iS] at this; grind
  have bσ : σ⁻¹ ≤ 1 := by
    have := Rat.mul_le_mul_of_nonneg_right hσ (Rat.le_of_lt pσ)
    rw [iσ] at this; grind
  have sS := Size.of_nonneg (Rat.le_of_lt pS) bS
  have sσ := Size.of_nonneg (Rat.le_of_lt pσ) bσ
  -- n / S - N / σ = (n - N) / S + N * (σ - S) / (S σ)
  have d1 := (near_size.1 hn).mul sS
  have d2 := (hN.mul (near_size.1 hS.symm)).mul (sS.mul sσ)
  have e : n * S⁻¹ - N * σ⁻¹ = (n - N) * S⁻¹ + N * (σ - S) * (S⁻¹ * σ⁻¹) := by
    have e1 : (σ - S) * (S⁻¹ * σ⁻¹) = S⁻¹ - σ⁻¹ := by grind
    rw [Rat.mul_assoc, e1]; grind
  rw [near_size, e]
  refine (d1.add d2).mono ?_
  grind

/-- The exact quotient, where C is the greater part of the divisor. -/
def exQ (A B C D : Rat) : Rat := (A + B * (D * C⁻¹)) * (1 + D * C⁻¹ * (D * C⁻¹))⁻¹ * C⁻¹
def exP (A B C D : Rat) : Rat := (B - A * (D * C⁻¹)) * (1 + D * C⁻¹ * (D * C⁻¹))⁻¹ * C⁻¹

theorem Smith.near {A B C D c r t s x n y m q p : Rat} (h : Smith A B C D c r t s x n y m q p) :
    Near (q * C - p * D) A (2400 * ulp) ∧ Near (q * D + p * C) B (2400 * ulp) ∧ Size (q * C) 132 ∧ Size (p * C) 132 ∧ Size (q * D) 132 ∧ Size (p * D) 132 ∧ Size q 2200 ∧ Size p 2200 ∧ Near q (exQ A B C D) (18300 * ulp) ∧ Near p (exP A B C D) (18300 * ulp) := by
  obtain ⟨u0, u1, u2, u3⟩ := ulp_small
  obtain ⟨hρ, hS⟩ := h.den
  obtain ⟨hn, hm⟩ := h.num
  have cp : 0 < c⁻¹ := Rat.inv_pos.2 h.c0
  have hσ : 1 ≤ 1 + D * C⁻¹ * (D * C⁻¹) := by have := sq_nonneg (D * C⁻¹); grind
  have N1 : Size (A + B * (D * C⁻¹)) 128 := ((h.sA.add (h.sB.mul hρ)).mono (by decide +kernel))
  have M1 : Size (B - A * (D * C⁻¹)) 128 := ((h.sB.sub (h.sA.mul hρ)).mono (by decide +kernel))
  have f1 := scaled hn N1 hS hσ
  have f2 := scaled hm M1 hS hσ
  -- the exact numerators over the exact divisor
  have hρ' := hρ
  have hC := h.ci
  have hDC : D = D * C⁻¹ * C := by grind
  have q1 := near_mul h.hq h.sc
  have p1 := near_mul h.hp h.sc
  have e1 : (132 * c⁻¹ * ulp + tiny) * c = 132 * ulp + tiny * c := by have := h.cc; grind
  have hc64 := Rat.mul_le_mul_of_nonneg_left h.c2 u3
  -- n / s * C = n * (s / C)⁻¹
  have S1 : 99 / 100 ≤ s * C⁻¹ := by obtain ⟨a, b⟩ := hS; grind
  have S0 : 0 < s * C⁻¹ := by grind
  have iS := Rat.mul_inv_cancel _ (Rat.ne_of_gt S0)
  have s0 : s ≠ 0 := by rintro rfl; rw [Rat.zero_mul] at S0; exact Rat.lt_irrefl S0
  have is := Rat.mul_inv_cancel _ s0
  have es : s⁻¹ * C = (s * C⁻¹)⁻¹ := by
    have a1 : s * C⁻¹ * (s⁻¹ * C) = 1 := by grind
    have a2 : (s * C⁻¹)⁻¹ * (s * C⁻¹ * (s⁻¹ * C)) = (s * C⁻¹)⁻¹ := by rw [a1, Rat.mul_one]
    rw [← Rat.mul_assoc, Rat.mul_comm (s * C⁻¹)⁻¹, iS, Rat.one_mul] at a2
    exact a2
  have eq1 : n / s * C = n * (s * C⁻¹)⁻¹ := by rw [Rat.div_def, Rat.mul_assoc, es]
  have eq2 : m / s * C = m * (s * C⁻¹)⁻¹ := by rw [Rat.div_def, Rat.mul_assoc, es]
  rw [e1, eq1] at q1
  rw [e1, eq2] at p1
  have qc : Near (q * C) ((A + B * (D * C⁻¹)) * (1 + D * C⁻¹ * (D * C⁻¹))⁻¹) (1140 * ulp) := (q1.trans f1).mono (by grind)
  have pc : Near (p * C) ((B - A * (D * C⁻¹)) * (1 + D * C⁻¹ * (D * C⁻¹))⁻¹) (1140 * ulp) := (p1.trans f2).mono (by grind)
  have σ0 : 0 < 1 + D * C⁻¹ * (D * C⁻¹) := by grind
  have iσ := Rat.mul_inv_cancel _ (Rat.ne_of_gt σ0)
  have pσ := Rat.inv_pos.2 σ0
  have bσ : (1 + D * C⁻¹ * (D * C⁻¹))⁻¹ ≤ 1 := by
    have := Rat.mul_le_mul_of_nonneg_right hσ (Rat.le_of_lt pσ)
    rw [iσ] at this; grind
  have sσ := Size.of_nonneg (Rat.le_of_lt pσ) bσ
  have s1 : Size (q * C) 132 := by
    have a := N1.mul sσ
    obtain ⟨b1, b2⟩ := qc
    obtain ⟨a1, a2⟩ := a
    constructor <;> grind
  have s2 : Size (p * C) 132 := by
    have a := M1.mul sσ
    obtain ⟨b1, b2⟩ := pc
    obtain ⟨a1, a2⟩ := a
    constructor <;> grind
  have e3 : q * D = q * C * (D * C⁻¹) := by grind
  have e4 : p * D = p * C * (D * C⁻¹) := by grind
  have e5 : q = q * C * C⁻¹ := by grind
  have e6 : p = p * C * C⁻¹ := by grind
  have qd := near_mul qc hρ
  have pd := near_mul pc hρ
  refine ⟨?_, ?_, s1, s2, ?_, ?_, ?_, ?_, ?_, ?_⟩
  · rw [e4]
    have ex : (A + B * (D * C⁻¹)) * (1 + D * C⁻¹ * (D * C⁻¹))⁻¹ - (B - A * (D * C⁻¹)) * (1 + D * C⁻¹ * (D * C⁻¹))⁻¹ * (D * C⁻¹) = A := by
      generalize D * C⁻¹ = ρ at *
      generalize (1 + ρ * ρ)⁻¹ = i at *
      have : A * ((1 + ρ * ρ) * i) = A := by rw [iσ, Rat.mul_one]
      grind
    rw [near_size] at qc pd ⊢
    have := qc.sub pd
    rw [show q * C - (A + B * (D * C⁻¹)) * (1 + D * C⁻¹ * (D * C⁻¹))⁻¹ - (p * C * (D * C⁻¹) - (B - A * (D * C⁻¹)) * (1 + D * C⁻¹ * (D * C⁻¹))⁻¹ * (D * C⁻¹)) = q * C - p * C * (D * C⁻¹) - ((A + B * (D * C⁻¹)) * (1 + D * C⁻¹ * (D * C⁻¹))⁻¹ - (B - A * (D * C⁻¹)) * (1 + D * C⁻¹ * (D * C⁻¹))⁻¹ * (D * C⁻¹)) by
      generalize (B - A * (D * C⁻¹)) * (1 + D * C⁻¹ * (D * C⁻¹))⁻¹ * (D * C⁻¹) = z1
      generalize (A + B * (D * C⁻¹)) * (1 + D * C⁻¹ * (D * C⁻¹))⁻¹ = z2
      generalize p * C * (D * C⁻¹) = z3
      grind, ex] at this
    exact this.mono (by grind)
  · rw [e3]
    have ex : (A + B * (D * C⁻¹)) * (1 + D * C⁻¹ * (D * C⁻¹))⁻¹ * (D * C⁻¹) + (B - A * (D * C⁻¹)) * (1 + D * C⁻¹ * (D * C⁻¹))⁻¹ = B := by
      generalize D * C⁻¹ = ρ at *
      generalize (1 + ρ * ρ)⁻¹ = i at *
      have : B * ((1 + ρ * ρ) * i) = B := by rw [iσ, Rat.mul_one]
      grind
    rw [near_size] at qd pc ⊢
    have := qd.add pc
    rw [show q * C * (D * C⁻¹) - (A + B * (D * C⁻¹)) * (1 + D * C⁻¹ * (D * C⁻¹))⁻¹ * (D * C⁻¹) + (p * C - (B - A * (D * C⁻¹)) * (1 + D * C⁻¹ * (D * C⁻¹))⁻¹) = q * C * (D * C⁻¹) + p * C - ((A + B * (D * C⁻¹)) * (1 + D * C⁻¹ * (D * C⁻¹))⁻¹ * (D * C⁻¹) + (B - A * (D * C⁻¹)) * (1 + D * C⁻¹ * (D * C⁻¹))⁻¹) by
      generalize (A + B * (D * C⁻¹)) * (1 + D * C⁻¹ * (D * C⁻¹))⁻¹ * (D * C⁻¹) = z1
      generalize (B - A * (D * C⁻¹)) * (1 + D * C⁻¹ * (D * C⁻¹))⁻¹ = z2
      generalize q * C * (D * C⁻¹) = z3
      grind, ex] at this
    exact this.mono (by grind)
  · rw [e3]; exact (s1.mul hρ).mono (by decide +kernel)
  · rw [e4]; exact (s2.mul hρ).mono (by decide +kernel)
  · rw [e5]
    refine (s1.mul h.si).mono ?_
    have := Rat.mul_le_mul_of_nonneg_left h.c1 (show (0 : Rat) ≤ 132 by decide)
    grind
  · rw [e6]
    refine (s2.mul h.si).mono ?_
    have := Rat.mul_le_mul_of_nonneg_left h.c1 (show (0 : Rat) ≤ 132 by decide)
    grind
  · have := near_mul qc h.si
    rw [show q * C * C⁻¹ = q by grind] at this
    refine this.mono ?_
    have k := Rat.mul_le_mul_of_nonneg_left h.c1 (show (0 : Rat) ≤ 1140 * ulp by grind)
    grind
  · have := near_mul pc h.si
    rw [show p * C * C⁻¹ = p by grind] at this
    refine this.mono ?_
    have k := Rat.mul_le_mul_of_nonneg_left h.c1 (show (0 : Rat) ≤ 1140 * ulp by grind)
    grind

end Flt
end Go.Proofs.Ytgolfdngpphndaa
