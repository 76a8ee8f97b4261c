import Derived.Test.YtcoieclecmefiaaFlatP
/-
  The numbers of FnFlat: what the law holds against each other.
-/
set_option linter.unusedVariables false
set_option linter.unusedSimpArgs false
namespace Go.Proofs.Ytcoieclecmefiaa
open Go Flt
namespace Flt

/-- A number of the window. -/
def wq (c : Nat → Nat) (i : Nat) : Rat := (c i : Rat) / 8
/-- A window of eighths. -/
def Eighths (xs : List Nat) (c : Nat → Nat) : Prop := ∀ i, i < xs.length → 1 ≤ c i ∧ c i ≤ 64 ∧ Fv (wO xs i) (wq c i)

theorem two3 : two 3 = 8 := rfl
theorem wq_dy {c : Nat → Nat} {i : Nat} (h : c i ≤ 64) : Dy 3 64 (wq c i) :=
  ⟨(c i : Int), by omega, by unfold wq; rw [two3, Rat.intCast_natCast]; grind⟩
theorem wq_pos {c : Nat → Nat} {i : Nat} (h : 1 ≤ c i) : 0 < wq c i := by
  have : (1 : Rat) ≤ (c i : Rat) := Rat.natCast_le_natCast.2 h
  unfold wq; grind

theorem sq_fv {xs : List Nat} {c : Nat → Nat} (hx : Eighths xs c) (i : Nat) (hi : i < xs.length) : Fv (sqO xs i) (wq c i * wq c i) ∧ Dy 6 4096 (wq c i * wq c i) := by
  have h := (wq_dy (hx i hi).2.1).mul (wq_dy (hx i hi).2.1)
  exact ⟨h.fv_mul (by omega) (by omega) (hx i hi).2.2 (hx i hi).2.2, h⟩
section
variable {xs : List Nat} {c : Nat → Nat} (hx : Eighths xs c) (hn0 : 0 < xs.length) (hn : xs.length ≤ 20)
include hx hn0 hn

theorem gain_fv : Fv (sumO (wO xs) xs.length) (psum (wq c) xs.length) :=
  sumO_dy (fun i hi => (hx i hi).2.2) (fun i hi => wq_dy (hx i hi).2.1) (by omega) (by omega) hn0
theorem gain_dy : Dy 3 1280 (psum (wq c) xs.length) := (psum_dy fun i hi => wq_dy (hx i hi).2.1).mono (by omega)

theorem power_fv : Fv (sumO (sqO xs) xs.length) (psum (fun i => wq c i * wq c i) xs.length) :=
  sumO_dy (fun i hi => (sq_fv hx i hi).1) (fun i hi => (sq_fv hx i hi).2) (by omega) (by omega) hn0
theorem power_dy : Dy 6 81920 (psum (fun i => wq c i * wq c i) xs.length) := (psum_dy fun i hi => (sq_fv hx i hi).2).mono (by omega)

theorem model_fv (p : Nat) : ∃ qs, FvL (wgtL xs p 3) qs 6 245760 ∧ lsum qs = 3 * psum (fun i => wq c i * wq c i) xs.length := by
  have h := FvL.addAll p (fun i hi => sq_fv hx i hi) 3 (by omega) (by omega)
  refine ⟨_, ⟨h.len, fun i hi => ⟨(h.good i hi).1, (h.good i hi).2.mono (by omega)⟩⟩, ?_⟩
  rw [lsum_addAll]; rfl

theorem sums_near {p j : Nat} (hp : 0 < p) (hpn : p ≤ xs.length) (hj : j < p) {ds : List Nat} (hdl : ds.length = xs.length) (hd : ∀ i, i < xs.length → IsF (ds.getD i 0) (flatZ xs p i)) :
    ∃ s, Fv (ovS ds p j) s ∧ Near s 1 (1 / 4398046511104) := by
  have hmiff : ∀ t, j + t * p < xs.length ↔ t < ovC xs.length p j := ovC_iff hp
  have hmpos : 0 < ovC xs.length p j := ovC_pos hp (by omega)
  have hm20 : ovC xs.length p j ≤ 20 := by
    apply Nat.le_of_not_lt
    intro h
    have h1 := (hmiff 20).2 h
    have : 20 ≤ 20 * p := Nat.le_mul_of_pos_right _ hp
    omega
  unfold ovS
  rw [hdl]
  obtain ⟨m, hm⟩ : ∃ m, ovC xs.length p j = m := ⟨_, rfl⟩
  obtain ⟨S, hS⟩ : ∃ S, psum (fun t => wq c (j + t * p)) m = S := ⟨_, rfl⟩
  have hSfv : Fv (ovS xs p j) S := by
    unfold ovS
    rw [← hS, hm]
    rw [hm] at hmiff hm20 hmpos
    exact sumO_dy (fun t ht => (hx _ ((hmiff t).2 ht)).2.2) (fun t ht => wq_dy (hx _ ((hmiff t).2 ht)).2.1) (by omega) (by omega) hmpos
  rw [hm] at hmiff hm20 hmpos ⊢
  have hpos : ∀ t, t < m → 0 ≤ wq c (j + t * p) := fun t ht => Rat.le_of_lt (wq_pos (hx _ ((hmiff t).2 ht)).1)
  have hterm : ∀ t, t < m → wq c (j + t * p) ≤ S := fun t ht => by rw [← hS]; exact psum_term (p := fun t => wq c (j + t * p)) hpos ht
  have hS0 : 0 < S := by have h1 := wq_pos (hx _ ((hmiff 0).2 hmpos)).1; have h2 := hterm 0 hmpos; grind
  have hSc := Rat.mul_inv_cancel _ (Rat.ne_of_gt hS0)
  have hSi := Rat.inv_pos.2 hS0
  obtain ⟨ρ, hρ⟩ : ∃ ρ : Nat → Rat, (fun t => wq c (j + t * p) * S⁻¹) = ρ := ⟨_, rfl⟩
  have hρ0 : ∀ t, t < m → 0 ≤ ρ t ∧ ρ t ≤ 1 := fun t ht => by
    rw [← hρ]
    have h1 := Rat.mul_le_mul_of_nonneg_right (hterm t ht) (Rat.le_of_lt hSi)
    rw [hSc] at h1
    exact ⟨Rat.mul_nonneg (hpos t ht) (Rat.le_of_lt hSi), h1⟩
  have hρs : psum ρ m = 1 := by
    rw [← hρ, psum_mul (fun t => wq c (j + t * p)), hS, hSc]
  have hr : ∀ t, ∃ r, t < m → Fv (ovZ ds p j t) r ∧ Near r (ρ t) (1 / two 52 + tiny) := fun t => by
    by_cases ht : t < m
    · have hi := (hmiff t).2 ht
      have hmod : (j + t * p) % p = j := by rw [Nat.add_mul_mod_self_right, Nat.mod_eq_of_lt hj]
      have h1 : ovZ ds p j t = flatZ xs p (j + t * p) := (hd _ hi).cn
      have h2 : wq c (j + t * p) / S = ρ t := by rw [← hρ, Rat.div_def]
      have hsz : Size (ρ t) 1 := ⟨(hρ0 t ht).2, by have := (hρ0 t ht).1; grind⟩
      have h1000 : (1 : Rat) ≤ two 1000 := by rw [← two_zero]; exact two_le (Nat.zero_le _)
      obtain ⟨r, h3, h4⟩ := fv_div (hx _ hi).2.2 hSfv (Rat.ne_of_gt hS0) (by rw [h2]; exact ⟨Rat.le_trans hsz.1 h1000, Rat.le_trans hsz.2 h1000⟩)
      refine ⟨r, fun _ => ⟨?_, ?_⟩⟩
      · rw [h1]; unfold flatZ; rw [hmod]; exact h3
      · rw [h2] at h4; exact h4.near hsz
    · exact ⟨0, fun h => absurd h ht⟩
  obtain ⟨r, hr⟩ := Classical.skolem.1 hr
  have ht := tiny_le
  have ht0 := tiny_pos
  have hmc : (m : Rat) ≤ 20 := Rat.natCast_le_natCast.2 hm20
  obtain ⟨d, hd'⟩ : ∃ d, (1 / two 52 + tiny) + (4 / two 52 + tiny) = d := ⟨_, rfl⟩
  have hd1 : 0 ≤ d ∧ d ≤ 1 / 562949953421312 := by rw [← hd', two52]; constructor <;> grind
  obtain ⟨s, h1, h2⟩ := sumO_near (z := ovZ ds p j) (r := r) (p := ρ) (e := 1 / two 52 + tiny) (B := 4) (n := m) (fun t ht => (hr t ht).1) (fun t ht => (hr t ht).2)
    (by rw [two52]; grind) (by have := two_le (a := 2) (b := 1000) (by omega); exact this) (by decide)
    (fun k hk => by
      rw [hd']
      have h1 := psum_mono (p := ρ) (m := k + 1) (n := m) (fun t ht => (hρ0 t ht).1) (by omega)
      have h2 := psum_nonneg (p := ρ) (n := k + 1) (fun t ht => (hρ0 t (by omega)).1)
      rw [hρs] at h1
      have hk20 : (k : Rat) + 1 ≤ 20 := by
        have : ((k + 1 : Nat) : Rat) ≤ ((20 : Nat) : Rat) := Rat.natCast_le_natCast.2 (by omega)
        rw [Rat.natCast_add] at this
        exact this
      have h3 := Rat.mul_le_mul_of_nonneg_right hk20 hd1.1
      obtain ⟨e1, e2⟩ := hd1
      clear hr hρ0 hpos hterm hmiff hd hx
      constructor <;> grind) hmpos
  refine ⟨s, h1, ?_⟩
  rw [hρs, hd'] at h2
  have h3 := Rat.mul_le_mul_of_nonneg_right hmc hd1.1
  obtain ⟨e1, e2⟩ := hd1
  obtain ⟨f1, f2⟩ := h2
  clear hr hρ0 hpos hterm hmiff hd hx
  constructor <;> grind

end

/-- What is taken from a number near 1 is small. -/
theorem less_one {z : Option Nat} {s : Rat} (h : Fv z s) (hs : Near s 1 (1 / 4398046511104)) {o : Option Nat} (ho : Fv o 1) :
    ∃ r, Fv (fop .sub .f64 z o) r ∧ r ≤ 1 / 4398046511104 ∧ -(1 / 4398046511104) ≤ r := by
  have h42 : (4398046511104 : Rat) = two 42 := rfl
  obtain ⟨s1, s2⟩ := hs
  have h1000 : (1 : Rat) ≤ two 1000 := by rw [← two_zero]; exact two_le (Nat.zero_le _)
  have hd : Dy 42 1 (1 / 4398046511104) := ⟨1, by decide, by rw [h42]; exact Rat.div_mul_cancel (Rat.ne_of_gt (two_pos 42))⟩
  obtain ⟨r, h1, h2⟩ := fv_sub h ho ⟨by grind, by grind⟩
  refine ⟨r, h1, h2.le _ (hd.rep (by decide) (by omega)) s1, h2.ge _ (hd.neg.rep (by decide) (by omega)) (by grind)⟩

end Flt
end Go.Proofs.Ytcoieclecmefiaa
