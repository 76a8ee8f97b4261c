/-
  Several texts of this claim, one behind the other; each says what it holds.
-/
import Derived.Test.YteamnfockjnilaaMBins6
/-
  The fast transform is near the exact one. No program.
-/
set_option linter.unusedVariables false
set_option linter.unusedSimpArgs false
namespace Go.Proofs.Yteamnfockjnilaa
open Go Flt
namespace Flt
open Turn Fast

/-- Weights of a signal: each is at least its number, and not too small. -/
structure Wt (x : Nat → Q2) (s : Nat → Rat) (n : Nat) : Prop where
  le : ∀ j, j < n → nrm (x j) ≤ s j
  lo : ∀ j, j < n → 1 / 1099511627776 ≤ s j
theorem Wt.pos {x : Nat → Q2} {s : Nat → Rat} {n : Nat} (h : Wt x s n) : ∀ j, j < n → 0 ≤ s j := fun j hj => by
  have := h.lo j hj
  have h2 : (0 : Rat) ≤ 1 / 1099511627776 := by decide +kernel
  exact Rat.le_trans h2 this
theorem Wt.part {x : Nat → Q2} {s : Nat → Rat} {p m : Nat} (h : Wt x s (p * m)) {r : Nat} (hr : r < p) : Wt (fun i => x (r + i * p)) (fun i => s (r + i * p)) m := by
  have hin : ∀ i, i < m → r + i * p < p * m := fun i hi => by
    have : (i + 1) * p ≤ m * p := Nat.mul_le_mul_right _ hi
    rw [Nat.add_mul, Nat.one_mul, Nat.mul_comm m p] at this
    omega
  exact ⟨fun i hi => h.le _ (hin i hi), fun i hi => h.lo _ (hin i hi)⟩
theorem Wt.mid {x : Nat → Q2} {s : Nat → Rat} {n : Nat} (h : Wt x s n) (hn : 0 < n) (hS : psum s n ≤ 140737488355328) : Mid (psum s n) := by
  refine ⟨?_, Rat.le_trans hS (by decide +kernel)⟩
  have h1 := psum_term (t := 0) h.pos hn
  exact Rat.le_trans (h.lo 0 hn) h1

/-- The error of a sum of turned terms. -/
theorem sumT_near {t : Nat → Z} {D : Nat → Q2} {e s : Nat → Rat} {p q : Nat} {S : Rat} (hp : 0 < p)
    (h0 : ∃ v, FvQ (t 0) v ∧ NearQ v (D 0) (e 0)) (hr : ∀ r, 0 < r → r < p → ∃ v, FvQ (mulZ (t r) (twid p (r * q))) v ∧ NearQ v (D r) (e r))
    (hD : ∀ r, r < p → SizeQ (D r) (s r * (1001 / 1000))) (he : ∀ r, r < p → 0 ≤ e r) (hs : ∀ r, r < p → 0 ≤ s r) (hsum : psum s p = S) (heS : psum e p ≤ S / 20) (hp2 : p ≤ 256) (hS : Mid S) (hS2 : S ≤ 140737488355328) :
    ∀ j, 0 < j → j ≤ p → ∃ v, FvQ (sumT t p q j) v ∧ NearQ v (sumQ D j) (psum e j + (j : Rat) * (6 / 5 * (ulp * S)))
  | 0, h, _ => by omega
  | j + 1, _, hj => by
    obtain ⟨hw, hw0⟩ := hS.small
    by_cases h : j = 0
    · subst h
      obtain ⟨v, h1, h2⟩ := h0
      refine ⟨v, by unfold sumT; rw [if_pos rfl]; exact h1, ?_⟩
      have e1 : sumQ D (0 + 1) = D 0 := zero_addQ _
      have e2 : psum e (0 + 1) = e 0 := by rw [psum_succ]; exact Rat.zero_add _
      rw [e1, e2]
      refine h2.mono ?_
      have : ((0 + 1 : Nat) : Rat) = 1 := rfl
      rw [this]
      generalize ulp * S = U at *
      grind
    · obtain ⟨v, h1, h2⟩ := sumT_near hp h0 hr hD he hs hsum heS hp2 hS hS2 j (by omega) (by omega)
      obtain ⟨u, h3, h4⟩ := hr j (by omega) (by omega)
      have hp0 := hS.pos
      -- the size of the sum
      have z1 := sumQ_size (t := D) (B := fun r => s r * (1001 / 1000)) (n := j + 1) (fun r hr' => hD r (by omega))
      rw [psum_mul] at z1
      have z2 : psum s (j + 1) ≤ S := by rw [← hsum]; exact psum_mono (fun r hr' => hs r hr') (by omega)
      have z3 : psum e (j + 1) ≤ S / 20 := Rat.le_trans (psum_mono (fun r hr' => he r hr') (by omega)) heS
      have h5 := h2.add h4
      have e3 : psum e j + (j : Rat) * (6 / 5 * (ulp * S)) + e j = psum e (j + 1) + (j : Rat) * (6 / 5 * (ulp * S)) := by rw [psum_succ]; grind
      rw [e3] at h5
      have hj256 : (j : Rat) ≤ 256 := by
        have : j ≤ 256 := by omega
        exact Rat.natCast_le_natCast.2 this
      have hj0 : (0 : Rat) ≤ (j : Rat) := Rat.natCast_nonneg
      have hjU : (j : Rat) * (6 / 5 * (ulp * S)) ≤ 256 * (6 / 5 * (ulp * S)) := Rat.mul_le_mul_of_nonneg_right hj256 (by generalize ulp * S = U at *; grind)
      have z4 : SizeQ (addQ v u) (11 / 10 * S) := by
        refine (h5.size z1).mono ?_
        generalize (j : Rat) * (6 / 5 * (ulp * S)) = V at *
        generalize ulp * S = U at *
        generalize psum s (j + 1) = a at *
        generalize psum e (j + 1) = b at *
        clear h1 h2 h3 h4 h5 z1 h0 hr hD he hs hsum heS hS
        grind
      obtain ⟨w, h6, h7⟩ := cadd_near h1 h3 z4 ⟨by have := hS.lo; grind, by grind⟩
      refine ⟨w, by unfold sumT; rw [if_neg h]; exact h6, ?_⟩
      refine (h7.trans h5).mono ?_
      have e4 : ((j + 1 : Nat) : Rat) = (j : Rat) + 1 := by rw [Rat.natCast_add]; rfl
      have e5 : 257 / 256 * (ulp * (11 / 10 * S)) = 2827 / 2560 * (ulp * S) := by grind
      rw [e4, e5, Rat.add_mul, Rat.one_mul]
      generalize (j : Rat) * (6 / 5 * (ulp * S)) = V at *
      generalize ulp * S = U at *
      clear h1 h2 h3 h4 h5 h6 h7 z1 h0 hr hD he hs hsum heS hS z4
      grind

/-- How far the fast transform of n numbers may be from the exact one, in units of the last place of the sum of the sizes. -/
def err (n : Nat) : Rat := 60 * ((n : Rat) - 1)

theorem fast_near {xs ys : List Z} (h : Fast xs ys) : ∀ (x : Nat → Q2) (s : Nat → Rat), (∀ j, j < xs.length → FvQ (xs.getD j z0) (x j)) → Wt x s xs.length → xs.length ≤ 256 → psum s xs.length ≤ 140737488355328 →
    ∀ k, k < xs.length → ∃ v, FvQ (ys.getD k z0) v ∧ NearQ v (dft x xs.length k) (err xs.length * (ulp * psum s xs.length)) := by
  induction h with
  | small h =>
    rename_i xs
    intro x s hx hw hn hS k hk
    have hl : xs.length = 1 := by omega
    have hk0 : k = 0 := by omega
    subst hk0
    refine ⟨x 0, hx 0 hk, ?_⟩
    have e1 : dft x xs.length 0 = x 0 := by
      rw [hl]
      unfold dft
      show addQ (0, 0) (mulQ (x 0) (cisr 1 (0 * 0))) = x 0
      rw [zero_addQ, Nat.zero_mul, cisr_zero (by decide), mulQ_one]
    rw [e1]
    refine NearQ.refl _ ?_
    have : err xs.length = 0 := by rw [hl]; unfold err; decide +kernel
    rw [this, Rat.zero_mul]
    exact Rat.le_refl
  | step hn1 hp hF ih =>
    rename_i xs p ys
    intro x s hx hw hn hS K hK
    have hp2 := hp.two
    obtain ⟨m, hm⟩ := Nat.dvd_of_mod_eq_zero hp.dvd
    have hp0 : 0 < p := by omega
    have hm0 : 0 < m := by
      rcases Nat.eq_zero_or_pos m with h | h
      · subst h; omega
      · exact h
    have hdiv : xs.length / p = m := by rw [hm]; exact Nat.mul_div_cancel_left _ hp0
    have hpn : p ≤ xs.length := hp.le hn1
    have hmn : m ≤ xs.length := by rw [hm]; exact Nat.le_mul_of_pos_left _ hp0
    have hel : ∀ r, r < p → (every xs r p).length = m := fun r hr => every_length hp0 hm hr
    rw [joinP_getD hK, hdiv]
    have hk : K % m < m := Nat.mod_lt _ hm0
    have hq : K / m < p := by rw [Nat.div_lt_iff_lt_mul hm0, ← hm]; exact hK
    have hKe : K = K % m + K / m * m := by rw [Nat.mul_comm]; exact (Nat.mod_add_div K m).symm
    generalize hkk : K % m = k at *
    generalize hqq : K / m = q at *
    subst hKe
    rw [hm] at hw hS hx ⊢
    have hn0 : 0 < p * m := Nat.mul_pos hp0 hm0
    have hn256 : p * m ≤ 256 := by rw [← hm]; exact hn
    -- the parts
    have hSr : ∀ r, r < p → psum (fun i => s (r + i * p)) m ≤ psum s (p * m) := fun r hr => by
      have h := psum_term (p := fun r => psum (fun i => s (r + i * p)) m) (n := p) (t := r) (fun r hr => psum_nonneg fun i hi => (hw.part hr).pos i hi) hr
      rwa [psum_rests] at h
    have hmid := hw.mid hn0 hS
    have hmr : ∀ r, r < p → Mid (psum (fun i => s (r + i * p)) m) := fun r hr => (hw.part hr).mid hm0 (Rat.le_trans (hSr r hr) hS)
    have hE0 : 0 ≤ err m := by
      unfold err
      have : (1 : Rat) ≤ (m : Rat) := Rat.natCast_le_natCast.2 (show 1 ≤ m from hm0)
      grind
    have hE1 : err m ≤ 15300 := by
      unfold err
      have : (m : Rat) ≤ (256 : Nat) := Rat.natCast_le_natCast.2 (show m ≤ 256 by omega)
      have e : ((256 : Nat) : Rat) = 256 := rfl
      rw [e] at this
      grind
    have hY : ∀ r, r < p → ∃ v, FvQ ((ys r).getD k z0) v ∧ NearQ v (dft (fun i => x (r + i * p)) m k) (err m * (ulp * psum (fun i => s (r + i * p)) m)) := fun r hr => by
      have h := ih r hr (fun i => x (r + i * p)) (fun i => s (r + i * p)) (fun j hj => by
        rw [hel r hr] at hj
        rw [every_getD hp0 hm hr hj]
        have : r + j * p < p * m := by
          have : (j + 1) * p ≤ m * p := Nat.mul_le_mul_right _ hj
          rw [Nat.add_mul, Nat.one_mul, Nat.mul_comm m p] at this
          omega
        exact hx _ this) (by rw [hel r hr]; exact hw.part hr) (by rw [hel r hr]; omega) (by rw [hel r hr]; exact Rat.le_trans (hSr r hr) hS) k (by rw [hel r hr]; exact hk)
      rwa [hel r hr] at h
    have hxs : ∀ r, r < p → ∀ i, i < m → nrm (x (r + i * p)) ≤ s (r + i * p) := fun r hr i hi => (hw.part hr).le i hi
    -- a part's number that is turned once
    have hT : ∀ r, 0 < r → r < p → ∃ v, FvQ (term (p * m) ys k r) v ∧ NearQ v (mulQ (dft (fun i => x (r + i * p)) m k) (cisr (p * m) (r * k))) (17 / 12 * (err m * (ulp * psum (fun i => s (r + i * p)) m)) + 35 * (ulp * psum (fun i => s (r + i * p)) m)) := fun r h0 hr => by
      obtain ⟨v, h1, h2⟩ := hY r hr
      obtain ⟨w1, w2⟩ := (hmr r hr).small
      have := cmul_cis (n := p * m) (k := rst (p * m) (r * k)) h1 h2 (partA_size r k hp0 hm0 (hxs r hr)) (Rat.mul_nonneg hE0 (Rat.le_of_lt w2)) (by
        have h3 := Rat.mul_le_mul_of_nonneg_right hE1 (Rat.le_of_lt w2)
        have h4 := (hmr r hr).pos
        generalize psum (fun i => s (r + i * p)) m = a at *
        generalize ulp * a = b at *
        generalize err m * b = c at *
        clear h1 h2 hY ih hx hw hF
        grind) (hmr r hr) (Rat.le_trans (hSr r hr) hS) hn0 (by omega) (Nat.le_of_lt (rst_lt _ hn0))
      obtain ⟨u, h3, h4⟩ := this
      refine ⟨u, ?_, h4⟩
      unfold term
      rw [if_neg (by omega)]
      exact h3
    have hT0 : ∃ v, FvQ (term (p * m) ys k 0) v ∧ NearQ v (mulQ (dft (fun i => x (0 + i * p)) m k) (cisr (p * m) (0 * k))) (err m * (ulp * psum (fun i => s (0 + i * p)) m)) := by
      obtain ⟨v, h1, h2⟩ := hY 0 hp0
      refine ⟨v, by unfold term; rw [if_pos rfl]; exact h1, ?_⟩
      rw [Nat.zero_mul, cisr_zero hn0, mulQ_one]
      exact h2
    have hB := fun r (hr : r < p) => partB_size r k hp0 hm0 (hxs r hr)
    have hfin := parts_near (x := x) (s := s) k q hp0 hm0 (fun j hj => hw.le j hj)
    have hsum := psum_rests s p m
    have hpm : err (p * m) = (p : Rat) * err m + 60 * ((p : Rat) - 1) := by unfold err; rw [Rat.natCast_mul]; grind
    obtain ⟨dl0, dl1, -⟩ := dl_small
    obtain ⟨u1, u2⟩ := hmid.small
    have hSp := hmid.pos
    have hdlS : psum s (p * m) * (20 * dl) ≤ 1 / 1000 * (ulp * psum s (p * m)) := by
      have := Rat.mul_le_mul_of_nonneg_left dl1 (Rat.le_of_lt hSp)
      rw [Rat.div_def, ← Rat.mul_assoc, Rat.mul_comm _ ulp] at this
      generalize psum s (p * m) = a at *
      have e : a * (20 * dl) = 20 * (a * dl) := by grind
      rw [e]
      generalize a * dl = b at *
      generalize ulp * a = c at *
      clear hY hT hT0 hB hfin ih hx hw hmid hmr hSr hxs hF hsum
      grind
    have hone : ∀ r, NearQ (mulQ (mulQ (dft (fun i => x (r + i * p)) m k) (cisr (p * m) (r * k))) (cisr p (r * 0))) (mulQ (dft (fun i => x (r + i * p)) m k) (cisr (p * m) (r * k))) 0 := fun r => by
      rw [Nat.mul_zero, cisr_zero hp0, mulQ_one]; exact NearQ.refl _ Rat.le_refl
    have hzero : mulQ (mulQ (dft (fun i => x (0 + i * p)) m k) (cisr (p * m) (0 * k))) (cisr p (0 * q)) = mulQ (dft (fun i => x (0 + i * p)) m k) (cisr (p * m) (0 * k)) := by
      rw [Nat.zero_mul (n := q), cisr_zero hp0, mulQ_one]
    have hD := fun r (hr : r < p) => partD_size r k q hp0 hm0 (hxs r hr)
    by_cases hp2' : p = 2
    · have hout : outP (p * m) p ys k q = if q = 0 then addZ (term (p * m) ys k 0) (term (p * m) ys k 1) else subZ (term (p * m) ys k 0) (term (p * m) ys k 1) := by unfold outP; rw [if_pos hp2']
      rw [hout]
      obtain ⟨v0, a1, a2⟩ := hT0
      obtain ⟨v1, b1, b2⟩ := hT 1 (by decide) (by omega)
      have s0 := hB 0 hp0
      have s1 := hB 1 (by omega)
      have hone1 := hone 1
      have hsumD : sumQ (fun r => mulQ (mulQ (dft (fun i => x (r + i * p)) m k) (cisr (p * m) (r * k))) (cisr p (r * q))) p = addQ (mulQ (dft (fun i => x (0 + i * p)) m k) (cisr (p * m) (0 * k))) (mulQ (mulQ (dft (fun i => x (1 + i * p)) m k) (cisr (p * m) (1 * k))) (cisr p (1 * q))) := by
        have e2 : ∀ f : Nat → Q2, sumQ f p = addQ (f 0) (f 1) := fun f => by
          rw [hp2']
          show addQ (addQ (0, 0) (f 0)) (f 1) = _
          rw [zero_addQ]
        rw [e2]
        show addQ (mulQ (mulQ (dft (fun i => x (0 + i * p)) m k) (cisr (p * m) (0 * k))) (cisr p (0 * q))) _ = _
        rw [hzero]
      rw [hsumD] at hfin
      generalize hG0 : mulQ (dft (fun i => x (0 + i * p)) m k) (cisr (p * m) (0 * k)) = B0 at *
      generalize hG1 : mulQ (dft (fun i => x (1 + i * p)) m k) (cisr (p * m) (1 * k)) = B1 at *
      rw [hp2'] at hsum
      rw [psum_succ, psum_succ] at hsum
      have hS2' : psum (fun i => s (0 + i * 2)) m + psum (fun i => s (1 + i * 2)) m = psum s (2 * m) := by rw [← hsum]; show _ = 0 + _ + _; rw [Rat.zero_add]
      rw [← hp2'] at hS2'
      obtain ⟨w00, w01⟩ := (hmr 0 hp0).small
      obtain ⟨w10, w11⟩ := (hmr 1 (by omega)).small
      have hpp : ((p : Nat) : Rat) = 2 := by rw [hp2']; rfl
      rw [hpp] at hpm
      have hU : ulp * psum (fun i => s (0 + i * p)) m + ulp * psum (fun i => s (1 + i * p)) m = ulp * psum s (p * m) := by rw [← Rat.mul_add, hS2']
      have hsz0 := (hmr 0 hp0).pos
      have hsz1 := (hmr 1 (by omega)).pos
      have hm1 := Rat.mul_le_mul_of_nonneg_right hE1 (Rat.le_of_lt w01)
      have hm2 := Rat.mul_le_mul_of_nonneg_right hE1 (Rat.le_of_lt w11)
      have hm3 := Rat.mul_nonneg hE0 (Rat.le_of_lt w01)
      have hm4 := Rat.mul_nonneg hE0 (Rat.le_of_lt w11)
      have hEU : err (p * m) * (ulp * psum s (p * m)) = 2 * (err m * (ulp * psum (fun i => s (0 + i * p)) m)) + 2 * (err m * (ulp * psum (fun i => s (1 + i * p)) m)) + 60 * (ulp * psum s (p * m)) := by
        rw [hpm, ← hU]
        clear hY hB hfin ih hx hw hmid hmr hSr hxs hF hsum hone hD hzero hone1 a1 a2 b1 b2 s0 s1 hG0 hG1 hsumD hout
        grind
      rw [hEU]
      clear hY hB ih hx hw hmr hSr hxs hF hsum hone hD hzero hsumD hout hE1 hE0 hpm hEU
      have hnB1 := nrm_le s1
      have e11 : 257 / 256 * (ulp * (11 / 10 * psum s (p * m))) = 2827 / 2560 * (ulp * psum s (p * m)) := by grind
      by_cases hq0 : q = 0
      · rw [if_pos hq0]
        subst hq0
        have hz : SizeQ (addQ v0 v1) (11 / 10 * psum s (p * m)) := by
          refine ((a2.add b2).size (s0.add s1)).mono ?_
          generalize psum s (p * m) = S at *
          generalize psum (fun i => s (0 + i * p)) m = S0 at *
          generalize psum (fun i => s (1 + i * p)) m = S1 at *
          generalize ulp * S = U at *
          generalize ulp * S0 = U0 at *
          generalize ulp * S1 = U1 at *
          generalize err m * U0 = F0 at *
          generalize err m * U1 = F1 at *
          clear a1 a2 b1 b2 s0 s1 hfin hone1 hG0 hG1
          grind
        obtain ⟨w, c1, c2⟩ := cadd_near a1 b1 hz ⟨by have := hmid.lo; grind, by grind⟩
        refine ⟨w, c1, ?_⟩
        have h0 := (NearQ.refl B0 (e := 0) Rat.le_refl).add hone1.symm
        rw [e11] at c2
        refine (((c2.trans (a2.add b2)).trans h0).trans hfin).mono ?_
        generalize psum s (p * m) = S at *
        generalize psum (fun i => s (0 + i * p)) m = S0 at *
        generalize psum (fun i => s (1 + i * p)) m = S1 at *
        generalize S * (20 * dl) = G at *
        generalize ulp * S = U at *
        generalize ulp * S0 = U0 at *
        generalize ulp * S1 = U1 at *
        generalize err m * U0 = F0 at *
        generalize err m * U1 = F1 at *
        clear a1 a2 b1 b2 s0 s1 hfin hone1 hG0 hG1 c1 c2 h0 hz e11
        grind
      · rw [if_neg hq0]
        have hq1 : q = 1 := by omega
        subst hq1
        have hz : SizeQ (subQ v0 v1) (11 / 10 * psum s (p * m)) := by
          refine ((a2.sub b2).size (s0.sub s1)).mono ?_
          generalize psum s (p * m) = S at *
          generalize psum (fun i => s (0 + i * p)) m = S0 at *
          generalize psum (fun i => s (1 + i * p)) m = S1 at *
          generalize ulp * S = U at *
          generalize ulp * S0 = U0 at *
          generalize ulp * S1 = U1 at *
          generalize err m * U0 = F0 at *
          generalize err m * U1 = F1 at *
          clear a1 a2 b1 b2 s0 s1 hfin hone1 hG0 hG1
          grind
        obtain ⟨w, c1, c2⟩ := csub_near a1 b1 hz ⟨by have := hmid.lo; grind, by grind⟩
        refine ⟨w, c1, ?_⟩
        rw [e11] at c2
        have hc : NearQ (cisr p (1 * 1)) (-1, 0) dl := by
          have e : cisr p (1 * 1) = cis (1 / 2) := by rw [hp2']; rfl
          rw [e]; exact ⟨cq_half.1, cq_half.2⟩
        have hneg : subQ B0 B1 = addQ B0 (mulQ B1 (-1, 0)) := by unfold subQ addQ mulQ; refine Prod.ext ?_ ?_ <;> simp only <;> grind
        have h0 := (NearQ.refl B0 (e := 0) Rat.le_refl).add (mulQ_near_r hc hnB1 (Rat.le_of_lt dl0)).symm
        rw [← hneg] at h0
        have hx2 : psum (fun i => s (1 + i * p)) m * dl ≤ psum s (p * m) * dl := Rat.mul_le_mul_of_nonneg_right (by rw [← hS2']; clear a1 a2 b1 b2 s0 s1 hfin hone1 hG0 hG1; grind) (Rat.le_of_lt dl0)
        refine (((c2.trans (a2.sub b2)).trans h0).trans hfin).mono ?_
        have g1 : 2 * (psum (fun i => s (1 + i * p)) m * (1001 / 1000)) * dl = 1001 / 500 * (psum (fun i => s (1 + i * p)) m * dl) := by grind
        have g2 : psum s (p * m) * (20 * dl) = 20 * (psum s (p * m) * dl) := by grind
        rw [g1, g2]
        rw [g2] at hdlS
        generalize psum s (p * m) = S at *
        generalize psum (fun i => s (0 + i * p)) m = S0 at *
        generalize psum (fun i => s (1 + i * p)) m = S1 at *
        generalize S * dl = G at *
        generalize S1 * dl = G1 at *
        generalize ulp * S = U at *
        generalize ulp * S0 = U0 at *
        generalize ulp * S1 = U1 at *
        generalize err m * U0 = F0 at *
        generalize err m * U1 = F1 at *
        clear a1 a2 b1 b2 s0 s1 hfin hone1 hG0 hG1 c1 c2 h0 hz e11 hc hneg g1 g2 hnB1 dl1
        grind
    · have hout : outP (p * m) p ys k q = sumT (term (p * m) ys k) p q p := by unfold outP; rw [if_neg hp2']
      rw [hout]
      have hec : 0 ≤ 289 / 144 * err m + 1015 / 12 := by clear hY hT hT0 hB hfin ih hx hw hmid hmr hSr hxs hF hsum hone hD hzero hout; grind
      have hpsum : psum (fun r => psum (fun i => s (r + i * p)) m * (ulp * (289 / 144 * err m + 1015 / 12))) p = (289 / 144 * err m + 1015 / 12) * (ulp * psum s (p * m)) := by
        rw [psum_mul, hsum]
        clear hY hT hT0 hB hfin ih hx hw hmid hmr hSr hxs hF hsum hone hD hzero hout
        grind
      have hEU : err m * (ulp * psum s (p * m)) ≤ 15300 * (ulp * psum s (p * m)) := Rat.mul_le_mul_of_nonneg_right hE1 (Rat.le_of_lt u2)
      have hEU0 : 0 ≤ err m * (ulp * psum s (p * m)) := Rat.mul_nonneg hE0 (Rat.le_of_lt u2)
      have hpc : (289 / 144 * err m + 1015 / 12) * (ulp * psum s (p * m)) = 289 / 144 * (err m * (ulp * psum s (p * m))) + 1015 / 12 * (ulp * psum s (p * m)) := by grind
      obtain ⟨v, c1, c2⟩ := sumT_near (t := term (p * m) ys k) (D := fun r => mulQ (mulQ (dft (fun i => x (r + i * p)) m k) (cisr (p * m) (r * k))) (cisr p (r * q))) (e := fun r => psum (fun i => s (r + i * p)) m * (ulp * (289 / 144 * err m + 1015 / 12))) (s := fun r => psum (fun i => s (r + i * p)) m) (p := p) (q := q) (S := psum s (p * m)) hp0
        (by
          obtain ⟨v, h1, h2⟩ := hT0
          refine ⟨v, h1, ?_⟩
          show NearQ v (mulQ (mulQ (dft (fun i => x (0 + i * p)) m k) (cisr (p * m) (0 * k))) (cisr p (0 * q))) _
          rw [hzero]
          refine h2.mono ?_
          obtain ⟨w00, w01⟩ := (hmr 0 hp0).small
          have := Rat.mul_nonneg hE0 (Rat.le_of_lt w01)
          have e : psum (fun i => s (0 + i * p)) m * (ulp * (289 / 144 * err m + 1015 / 12)) = 289 / 144 * (err m * (ulp * psum (fun i => s (0 + i * p)) m)) + 1015 / 12 * (ulp * psum (fun i => s (0 + i * p)) m) := by
            clear hY hT hB hfin ih hx hw hmid hmr hSr hxs hF hsum hone hD hzero hout h1 h2
            grind
          show _ ≤ psum (fun i => s (0 + i * p)) m * (ulp * (289 / 144 * err m + 1015 / 12))
          rw [e]
          generalize err m * (ulp * psum (fun i => s (0 + i * p)) m) = F at *
          generalize ulp * psum (fun i => s (0 + i * p)) m = U0 at *
          clear hY hT hB hfin ih hx hw hmid hmr hSr hxs hF hsum hone hD hzero hout h1 h2 e hpc hEU hEU0 hpsum
          grind)
        (fun r r0 hr => by
          obtain ⟨v, h1, h2⟩ := hT r r0 hr
          obtain ⟨w00, w01⟩ := (hmr r hr).small
          have a0 := Rat.mul_nonneg hE0 (Rat.le_of_lt w01)
          have a1 := Rat.mul_le_mul_of_nonneg_right hE1 (Rat.le_of_lt w01)
          have hp3 := (hmr r hr).pos
          obtain ⟨u, h3, h4⟩ := cmul_cis (n := p) (k := rst p (r * q)) h1 h2 (hB r hr) (by
              generalize err m * (ulp * psum (fun i => s (r + i * p)) m) = F at *
              generalize ulp * psum (fun i => s (r + i * p)) m = U0 at *
              clear hY hT hT0 hB hfin ih hx hw hmid hmr hSr hxs hF hsum hone hD hzero hout h1 h2 hpc hEU hEU0 hpsum
              grind) (by
              generalize err m * (ulp * psum (fun i => s (r + i * p)) m) = F at *
              generalize ulp * psum (fun i => s (r + i * p)) m = U0 at *
              clear hY hT hT0 hB hfin ih hx hw hmid hmr hSr hxs hF hsum hone hD hzero hout h1 h2 hpc hEU hEU0 hpsum
              grind) (hmr r hr) (Rat.le_trans (hSr r hr) hS) hp0 (by omega) (Nat.le_of_lt (rst_lt _ hp0))
          refine ⟨u, h3, h4.mono ?_⟩
          have e : psum (fun i => s (r + i * p)) m * (ulp * (289 / 144 * err m + 1015 / 12)) = 289 / 144 * (err m * (ulp * psum (fun i => s (r + i * p)) m)) + 1015 / 12 * (ulp * psum (fun i => s (r + i * p)) m) := by
            clear hY hT hT0 hB hfin ih hx hw hmid hmr hSr hxs hF hsum hone hD hzero hout h1 h2 h3 h4
            grind
          show _ ≤ psum (fun i => s (r + i * p)) m * (ulp * (289 / 144 * err m + 1015 / 12))
          rw [e]
          generalize err m * (ulp * psum (fun i => s (r + i * p)) m) = F at *
          generalize ulp * psum (fun i => s (r + i * p)) m = U0 at *
          clear hY hT hT0 hB hfin ih hx hw hmid hmr hSr hxs hF hsum hone hD hzero hout h1 h2 h3 h4 e hpc hEU hEU0 hpsum
          grind)
        hD (fun r hr => Rat.mul_nonneg (Rat.le_of_lt (hmr r hr).pos) (Rat.mul_nonneg (Rat.le_of_lt ulp_pos) hec)) (fun r hr => Rat.le_of_lt (hmr r hr).pos) hsum
        (by
          rw [hpsum, hpc]
          generalize psum s (p * m) = S at *
          generalize ulp * S = U at *
          generalize err m * U = F at *
          clear hY hT hT0 hB hfin ih hx hw hmid hmr hSr hxs hF hsum hone hD hzero hout hpc hpsum
          grind)
        (by omega) hmid hS p hp0 (Nat.le_refl _)
      refine ⟨v, c1, (c2.trans hfin).mono ?_⟩
      rw [hpsum, hpc, hpm]
      have hp3 : (3 : Rat) ≤ (p : Rat) := Rat.natCast_le_natCast.2 (show 3 ≤ p by omega)
      have g1 : ((p : Rat) * err m + 60 * ((p : Rat) - 1)) * (ulp * psum s (p * m)) = (p : Rat) * (err m * (ulp * psum s (p * m))) + 60 * ((p : Rat) * (ulp * psum s (p * m))) - 60 * (ulp * psum s (p * m)) := by grind
      have g2 : (p : Rat) * (6 / 5 * (ulp * psum s (p * m))) = 6 / 5 * ((p : Rat) * (ulp * psum s (p * m))) := by grind
      have g3 := Rat.mul_le_mul_of_nonneg_right hp3 hEU0
      have g4 := Rat.mul_le_mul_of_nonneg_right hp3 (Rat.le_of_lt u2)
      rw [g1, g2]
      generalize psum s (p * m) * (20 * dl) = G at *
      generalize psum s (p * m) = S at *
      generalize ulp * S = U at *
      generalize err m * U = F at *
      generalize (p : Rat) * F = PF at *
      generalize (p : Rat) * U = PU at *
      clear hY hT hT0 hB hfin ih hx hw hmid hmr hSr hxs hF hsum hone hD hzero hout hpc hpsum g1 g2 c1 c2 hpm
      grind

end Flt
end Go.Proofs.Yteamnfockjnilaa
/-
  Rotations, mirrors and sums of exact transforms; products of zeros. No program.
-/
set_option linter.unusedVariables false
set_option linter.unusedSimpArgs false
namespace Go.Proofs.Yteamnfockjnilaa
open Go Flt
namespace Flt
open Turn Fast

theorem rst_congr {n a b : Nat} (h : a % n = b % n) : rst n a = rst n b := by unfold rst; rw [h]
theorem cisr_congr {n a b : Nat} (h : a % n = b % n) : cisr n a = cisr n b := by unfold cisr; rw [rst_congr h]
/-- A turn the other way round. -/
theorem rst_back {n : Nat} (a : Nat) (hn : 0 < n) : rst n ((n - 1) * a) = a % n := by
  have h : ((n - 1) * a % n + a % n) % n = 0 := by
    rw [← Nat.add_mod]
    have : (n - 1) * a + a = n * a := by
      have := Nat.succ_mul (n - 1) a
      rw [show (n - 1).succ = n by omega] at this
      exact this.symm
    rw [this, Nat.mul_mod_right]
  unfold rst
  have h1 := Nat.mod_lt ((n - 1) * a) hn
  have h2 := Nat.mod_lt a hn
  generalize (n - 1) * a % n = x at *
  generalize a % n = y at *
  by_cases hx : x = 0
  · subst hx
    rw [Nat.zero_add, Nat.mod_eq_of_lt h2] at h
    rw [Nat.sub_zero, Nat.mod_self, h]
  · rw [Nat.mod_eq_of_lt (by omega)]
    by_cases hxy : x + y < n
    · rw [Nat.mod_eq_of_lt hxy] at h; omega
    · rw [Nat.mod_eq_sub_mod (by omega), Nat.mod_eq_of_lt (by omega)] at h; omega

theorem addQ_comm (a b : Q2) : addQ a b = addQ b a := by unfold addQ; rw [Rat.add_comm, Rat.add_comm a.2]
theorem sumQ_first (t : Nat → Q2) (n : Nat) : sumQ t (n + 1) = addQ (t 0) (sumQ (fun i => t (i + 1)) n) := by
  induction n with
  | zero => show addQ (0, 0) (t 0) = addQ (t 0) (0, 0); rw [addQ_comm]
  | succ n ih =>
    show addQ (sumQ t (n + 1)) (t (n + 1)) = addQ (t 0) (addQ (sumQ (fun i => t (i + 1)) n) (t (n + 1)))
    rw [ih, addQ_assoc]
theorem sumQ_rev (t : Nat → Q2) (n : Nat) : sumQ t n = sumQ (fun i => t (n - 1 - i)) n := by
  induction n with
  | zero => rfl
  | succ n ih =>
    rw [sumQ_first (fun i => t (n + 1 - 1 - i))]
    show addQ (sumQ t n) (t n) = addQ (t (n + 1 - 1 - 0)) _
    rw [ih, addQ_comm]
    congr 1
    exact sumQ_congr fun i hi => by
      show t (n - 1 - i) = t (n + 1 - 1 - (i + 1))
      congr 1; omega
theorem sumQ_rot (g : Nat → Q2) {n k : Nat} (hk : k ≤ n) : sumQ (fun j => g ((j + k) % n)) n = sumQ g n := by
  have e : sumQ g n = sumQ g (k + (n - k)) := by rw [show k + (n - k) = n by omega]
  have e2 : sumQ (fun j => g ((j + k) % n)) n = sumQ (fun j => g ((j + k) % n)) ((n - k) + k) := by rw [show n - k + k = n by omega]
  rw [e, e2, sumQ_split, sumQ_split, addQ_comm]
  congr 1
  · exact sumQ_congr fun i hi => by
      show g ((n - k + i + k) % n) = g i
      rw [show n - k + i + k = n + i by omega, Nat.add_mod_left, Nat.mod_eq_of_lt (by omega)]
  · exact sumQ_congr fun i hi => by
      show g ((i + k) % n) = g (k + i)
      rw [Nat.mod_eq_of_lt (by omega), Nat.add_comm]
theorem sumQ_mirror (g : Nat → Q2) (n : Nat) : sumQ (fun j => g ((n - j) % n)) n = sumQ g n := by
  cases n with
  | zero => rfl
  | succ m =>
    rw [sumQ_first, sumQ_first g, sumQ_rev (fun i => g (i + 1))]
    congr 1
    · show g ((m + 1 - 0) % (m + 1)) = g 0
      rw [Nat.sub_zero, Nat.mod_self]
    · exact sumQ_congr fun i hi => by
        show g ((m + 1 - (i + 1)) % (m + 1)) = g (m - 1 - i + 1)
        rw [Nat.mod_eq_of_lt (by omega)]
        congr 1; omega

/-- The transform of a sum. -/
theorem dft_add (x y : Nat → Q2) (n k : Nat) : dft (fun j => addQ (x j) (y j)) n k = addQ (dft x n k) (dft y n k) := by
  unfold dft
  rw [← sumQ_add]
  exact sumQ_congr fun j _ => addQ_mul _ _ _
theorem dft_congr {x y : Nat → Q2} {n : Nat} (h : ∀ j, j < n → x j = y j) (k : Nat) : dft x n k = dft y n k := by
  unfold dft
  exact sumQ_congr fun j hj => by rw [h j hj]
/-- The transform of a signal that is mirrored. -/
theorem dft_mirror (x : Nat → Q2) {n k : Nat} (hk : k < n) : dft (fun j => x ((n - j) % n)) n k = dft x n ((n - k) % n) := by
  refine Eq.trans (sumQ_congr fun j hj => ?_) (sumQ_mirror (fun j => mulQ (x j) (cisr n (j * ((n - k) % n)))) n)
  show mulQ (x ((n - j) % n)) (cisr n (j * k)) = mulQ (x ((n - j) % n)) (cisr n ((n - j) % n * ((n - k) % n)))
  refine congrArg (mulQ _) (cisr_congr ?_)
  rw [← Nat.mul_mod]
  have e : (n - j) * (n - k) + n * (j + k) = j * k + n * n := by
    obtain ⟨a, ha⟩ : ∃ a, n = j + a := ⟨n - j, by omega⟩
    obtain ⟨b, hb⟩ : ∃ b, n = k + b := ⟨n - k, by omega⟩
    rw [show n - j = a by omega, show n - k = b by omega]
    have h1 : n * (j + k) = n * j + k * n := by rw [Nat.mul_add, Nat.mul_comm n k]
    rw [h1]
    have h2 : a * b + n * j + k * n = j * k + n * n := by
      have e1 : n * j = (k + b) * j := by rw [← hb]
      have e2 : k * n = k * (j + a) := by rw [← ha]
      have e3 : n * n = (k + b) * (j + a) := by rw [← hb, ← ha]
      rw [e1, e2, e3]
      simp only [Nat.mul_add, Nat.add_mul]
      have c1 := Nat.mul_comm a b
      have c2 := Nat.mul_comm j k
      omega
    omega
  have : ((n - j) * (n - k) + n * (j + k)) % n = (j * k + n * n) % n := by rw [e]
  rw [Nat.add_mul_mod_self_left, Nat.add_mul_mod_self_left] at this
  exact this.symm
/-- The transform of a signal that is rotated. -/
theorem dft_rot {x : Nat → Q2} {s : Nat → Rat} {n k K : Nat} (hk : k < n) (hx : ∀ j, j < n → nrm (x j) ≤ s j) :
    NearQ (dft (fun j => x ((j + k) % n)) n K) (mulQ (dft x n K) (cisr n ((n - 1) * (K * k)))) (psum s n * (6 * dl)) := by
  have hn : 0 < n := by omega
  have e : dft (fun j => x ((j + k) % n)) n K = sumQ (fun i => mulQ (x i) (cisr n (i * K + (n - 1) * (K * k)))) n := by
    refine Eq.trans (sumQ_congr fun j hj => ?_) (sumQ_rot (fun i => mulQ (x i) (cisr n (i * K + (n - 1) * (K * k)))) (Nat.le_of_lt hk))
    show mulQ (x ((j + k) % n)) (cisr n (j * K)) = mulQ (x ((j + k) % n)) (cisr n ((j + k) % n * K + (n - 1) * (K * k)))
    refine congrArg (mulQ _) (cisr_congr ?_)
    rw [Nat.add_mod, Nat.mod_mul_mod, ← Nat.add_mod]
    have : (j + k) * K + (n - 1) * (K * k) = j * K + K * k * n := by
      obtain ⟨m, rfl⟩ : ∃ m, n = m + 1 := ⟨n - 1, by omega⟩
      rw [Nat.add_sub_cancel, Nat.add_mul, Nat.mul_add, Nat.mul_one, Nat.mul_comm m, Nat.mul_comm k K]
      omega
    rw [this, Nat.add_mul_mod_self_right]
  rw [e]
  unfold dft
  rw [sumQ_mul]
  have e2 : sumQ (fun i => mulQ (mulQ (x i) (cisr n (i * K))) (cisr n ((n - 1) * (K * k)))) n = sumQ (fun i => mulQ (x i) (mulQ (cisr n (i * K)) (cisr n ((n - 1) * (K * k))))) n := sumQ_congr fun i _ => mulQ_assoc _ _ _
  rw [e2]
  have hd := dl_small.1
  exact weighted_near (by grind) hx fun i hi => (cisr_mul _ _ hn).symm

/-- Zeros. -/
theorem fv_mul_zero {a b : Option Nat} {p q : Rat} (ha : Fv a p) (hb : Fv b q) (h : p * q = 0) : Fv (fop .mul .f64 a b) 0 := by
  have hd : Dy 0 0 (p * q) := by rw [h]; exact Dy.zero _ _
  have := hd.fv_mul (by decide) (by decide) ha hb
  rwa [h] at this
theorem fv_add_zero {a b : Option Nat} (ha : Fv a 0) (hb : Fv b 0) : Fv (fop .add .f64 a b) 0 := by
  have hd : Dy 0 0 ((0 : Rat) + 0) := by rw [Rat.add_zero]; exact Dy.zero _ _
  have := hd.fv_add (by decide) (by decide) ha hb
  rwa [Rat.add_zero] at this
theorem fv_sub_zero {a b : Option Nat} (ha : Fv a 0) (hb : Fv b 0) : Fv (fop .sub .f64 a b) 0 := by
  have e : (0 : Rat) - 0 = 0 := by decide +kernel
  have hd : Dy 0 0 ((0 : Rat) - 0) := by rw [e]; exact Dy.zero _ _
  have := hd.fv_sub (by decide) (by decide) ha hb
  rwa [e] at this
theorem mulZ_zero_l {a b : Z} {q : Q2} (ha : FvQ a (0, 0)) (hb : FvQ b q) : FvQ (mulZ a b) (0, 0) :=
  ⟨fv_sub_zero (fv_mul_zero ha.1 hb.1 (Rat.zero_mul _)) (fv_mul_zero ha.2 hb.2 (Rat.zero_mul _)), fv_add_zero (fv_mul_zero ha.1 hb.2 (Rat.zero_mul _)) (fv_mul_zero ha.2 hb.1 (Rat.zero_mul _))⟩
theorem addZ_zero {a b : Z} (ha : FvQ a (0, 0)) (hb : FvQ b (0, 0)) : FvQ (addZ a b) (0, 0) := ⟨fv_add_zero ha.1 hb.1, fv_add_zero ha.2 hb.2⟩
theorem subZ_zero {a b : Z} (ha : FvQ a (0, 0)) (hb : FvQ b (0, 0)) : FvQ (subZ a b) (0, 0) := ⟨fv_sub_zero ha.1 hb.1, fv_sub_zero ha.2 hb.2⟩
theorem twid_fv {n j : Nat} (hn : 0 < n) (hn2 : n ≤ 2048) : ∃ q, FvQ (twid n j) q := by
  obtain ⟨c, s, ht⟩ := TV.ex (k := rst n j) hn hn2 (Nat.le_of_lt (rst_lt j hn))
  exact ⟨(c, s), ht⟩

/-- The fast transform of zeros. -/
theorem fast_zero {xs ys : List Z} (h : Fast xs ys) : xs.length ≤ 2048 → (∀ j, j < xs.length → FvQ (xs.getD j z0) (0, 0)) → ∀ k, k < xs.length → FvQ (ys.getD k z0) (0, 0) := by
  induction h with
  | small h => intro _ hx k hk; exact hx k hk
  | step hn1 hp hF ih =>
    rename_i xs p ys
    intro hn hx K hK
    have hp2 := hp.two
    obtain ⟨m, hm⟩ := Nat.dvd_of_mod_eq_zero hp.dvd
    have hp0 : 0 < p := by omega
    have hm0 : 0 < m := by
      rcases Nat.eq_zero_or_pos m with h | h
      · subst h; omega
      · exact h
    have hdiv : xs.length / p = m := by rw [hm]; exact Nat.mul_div_cancel_left _ hp0
    have hpn : p ≤ xs.length := hp.le hn1
    have hmn : m ≤ xs.length := by rw [hm]; exact Nat.le_mul_of_pos_left _ hp0
    have hel : ∀ r, r < p → (every xs r p).length = m := fun r hr => every_length hp0 hm hr
    rw [joinP_getD hK, hdiv]
    have hk : K % m < m := Nat.mod_lt _ hm0
    generalize K % m = k at *
    generalize K / m = q at *
    have hY : ∀ r, r < p → FvQ ((ys r).getD k z0) (0, 0) := fun r hr => by
      refine ih r hr (by rw [hel r hr]; omega) (fun j hj => ?_) k (by rw [hel r hr]; exact hk)
      rw [hel r hr] at hj
      rw [every_getD hp0 hm hr hj]
      refine hx _ ?_
      have : (j + 1) * p ≤ m * p := Nat.mul_le_mul_right _ hj
      rw [Nat.add_mul, Nat.one_mul, Nat.mul_comm m p, ← hm] at this
      omega
    have hT : ∀ r, r < p → FvQ (term xs.length ys k r) (0, 0) := fun r hr => by
      unfold term
      split
      · exact hY 0 hp0
      · obtain ⟨c, hc⟩ := twid_fv (n := xs.length) (j := r * k) (by omega) hn
        exact mulZ_zero_l (hY r hr) hc
    have hS : ∀ j, j ≤ p → FvQ (sumT (term xs.length ys k) p q j) (0, 0) := by
      intro j
      induction j with
      | zero => intro _; exact hT 0 hp0
      | succ j ihj =>
        intro hj
        unfold sumT
        split
        · exact hT 0 hp0
        · obtain ⟨c, hc⟩ := twid_fv (n := p) (j := j * q) hp0 (by omega)
          exact addZ_zero (ihj (by omega)) (mulZ_zero_l (hT j (by omega)) hc)
    unfold outP
    split
    · split
      · exact addZ_zero (hT 0 hp0) (hT 1 (by omega))
      · exact subZ_zero (hT 0 hp0) (hT 1 (by omega))
    · exact hS p (Nat.le_refl _)

end Flt
end Go.Proofs.Yteamnfockjnilaa
/-
  The fast transform of signals of few sixteenths; what is rotated, mirrored and added. No program.
-/
set_option linter.unusedVariables false
set_option linter.unusedSimpArgs false
namespace Go.Proofs.Yteamnfockjnilaa
open Go Flt
namespace Flt
open Turn Fast

/-- The sum of the sizes of a signal, which is 0 or not too small. -/
structure Sz (x : Nat → Q2) (n : Nat) (S : Rat) : Prop where
  sum : psum (fun j => nrm (x j)) n = S
  lo : S = 0 ∨ 1 / 16 ≤ S
  hi : S ≤ 1048576
theorem Sz.nonneg {x : Nat → Q2} {n : Nat} {S : Rat} (h : Sz x n S) : 0 ≤ S := by
  rw [← h.sum]; exact psum_nonneg fun i _ => nrm_nonneg _
theorem nrm_zero {z : Q2} (h : nrm z = 0) : z = (0, 0) := by
  have h1 := size_nrm z
  rw [h] at h1
  obtain ⟨a, b⟩ := h1.re
  obtain ⟨c, d⟩ := h1.im
  refine Prod.ext ?_ ?_
  · show z.1 = 0; grind
  · show z.2 = 0; grind
theorem Sz.zeros {x : Nat → Q2} {n : Nat} (h : Sz x n 0) : ∀ j, j < n → x j = (0, 0) := fun j hj => by
  have h1 := psum_term (p := fun j => nrm (x j)) (fun i _ => nrm_nonneg _) hj
  rw [h.sum] at h1
  exact nrm_zero (Rat.le_antisymm h1 (nrm_nonneg _))
theorem dft_zeros {x : Nat → Q2} {n : Nat} (h : ∀ j, j < n → x j = (0, 0)) (k : Nat) : dft x n k = (0, 0) := by
  have : ∀ m, m ≤ n → sumQ (fun j => mulQ (x j) (cisr n (j * k))) m = (0, 0) := by
    intro m
    induction m with
    | zero => intro _; rfl
    | succ m ih =>
      intro hm
      show addQ (sumQ _ m) (mulQ (x m) _) = _
      rw [ih (by omega), h m (by omega), zero_mulQ, addQ_zero]
  exact this n (Nat.le_refl _)
theorem Sz.mid {x : Nat → Q2} {n : Nat} {S : Rat} (h : Sz x n S) (h0 : 1 / 16 ≤ S) : Mid S := ⟨Rat.le_trans (by decide +kernel) h0, Rat.le_trans h.hi (by decide +kernel)⟩
theorem Sz.size {x : Nat → Q2} {n : Nat} {S : Rat} (h : Sz x n S) (hn : 0 < n) (k : Nat) : SizeQ (dft x n k) (S * (1001 / 1000)) := by
  have hd := dl_small
  rw [← h.sum]
  exact weighted_size (by decide +kernel) (fun i _ => Rat.le_refl) fun i hi => (cisr_size _ hn).mono (by grind)
theorem psum_const (c : Rat) (n : Nat) : psum (fun _ => c) n = (n : Rat) * c := by
  induction n with
  | zero => show (0 : Rat) = ((0 : Nat) : Rat) * c; rw [show ((0 : Nat) : Rat) = 0 from rfl, Rat.zero_mul]
  | succ n ih => rw [psum_succ, ih, Rat.natCast_add]; show _ = ((n : Rat) + 1) * c; grind

/-- The fast transform of few sixteenths. -/
theorem few_fast {xs ys : List Z} (h : Fast xs ys) {x : Nat → Q2} {n : Nat} {S : Rat} (hl : xs.length = n) (hn : n ≤ 20) (hx : ∀ j, j < n → FvQ (xs.getD j z0) (x j)) (hS : Sz x n S) :
    ∀ k, k < n → ∃ v, FvQ (ys.getD k z0) v ∧ NearQ v (dft x n k) (S / 2199023255552) := by
  intro k hk
  rcases hS.lo with h0 | h0
  · subst h0
    have hz := hS.zeros
    refine ⟨(0, 0), fast_zero h (by omega) (fun j hj => by have := hx j (by omega); rwa [hz j (by omega)] at this) k (by omega), ?_⟩
    rw [dft_zeros hz]
    exact NearQ.refl _ (by decide +kernel)
  · have hsum : psum (fun j => nrm (x j) + 1 / 1099511627776) n = S + (n : Rat) * (1 / 1099511627776) := by
      rw [psum_add (fun j => nrm (x j)) (fun _ => 1 / 1099511627776), hS.sum, psum_const]
    have hn2 : (n : Rat) ≤ 20 := Rat.natCast_le_natCast.2 (show n ≤ 20 by omega)
    have hn1 : (1 : Rat) ≤ (n : Rat) := Rat.natCast_le_natCast.2 (show 1 ≤ n by omega)
    have hhi := hS.hi
    obtain ⟨v, h1, h2⟩ := fast_near h x (fun j => nrm (x j) + 1 / 1099511627776) (fun j hj => hx j (by omega)) (by
      rw [hl]
      exact ⟨fun j hj => by grind, fun j hj => by have := nrm_nonneg (x j); grind⟩) (by omega) (by
        rw [hl, hsum]; grind) k (by omega)
    rw [hl] at h2
    refine ⟨v, h1, h2.mono ?_⟩
    rw [hsum]
    have he : err n ≤ 1140 := by unfold err; grind
    have hu : 4503599627370496 * ulp = 1 := by decide +kernel
    have hb : S + (n : Rat) * (1 / 1099511627776) ≤ S * (1001 / 1000) := by grind
    have hp : 0 ≤ ulp * (S * (1001 / 1000)) := Rat.mul_nonneg (Rat.le_of_lt ulp_pos) (by grind)
    have he0 : 0 ≤ err n := by unfold err; grind
    have a1 : ulp * (S + (n : Rat) * (1 / 1099511627776)) ≤ ulp * (S * (1001 / 1000)) := Rat.mul_le_mul_of_nonneg_left hb (Rat.le_of_lt ulp_pos)
    have a2 := Rat.mul_le_mul_of_nonneg_left a1 he0
    have a3 := Rat.mul_le_mul_of_nonneg_right he hp
    have a4 : ulp * (S * (1001 / 1000)) = S * (1001 / 1000) / 4503599627370496 := by
      rw [show ulp = 1 / 4503599627370496 from rfl, Rat.div_def, Rat.div_def, Rat.one_mul]
      exact Rat.mul_comm _ _
    rw [a4] at a3
    refine Rat.le_trans a2 ?_
    rw [a4]
    refine Rat.le_trans a3 ?_
    clear h h1 h2 hx hS hsum a1 a2 a3 a4 hu hp hb
    grind

/-- Both are near one number. -/
theorem NearQ.meet {a b c : Q2} {e f : Rat} (h : NearQ a c e) (k : NearQ b c f) : NearQ a b (e + f) := h.trans k.symm

/-- Rotated: the transform of what is rotated, and the transform that is modulated. -/
theorem rot_near {xs rs ts bs : List Z} {x : Nat → Q2} {n k : Nat} {S : Rat} (hx : ∀ j, j < n → FvQ (xs.getD j z0) (x j)) (hl : xs.length = n) (hn : n ≤ 20) (hk : k < n) (hr : rs.length = n) (hrs : ∀ j, j < n → rs.getD j z0 = xs.getD ((j + k) % n) z0) (hS : Sz x n S) (ht : Fast xs ts) (ha : Fast rs bs) :
    ∀ K, K < n → ∃ v u, FvQ (bs.getD K z0) v ∧ FvQ (mulZ (ts.getD K z0) (turn n (K * k % n))) u ∧ NearQ v u (2 * (S / 68719476736)) := by
  intro K hK
  have hn0 : 0 < n := by omega
  have hx' : ∀ j, j < n → FvQ (rs.getD j z0) (x ((j + k) % n)) := fun j hj => by rw [hrs j hj]; exact hx _ (Nat.mod_lt _ hn0)
  have hS' : Sz (fun j => x ((j + k) % n)) n S := ⟨by
    rw [← hS.sum]
    have := congrArg Prod.fst (sumQ_rot (fun j => (nrm (x j), 0)) (Nat.le_of_lt hk))
    have e : ∀ (f : Nat → Rat) m, (sumQ (fun j => (f j, 0)) m).1 = psum f m := fun f m => by
      induction m with
      | zero => rfl
      | succ m ih => rw [psum_succ, ← ih]; rfl
    rw [e (fun j => nrm (x j))] at this
    rw [← this, ← e (fun j => nrm (x ((j + k) % n)))], hS.lo, hS.hi⟩
  obtain ⟨v, v1, v2⟩ := few_fast ha hr hn hx' hS' K hK
  obtain ⟨t, t1, t2⟩ := few_fast ht hl hn hx hS K hK
  have hmod : K * k % n < n := Nat.mod_lt _ hn0
  rcases hS.lo with h0 | h0
  · subst h0
    have hz := hS.zeros
    rw [dft_zeros hz] at t2
    rw [dft_zeros (hS'.zeros)] at v2
    have e0 : (0 : Rat) / 2199023255552 = 0 := by decide +kernel
    rw [e0] at t2 v2
    have z : ∀ {q : Q2}, NearQ q (0, 0) 0 → q = (0, 0) := fun {q} h => by
      obtain ⟨a, b⟩ := near_size.1 h.re
      obtain ⟨c, d⟩ := near_size.1 h.im
      refine Prod.ext ?_ ?_
      · show q.1 = 0; grind
      · show q.2 = 0; grind
    rw [z t2] at t1
    rw [z v2] at v1
    obtain ⟨c, s, hc⟩ := TV.ex (k := K * k % n) hn0 (by omega) (Nat.le_of_lt hmod)
    exact ⟨(0, 0), (0, 0), v1, mulZ_zero_l (q := (c, s)) t1 hc, NearQ.refl _ (by decide +kernel)⟩
  · have hm := hS.mid h0
    have hd := dl_small
    have hp := hm.pos
    obtain ⟨u, u1, u2⟩ := cmul_cis (n := n) (k := K * k % n) t1 t2 (hS.size hn0 K) (by grind) (by grind) hm (by have := hS.hi; grind) hn0 (by omega) (Nat.le_of_lt hmod)
    have ec : cis (((K * k % n : Nat) : Rat) / (n : Rat)) = cisr n ((n - 1) * (K * k)) := by unfold cisr; rw [rst_back _ hn0]
    rw [ec] at u2
    have hrot := dft_rot (K := K) hk (fun j hj => (Rat.le_refl : nrm (x j) ≤ nrm (x j)))
    rw [hS.sum] at hrot
    refine ⟨v, u, v1, u1, ((v2.trans hrot).meet u2).mono ?_⟩
    have hu : ulp * S = S / 4503599627370496 := by
      rw [show ulp = 1 / 4503599627370496 from rfl, Rat.div_def, Rat.div_def, Rat.one_mul]
      exact Rat.mul_comm _ _
    have hdS : S * (6 * dl) ≤ S * (6 * (1 / 1000000000000)) := Rat.mul_le_mul_of_nonneg_left (by grind) (Rat.le_of_lt hp)
    rw [hu]
    generalize S * (6 * dl) = G at *
    clear v1 v2 t1 t2 u1 u2 hrot hS hS' hx hx' hm hd hu ec ht ha hrs
    grind

/-- Mirrored. -/
theorem mir_near {xs rs ts bs : List Z} {x : Nat → Q2} {n : Nat} {S : Rat} (hx : ∀ j, j < n → FvQ (xs.getD j z0) (x j)) (hl : xs.length = n) (hn : n ≤ 20) (hr : rs.length = n) (hrs : ∀ j, j < n → rs.getD j z0 = xs.getD ((n - j) % n) z0) (hS : Sz x n S) (ht : Fast xs ts) (ha : Fast rs bs) :
    ∀ K, K < n → ∃ v u, FvQ (bs.getD K z0) v ∧ FvQ (ts.getD ((n - K) % n) z0) u ∧ NearQ v u (2 * (S / 68719476736)) := by
  intro K hK
  have hn0 : 0 < n := by omega
  have hx' : ∀ j, j < n → FvQ (rs.getD j z0) (x ((n - j) % n)) := fun j hj => by rw [hrs j hj]; exact hx _ (Nat.mod_lt _ hn0)
  have hS' : Sz (fun j => x ((n - j) % n)) n S := ⟨by
    rw [← hS.sum]
    have := congrArg Prod.fst (sumQ_mirror (fun j => (nrm (x j), 0)) n)
    have e : ∀ (f : Nat → Rat) m, (sumQ (fun j => (f j, 0)) m).1 = psum f m := fun f m => by
      induction m with
      | zero => rfl
      | succ m ih => rw [psum_succ, ← ih]; rfl
    rw [e (fun j => nrm (x j))] at this
    rw [← this, ← e (fun j => nrm (x ((n - j) % n)))], hS.lo, hS.hi⟩
  obtain ⟨v, v1, v2⟩ := few_fast ha hr hn hx' hS' K hK
  obtain ⟨t, t1, t2⟩ := few_fast ht hl hn hx hS ((n - K) % n) (Nat.mod_lt _ hn0)
  rw [dft_mirror x hK] at v2
  refine ⟨v, t, v1, t1, (v2.meet t2).mono ?_⟩
  have := hS.nonneg
  clear v1 v2 t1 t2 hS hS' hx hx' ht ha hrs
  grind

/-- Added. -/
theorem add_near' {xs ys ss ts us bs : List Z} {x y : Nat → Q2} {n : Nat} {S R T : Rat} (hx : ∀ j, j < n → FvQ (xs.getD j z0) (x j)) (hy : ∀ j, j < n → FvQ (ys.getD j z0) (y j)) (hl : xs.length = n) (hl' : ys.length = n) (hn : n ≤ 20) (hr : ss.length = n) (hss : ∀ j, j < n → FvQ (ss.getD j z0) (addQ (x j) (y j))) (hS : Sz x n S) (hR : Sz y n R) (hT : Sz (fun j => addQ (x j) (y j)) n T) (hTle : T ≤ S + R) (ht : Fast xs ts) (hu : Fast ys us) (ha : Fast ss bs) :
    ∀ K, K < n → ∃ v u, FvQ (bs.getD K z0) v ∧ FvQ (addZ (ts.getD K z0) (us.getD K z0)) u ∧ NearQ v u (2 * (S / 68719476736 + R / 68719476736)) := by
  intro K hK
  have hn0 : 0 < n := by omega
  obtain ⟨v, v1, v2⟩ := few_fast ha hr hn hss hT K hK
  obtain ⟨t, t1, t2⟩ := few_fast ht hl hn hx hS K hK
  obtain ⟨r, r1, r2⟩ := few_fast hu hl' hn hy hR K hK
  rw [dft_add] at v2
  have hS0 := hS.nonneg
  have hR0 := hR.nonneg
  by_cases h0 : 1 / 16 ≤ S + R
  · have z1 := (t2.add r2).size ((hS.size hn0 K).add (hR.size hn0 K))
    obtain ⟨u, u1, u2⟩ := cadd_near t1 r1 (Y := 11 / 10 * (S + R)) (z1.mono (by clear v1 v2 t1 t2 r1 r2 z1 hS hR hT hx hy hss ht hu ha; grind)) ⟨by grind, by have := hS.hi; have := hR.hi; grind⟩
    refine ⟨v, u, v1, u1, (v2.meet (u2.trans (t2.add r2))).mono ?_⟩
    have e : ulp * (11 / 10 * (S + R)) = 11 / 10 * (S + R) / 4503599627370496 := by
      rw [show ulp = 1 / 4503599627370496 from rfl, Rat.div_def, Rat.div_def, Rat.one_mul]
      exact Rat.mul_comm _ _
    rw [e]
    clear v1 v2 t1 t2 r1 r2 u1 u2 z1 hS hR hT hx hy hss ht hu ha e
    grind
  · have hS' : S = 0 := by rcases hS.lo with h | h; exact h; grind
    have hR' : R = 0 := by rcases hR.lo with h | h; exact h; grind
    subst hS'
    subst hR'
    have hT' : T = 0 := Rat.le_antisymm (by grind) hT.nonneg
    subst hT'
    have e0 : (0 : Rat) / 2199023255552 = 0 := by decide +kernel
    have z : ∀ {q : Q2}, NearQ q (0, 0) 0 → q = (0, 0) := fun {q} h => by
      obtain ⟨a, b⟩ := near_size.1 h.re
      obtain ⟨c, d⟩ := near_size.1 h.im
      refine Prod.ext ?_ ?_
      · show q.1 = 0; grind
      · show q.2 = 0; grind
    rw [e0, dft_zeros hS.zeros] at t2
    rw [e0, dft_zeros hR.zeros] at r2
    rw [e0, dft_zeros hS.zeros, dft_zeros hR.zeros, addQ_zero] at v2
    rw [z t2] at t1
    rw [z r2] at r1
    rw [z v2] at v1
    exact ⟨(0, 0), (0, 0), v1, addZ_zero t1 r1, NearQ.refl _ (by decide +kernel)⟩

end Flt
end Go.Proofs.Yteamnfockjnilaa
/-
  Words with a value, and the operations on them. No program.
-/
set_option linter.unusedVariables false
set_option linter.unusedSimpArgs false
namespace Go.Proofs.Yteamnfockjnilaa
open Go.RowKit Flt

/-- A word with a value. -/
def Has (u : Nat) (q : Rat) : Prop := Fin u ∧ fq u = q
theorem Has.lt {u : Nat} {q : Rat} (h : Has u q) : u < 18446744073709551616 := h.1.1
theorem Has.isF {u : Nat} {q : Rat} (h : Has u q) : IsF u (some u) := by
  refine IsF.lit ?_ h.1.1
  show nan Ieee.double u = false
  rw [nan64]
  have := h.1.2
  simp; omega
theorem Has.fv {u : Nat} {q : Rat} (h : Has u q) : Fv (some u) q := ⟨u, rfl, h.1, h.2⟩
theorem Has.of {u : Nat} {z : Option Nat} {q : Rat} (h : IsF u z) (hz : Fv z q) : Has u q := Fv.of_isF h hz
theorem has_int {u : Nat} {n : Int} (h : n.natAbs < 2 ^ 53) (e : floatOfInt .f64 n = u) : Has u (n : Rat) := by
  obtain ⟨x, e1, h1, h2⟩ := fv_int_exact h
  cases e1
  rw [e] at h1 h2
  exact ⟨h1, h2⟩
theorem has_one : Has 4607182418800017408 1 := has_int (n := 1) (by decide) (by decide)
theorem has_three : Has 4613937818241073152 3 := has_int (n := 3) (by decide) (by decide)
theorem has_eight : Has 4620693217682128896 8 := has_int (n := 8) (by decide) (by decide)
theorem has_zero : Has 0 0 := has_int (n := 0) (by decide) (by decide)

theorem has_neg {u : Nat} {q : Rat} (h : Has u q) : Has (Op.negFloat .f64 u) (-q) := by
  have e : Op.negFloat .f64 u = u ^^^ 2 ^ 63 := rfl
  obtain ⟨h1, rfl⟩ := h
  obtain ⟨neg, r, hr, rfl⟩ := fin_parts h1
  have hs : Ieee.double.signWeight = 9223372036854775808 := by decide
  have hr' := hr
  rw [ir64] at hr'
  have e2 : Op.negFloat .f64 (Ieee.double.word neg r) = Ieee.double.word (!neg) r := by
    show Ieee.double.word neg r ^^^ 2 ^ 63 = _
    unfold Ieee.Format.word
    rw [hs]
    cases neg
    · simp only [Bool.false_eq_true, if_false, Bool.not_false, if_true]
      rw [neg64_lo (x := r) (by omega)]; omega
    · simp only [Bool.not_true, Bool.false_eq_true, if_false, if_true]
      rw [neg64_hi (x := 9223372036854775808 + r) (by omega) (by omega)]; omega
  rw [e2]
  refine ⟨fin_word _ hr, ?_⟩
  rw [fq_word _ hr, fq_word _ hr]
  cases neg
  · rfl
  · simp only [Bool.not_true, Bool.false_eq_true, if_false, if_true]; rw [Rat.neg_neg]

theorem run_has {op : BinOp} (hop : op = .add ∨ op = .sub ∨ op = .mul ∨ op = .quo) {x y : Nat} {r : Rat} (hr : Fv (fop op .f64 (some x) (some y)) r) :
    ∃ d, Has d r ∧ ∀ (P : Program) (t : TypeId) (w : World), (binOp op t (.float .f64 x) (.float .f64 y)).run P w = .ok (.float .f64 d) w := by
  obtain ⟨d, e, h1, h2⟩ := hr
  have e' : floatBits op .f64 x y = some d := e
  refine ⟨d, ⟨h1, h2⟩, fun P t w => ?_⟩
  have f1 : fres op .f64 x y w = d := by unfold fres; rw [e']
  have f2 : fcnt op .f64 x y = 0 := by unfold fcnt; rw [e']
  rcases hop with rfl | rfl | rfl | rfl
  · rw [run_fadd, f1, f2]; rfl
  · rw [run_fsub, f1, f2]; rfl
  · rw [run_fmul, f1, f2]; rfl
  · rw [run_fquo, f1, f2]; rfl

theorem eq_has {x y : Nat} {q : Rat} (hx : Has x q) (hy : Has y q) : (FloatKind.f64.format.order x y == some .eq) = true := by
  have := order_eq_q hx.1 hy.1 (by rw [hx.2, hy.2])
  show (Ieee.double.order x y == some .eq) = true
  rw [this]; rfl

end Go.Proofs.Yteamnfockjnilaa
/-
  Real pairs: the conjugate of an exact transform, and float sums with both signs turned. No program.
-/
set_option linter.unusedVariables false
set_option linter.unusedSimpArgs false
namespace Go.Proofs.Yteamnfockjnilaa
open Go Flt
namespace Flt
open Turn Fast Ieee

def conjQ (z : Q2) : Q2 := (z.1, -z.2)
theorem conjQ_add (a b : Q2) : conjQ (addQ a b) = addQ (conjQ a) (conjQ b) := by
  unfold conjQ addQ; refine Prod.ext rfl ?_; simp only; grind
theorem conjQ_mul (a b : Q2) : conjQ (mulQ a b) = mulQ (conjQ a) (conjQ b) := by
  unfold conjQ mulQ; refine Prod.ext ?_ ?_ <;> simp only <;> grind
theorem conjQ_sum (t : Nat → Q2) (n : Nat) : conjQ (sumQ t n) = sumQ (fun i => conjQ (t i)) n := by
  induction n with
  | zero => show conjQ (0, 0) = (0, 0); unfold conjQ; refine Prod.ext rfl ?_; simp only; grind
  | succ n ih => show conjQ (addQ (sumQ t n) (t n)) = addQ _ _; rw [conjQ_add, ih]
theorem conj_cisr {n j k : Nat} (hj : j < n) (hk : k < n) : NearQ (conjQ (cisr n (j * ((n - k) % n)))) (cisr n (j * k)) (5 * dl) := by
  have hn : 0 < n := by omega
  have hd := dl_small.1
  -- the place of the other one
  have hm : rst n (j * ((n - k) % n)) = j * k % n := by
    rw [← rst_back (j * k) hn]
    refine rst_congr ?_
    rw [Nat.mul_mod, Nat.mod_mod, ← Nat.mul_mod]
    obtain ⟨m, rfl⟩ : ∃ m, n = k + m := ⟨n - k, by omega⟩
    have e : (k + m - 1) * (j * k) + j * k = (k + m) * (j * k) := by
      have := Nat.succ_mul (k + m - 1) (j * k)
      rw [show (k + m - 1).succ = k + m by omega] at this
      exact this.symm
    have e2 : j * (k + m - k) + j * k = (k + m) * j := by
      rw [show k + m - k = m by omega, ← Nat.mul_add, Nat.mul_comm, Nat.add_comm]
    have h1 : (j * (k + m - k) + j * k) % (k + m) = 0 := by rw [e2, Nat.mul_mod_right]
    have h2 : ((k + m - 1) * (j * k) + j * k) % (k + m) = 0 := by rw [e, Nat.mul_mod_right]
    generalize j * (k + m - k) = A at *
    generalize (k + m - 1) * (j * k) = B at *
    generalize j * k = D at *
    generalize k + m = N at *
    have : ∀ A, (A + D) % N = 0 → A % N = (N - D % N) % N := fun A h => by
      rw [Nat.add_mod] at h
      have a1 := Nat.mod_lt A hn
      have a2 := Nat.mod_lt D hn
      generalize A % N = x at *
      generalize D % N = y at *
      by_cases hxy : x + y < N
      · rw [Nat.mod_eq_of_lt hxy] at h
        rw [show y = 0 by omega, Nat.sub_zero, Nat.mod_self]; omega
      · rw [Nat.mod_eq_sub_mod (by omega), Nat.mod_eq_of_lt (by omega)] at h
        rw [Nat.mod_eq_of_lt (by omega)]; omega
    rw [this A h1, this B h2]
  have hr := Nat.mod_lt (j * k) hn
  unfold cisr
  rw [hm]
  have hk2 : rst n (j * k) = (n - j * k % n) % n := rfl
  rw [hk2]
  generalize j * k % n = r at *
  by_cases h0 : r = 0
  · subst h0
    rw [Nat.sub_zero, Nat.mod_self]
    have : ((0 : Nat) : Rat) / (n : Rat) = 0 := by rw [Rat.div_def]; exact Rat.zero_mul _
    rw [this]
    unfold cis conjQ
    rw [cq_zero.1, cq_zero.2]
    have e : ((1, -0) : Q2) = (1, 0) := by refine Prod.ext rfl ?_; simp only; grind
    simp only
    rw [show (-0 : Rat) = 0 by grind]
    exact NearQ.refl _ (by grind)
  · rw [Nat.mod_eq_of_lt (by omega)]
    have e : ((n - r : Nat) : Rat) / (n : Rat) = 1 - (r : Rat) / (n : Rat) := by
      have g0 := Rat.mul_inv_cancel _ (Rat.ne_of_gt (Rat.natCast_pos.2 hn))
      have e1 : ((n - r : Nat) : Rat) = (n : Rat) - (r : Rat) := by
        have : ((n - r : Nat) : Rat) + (r : Rat) = (n : Rat) := by rw [← Rat.natCast_add]; congr 1; omega
        grind
      rw [e1, Rat.div_def, Rat.div_def]; grind
    rw [e]
    obtain ⟨m1, m2⟩ := cq_mirror (part_size hn (Nat.le_of_lt hr))
    exact ⟨m1.symm, by
      show Near (-sq _) (sq _) _
      exact m2.symm⟩
/-- The conjugate of the transform of a real signal. -/
theorem dft_conj {x : Nat → Q2} {s : Nat → Rat} {n k : Nat} (hk : k < n) (hx : ∀ j, j < n → nrm (x j) ≤ s j) (hr : ∀ j, j < n → (x j).2 = 0) : NearQ (conjQ (dft x n ((n - k) % n))) (dft x n k) (psum s n * (5 * dl)) := by
  have hd := dl_small.1
  unfold dft
  rw [conjQ_sum]
  have e : sumQ (fun i => conjQ (mulQ (x i) (cisr n (i * ((n - k) % n))))) n = sumQ (fun i => mulQ (x i) (conjQ (cisr n (i * ((n - k) % n))))) n := sumQ_congr fun i hi => by
    show conjQ (mulQ (x i) _) = _
    rw [conjQ_mul]
    congr 1
    unfold conjQ
    refine Prod.ext rfl ?_
    simp only
    rw [hr i hi]; grind
  rw [e]
  exact weighted_near (by grind) hx fun i hi => conj_cisr hi hk

/-- A sum with both signs turned. -/
theorem sum_turned {s t : Bool} {m n : Nat} {i j : Int} : (((Datum.number (!s) m i).sum (.number (!t) n j)).map Ieee.double.write = (((Datum.number s m i).sum (.number t n j)).map Ieee.double.write).map (Op.negFloat .f64)) ∨
    ((∃ u, ((Datum.number s m i).sum (.number t n j)).map Ieee.double.write = some u ∧ Has u 0) ∧ (∃ u, ((Datum.number (!s) m i).sum (.number (!t) n j)).map Ieee.double.write = some u ∧ Has u 0)) := by
  simp only [Datum.sum, Option.map_some, Ieee.Format.write]
  have hs : ∀ (b : Bool) (m e : Nat), signed (!b) m e = -signed b m e := fun b m e => by unfold signed; cases b <;> simp
  rw [hs, hs]
  generalize signed s m (i - min i j).toNat = A
  generalize signed t n (j - min i j).toNat = B
  by_cases h0 : A + B = 0
  · right
    have h1 : -A + -B = 0 := by omega
    have hz : ∀ (b : Bool) (p : Int), Has (Ieee.double.nearest b 0 p) 0 := fun b p => by
      unfold Ieee.Format.nearest
      rw [if_pos rfl]
      have hf : 0 < Ieee.double.infRung := by rw [ir64]; omega
      refine ⟨fin_word _ hf, ?_⟩
      rw [fq_word _ hf, rq_zero]
      split <;> grind
    rw [h0, h1]
    exact ⟨⟨_, rfl, hz _ _⟩, ⟨_, rfl, hz _ _⟩⟩
  · left
    rw [if_neg h0, if_neg (show ¬ -A + -B = 0 by omega)]
    have e1 : (-A + -B).natAbs = (A + B).natAbs := by omega
    have e2 : decide (-A + -B < 0) = !decide (A + B < 0) := by
      by_cases h : A + B < 0
      · rw [decide_eq_true h, decide_eq_false (by omega)]; rfl
      · rw [decide_eq_false h, decide_eq_true (by omega)]; rfl
    rw [e1, e2]
    exact congrArg some (nearest_neg _ _ _)

end Flt
end Go.Proofs.Yteamnfockjnilaa
