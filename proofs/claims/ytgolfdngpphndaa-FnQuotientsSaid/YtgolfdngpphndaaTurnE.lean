import Derived.Test.YtgolfdngpphndaaTurnN
/-
  Turns that are mirrored, opposite and written otherwise, by their values; products of turns. No program.
-/
set_option linter.unusedVariables false
set_option linter.unusedSimpArgs false
namespace Go.Proofs.Ytgolfdngpphndaa
open Go Flt
namespace Flt
open Turn

/-- A turn with its values. -/
def TV (n k : Nat) (r s : Rat) : Prop := Fv (turn n k).1 r ∧ Fv (turn n k).2 s

theorem Fv.uniq {z : O} {p q : Rat} (h : Fv z p) (k : Fv z q) : p = q := by
  obtain ⟨x, e1, -, rfl⟩ := h
  obtain ⟨y, e2, -, rfl⟩ := k
  rw [e1] at e2; cases e2; rfl
theorem TV.ex {n k : Nat} (hn : 0 < n) (hn2 : n ≤ 2048) (hk : k ≤ n) : ∃ r s, TV n k r s := by
  obtain ⟨r, s, h1, h2, -, -⟩ := turn_near hn hn2 hk
  exact ⟨r, s, h1, h2⟩
theorem TV.near {n k : Nat} {r s : Rat} (h : TV n k r s) (hn : 0 < n) (hn2 : n ≤ 2048) (hk : k ≤ n) : Near r (cq ((k : Rat) / (n : Rat))) (14 * ulp) ∧ Near s (sq ((k : Rat) / (n : Rat))) (14 * ulp) := by
  obtain ⟨r', s', h1, h2, h3, h4⟩ := turn_near hn hn2 hk
  rw [h.1.uniq h1, h.2.uniq h2]
  exact ⟨h3, h4⟩

/-- The same fraction, written otherwise. -/
theorem turn_scale {n k g : Nat} (hg : 0 < g) (hn : 0 < n) : turn (g * n) (g * k) = turn n k := by
  rw [turn_red (n := g * n) (Nat.mul_pos hg hn), turn_red hn, Nat.gcd_mul_left, Nat.mul_div_mul_left _ _ hg, Nat.mul_div_mul_left _ _ hg]

theorem lowest {n k : Nat} (hn : 0 < n) : ∃ g a b, 0 < g ∧ n = g * a ∧ k = g * b ∧ a.gcd b = 1 ∧ 0 < a ∧ turn n k = turn a b := by
  have hg : 0 < n.gcd k := Nat.gcd_pos_of_pos_left _ hn
  refine ⟨n.gcd k, n / n.gcd k, k / n.gcd k, hg, (Nat.mul_div_cancel' (Nat.gcd_dvd_left n k)).symm, (Nat.mul_div_cancel' (Nat.gcd_dvd_right n k)).symm, ?_, Nat.div_pos (Nat.le_of_dvd hn (Nat.gcd_dvd_left n k)) hg, turn_red hn⟩
  rw [Nat.gcd_div (Nat.gcd_dvd_left n k) (Nat.gcd_dvd_right n k)]
  exact Nat.div_self hg

/-- What stands at some parts. -/
theorem TV.zero {n : Nat} (hn : 0 < n) : TV n 0 1 0 := by
  have h : turn n 0 = (oneO, zeroO) := by
    rw [turn_red hn, Nat.gcd_zero_right, Nat.zero_div]
    exact turn_zero (by rw [Nat.gcd_zero_right]; exact Nat.div_self hn) rfl
  unfold TV; rw [h]; exact ⟨one_fv, zero_fv⟩
theorem TV.half : TV 2 1 (-1) 0 := by
  have h : turn 2 1 = (fneg .f64 (turn 4 0).1, (turn 4 0).2) := turn_four (by decide) (by decide) (by decide) (by decide) (by decide)
  have h0 : TV 4 0 1 0 := TV.zero (by decide)
  unfold TV at *
  rw [h]; exact ⟨fv_neg h0.1, h0.2⟩
theorem TV.quart : TV 4 1 0 1 := by
  have h : turn 4 1 = ((turn 16 0).2, (turn 16 0).1) := turn_eight (by decide) (by decide) (by decide) (by decide) (by decide) (by decide)
  have h0 : TV 16 0 1 0 := TV.zero (by decide)
  unfold TV at *
  rw [h]; exact ⟨h0.2, h0.1⟩

/-- The mirrored turn. -/
theorem TV.conj {n k : Nat} {r s : Rat} (h : TV n k r s) (hn : 0 < n) (hk0 : 0 < k) (hk : k < n) : TV n (n - k) r (-s) := by
  obtain ⟨g, a, b, hg, e1, e2, hab, ha, ht⟩ := lowest (n := n) (k := k) hn
  have hb : b < a := by
    apply Nat.lt_of_mul_lt_mul_left (a := g)
    omega
  have hb0 : b ≠ 0 := by rintro rfl; omega
  have e3 : n - k = g * (a - b) := by rw [Nat.mul_sub, ← e1, ← e2]
  have ht2 : turn n (n - k) = turn a (a - b) := by rw [e3, e1]; exact turn_scale hg ha
  unfold TV at *
  rw [ht] at h
  rw [ht2]
  have hg2 : a.gcd (a - b) = 1 := by rw [Nat.gcd_self_sub_right (Nat.le_of_lt hb)]; exact hab
  by_cases c1 : a < 2 * b
  · have := turn_two hab hb0 ha (Nat.le_of_lt hb) c1
    rw [this] at h
    have h2 := fv_neg h.2
    refine ⟨h.1, ?_⟩
    obtain ⟨u, e, h3, h4⟩ := h.2
    obtain ⟨v, ev⟩ : ∃ v, (turn a (a - b)).2 = some v := by
      cases hz : (turn a (a - b)).2 with
      | none => rw [hz] at e; cases e
      | some v => exact ⟨v, rfl⟩
    have hx : ∃ q, Fv (turn a (a - b)).2 q := by
      rw [ev] at e ⊢
      cases e
      have hf : Fin (Op.negFloat .f64 (Op.negFloat .f64 v)) := by
        obtain ⟨z, ez, hz1, hz2⟩ := fv_neg (z := some (Op.negFloat .f64 v)) ⟨_, rfl, h3, rfl⟩
        cases ez; exact hz1
      have hvv : Op.negFloat .f64 (Op.negFloat .f64 v) = v := by
        show (v ^^^ 2 ^ 63) ^^^ 2 ^ 63 = v
        rw [Nat.xor_assoc, Nat.xor_self, Nat.xor_zero]
      rw [hvv] at hf
      exact ⟨_, v, rfl, hf, rfl⟩
    obtain ⟨q, hq⟩ := hx
    have := (fv_neg hq).uniq h.2
    rw [← this, Rat.neg_neg]; exact hq
  · by_cases c2 : a = 2 * b
    · have hb1 : b = 1 := by
        rw [c2, Nat.gcd_comm, Nat.gcd_mul_left_right] at hab; exact hab
      subst hb1
      have ha2 : a = 2 := by omega
      subst ha2
      have hh := TV.half
      unfold TV at hh
      have : s = 0 := h.2.uniq hh.2
      subst this
      rw [show -(0 : Rat) = 0 by decide]
      exact ⟨h.1, h.2⟩
    · have := turn_two hg2 (by omega) ha (by omega) (show a < 2 * (a - b) by omega)
      rw [show a - (a - b) = b by omega] at this
      rw [this]
      exact ⟨h.1, fv_neg h.2⟩

/-- The turn that stands on the other side of a quarter. -/
theorem TV.across {H j : Nat} {r s : Rat} (h : TV (2 * H) j r s) (hH : 0 < H) (hj : j ≤ H) : TV (2 * H) (H - j) (-r) s := by
  -- beyond a quarter the rule itself says so
  have rule : ∀ i : Nat, i ≤ H → 4 * i > 2 * H → turn (2 * H) i = (fneg .f64 (turn (2 * H) (H - i)).1, (turn (2 * H) (H - i)).2) := by
    intro i hi h4
    obtain ⟨g, a, b, hg, e1, e2, hab, ha, ht⟩ := lowest (n := 2 * H) (k := i) (by omega)
    have b4 : a < 4 * b := by
      apply Nat.lt_of_mul_lt_mul_left (a := g)
      rw [← e1, Nat.mul_left_comm, ← e2]; omega
    have b2 : ¬ a < 2 * b := by
      intro hc
      have := Nat.mul_lt_mul_of_pos_left hc hg
      rw [← e1, Nat.mul_left_comm, ← e2] at this; omega
    have hb0 : b ≠ 0 := by rintro rfl; omega
    rw [ht, turn_four hab hb0 ha b2 b4]
    have e3 : turn (2 * a) (a - 2 * b) = turn (2 * H) (H - i) := by
      rw [← turn_scale (n := 2 * a) (k := a - 2 * b) hg (by omega), ← turn_scale (n := 2 * H) (k := H - i) (g := 2) (by decide) (by omega)]
      have f1 : g * (2 * a) = 2 * (2 * H) := by rw [Nat.mul_left_comm, ← e1]
      have f2 : g * (a - 2 * b) = 2 * (H - i) := by rw [Nat.mul_sub, ← e1, Nat.mul_left_comm, ← e2]; omega
      rw [f1, f2]
    rw [e3]
  unfold TV at *
  by_cases c1 : 4 * j > 2 * H
  · rw [rule j hj c1] at h
    refine ⟨?_, h.2⟩
    obtain ⟨u, e, h3, h4⟩ := h.1
    obtain ⟨v, ev⟩ : ∃ v, (turn (2 * H) (H - j)).1 = some v := by
      cases hz : (turn (2 * H) (H - j)).1 with
      | none => simp only [] at e; rw [hz] at e; cases e
      | some v => exact ⟨v, rfl⟩
    have hx : ∃ q, Fv (turn (2 * H) (H - j)).1 q := by
      simp only [] at e
      rw [ev] at e ⊢
      cases e
      have hf : Fin (Op.negFloat .f64 (Op.negFloat .f64 v)) := by
        obtain ⟨z, ez, hz1, hz2⟩ := fv_neg (z := some (Op.negFloat .f64 v)) ⟨_, rfl, h3, rfl⟩
        cases ez; exact hz1
      have hvv : Op.negFloat .f64 (Op.negFloat .f64 v) = v := by
        show (v ^^^ 2 ^ 63) ^^^ 2 ^ 63 = v
        rw [Nat.xor_assoc, Nat.xor_self, Nat.xor_zero]
      rw [hvv] at hf
      exact ⟨_, v, rfl, hf, rfl⟩
    obtain ⟨q, hq⟩ := hx
    have := (fv_neg hq).uniq h.1
    rw [← this, Rat.neg_neg]; exact hq
  · by_cases c2 : 4 * j = 2 * H
    · have e : turn (2 * H) j = turn 4 1 := by
        have := turn_scale (n := 4) (k := 1) (g := j) (by omega) (by decide)
        rw [Nat.mul_one] at this
        rw [← this, Nat.mul_comm j 4, c2]
      rw [show H - j = j by omega]
      rw [e] at h ⊢
      have hh := TV.quart
      unfold TV at hh
      have : r = 0 := h.1.uniq hh.1
      subst this
      rw [show -(0 : Rat) = 0 by decide]
      exact h
    · rw [rule (H - j) (by omega) (by omega), show H - (H - j) = j by omega]
      exact ⟨fv_neg h.1, h.2⟩

/-- The turn on the other side. -/
theorem TV.opp {H j : Nat} {r s : Rat} (h : TV (2 * H) j r s) (hH : 0 < H) (hH2 : H ≤ 1024) (hj : j < 2 * H) : TV (2 * H) ((j + H) % (2 * H)) (-r) (-s) := by
  have half : ∀ i r s, i < H → TV (2 * H) i r s → TV (2 * H) (i + H) (-r) (-s) := by
    intro i r s hi h
    have h1 := h.across hH (by omega)
    have h2 := h1.conj (by omega) (by omega) (by omega)
    rwa [show 2 * H - (H - i) = i + H by omega] at h2
  by_cases c : j < H
  · rw [Nat.mod_eq_of_lt (by omega)]
    exact half j r s c h
  · obtain ⟨i, rfl⟩ : ∃ i, j = i + H := ⟨j - H, by omega⟩
    have e : (i + H + H) % (2 * H) = i := by
      rw [show i + H + H = i + 2 * H by omega, Nat.add_mod_right, Nat.mod_eq_of_lt (by omega)]
    rw [e]
    obtain ⟨r', s', h'⟩ := TV.ex (n := 2 * H) (k := i) (by omega) (by omega) (by omega)
    have h2 := half i r' s' (by omega) h'
    have e1 := h.1.uniq h2.1
    have e2 := h.2.uniq h2.2
    subst e1 e2
    rw [Rat.neg_neg, Rat.neg_neg]
    exact h'

/-- Turns are multiplied as they are added. -/
theorem TV.mul {n j k : Nat} {r s r' s' r'' s'' : Rat} (hn : 0 < n) (hn2 : n ≤ 2048) (hj : j < n) (hk : k < n) (h : TV n j r s) (h' : TV n k r' s') (h'' : TV n ((j + k) % n) r'' s'') :
    Near (r * r' - s * s') r'' (100 * ulp) ∧ Near (r * s' + s * r') s'' (100 * ulp) := by
  have u0 : 0 ≤ ulp := by decide +kernel
  have dlu : 10 * dl ≤ ulp := by decide +kernel
  have hu := ulp_val
  obtain ⟨x1, x2⟩ := h.near hn hn2 (Nat.le_of_lt hj)
  obtain ⟨y1, y2⟩ := h'.near hn hn2 (Nat.le_of_lt hk)
  obtain ⟨z1, z2⟩ := h''.near hn hn2 (Nat.le_of_lt (Nat.mod_lt _ hn))
  have sj := part_size hn (Nat.le_of_lt hj)
  have sk := part_size hn (Nat.le_of_lt hk)
  have sm := part_size hn (Nat.le_of_lt (Nat.mod_lt (j + k) hn))
  obtain ⟨a1, a2⟩ := cq_add sj sk
  -- beyond a whole turn
  have hz : Near (cq ((j : Rat) / (n : Rat) + (k : Rat) / (n : Rat))) (cq (((j + k) % n : Nat) / (n : Rat))) (5 * dl) ∧ Near (sq ((j : Rat) / (n : Rat) + (k : Rat) / (n : Rat))) (sq (((j + k) % n : Nat) / (n : Rat))) (5 * dl) := by
    have d0 : 0 ≤ 5 * dl := by decide +kernel
    have e0 : (j : Rat) / (n : Rat) + (k : Rat) / (n : Rat) = ((j + k : Nat) : Rat) / (n : Rat) := by rw [Rat.natCast_add, Rat.div_def, Rat.div_def, Rat.div_def]; grind
    rw [e0]
    by_cases c : j + k < n
    · rw [Nat.mod_eq_of_lt c]
      exact ⟨Near.refl _ d0, Near.refl _ d0⟩
    · have em : (j + k) % n = j + k - n := by rw [Nat.mod_eq_sub_mod (by omega), Nat.mod_eq_of_lt (by omega)]
      have e1 : ((j + k : Nat) : Rat) / (n : Rat) = 1 + (((j + k) % n : Nat) : Rat) / (n : Rat) := by
        have n0 := Rat.mul_inv_cancel _ (Rat.ne_of_gt (Rat.natCast_pos.2 hn))
        have : ((j + k : Nat) : Rat) = (n : Rat) + (((j + k) % n : Nat) : Rat) := by rw [← Rat.natCast_add, em]; exact congrArg _ (by omega)
        rw [this, Rat.div_def, Rat.div_def]; grind
      rw [e1]
      exact cq_turn sm
  obtain ⟨b1, b2⟩ := hz
  obtain ⟨sx, sx'⟩ := cq_size sj
  obtain ⟨sy, sy'⟩ := cq_size sk
  generalize cq ((j : Rat) / (n : Rat)) = C at *
  generalize sq ((j : Rat) / (n : Rat)) = S at *
  generalize cq ((k : Rat) / (n : Rat)) = D at *
  generalize sq ((k : Rat) / (n : Rat)) = T at *
  have one : 1 + dl ≤ 101 / 100 := by decide +kernel
  have rs : Size r' (102 / 100) := by
    obtain ⟨p1, p2⟩ := y1
    obtain ⟨q1, q2⟩ := sy
    constructor <;> grind
  have ss : Size s' (102 / 100) := by
    obtain ⟨p1, p2⟩ := y2
    obtain ⟨q1, q2⟩ := sy'
    constructor <;> grind
  have cs := sx.mono one
  have cs' := sx'.mono one
  have m1 := near_mul x1 rs
  have m2 := near_mul x2 ss
  have m3 := near_mul x1 ss
  have m4 := near_mul x2 rs
  have n1 := near_mul y1 cs
  have n2 := near_mul y2 cs'
  have n3 := near_mul y2 cs
  have n4 := near_mul y1 cs'
  rw [Rat.mul_comm r', Rat.mul_comm D] at n1 n4
  rw [Rat.mul_comm s', Rat.mul_comm T] at n2 n3
  clear sj sk sm sx sx' sy sy' rs ss cs cs' x1 x2 y1 y2 h h' h'' one
  generalize r * r' = v1 at *
  generalize s * s' = v2 at *
  generalize r * s' = v3 at *
  generalize s * r' = v4 at *
  generalize C * r' = v5 at *
  generalize S * s' = v6 at *
  generalize C * s' = v7 at *
  generalize S * r' = v8 at *
  generalize C * D = w1 at *
  generalize S * T = w2 at *
  generalize C * T = w3 at *
  generalize S * D = w4 at *
  unfold Near at *
  constructor <;> constructor <;> grind

end Flt
end Go.Proofs.Ytgolfdngpphndaa
