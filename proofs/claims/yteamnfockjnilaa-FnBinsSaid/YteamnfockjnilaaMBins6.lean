/-
  Several texts of this claim, one behind the other; each says what it holds.
-/
import Derived.Test.YteamnfockjnilaaMBins5
/-
  Turns that are mirrored, opposite and written otherwise, by their values; products of turns. No program.
-/
set_option linter.unusedVariables false
set_option linter.unusedSimpArgs false
namespace Go.Proofs.Yteamnfockjnilaa
open Go Flt
namespace Flt
open Turn

/-- A turn with its values. -/
def TV (n k : Nat) (r s : Rat) : Prop := Fv (turn n k).1 r ∧ Fv (turn n k).2 s

theorem Fv.uniq {z : O} {p q : Rat} (h : Fv z p) (k : Fv z q) : p = q := by
  obtain ⟨x, e1, -, rfl⟩ := h
  obtain ⟨y, e2, -, rfl⟩ := k
  rw [e1] at e2; cases e2; rfl
theorem TV.ex {n k : Nat} (hn : 0 < n) (hn2 : n ≤ 2048) (hk : k ≤ n) : ∃ r s, TV n k r s := by
  obtain ⟨r, s, h1, h2, -, -⟩ := turn_near hn hn2 hk
  exact ⟨r, s, h1, h2⟩
theorem TV.near {n k : Nat} {r s : Rat} (h : TV n k r s) (hn : 0 < n) (hn2 : n ≤ 2048) (hk : k ≤ n) : Near r (cq ((k : Rat) / (n : Rat))) (14 * ulp) ∧ Near s (sq ((k : Rat) / (n : Rat))) (14 * ulp) := by
  obtain ⟨r', s', h1, h2, h3, h4⟩ := turn_near hn hn2 hk
  rw [h.1.uniq h1, h.2.uniq h2]
  exact ⟨h3, h4⟩

/-- The same fraction, written otherwise. -/
theorem turn_scale {n k g : Nat} (hg : 0 < g) (hn : 0 < n) : turn (g * n) (g * k) = turn n k := by
  rw [turn_red (n := g * n) (Nat.mul_pos hg hn), turn_red hn, Nat.gcd_mul_left, Nat.mul_div_mul_left _ _ hg, Nat.mul_div_mul_left _ _ hg]

theorem lowest {n k : Nat} (hn : 0 < n) : ∃ g a b, 0 < g ∧ n = g * a ∧ k = g * b ∧ a.gcd b = 1 ∧ 0 < a ∧ turn n k = turn a b := by
  have hg : 0 < n.gcd k := Nat.gcd_pos_of_pos_left _ hn
  refine ⟨n.gcd k, n / n.gcd k, k / n.gcd k, hg, (Nat.mul_div_cancel' (Nat.gcd_dvd_left n k)).symm, (Nat.mul_div_cancel' (Nat.gcd_dvd_right n k)).symm, ?_, Nat.div_pos (Nat.le_of_dvd hn (Nat.gcd_dvd_left n k)) hg, turn_red hn⟩
  rw [Nat.gcd_div (Nat.gcd_dvd_left n k) (Nat.gcd_dvd_right n k)]
  exact Nat.div_self hg

/-- What stands at some parts. -/
theorem TV.zero {n : Nat} (hn : 0 < n) : TV n 0 1 0 := by
  have h : turn n 0 = (oneO, zeroO) := by
    rw [turn_red hn, Nat.gcd_zero_right, Nat.zero_div]
    exact turn_zero (by rw [Nat.gcd_zero_right]; exact Nat.div_self hn) rfl
  unfold TV; rw [h]; exact ⟨one_fv, zero_fv⟩
theorem TV.half : TV 2 1 (-1) 0 := by
  have h : turn 2 1 = (fneg .f64 (turn 4 0).1, (turn 4 0).2) := turn_four (by decide) (by decide) (by decide) (by decide) (by decide)
  have h0 : TV 4 0 1 0 := TV.zero (by decide)
  unfold TV at *
  rw [h]; exact ⟨fv_neg h0.1, h0.2⟩
theorem TV.quart : TV 4 1 0 1 := by
  have h : turn 4 1 = ((turn 16 0).2, (turn 16 0).1) := turn_eight (by decide) (by decide) (by decide) (by decide) (by decide) (by decide)
  have h0 : TV 16 0 1 0 := TV.zero (by decide)
  unfold TV at *
  rw [h]; exact ⟨h0.2, h0.1⟩

/-- The mirrored turn. -/
theorem TV.conj {n k : Nat} {r s : Rat} (h : TV n k r s) (hn : 0 < n) (hk0 : 0 < k) (hk : k < n) : TV n (n - k) r (-s) := by
  obtain ⟨g, a, b, hg, e1, e2, hab, ha, ht⟩ := lowest (n := n) (k := k) hn
  have hb : b < a := by
    apply Nat.lt_of_mul_lt_mul_left (a := g)
    omega
  have hb0 : b ≠ 0 := by rintro rfl; omega
  have e3 : n - k = g * (a - b) := by rw [Nat.mul_sub, ← e1, ← e2]
  have ht2 : turn n (n - k) = turn a (a - b) := by rw [e3, e1]; exact turn_scale hg ha
  unfold TV at *
  rw [ht] at h
  rw [ht2]
  have hg2 : a.gcd (a - b) = 1 := by rw [Nat.gcd_self_sub_right (Nat.le_of_lt hb)]; exact hab
  by_cases c1 : a < 2 * b
  · have := turn_two hab hb0 ha (Nat.le_of_lt hb) c1
    rw [this] at h
    have h2 := fv_neg h.2
    refine ⟨h.1, ?_⟩
    obtain ⟨u, e, h3, h4⟩ := h.2
    obtain ⟨v, ev⟩ : ∃ v, (turn a (a - b)).2 = some v := by
      cases hz : (turn a (a - b)).2 with
      | none => rw [hz] at e; cases e
      | some v => exact ⟨v, rfl⟩
    have hx : ∃ q, Fv (turn a (a - b)).2 q := by
      rw [ev] at e ⊢
      cases e
      have hf : Fin (Op.negFloat .f64 (Op.negFloat .f64 v)) := by
        obtain ⟨z, ez, hz1, hz2⟩ := fv_neg (z := some (Op.negFloat .f64 v)) ⟨_, rfl, h3, rfl⟩
        cases ez; exact hz1
      have hvv : Op.negFloat .f64 (Op.negFloat .f64 v) = v := by
        show (v ^^^ 2 ^ 63) ^^^ 2 ^ 63 = v
        rw [Nat.xor_assoc, Nat.xor_self, Nat.xor_zero]
      rw [hvv] at hf
      exact ⟨_, v, rfl, hf, rfl⟩
    obtain ⟨q, hq⟩ := hx
    have := (fv_neg hq).uniq h.2
    rw [← this, Rat.neg_neg]; exact hq
  · by_cases c2 : a = 2 * b
    · have hb1 : b = 1 := by
        rw [c2, Nat.gcd_comm, Nat.gcd_mul_left_right] at hab; exact hab
      subst hb1
      have ha2 : a = 2 := by omega
      subst ha2
      have hh := TV.half
      unfold TV at hh
      have : s = 0 := h.2.uniq hh.2
      subst this
      rw [show -(0 : Rat) = 0 by decide]
      exact ⟨h.1, h.2⟩
    · have := turn_two hg2 (by omega) ha (by omega) (show a < 2 * (a - b) by omega)
      rw [show a - (a - b) = b by omega] at this
      rw [this]
      exact ⟨h.1, fv_neg h.2⟩

/-- The turn that stands on the other side of a quarter. -/
theorem TV.across {H j : Nat} {r s : Rat} (h : TV (2 * H) j r s) (hH : 0 < H) (hj : j ≤ H) : TV (2 * H) (H - j) (-r) s := by
  -- beyond a quarter the rule itself says so
  have rule : ∀ i : Nat, i ≤ H → 4 * i > 2 * H → turn (2 * H) i = (fneg .f64 (turn (2 * H) (H - i)).1, (turn (2 * H) (H - i)).2) := by
    intro i hi h4
    obtain ⟨g, a, b, hg, e1, e2, hab, ha, ht⟩ := lowest (n := 2 * H) (k := i) (by omega)
    have b4 : a < 4 * b := by
      apply Nat.lt_of_mul_lt_mul_left (a := g)
      rw [← e1, Nat.mul_left_comm, ← e2]; omega
    have b2 : ¬ a < 2 * b := by
      intro hc
      have := Nat.mul_lt_mul_of_pos_left hc hg
      rw [← e1, Nat.mul_left_comm, ← e2] at this; omega
    have hb0 : b ≠ 0 := by rintro rfl; omega
    rw [ht, turn_four hab hb0 ha b2 b4]
    have e3 : turn (2 * a) (a - 2 * b) = turn (2 * H) (H - i) := by
      rw [← turn_scale (n := 2 * a) (k := a - 2 * b) hg (by omega), ← turn_scale (n := 2 * H) (k := H - i) (g := 2) (by decide) (by omega)]
      have f1 : g * (2 * a) = 2 * (2 * H) := by rw [Nat.mul_left_comm, ← e1]
      have f2 : g * (a - 2 * b) = 2 * (H - i) := by rw [Nat.mul_sub, ← e1, Nat.mul_left_comm, ← e2]; omega
      rw [f1, f2]
    rw [e3]
  unfold TV at *
  by_cases c1 : 4 * j > 2 * H
  · rw [rule j hj c1] at h
    refine ⟨?_, h.2⟩
    obtain ⟨u, e, h3, h4⟩ := h.1
    obtain ⟨v, ev⟩ : ∃ v, (turn (2 * H) (H - j)).1 = some v := by
      cases hz : (turn (2 * H) (H - j)).1 with
      | none => simp only [] at e; rw [hz] at e; cases e
      | some v => exact ⟨v, rfl⟩
    have hx : ∃ q, Fv (turn (2 * H) (H - j)).1 q := by
      simp only [] at e
      rw [ev] at e ⊢
      cases e
      have hf : Fin (Op.negFloat .f64 (Op.negFloat .f64 v)) := by
        obtain ⟨z, ez, hz1, hz2⟩ := fv_neg (z := some (Op.negFloat .f64 v)) ⟨_, rfl, h3, rfl⟩
        cases ez; exact hz1
      have hvv : Op.negFloat .f64 (Op.negFloat .f64 v) = v := by
        show (v ^^^ 2 ^ 63) ^^^ 2 ^ 63 = v
        rw [Nat.xor_assoc, Nat.xor_self, Nat.xor_zero]
      rw [hvv] at hf
      exact ⟨_, v, rfl, hf, rfl⟩
    obtain ⟨q, hq⟩ := hx
    have := (fv_neg hq).uniq h.1
    rw [← this, Rat.neg_neg]; exact hq
  · by_cases c2 : 4 * j = 2 * H
    · have e : turn (2 * H) j = turn 4 1 := by
        have := turn_scale (n := 4) (k := 1) (g := j) (by omega) (by decide)
        rw [Nat.mul_one] at this
        rw [← this, Nat.mul_comm j 4, c2]
      rw [show H - j = j by omega]
      rw [e] at h ⊢
      have hh := TV.quart
      unfold TV at hh
      have : r = 0 := h.1.uniq hh.1
      subst this
      rw [show -(0 : Rat) = 0 by decide]
      exact h
    · rw [rule (H - j) (by omega) (by omega), show H - (H - j) = j by omega]
      exact ⟨fv_neg h.1, h.2⟩

/-- The turn on the other side. -/
theorem TV.opp {H j : Nat} {r s : Rat} (h : TV (2 * H) j r s) (hH : 0 < H) (hH2 : H ≤ 1024) (hj : j < 2 * H) : TV (2 * H) ((j + H) % (2 * H)) (-r) (-s) := by
  have half : ∀ i r s, i < H → TV (2 * H) i r s → TV (2 * H) (i + H) (-r) (-s) := by
    intro i r s hi h
    have h1 := h.across hH (by omega)
    have h2 := h1.conj (by omega) (by omega) (by omega)
    rwa [show 2 * H - (H - i) = i + H by omega] at h2
  by_cases c : j < H
  · rw [Nat.mod_eq_of_lt (by omega)]
    exact half j r s c h
  · obtain ⟨i, rfl⟩ : ∃ i, j = i + H := ⟨j - H, by omega⟩
    have e : (i + H + H) % (2 * H) = i := by
      rw [show i + H + H = i + 2 * H by omega, Nat.add_mod_right, Nat.mod_eq_of_lt (by omega)]
    rw [e]
    obtain ⟨r', s', h'⟩ := TV.ex (n := 2 * H) (k := i) (by omega) (by omega) (by omega)
    have h2 := half i r' s' (by omega) h'
    have e1 := h.1.uniq h2.1
    have e2 := h.2.uniq h2.2
    subst e1 e2
    rw [Rat.neg_neg, Rat.neg_neg]
    exact h'

/-- Turns are multiplied as they are added. -/
theorem TV.mul {n j k : Nat} {r s r' s' r'' s'' : Rat} (hn : 0 < n) (hn2 : n ≤ 2048) (hj : j < n) (hk : k < n) (h : TV n j r s) (h' : TV n k r' s') (h'' : TV n ((j + k) % n) r'' s'') :
    Near (r * r' - s * s') r'' (100 * ulp) ∧ Near (r * s' + s * r') s'' (100 * ulp) := by
  have u0 : 0 ≤ ulp := by decide +kernel
  have dlu : 10 * dl ≤ ulp := by decide +kernel
  have hu := ulp_val
  obtain ⟨x1, x2⟩ := h.near hn hn2 (Nat.le_of_lt hj)
  obtain ⟨y1, y2⟩ := h'.near hn hn2 (Nat.le_of_lt hk)
  obtain ⟨z1, z2⟩ := h''.near hn hn2 (Nat.le_of_lt (Nat.mod_lt _ hn))
  have sj := part_size hn (Nat.le_of_lt hj)
  have sk := part_size hn (Nat.le_of_lt hk)
  have sm := part_size hn (Nat.le_of_lt (Nat.mod_lt (j + k) hn))
  obtain ⟨a1, a2⟩ := cq_add sj sk
  -- beyond a whole turn
  have hz : Near (cq ((j : Rat) / (n : Rat) + (k : Rat) / (n : Rat))) (cq (((j + k) % n : Nat) / (n : Rat))) (5 * dl) ∧ Near (sq ((j : Rat) / (n : Rat) + (k : Rat) / (n : Rat))) (sq (((j + k) % n : Nat) / (n : Rat))) (5 * dl) := by
    have d0 : 0 ≤ 5 * dl := by decide +kernel
    have e0 : (j : Rat) / (n : Rat) + (k : Rat) / (n : Rat) = ((j + k : Nat) : Rat) / (n : Rat) := by rw [Rat.natCast_add, Rat.div_def, Rat.div_def, Rat.div_def]; grind
    rw [e0]
    by_cases c : j + k < n
    · rw [Nat.mod_eq_of_lt c]
      exact ⟨Near.refl _ d0, Near.refl _ d0⟩
    · have em : (j + k) % n = j + k - n := by rw [Nat.mod_eq_sub_mod (by omega), Nat.mod_eq_of_lt (by omega)]
      have e1 : ((j + k : Nat) : Rat) / (n : Rat) = 1 + (((j + k) % n : Nat) : Rat) / (n : Rat) := by
        have n0 := Rat.mul_inv_cancel _ (Rat.ne_of_gt (Rat.natCast_pos.2 hn))
        have : ((j + k : Nat) : Rat) = (n : Rat) + (((j + k) % n : Nat) : Rat) := by rw [← Rat.natCast_add, em]; exact congrArg _ (by omega)
        rw [this, Rat.div_def, Rat.div_def]; grind
      rw [e1]
      exact cq_turn sm
  obtain ⟨b1, b2⟩ := hz
  obtain ⟨sx, sx'⟩ := cq_size sj
  obtain ⟨sy, sy'⟩ := cq_size sk
  generalize cq ((j : Rat) / (n : Rat)) = C at *
  generalize sq ((j : Rat) / (n : Rat)) = S at *
  generalize cq ((k : Rat) / (n : Rat)) = D at *
  generalize sq ((k : Rat) / (n : Rat)) = T at *
  have one : 1 + dl ≤ 101 / 100 := by decide +kernel
  have rs : Size r' (102 / 100) := by
    obtain ⟨p1, p2⟩ := y1
    obtain ⟨q1, q2⟩ := sy
    constructor <;> grind
  have ss : Size s' (102 / 100) := by
    obtain ⟨p1, p2⟩ := y2
    obtain ⟨q1, q2⟩ := sy'
    constructor <;> grind
  have cs := sx.mono one
  have cs' := sx'.mono one
  have m1 := near_mul x1 rs
  have m2 := near_mul x2 ss
  have m3 := near_mul x1 ss
  have m4 := near_mul x2 rs
  have n1 := near_mul y1 cs
  have n2 := near_mul y2 cs'
  have n3 := near_mul y2 cs
  have n4 := near_mul y1 cs'
  rw [Rat.mul_comm r', Rat.mul_comm D] at n1 n4
  rw [Rat.mul_comm s', Rat.mul_comm T] at n2 n3
  clear sj sk sm sx sx' sy sy' rs ss cs cs' x1 x2 y1 y2 h h' h'' one
  generalize r * r' = v1 at *
  generalize s * s' = v2 at *
  generalize r * s' = v3 at *
  generalize s * r' = v4 at *
  generalize C * r' = v5 at *
  generalize S * s' = v6 at *
  generalize C * s' = v7 at *
  generalize S * r' = v8 at *
  generalize C * D = w1 at *
  generalize S * T = w2 at *
  generalize C * T = w3 at *
  generalize S * D = w4 at *
  unfold Near at *
  constructor <;> constructor <;> grind

end Flt
end Go.Proofs.Yteamnfockjnilaa
/-
  The factors of a number, as lists of naturals: no program.
-/
set_option linter.unusedVariables false
namespace Go.Proofs.Yteamnfockjnilaa
namespace Fac

/-- p is the least divisor from 2 on. -/
structure Least (n p : Nat) : Prop where
  two : 2 ≤ p
  dvd : n % p = 0
  least : ∀ q, 2 ≤ q → q < p → n % q ≠ 0

theorem Least.unique {n p q : Nat} (h : Least n p) (h' : Least n q) : p = q := by
  rcases Nat.lt_trichotomy p q with a | a | a
  · exact absurd h.dvd (h'.least p h.two a)
  · exact a
  · exact absurd h'.dvd (h.least q h'.two a)

theorem Least.le {n p : Nat} (h : Least n p) (hn : 1 < n) : p ≤ n :=
  Nat.le_of_not_lt fun hlt => h.least n hn hlt (Nat.mod_self n)

/-- xs are the prime factors of n, each the least one of what is left. -/
inductive Facs : Nat → List Nat → Prop
  | one : Facs 1 []
  | more {n p : Nat} {xs : List Nat} (hn : 1 < n) (hp : Least n p) (h : Facs (n / p) xs) : Facs n (p :: xs)

theorem Facs.unique {n : Nat} {xs ys : List Nat} (h : Facs n xs) (h' : Facs n ys) : xs = ys := by
  induction h generalizing ys with
  | one =>
    cases h' with
    | one => rfl
    | more hn => omega
  | more hn hp _ ih =>
    cases h' with
    | one => omega
    | more hn' hp' h' =>
      obtain rfl := hp.unique hp'
      rw [ih h']

theorem Facs.pos {n : Nat} {xs : List Nat} (h : Facs n xs) : 1 ≤ n := by cases h <;> omega

theorem dvd_trans_mod {a b c : Nat} (h : a % b = 0) (h' : b % c = 0) : a % c = 0 :=
  Nat.mod_eq_zero_of_dvd (Nat.dvd_trans (Nat.dvd_of_mod_eq_zero h') (Nat.dvd_of_mod_eq_zero h))

theorem div_dvd {n p : Nat} (h : n % p = 0) : n % (n / p) = 0 :=
  Nat.mod_eq_zero_of_dvd (Nat.div_dvd_of_dvd (Nat.dvd_of_mod_eq_zero h))

theorem Facs.len {n : Nat} {xs : List Nat} (h : Facs n xs) : 2 ^ xs.length ≤ n := by
  induction h with
  | one => simp
  | @more n p xs hn hp _ ih =>
    have e : n / p * p = n := Nat.div_mul_cancel (Nat.dvd_of_mod_eq_zero hp.dvd)
    have : n / p * 2 ≤ n / p * p := Nat.mul_le_mul_left _ hp.two
    simp only [List.length_cons, Nat.pow_succ]
    omega

theorem Facs.len_le {n : Nat} {xs : List Nat} (h : Facs n xs) (hn : n ≤ 1024) : xs.length ≤ 10 := by
  have := h.len
  apply Nat.le_of_not_lt
  intro hc
  have h1 : 2 ^ 11 ≤ 2 ^ xs.length := Nat.pow_le_pow_right (by omega) hc
  have h2 : (2 : Nat) ^ 11 = 2048 := by decide
  omega

/-- Each factor divides the number, is 2 or more, and has no divisor of its own. -/
theorem Facs.each {n : Nat} {xs : List Nat} (h : Facs n xs) : ∀ x ∈ xs, 2 ≤ x ∧ n % x = 0 ∧ ∀ d, 2 ≤ d → d < x → x % d ≠ 0 := by
  induction h with
  | one => intro x hx; cases hx
  | @more n p xs hn hp _ ih =>
    intro x hx
    rcases List.mem_cons.1 hx with rfl | hx
    · exact ⟨hp.two, hp.dvd, fun d h2 hd he => hp.least d h2 hd (dvd_trans_mod hp.dvd he)⟩
    · obtain ⟨a, b, c⟩ := ih x hx
      exact ⟨a, dvd_trans_mod (div_dvd hp.dvd) b, c⟩

theorem Facs.rises {n : Nat} {xs : List Nat} (h : Facs n xs) : ∀ i, i + 1 < xs.length → xs.getD i 0 ≤ xs.getD (i + 1) 0 := by
  induction h with
  | one => intro i hi; simp at hi
  | @more n p xs hn hp ht ih =>
    intro i hi
    cases i with
    | zero =>
      cases xs with
      | nil => simp at hi
      | cons q ys =>
        simp only [List.getD_cons_zero, List.getD_cons_succ]
        obtain ⟨a, b, _⟩ := ht.each q (by simp)
        exact Nat.le_of_not_lt fun hlt => hp.least q a hlt (dvd_trans_mod (div_dvd hp.dvd) b)
    | succ i =>
      simp only [List.getD_cons_succ]
      exact ih i (by simpa using hi)

/-- The product of the first k. -/
def prod (xs : List Nat) (k : Nat) : Nat := (xs.take k).foldl (· * ·) 1

theorem foldl_mul (xs : List Nat) : ∀ a, xs.foldl (· * ·) a = a * xs.foldl (· * ·) 1 := by
  induction xs with
  | nil => intro a; simp
  | cons x xs ih => intro a; simp only [List.foldl_cons]; rw [ih (a * x), ih (1 * x), Nat.one_mul, Nat.mul_assoc]

theorem prod_zero (xs : List Nat) : prod xs 0 = 1 := rfl

theorem prod_succ {xs : List Nat} {k : Nat} (h : k < xs.length) : prod xs (k + 1) = prod xs k * xs.getD k 0 := by
  unfold prod
  rw [List.take_add_one, List.foldl_append]
  have e : xs[k]? = some (xs.getD k 0) := by simp [List.getD, h]
  rw [e]; rfl

theorem Facs.product {n : Nat} {xs : List Nat} (h : Facs n xs) : xs.foldl (· * ·) 1 = n := by
  induction h with
  | one => rfl
  | @more n p xs hn hp _ ih =>
    simp only [List.foldl_cons]
    rw [foldl_mul, ih, Nat.one_mul, Nat.mul_comm]
    exact Nat.div_mul_cancel (Nat.dvd_of_mod_eq_zero hp.dvd)

theorem Facs.prod_all {n : Nat} {xs : List Nat} (h : Facs n xs) : prod xs xs.length = n := by
  unfold prod; rw [List.take_length]; exact h.product

theorem Facs.prod_le {n : Nat} {xs : List Nat} (h : Facs n xs) (k : Nat) : prod xs k ≤ n := by
  have hn := h.pos
  have e : xs.foldl (· * ·) 1 = prod xs k * (xs.drop k).foldl (· * ·) 1 := by
    unfold prod
    rw [← foldl_mul, ← List.foldl_append, List.take_append_drop]
  rw [h.product] at e
  exact Nat.le_of_dvd (by omega) ⟨_, e⟩

end Fac
end Go.Proofs.Yteamnfockjnilaa
/-
  The fast transform as a plain relation between lists. No program.
-/
set_option linter.unusedVariables false
set_option linter.unusedSimpArgs false
namespace Go.Proofs.Yteamnfockjnilaa
open Go Flt Turn
namespace Fast

/-- The rest of -j by division by n. -/
def rst (n j : Nat) : Nat := (n - j % n) % n
def twid (n j : Nat) : Z := turn n (rst n j)

/-- The numbers at r, r + p, r + 2 * p and so on. -/
def every (xs : List Z) (r p : Nat) : List Z := (List.range ((xs.length - r + p - 1) / p)).map fun i => xs.getD (r + i * p) z0

/-- The terms of a place. -/
def term (n : Nat) (ys : Nat → List Z) (k r : Nat) : Z := if r = 0 then (ys 0).getD k z0 else mulZ ((ys r).getD k z0) (twid n (r * k))

/-- The sum of the first j terms, turned. -/
def sumT (t : Nat → Z) (p q : Nat) : Nat → Z
  | 0 => t 0
  | j + 1 => if j = 0 then t 0 else addZ (sumT t p q j) (mulZ (t j) (twid p (j * q)))

def outP (n p : Nat) (ys : Nat → List Z) (k q : Nat) : Z :=
  if p = 2 then (if q = 0 then addZ (term n ys k 0) (term n ys k 1) else subZ (term n ys k 0) (term n ys k 1))
  else sumT (term n ys k) p q p

def joinP (n p : Nat) (ys : Nat → List Z) : List Z := (List.range n).map fun i => outP n p ys (i % (n / p)) (i / (n / p))

inductive Fast : List Z → List Z → Prop
  | small {xs : List Z} (h : xs.length ≤ 1) : Fast xs xs
  | step {xs : List Z} {p : Nat} {ys : Nat → List Z} (hn : 1 < xs.length) (hp : Fac.Least xs.length p) (h : ∀ r, r < p → Fast (every xs r p) (ys r)) : Fast xs (joinP xs.length p ys)

theorem term_congr {n p : Nat} {ys ys' : Nat → List Z} (h : ∀ r, r < p → ys r = ys' r) {k r : Nat} (hr : r < p) (hp : 0 < p) : term n ys k r = term n ys' k r := by
  unfold term
  split
  · rw [h 0 hp]
  · rw [h r hr]

theorem sumT_congr {t t' : Nat → Z} {p q : Nat} (hp : 0 < p) (h : ∀ r, r < p → t r = t' r) : ∀ j, j ≤ p → sumT t p q j = sumT t' p q j
  | 0, _ => h 0 hp
  | j + 1, hj => by
    unfold sumT
    split
    · exact h 0 hp
    · rw [sumT_congr hp h j (by omega), h j (by omega)]

theorem joinP_congr {n p : Nat} {ys ys' : Nat → List Z} (h : ∀ r, r < p → ys r = ys' r) (hp : 2 ≤ p) : joinP n p ys = joinP n p ys' := by
  unfold joinP
  congr 1
  funext i
  unfold outP
  split
  · rw [term_congr h (by omega) (by omega), term_congr h (r := 1) (by omega) (by omega)]
  · exact sumT_congr (by omega) (fun r hr => term_congr h hr (by omega)) p (Nat.le_refl _)

theorem Fast.unique {xs ys zs : List Z} (h : Fast xs ys) (h' : Fast xs zs) : ys = zs := by
  induction h generalizing zs with
  | small h =>
    cases h' with
    | small => rfl
    | step hn => omega
  | step hn hp _ ih =>
    cases h' with
    | small h => omega
    | step hn' hp' h' =>
      obtain rfl := hp.unique hp'
      exact joinP_congr (fun r hr => ih r hr (h' r hr)) hp.two

theorem joinP_length (n p : Nat) (ys : Nat → List Z) : (joinP n p ys).length = n := by simp [joinP]
theorem Fast.length {xs ys : List Z} (h : Fast xs ys) : ys.length = xs.length := by
  cases h with
  | small => rfl
  | step => exact joinP_length _ _ _

theorem joinP_getD {n p : Nat} {ys : Nat → List Z} {i : Nat} (h : i < n) : (joinP n p ys).getD i z0 = outP n p ys (i % (n / p)) (i / (n / p)) := by
  simp [joinP, List.getD, h]

/-- How many numbers a part has. -/
theorem every_length {xs : List Z} {r p m : Nat} (hp : 0 < p) (hn : xs.length = p * m) (hr : r < p) : (every xs r p).length = m := by
  unfold every
  rw [List.length_map, List.length_range, hn]
  by_cases hm : m = 0
  · subst hm
    rw [Nat.mul_zero, Nat.zero_sub, Nat.zero_add]
    exact Nat.div_eq_of_lt (by omega)
  · have h1 : p ≤ p * m := Nat.le_mul_of_pos_right _ (by omega)
    have e : p * m - r + p - 1 = (p - 1 - r) + m * p := by rw [Nat.mul_comm m p]; omega
    rw [e, Nat.add_mul_div_right _ _ hp, Nat.div_eq_of_lt (by omega), Nat.zero_add]

theorem every_getD {xs : List Z} {r p m i : Nat} (hp : 0 < p) (hn : xs.length = p * m) (hr : r < p) (hi : i < m) : (every xs r p).getD i z0 = xs.getD (r + i * p) z0 := by
  have hl := every_length hp hn hr
  unfold every at hl ⊢
  rw [List.length_map, List.length_range] at hl
  rw [hl]
  simp [List.getD, hi]

end Fast
end Go.Proofs.Yteamnfockjnilaa
/-
  Complex numbers as pairs of rational ones: products, sums, how near they are. No program.
-/
set_option linter.unusedVariables false
set_option linter.unusedSimpArgs false
namespace Go.Proofs.Yteamnfockjnilaa
open Go Flt
namespace Flt
open Turn Fast

abbrev Q2 := Rat × Rat
def mulQ (a b : Q2) : Q2 := (a.1 * b.1 - a.2 * b.2, a.1 * b.2 + a.2 * b.1)
def addQ (a b : Q2) : Q2 := (a.1 + b.1, a.2 + b.2)
def subQ (a b : Q2) : Q2 := (a.1 - b.1, a.2 - b.2)
def sumQ (t : Nat → Q2) : Nat → Q2
  | 0 => (0, 0)
  | n + 1 => addQ (sumQ t n) (t n)
structure NearQ (a b : Q2) (e : Rat) : Prop where
  re : Near a.1 b.1 e
  im : Near a.2 b.2 e
structure SizeQ (a : Q2) (B : Rat) : Prop where
  re : Size a.1 B
  im : Size a.2 B
/-- The absolute value; the sum of those of both parts. -/
def ab (x : Rat) : Rat := if 0 ≤ x then x else -x
def nrm (z : Q2) : Rat := ab z.1 + ab z.2

theorem ab_nonneg (x : Rat) : 0 ≤ ab x := by unfold ab; split <;> grind
theorem ab_size (x : Rat) : Size x (ab x) := by unfold ab; constructor <;> split <;> grind
theorem ab_le {x B : Rat} (h : Size x B) : ab x ≤ B := by
  obtain ⟨h1, h2⟩ := h
  unfold ab; split <;> grind
theorem nrm_nonneg (z : Q2) : 0 ≤ nrm z := by
  have := ab_nonneg z.1
  have := ab_nonneg z.2
  unfold nrm; grind
theorem nrm_le {z : Q2} {B : Rat} (h : SizeQ z B) : nrm z ≤ 2 * B := by
  have := ab_le h.re
  have := ab_le h.im
  unfold nrm; grind
theorem size_nrm (z : Q2) : SizeQ z (nrm z) := by
  have a1 := ab_size z.1
  have a2 := ab_size z.2
  have b1 := ab_nonneg z.1
  have b2 := ab_nonneg z.2
  obtain ⟨c1, c2⟩ := a1
  obtain ⟨d1, d2⟩ := a2
  unfold nrm
  exact ⟨⟨by grind, by grind⟩, ⟨by grind, by grind⟩⟩
theorem SizeQ.mono {a : Q2} {B C : Rat} (h : SizeQ a B) (hl : B ≤ C) : SizeQ a C := ⟨h.re.mono hl, h.im.mono hl⟩
theorem NearQ.mono {a b : Q2} {e f : Rat} (h : NearQ a b e) (hl : e ≤ f) : NearQ a b f := ⟨h.re.mono hl, h.im.mono hl⟩
theorem NearQ.trans {a b c : Q2} {e f : Rat} (h : NearQ a b e) (k : NearQ b c f) : NearQ a c (e + f) := ⟨h.re.trans k.re, h.im.trans k.im⟩
theorem NearQ.symm {a b : Q2} {e : Rat} (h : NearQ a b e) : NearQ b a e := ⟨h.re.symm, h.im.symm⟩
theorem NearQ.refl (a : Q2) {e : Rat} (h : 0 ≤ e) : NearQ a a e := ⟨Near.refl _ h, Near.refl _ h⟩
theorem NearQ.add {a b c d : Q2} {e f : Rat} (h : NearQ a b e) (k : NearQ c d f) : NearQ (addQ a c) (addQ b d) (e + f) := by
  obtain ⟨⟨h1, h2⟩, h3, h4⟩ := h
  obtain ⟨⟨k1, k2⟩, k3, k4⟩ := k
  unfold addQ
  exact ⟨⟨by simp only; grind, by simp only; grind⟩, ⟨by simp only; grind, by simp only; grind⟩⟩
theorem NearQ.sub {a b c d : Q2} {e f : Rat} (h : NearQ a b e) (k : NearQ c d f) : NearQ (subQ a c) (subQ b d) (e + f) := by
  obtain ⟨⟨h1, h2⟩, h3, h4⟩ := h
  obtain ⟨⟨k1, k2⟩, k3, k4⟩ := k
  unfold subQ
  exact ⟨⟨by simp only; grind, by simp only; grind⟩, ⟨by simp only; grind, by simp only; grind⟩⟩
theorem SizeQ.add {a b : Q2} {A B : Rat} (h : SizeQ a A) (k : SizeQ b B) : SizeQ (addQ a b) (A + B) := by
  obtain ⟨⟨h1, h2⟩, h3, h4⟩ := h
  obtain ⟨⟨k1, k2⟩, k3, k4⟩ := k
  unfold addQ
  exact ⟨⟨by simp only; grind, by simp only; grind⟩, ⟨by simp only; grind, by simp only; grind⟩⟩
theorem SizeQ.sub {a b : Q2} {A B : Rat} (h : SizeQ a A) (k : SizeQ b B) : SizeQ (subQ a b) (A + B) := by
  obtain ⟨⟨h1, h2⟩, h3, h4⟩ := h
  obtain ⟨⟨k1, k2⟩, k3, k4⟩ := k
  unfold subQ
  exact ⟨⟨by simp only; grind, by simp only; grind⟩, ⟨by simp only; grind, by simp only; grind⟩⟩
theorem NearQ.size {a b : Q2} {e B : Rat} (h : NearQ a b e) (k : SizeQ b B) : SizeQ a (B + e) := by
  obtain ⟨⟨h1, h2⟩, h3, h4⟩ := h
  obtain ⟨⟨k1, k2⟩, k3, k4⟩ := k
  exact ⟨⟨by grind, by grind⟩, ⟨by grind, by grind⟩⟩

theorem ab_mul {x y B : Rat} (h : Size y B) : Size (x * y) (ab x * B) := (ab_size x).mul h
/-- The size of a product, by the sum of the parts of one. -/
theorem mulQ_size {a b : Q2} {N B : Rat} (ha : nrm a ≤ N) (hb : SizeQ b B) (hB : 0 ≤ B) : SizeQ (mulQ a b) (N * B) := by
  have h1 := ab_mul (x := a.1) hb.re
  have h2 := ab_mul (x := a.2) hb.im
  have h3 := ab_mul (x := a.1) hb.im
  have h4 := ab_mul (x := a.2) hb.re
  have h5 : (ab a.1 + ab a.2) * B ≤ N * B := Rat.mul_le_mul_of_nonneg_right ha hB
  rw [Rat.add_mul] at h5
  obtain ⟨c1, c2⟩ := h1
  obtain ⟨d1, d2⟩ := h2
  obtain ⟨e1, e2⟩ := h3
  obtain ⟨f1, f2⟩ := h4
  unfold mulQ
  generalize a.1 * b.1 = p1 at *
  generalize a.2 * b.2 = p2 at *
  generalize a.1 * b.2 = p3 at *
  generalize a.2 * b.1 = p4 at *
  generalize ab a.1 * B = q1 at *
  generalize ab a.2 * B = q2 at *
  generalize N * B = q3 at *
  exact ⟨⟨by simp only; grind, by simp only; grind⟩, ⟨by simp only; grind, by simp only; grind⟩⟩
theorem mulQ_comm (a b : Q2) : mulQ a b = mulQ b a := by unfold mulQ; refine Prod.ext ?_ ?_ <;> simp only <;> grind
theorem mulQ_assoc (a b c : Q2) : mulQ (mulQ a b) c = mulQ a (mulQ b c) := by unfold mulQ; refine Prod.ext ?_ ?_ <;> simp only <;> grind
theorem addQ_mul (a b c : Q2) : mulQ (addQ a b) c = addQ (mulQ a c) (mulQ b c) := by unfold mulQ addQ; refine Prod.ext ?_ ?_ <;> simp only <;> grind
theorem subQ_mul (a b c : Q2) : mulQ (subQ a b) c = subQ (mulQ a c) (mulQ b c) := by unfold mulQ subQ; refine Prod.ext ?_ ?_ <;> simp only <;> grind
theorem mulQ_one (a : Q2) : mulQ a (1, 0) = a := by unfold mulQ; refine Prod.ext ?_ ?_ <;> simp only <;> grind
theorem addQ_zero (a : Q2) : addQ a (0, 0) = a := by unfold addQ; refine Prod.ext ?_ ?_ <;> simp only <;> grind
theorem zero_addQ (a : Q2) : addQ (0, 0) a = a := by unfold addQ; refine Prod.ext ?_ ?_ <;> simp only <;> grind
theorem addQ_assoc (a b c : Q2) : addQ (addQ a b) c = addQ a (addQ b c) := by unfold addQ; refine Prod.ext ?_ ?_ <;> simp only <;> grind
theorem addQ_four (a b c d : Q2) : addQ (addQ a b) (addQ c d) = addQ (addQ a c) (addQ b d) := by unfold addQ; refine Prod.ext ?_ ?_ <;> simp only <;> grind
theorem zero_mulQ (a : Q2) : mulQ (0, 0) a = (0, 0) := by unfold mulQ; refine Prod.ext ?_ ?_ <;> simp only <;> grind

/-- An error in the first one, and one in the second one. -/
theorem mulQ_near_l {a b c : Q2} {e g : Rat} (h : NearQ a b e) (hg : nrm c ≤ g) (he : 0 ≤ e) : NearQ (mulQ a c) (mulQ b c) (e * g) := by
  have hs : SizeQ (subQ a b) e := by
    obtain ⟨⟨h1, h2⟩, h3, h4⟩ := h
    unfold subQ
    exact ⟨⟨by simp only; grind, by simp only; grind⟩, ⟨by simp only; grind, by simp only; grind⟩⟩
  have h1 := mulQ_size hg hs he
  rw [mulQ_comm, subQ_mul, Rat.mul_comm] at h1
  obtain ⟨⟨c1, c2⟩, c3, c4⟩ := h1
  unfold subQ at *
  exact ⟨⟨by simp only at *; grind, by simp only at *; grind⟩, ⟨by simp only at *; grind, by simp only at *; grind⟩⟩
theorem mulQ_near_r {a b c : Q2} {d N : Rat} (h : NearQ b c d) (hn : nrm a ≤ N) (hd : 0 ≤ d) : NearQ (mulQ a b) (mulQ a c) (N * d) := by
  have := mulQ_near_l h hn hd
  rw [mulQ_comm b, mulQ_comm c, Rat.mul_comm] at this
  exact this

theorem sumQ_congr {s t : Nat → Q2} {n : Nat} (h : ∀ i, i < n → s i = t i) : sumQ s n = sumQ t n := by
  induction n with
  | zero => rfl
  | succ n ih => show addQ _ _ = addQ _ _; rw [ih (fun i hi => h i (by omega)), h n (by omega)]
theorem sumQ_mul (t : Nat → Q2) (c : Q2) (n : Nat) : mulQ (sumQ t n) c = sumQ (fun i => mulQ (t i) c) n := by
  induction n with
  | zero => exact zero_mulQ c
  | succ n ih => show mulQ (addQ _ _) c = addQ _ _; rw [addQ_mul, ih]
theorem sumQ_near {s t : Nat → Q2} {e : Nat → Rat} {n : Nat} (h : ∀ i, i < n → NearQ (s i) (t i) (e i)) : NearQ (sumQ s n) (sumQ t n) (psum e n) := by
  induction n with
  | zero => exact NearQ.refl _ (Rat.le_refl)
  | succ n ih => exact (ih fun i hi => h i (by omega)).add (h n (by omega))
theorem sumQ_size {t : Nat → Q2} {B : Nat → Rat} {n : Nat} (h : ∀ i, i < n → SizeQ (t i) (B i)) : SizeQ (sumQ t n) (psum B n) := by
  induction n with
  | zero => exact ⟨⟨by show (0 : Rat) ≤ 0; exact Rat.le_refl, by show -(0 : Rat) ≤ 0; decide⟩, ⟨by show (0 : Rat) ≤ 0; exact Rat.le_refl, by show -(0 : Rat) ≤ 0; decide⟩⟩
  | succ n ih => exact (ih fun i hi => h i (by omega)).add (h n (by omega))
theorem sumQ_split (t : Nat → Q2) (a b : Nat) : sumQ t (a + b) = addQ (sumQ t a) (sumQ (fun i => t (a + i)) b) := by
  induction b with
  | zero => exact (addQ_zero _).symm
  | succ b ih => show addQ (sumQ t (a + b)) (t (a + b)) = addQ _ (addQ _ _); rw [ih, addQ_assoc]
theorem sumQ_add (s t : Nat → Q2) (n : Nat) : sumQ (fun i => addQ (s i) (t i)) n = addQ (sumQ s n) (sumQ t n) := by
  induction n with
  | zero => exact (addQ_zero _).symm
  | succ n ih => show addQ _ _ = addQ (addQ _ _) (addQ _ _); rw [ih, addQ_four]
/-- Sums of sums, the other way round. -/
theorem sumQ_swap (f : Nat → Nat → Q2) (a b : Nat) : sumQ (fun i => sumQ (fun j => f i j) b) a = sumQ (fun j => sumQ (fun i => f i j) a) b := by
  induction a with
  | zero =>
    induction b with
    | zero => rfl
    | succ b ih => show _ = addQ _ _; rw [← ih]; exact (addQ_zero _).symm
  | succ a ih =>
    show addQ (sumQ _ a) (sumQ _ b) = sumQ (fun j => addQ (sumQ (fun i => f i j) a) (f a j)) b
    rw [ih, sumQ_add]
/-- All places, by their rests. -/
theorem sumQ_rests (f : Nat → Q2) (p m : Nat) : sumQ (fun r => sumQ (fun i => f (r + i * p)) m) p = sumQ f (p * m) := by
  rw [sumQ_swap]
  induction m with
  | zero => rfl
  | succ m ih =>
    show addQ (sumQ _ m) (sumQ (fun r => f (r + m * p)) p) = _
    rw [ih, Nat.mul_succ, sumQ_split]
    congr 1
    exact sumQ_congr fun r _ => by rw [Nat.add_comm, Nat.mul_comm]
theorem psum_rests (f : Nat → Rat) (p m : Nat) : psum (fun r => psum (fun i => f (r + i * p)) m) p = psum f (p * m) := by
  have h := sumQ_rests (fun i => (f i, (0 : Rat))) p m
  have e : ∀ (g : Nat → Rat) (n : Nat), (sumQ (fun i => (g i, (0 : Rat))) n).1 = psum g n := fun g n => by
    induction n with
    | zero => rfl
    | succ n ih => show (sumQ _ n).1 + g n = psum g n + g n; rw [ih]
  have e2 : ∀ (n : Nat), (sumQ (fun r => sumQ (fun i => (f (r + i * p), (0 : Rat))) m) n).1 = psum (fun r => psum (fun i => f (r + i * p)) m) n := fun n => by
    induction n with
    | zero => rfl
    | succ n ih => show (sumQ _ n).1 + (sumQ _ m).1 = psum _ n + _; rw [ih, e (fun i => f (n + i * p))]
  rw [← e2, h, e]

end Flt
end Go.Proofs.Yteamnfockjnilaa
/-
  Complex floats with values; a product with a turn; the exact turns' products. No program.
-/
set_option linter.unusedVariables false
set_option linter.unusedSimpArgs false
namespace Go.Proofs.Yteamnfockjnilaa
open Go Flt
namespace Flt
open Turn Fast

/-- A complex float with values. -/
def FvQ (z : Z) (q : Q2) : Prop := Fv z.1 q.1 ∧ Fv z.2 q.2

theorem div52 (B : Rat) : B / two 52 = B * ulp := by
  rw [two52, show ulp = 1 / 4503599627370496 from rfl, Rat.div_def, Rat.div_def, Rat.one_mul]
theorem fadd_near {a b : Option Nat} {p q B : Rat} (ha : Fv a p) (hb : Fv b q) (hs : Size (p + q) B) (hB : B ≤ 1152921504606846976) : ∃ r, Fv (fop .add .f64 a b) r ∧ Near r (p + q) (B * ulp + tiny) := by
  obtain ⟨r, h1, h2⟩ := fv_add ha hb (size_1000 hs (le_1000 hB))
  have := h2.near hs
  rw [div52] at this
  exact ⟨r, h1, this⟩
theorem fsub_near {a b : Option Nat} {p q B : Rat} (ha : Fv a p) (hb : Fv b q) (hs : Size (p - q) B) (hB : B ≤ 1152921504606846976) : ∃ r, Fv (fop .sub .f64 a b) r ∧ Near r (p - q) (B * ulp + tiny) := by
  obtain ⟨r, h1, h2⟩ := fv_sub ha hb (size_1000 hs (le_1000 hB))
  have := h2.near hs
  rw [div52] at this
  exact ⟨r, h1, this⟩
theorem fmul_near {a b : Option Nat} {p q B : Rat} (ha : Fv a p) (hb : Fv b q) (hs : Size (p * q) B) (hB : B ≤ 1152921504606846976) : ∃ r, Fv (fop .mul .f64 a b) r ∧ Near r (p * q) (B * ulp + tiny) := by
  obtain ⟨r, h1, h2⟩ := fv_mul ha hb (size_1000 hs (le_1000 hB))
  have := h2.near hs
  rw [div52] at this
  exact ⟨r, h1, this⟩

/-- What moderate sizes are. -/
structure Mid (Y : Rat) : Prop where
  lo : 1 / 1099511627776 ≤ Y
  hi : Y ≤ 1125899906842624
theorem ulp_pos : 0 < ulp := by decide +kernel
theorem Mid.tiny {Y : Rat} (h : Mid Y) : 256 * tiny ≤ ulp * Y := by
  have h1 := Rat.mul_le_mul_of_nonneg_left h.lo (Rat.le_of_lt ulp_pos)
  have h2 : 256 * Flt.tiny ≤ ulp * (1 / 1099511627776) := by
    have := tiny_le
    have h3 : (256 : Rat) * (1 / 1267650600228229401496703205376) ≤ ulp * (1 / 1099511627776) := by decide +kernel
    have h4 := Rat.mul_le_mul_of_nonneg_left this (show (0 : Rat) ≤ 256 by decide)
    exact Rat.le_trans h4 h3
  exact Rat.le_trans h2 h1
theorem Mid.pos {Y : Rat} (h : Mid Y) : 0 < Y := by
  have := h.lo
  have h2 : (0 : Rat) < 1 / 1099511627776 := by decide +kernel
  grind
theorem Mid.small {Y : Rat} (h : Mid Y) : ulp * Y ≤ Y / 1000000 ∧ 0 < ulp * Y := by
  have h1 : ulp ≤ 1 / 1000000 := by decide +kernel
  have h2 := Rat.mul_le_mul_of_nonneg_right h1 (Rat.le_of_lt h.pos)
  refine ⟨by rw [Rat.div_def, Rat.mul_comm Y]; rw [Rat.div_def, Rat.one_mul] at h2; exact h2, Rat.mul_pos ulp_pos h.pos⟩

/-- A complex sum of floats. -/
theorem cadd_near {a b : Z} {p q : Q2} {Y : Rat} (ha : FvQ a p) (hb : FvQ b q) (hs : SizeQ (addQ p q) Y) (hY : Mid Y) : ∃ v, FvQ (addZ a b) v ∧ NearQ v (addQ p q) (257 / 256 * (ulp * Y)) := by
  have hB : Y ≤ 1152921504606846976 := Rat.le_trans hY.hi (by decide +kernel)
  obtain ⟨r, h1, h2⟩ := fadd_near ha.1 hb.1 hs.re hB
  obtain ⟨s, h3, h4⟩ := fadd_near ha.2 hb.2 hs.im hB
  have ht := hY.tiny
  have e : Y * ulp + Flt.tiny ≤ 257 / 256 * (ulp * Y) := by
    rw [Rat.mul_comm Y]; grind
  exact ⟨(r, s), ⟨h1, h3⟩, ⟨h2.mono e, h4.mono e⟩⟩
theorem csub_near {a b : Z} {p q : Q2} {Y : Rat} (ha : FvQ a p) (hb : FvQ b q) (hs : SizeQ (subQ p q) Y) (hY : Mid Y) : ∃ v, FvQ (subZ a b) v ∧ NearQ v (subQ p q) (257 / 256 * (ulp * Y)) := by
  have hB : Y ≤ 1152921504606846976 := Rat.le_trans hY.hi (by decide +kernel)
  obtain ⟨r, h1, h2⟩ := fsub_near ha.1 hb.1 hs.re hB
  obtain ⟨s, h3, h4⟩ := fsub_near ha.2 hb.2 hs.im hB
  have ht := hY.tiny
  have e : Y * ulp + Flt.tiny ≤ 257 / 256 * (ulp * Y) := by
    rw [Rat.mul_comm Y]; grind
  exact ⟨(r, s), ⟨h1, h3⟩, ⟨h2.mono e, h4.mono e⟩⟩

/-- A complex product of floats, one of which is no greater than a turn. -/
theorem cmul_near {a b : Z} {p q : Q2} {Y : Rat} (ha : FvQ a p) (hb : FvQ b q) (hs : SizeQ p Y) (hq : SizeQ q (101 / 100)) (hY : Mid Y) (hY2 : Y ≤ 281474976710656) : ∃ v, FvQ (mulZ a b) v ∧ NearQ v (mulQ p q) (6 * (ulp * Y)) := by
  have hB : Y * (101 / 100) ≤ 1152921504606846976 := by grind
  obtain ⟨r1, h1, n1⟩ := fmul_near ha.1 hb.1 (hs.re.mul hq.re) hB
  obtain ⟨r2, h2, n2⟩ := fmul_near ha.2 hb.2 (hs.im.mul hq.im) hB
  obtain ⟨r3, h3, n3⟩ := fmul_near ha.1 hb.2 (hs.re.mul hq.im) hB
  obtain ⟨r4, h4, n4⟩ := fmul_near ha.2 hb.1 (hs.im.mul hq.re) hB
  have ht := hY.tiny
  obtain ⟨hw, hw0⟩ := hY.small
  have hp := hY.pos
  have t0 := tiny_pos
  have e1 : Y * (101 / 100) * ulp + Flt.tiny ≤ 103 / 100 * (ulp * Y) := by
    rw [Rat.mul_assoc, Rat.mul_comm (101 / 100), ← Rat.mul_assoc, Rat.mul_comm Y]; grind
  have s1 := (n1.mono e1)
  have s2 := (n2.mono e1)
  have s3 := (n3.mono e1)
  have s4 := (n4.mono e1)
  have z1 := hs.re.mul hq.re
  have z2 := hs.im.mul hq.im
  have z3 := hs.re.mul hq.im
  have z4 := hs.im.mul hq.re
  generalize hW : ulp * Y = W at *
  have k1 : Size (r1 - r2) (21 / 10 * Y) := by
    clear h1 h2 h3 h4 n1 n2 n3 n4 s3 s4 z3 z4 ha hb hs hq e1 ht hB hY2 t0
    generalize p.1 * q.1 = m1 at *
    generalize p.2 * q.2 = m2 at *
    obtain ⟨a1, a2⟩ := s1
    obtain ⟨b1, b2⟩ := s2
    obtain ⟨c1, c2⟩ := z1
    obtain ⟨d1, d2⟩ := z2
    constructor <;> grind
  have k2 : Size (r3 + r4) (21 / 10 * Y) := by
    clear h1 h2 h3 h4 n1 n2 n3 n4 s1 s2 z1 z2 ha hb hs hq e1 ht hB hY2 t0 k1
    generalize p.1 * q.2 = m1 at *
    generalize p.2 * q.1 = m2 at *
    obtain ⟨a1, a2⟩ := s3
    obtain ⟨b1, b2⟩ := s4
    obtain ⟨c1, c2⟩ := z3
    obtain ⟨d1, d2⟩ := z4
    constructor <;> grind
  have hB2 : 21 / 10 * Y ≤ 1152921504606846976 := by grind
  obtain ⟨r, h5, n5⟩ := fsub_near h1 h2 k1 hB2
  obtain ⟨s, h6, n6⟩ := fadd_near h3 h4 k2 hB2
  have e2 : 21 / 10 * Y * ulp + Flt.tiny ≤ 22 / 10 * W := by
    rw [Rat.mul_assoc, Rat.mul_comm Y, hW]; grind
  have s5 := n5.mono e2
  have s6 := n6.mono e2
  refine ⟨(r, s), ⟨h5, h6⟩, ?_⟩
  clear h1 h2 h3 h4 h5 h6 n1 n2 n3 n4 n5 n6 z1 z2 z3 z4 ha hb hs hq e1 e2 ht hB hB2 hY2 t0 k1 k2 hW hw hp
  unfold mulQ
  generalize p.1 * q.1 = m1 at *
  generalize p.2 * q.2 = m2 at *
  generalize p.1 * q.2 = m3 at *
  generalize p.2 * q.1 = m4 at *
  obtain ⟨a1, a2⟩ := s1
  obtain ⟨b1, b2⟩ := s2
  obtain ⟨c1, c2⟩ := s3
  obtain ⟨d1, d2⟩ := s4
  obtain ⟨e1, e2⟩ := s5
  obtain ⟨f1, f2⟩ := s6
  exact ⟨⟨by simp only; grind, by simp only; grind⟩, ⟨by simp only; grind, by simp only; grind⟩⟩

/-- The parts of a turn together. -/
theorem sum_of_squares {c s : Rat} (h : c * c + s * s ≤ 1001 / 1000) : nrm (c, s) ≤ 17 / 12 := by
  have ha : ab c * ab c = c * c := by unfold ab; split <;> grind
  have hb : ab s * ab s = s * s := by unfold ab; split <;> grind
  have h0 := ab_nonneg c
  have h1 := ab_nonneg s
  show ab c + ab s ≤ 17 / 12
  rw [← ha, ← hb] at h
  clear ha hb
  generalize ab c = a at *
  generalize ab s = b at *
  refine Rat.not_lt.1 fun hlt => ?_
  have h2 : 0 ≤ (a - b) * (a - b) := by
    rcases Rat.le_total (a := 0) (b := a - b) with h | h
    · exact Rat.mul_nonneg h h
    · have := Rat.mul_nonneg (show 0 ≤ -(a - b) by grind) (show 0 ≤ -(a - b) by grind)
      grind
  have h3 : 0 < (a + b - 17 / 12) * (a + b + 17 / 12) := Rat.mul_pos (by grind) (by grind)
  have e1 : (a - b) * (a - b) = a * a + b * b - 2 * (a * b) := by grind
  have e2 : (a + b - 17 / 12) * (a + b + 17 / 12) = a * a + b * b + 2 * (a * b) - 289 / 144 := by grind
  rw [e1] at h2
  rw [e2] at h3
  generalize a * a = x at *
  generalize b * b = y at *
  generalize a * b = z at *
  grind

/-- The exact turn of a part. -/
def cis (q : Rat) : Q2 := (cq q, sq q)
def cisr (n j : Nat) : Q2 := cis ((rst n j : Rat) / (n : Rat))
theorem rst_lt {n : Nat} (j : Nat) (hn : 0 < n) : rst n j < n := Nat.mod_lt _ hn
theorem cis_size {q : Rat} (h : Size q 1) : SizeQ (cis q) (1 + dl) := ⟨(cq_size h).1, (cq_size h).2⟩
theorem cisr_size {n : Nat} (j : Nat) (hn : 0 < n) : SizeQ (cisr n j) (1 + dl) := cis_size (part_size hn (Nat.le_of_lt (rst_lt j hn)))
theorem dl_small : 0 < dl ∧ dl ≤ ulp / 200000 ∧ dl ≤ 1 / 1000000000000 := by decide +kernel

/-- A float times a turn, by the exact numbers. -/
theorem cmul_cis {y : Z} {q A : Q2} {e S : Rat} {n k : Nat} (hy : FvQ y q) (hA : NearQ q A e) (hs : SizeQ A (S * (1001 / 1000))) (he : 0 ≤ e) (heS : e ≤ S / 20) (hS : Mid S) (hS2 : S ≤ 140737488355328) (hn : 0 < n) (hn2 : n ≤ 2048) (hk : k ≤ n) :
    ∃ v, FvQ (mulZ y (turn n k)) v ∧ NearQ v (mulQ A (cis ((k : Rat) / (n : Rat)))) (17 / 12 * e + 35 * (ulp * S)) := by
  obtain ⟨c, s, ht⟩ := TV.ex (k := k) hn hn2 hk
  obtain ⟨t1, t2⟩ := ht.near hn hn2 hk
  have hsk := part_size hn hk
  have h1 := cq_sq hsk
  obtain ⟨g1, g2⟩ := cq_size hsk
  have hd := dl_small
  have hu : ulp ≤ 1 / 1000000000 := by decide +kernel
  have hu0 := ulp_pos
  have hp := hS.pos
  have cs : SizeQ (c, s) (101 / 100) := by
    obtain ⟨a1, a2⟩ := t1
    obtain ⟨b1, b2⟩ := t2
    obtain ⟨c1, c2⟩ := g1
    obtain ⟨d1, d2⟩ := g2
    exact ⟨⟨by simp only; grind, by simp only; grind⟩, ⟨by simp only; grind, by simp only; grind⟩⟩
  have hsq : c * c + s * s ≤ 1001 / 1000 := by
    have m1 := near_mul t1 cs.re
    have m2 := near_mul t2 cs.im
    have m3 := near_mul t1 (g1.mono (show 1 + dl ≤ 101 / 100 by grind))
    have m4 := near_mul t2 (g2.mono (show 1 + dl ≤ 101 / 100 by grind))
    simp only at m1 m2
    rw [Rat.mul_comm c (cq _)] at m3
    rw [Rat.mul_comm s (sq _)] at m4
    obtain ⟨a1, -⟩ := m1
    obtain ⟨a2, -⟩ := m2
    obtain ⟨a3, -⟩ := m3
    obtain ⟨a4, -⟩ := m4
    obtain ⟨a5, -⟩ := h1
    generalize cq ((k : Rat) / (n : Rat)) = C at *
    generalize sq ((k : Rat) / (n : Rat)) = D at *
    generalize c * c = v1 at *
    generalize s * s = v2 at *
    generalize C * c = v3 at *
    generalize D * s = v4 at *
    generalize C * C = w1 at *
    generalize D * D = w2 at *
    clear cs t1 t2 g1 g2 ht hs hA hy
    grind
  have hnr := sum_of_squares hsq
  have hq : SizeQ q (11 / 10 * S) := (hA.size hs).mono (by grind)
  have hY : Mid (11 / 10 * S) := ⟨by have := hS.lo; grind, by grind⟩
  obtain ⟨v, h2, h3⟩ := cmul_near (b := turn n k) (q := (c, s)) hy ⟨ht.1, ht.2⟩ hq cs hY (by grind)
  have h4 := mulQ_near_l hA hnr he
  have hN : nrm A ≤ 2002 / 1000 * S := Rat.le_trans (nrm_le hs) (by grind)
  have h5 := mulQ_near_r (a := A) (b := (c, s)) (c := cis ((k : Rat) / (n : Rat))) ⟨t1, t2⟩ hN (by grind)
  refine ⟨v, h2, ((h3.trans h4).trans h5).mono ?_⟩
  have e1 : 6 * (ulp * (11 / 10 * S)) = 66 / 10 * (ulp * S) := by grind
  have e2 : 2002 / 1000 * S * (14 * ulp) = 28028 / 1000 * (ulp * S) := by grind
  have h0 : 0 < ulp * S := Rat.mul_pos hu0 hp
  rw [e1, e2]
  generalize ulp * S = U at *
  grind

end Flt
end Go.Proofs.Yteamnfockjnilaa
/-
  Products of exact turns; the exact transform and how it is made of those of the parts. No program.
-/
set_option linter.unusedVariables false
set_option linter.unusedSimpArgs false
namespace Go.Proofs.Yteamnfockjnilaa
open Go Flt
namespace Flt
open Turn Fast

theorem rst_mod {n : Nat} (j : Nat) : rst n (j % n) = rst n j := by unfold rst; rw [Nat.mod_mod]
theorem rst_add_mul {n : Nat} (j t : Nat) : rst n (j + t * n) = rst n j := by unfold rst; rw [Nat.add_mul_mod_self_right]
theorem rst_scale {p m : Nat} (j : Nat) (hp : 0 < p) : rst (p * m) (p * j) = p * rst m j := by
  unfold rst
  rw [Nat.mul_mod_mul_left, ← Nat.mul_sub, Nat.mul_mod_mul_left]
theorem rst_sum {n : Nat} (a b : Nat) (hn : 0 < n) : rst n a + rst n b = rst n (a + b) ∨ rst n a + rst n b = n + rst n (a + b) := by
  have key : ∀ x, x < n → (n - x) % n = if x = 0 then 0 else n - x := fun x hx => by
    split
    · rename_i h; rw [h, Nat.sub_zero, Nat.mod_self]
    · exact Nat.mod_eq_of_lt (by omega)
  have ha := Nat.mod_lt a hn
  have hb := Nat.mod_lt b hn
  unfold rst
  rw [key _ ha, key _ hb, key _ (Nat.mod_lt _ hn), Nat.add_mod]
  generalize a % n = x at *
  generalize b % n = y at *
  by_cases h : x + y < n
  · rw [Nat.mod_eq_of_lt h]
    split <;> split <;> split <;> omega
  · rw [show (x + y) % n = x + y - n by rw [Nat.mod_eq_sub_mod (by omega), Nat.mod_eq_of_lt (by omega)]]
    split <;> split <;> split <;> omega

theorem cisr_scale {p m : Nat} (j : Nat) (hp : 0 < p) (hm : 0 < m) : cisr (p * m) (p * j) = cisr m j := by
  unfold cisr
  rw [rst_scale j hp, Rat.natCast_mul, Rat.natCast_mul]
  congr 1
  have g0 := Rat.mul_inv_cancel _ (Rat.ne_of_gt (Rat.natCast_pos.2 hp))
  rw [Rat.div_def, Rat.div_def, Rat.inv_mul_rev]
  grind
theorem cisr_add_mul {n : Nat} (j t : Nat) : cisr n (j + t * n) = cisr n j := by unfold cisr; rw [rst_add_mul]
theorem cisr_zero {n : Nat} (hn : 0 < n) : cisr n 0 = (1, 0) := by
  have e : rst n 0 = 0 := by unfold rst; rw [Nat.zero_mod, Nat.sub_zero, Nat.mod_self]
  unfold cisr cis
  rw [e]
  have : ((0 : Nat) : Rat) / (n : Rat) = 0 := by rw [Rat.div_def]; exact Rat.zero_mul _
  rw [this, cq_zero.1, cq_zero.2]

theorem cis_add' {p q : Rat} (hp : Size p 1) (hq : Size q 1) : NearQ (mulQ (cis p) (cis q)) (cis (p + q)) dl := by
  obtain ⟨h1, h2⟩ := cq_add hp hq
  refine ⟨h1, ?_⟩
  unfold mulQ cis
  simp only
  rw [Rat.add_comm]
  exact h2
theorem cisr_mul {n : Nat} (a b : Nat) (hn : 0 < n) : NearQ (mulQ (cisr n a) (cisr n b)) (cisr n (a + b)) (6 * dl) := by
  have h1 := cis_add' (part_size hn (Nat.le_of_lt (rst_lt a hn))) (part_size hn (Nat.le_of_lt (rst_lt b hn)))
  have e : (rst n a : Rat) / (n : Rat) + (rst n b : Rat) / (n : Rat) = ((rst n a + rst n b : Nat) : Rat) / (n : Rat) := by
    rw [Rat.natCast_add, Rat.div_def, Rat.div_def, Rat.div_def, Rat.add_mul]
  rw [e] at h1
  have hd := dl_small.1
  rcases rst_sum a b hn with h | h
  · rw [h] at h1
    exact h1.mono (by grind)
  · rw [h] at h1
    have e2 : ((n + rst n (a + b) : Nat) : Rat) / (n : Rat) = 1 + (rst n (a + b) : Rat) / (n : Rat) := by
      have g0 := Rat.mul_inv_cancel _ (Rat.ne_of_gt (Rat.natCast_pos.2 hn))
      rw [Rat.natCast_add, Rat.div_def, Rat.div_def]; grind
    rw [e2] at h1
    obtain ⟨t1, t2⟩ := cq_turn (part_size hn (Nat.le_of_lt (rst_lt (a + b) hn)))
    have h2 : NearQ (cis (1 + (rst n (a + b) : Rat) / (n : Rat))) (cisr n (a + b)) (5 * dl) := ⟨t1, t2⟩
    exact (h1.trans h2).mono (by grind)
/-- A product of three. -/
theorem cisr_mul3 {n : Nat} (a b c : Nat) (hn : 0 < n) : NearQ (mulQ (mulQ (cisr n a) (cisr n b)) (cisr n c)) (cisr n (a + b + c)) (20 * dl) := by
  have h1 := cisr_mul a b hn
  have hd := dl_small
  have hs : nrm (cisr n c) ≤ 21 / 10 := Rat.le_trans (nrm_le (cisr_size c hn)) (by grind)
  have h2 := mulQ_near_l h1 hs (by grind)
  exact (h2.trans (cisr_mul (a + b) c hn)).mono (by grind)

/-- The exact transform. -/
def dft (x : Nat → Q2) (n k : Nat) : Q2 := sumQ (fun j => mulQ (x j) (cisr n (j * k))) n
theorem psum_le {f g : Nat → Rat} {n : Nat} (h : ∀ i, i < n → f i ≤ g i) : psum f n ≤ psum g n := by
  induction n with
  | zero => exact Rat.le_refl
  | succ n ih =>
    have h1 := ih (fun i hi => h i (by omega))
    have h2 := h n (by omega)
    rw [psum_succ, psum_succ]; grind
/-- Sums of weighted numbers. -/
theorem weighted_size {x w : Nat → Q2} {s : Nat → Rat} {B : Rat} {n : Nat} (hB : 0 ≤ B) (hx : ∀ i, i < n → nrm (x i) ≤ s i) (hw : ∀ i, i < n → SizeQ (w i) B) : SizeQ (sumQ (fun i => mulQ (x i) (w i)) n) (psum s n * B) := by
  have h := sumQ_size (t := fun i => mulQ (x i) (w i)) (B := fun i => s i * B) (fun i hi => mulQ_size (hx i hi) (hw i hi) hB)
  rwa [psum_mul] at h
theorem weighted_near {x w v : Nat → Q2} {s : Nat → Rat} {e : Rat} {n : Nat} (he : 0 ≤ e) (hx : ∀ i, i < n → nrm (x i) ≤ s i) (hw : ∀ i, i < n → NearQ (w i) (v i) e) : NearQ (sumQ (fun i => mulQ (x i) (w i)) n) (sumQ (fun i => mulQ (x i) (v i)) n) (psum s n * e) := by
  have h := sumQ_near (s := fun i => mulQ (x i) (w i)) (t := fun i => mulQ (x i) (v i)) (e := fun i => s i * e) (fun i hi => mulQ_near_r (hw i hi) (hx i hi) he)
  rwa [psum_mul] at h

/-- A part's number, turned once or twice, as a sum of turned numbers. -/
theorem part_once (x : Nat → Q2) (p m r k : Nat) (c : Q2) : mulQ (dft (fun i => x (r + i * p)) m k) c = sumQ (fun i => mulQ (x (r + i * p)) (mulQ (cisr m (i * k)) c)) m := by
  unfold dft
  rw [sumQ_mul]
  exact sumQ_congr fun i _ => mulQ_assoc _ _ _
theorem part_twice (x : Nat → Q2) (p m r k : Nat) (c d : Q2) : mulQ (mulQ (dft (fun i => x (r + i * p)) m k) c) d = sumQ (fun i => mulQ (x (r + i * p)) (mulQ (mulQ (cisr m (i * k)) c) d)) m := by
  rw [part_once, sumQ_mul]
  exact sumQ_congr fun i _ => mulQ_assoc _ _ _

theorem twice_size {m n p a b c : Nat} (hm : 0 < m) (hn : 0 < n) (hp : 0 < p) : SizeQ (mulQ (cisr m a) (cisr n b)) (5 / 2) := by
  have hd := dl_small
  have h1 := nrm_le (cisr_size a hm)
  exact (mulQ_size (N := 21 / 10) (Rat.le_trans h1 (by grind)) (cisr_size b hn) (by grind)).mono (by grind)

/-- The size of a part's number when it is turned. -/
theorem partB_size {x : Nat → Q2} {s : Nat → Rat} {p m : Nat} (r k : Nat) (hp : 0 < p) (hm : 0 < m) (hx : ∀ i, i < m → nrm (x (r + i * p)) ≤ s (r + i * p)) :
    SizeQ (mulQ (dft (fun i => x (r + i * p)) m k) (cisr (p * m) (r * k))) (psum (fun i => s (r + i * p)) m * (1001 / 1000)) := by
  have hn : 0 < p * m := Nat.mul_pos hp hm
  rw [part_once]
  have hd := dl_small
  refine weighted_size (by decide +kernel) hx fun i hi => ?_
  rw [← cisr_scale (i * k) hp hm]
  exact ((cisr_mul _ _ hn).size (cisr_size _ hn)).mono (by grind)
theorem partA_size {x : Nat → Q2} {s : Nat → Rat} {p m : Nat} (r k : Nat) (hp : 0 < p) (hm : 0 < m) (hx : ∀ i, i < m → nrm (x (r + i * p)) ≤ s (r + i * p)) :
    SizeQ (dft (fun i => x (r + i * p)) m k) (psum (fun i => s (r + i * p)) m * (1001 / 1000)) := by
  have hd := dl_small
  exact weighted_size (by decide +kernel) hx fun i hi => (cisr_size _ hm).mono (by grind)
theorem partD_size {x : Nat → Q2} {s : Nat → Rat} {p m : Nat} (r k q : Nat) (hp : 0 < p) (hm : 0 < m) (hx : ∀ i, i < m → nrm (x (r + i * p)) ≤ s (r + i * p)) :
    SizeQ (mulQ (mulQ (dft (fun i => x (r + i * p)) m k) (cisr (p * m) (r * k))) (cisr p (r * q))) (psum (fun i => s (r + i * p)) m * (1001 / 1000)) := by
  have hn : 0 < p * m := Nat.mul_pos hp hm
  rw [part_twice]
  have hd := dl_small
  refine weighted_size (by decide +kernel) hx fun i hi => ?_
  rw [← cisr_scale (i * k) hp hm, ← cisr_scale (r * q) hm hp, Nat.mul_comm m p]
  exact ((cisr_mul3 _ _ _ hn).size (cisr_size _ hn)).mono (by grind)

/-- The parts' numbers, turned twice and added, are the transform. -/
theorem parts_near {x : Nat → Q2} {s : Nat → Rat} {p m : Nat} (k q : Nat) (hp : 0 < p) (hm : 0 < m) (hx : ∀ j, j < p * m → nrm (x j) ≤ s j) :
    NearQ (sumQ (fun r => mulQ (mulQ (dft (fun i => x (r + i * p)) m k) (cisr (p * m) (r * k))) (cisr p (r * q))) p) (dft x (p * m) (k + q * m)) (psum s (p * m) * (20 * dl)) := by
  have hn : 0 < p * m := Nat.mul_pos hp hm
  have hd := dl_small
  have hin : ∀ r i, r < p → i < m → r + i * p < p * m := fun r i hr hi => by
    have : (i + 1) * p ≤ m * p := Nat.mul_le_mul_right _ hi
    rw [Nat.add_mul, Nat.one_mul, Nat.mul_comm m p] at this
    omega
  have e1 : dft x (p * m) (k + q * m) = sumQ (fun r => sumQ (fun i => mulQ (x (r + i * p)) (cisr (p * m) ((r + i * p) * (k + q * m)))) m) p := by
    unfold dft
    rw [sumQ_rests (fun j => mulQ (x j) (cisr (p * m) (j * (k + q * m)))) p m]
  have e2 : psum s (p * m) * (20 * dl) = psum (fun r => psum (fun i => s (r + i * p)) m * (20 * dl)) p := by
    rw [psum_mul, psum_rests]
  rw [e1, e2]
  refine sumQ_near fun r hr => ?_
  rw [part_twice]
  refine weighted_near (by grind) (fun i hi => hx _ (hin r i hr hi)) fun i hi => ?_
  rw [← cisr_scale (i * k) hp hm, ← cisr_scale (r * q) hm hp, Nat.mul_comm m p]
  have h := cisr_mul3 (p * (i * k)) (r * k) (m * (r * q)) hn
  have e3 : cisr (p * m) ((r + i * p) * (k + q * m)) = cisr (p * m) (p * (i * k) + r * k + m * (r * q)) := by
    rw [← cisr_add_mul (p * (i * k) + r * k + m * (r * q)) (i * q)]
    congr 1
    rw [Nat.add_mul, Nat.mul_add, Nat.mul_add]
    have a1 : r * (q * m) = m * (r * q) := by rw [Nat.mul_comm m, Nat.mul_assoc]
    have a2 : i * p * k = p * (i * k) := by rw [Nat.mul_comm i p, Nat.mul_assoc]
    have a3 : i * p * (q * m) = i * q * (p * m) := by
      rw [Nat.mul_assoc, Nat.mul_assoc, Nat.mul_left_comm p q m]
    rw [a1, a2, a3]; omega
  rw [e3]
  exact h

end Flt
end Go.Proofs.Yteamnfockjnilaa
