import Derived.Test.YthinoegcijalpaaKit
/-
  The factors of a number, as lists of naturals: no program.
-/
set_option linter.unusedVariables false
namespace Go.Proofs.Ythinoegcijalpaa
namespace Fac

/-- p is the least divisor from 2 on. -/
structure Least (n p : Nat) : Prop where
  two : 2 ≤ p
  dvd : n % p = 0
  least : ∀ q, 2 ≤ q → q < p → n % q ≠ 0

theorem Least.unique {n p q : Nat} (h : Least n p) (h' : Least n q) : p = q := by
  rcases Nat.lt_trichotomy p q with a | a | a
  · exact absurd h.dvd (h'.least p h.two a)
  · exact a
  · exact absurd h'.dvd (h.least q h'.two a)

theorem Least.le {n p : Nat} (h : Least n p) (hn : 1 < n) : p ≤ n :=
  Nat.le_of_not_lt fun hlt => h.least n hn hlt (Nat.mod_self n)

/-- xs are the prime factors of n, each the least one of what is left. -/
inductive Facs : Nat → List Nat → Prop
  | one : Facs 1 []
  | more {n p : Nat} {xs : List Nat} (hn : 1 < n) (hp : Least n p) (h : Facs (n / p) xs) : Facs n (p :: xs)

theorem Facs.unique {n : Nat} {xs ys : List Nat} (h : Facs n xs) (h' : Facs n ys) : xs = ys := by
  induction h generalizing ys with
  | one =>
    cases h' with
    | one => rfl
    | more hn => omega
  | more hn hp _ ih =>
    cases h' with
    | one => omega
    | more hn' hp' h' =>
      obtain rfl := hp.unique hp'
      rw [ih h']

theorem Facs.pos {n : Nat} {xs : List Nat} (h : Facs n xs) : 1 ≤ n := by cases h <;> omega

theorem dvd_trans_mod {a b c : Nat} (h : a % b = 0) (h' : b % c = 0) : a % c = 0 :=
  Nat.mod_eq_zero_of_dvd (Nat.dvd_trans (Nat.dvd_of_mod_eq_zero h') (Nat.dvd_of_mod_eq_zero h))

theorem div_dvd {n p : Nat} (h : n % p = 0) : n % (n / p) = 0 :=
  Nat.mod_eq_zero_of_dvd (Nat.div_dvd_of_dvd (Nat.dvd_of_mod_eq_zero h))

theorem Facs.len {n : Nat} {xs : List Nat} (h : Facs n xs) : 2 ^ xs.length ≤ n := by
  induction h with
  | one => simp
  | @more n p xs hn hp _ ih =>
    have e : n / p * p = n := Nat.div_mul_cancel (Nat.dvd_of_mod_eq_zero hp.dvd)
    have : n / p * 2 ≤ n / p * p := Nat.mul_le_mul_left _ hp.two
    simp only [List.length_cons, Nat.pow_succ]
    omega

theorem Facs.len_le {n : Nat} {xs : List Nat} (h : Facs n xs) (hn : n ≤ 1024) : xs.length ≤ 10 := by
  have := h.len
  apply Nat.le_of_not_lt
  intro hc
  have h1 : 2 ^ 11 ≤ 2 ^ xs.length := Nat.pow_le_pow_right (by omega) hc
  have h2 : (2 : Nat) ^ 11 = 2048 := by decide
  omega

/-- Each factor divides the number, is 2 or more, and has no divisor of its own. -/
theorem Facs.each {n : Nat} {xs : List Nat} (h : Facs n xs) : ∀ x ∈ xs, 2 ≤ x ∧ n % x = 0 ∧ ∀ d, 2 ≤ d → d < x → x % d ≠ 0 := by
  induction h with
  | one => intro x hx; cases hx
  | @more n p xs hn hp _ ih =>
    intro x hx
    rcases List.mem_cons.1 hx with rfl | hx
    · exact ⟨hp.two, hp.dvd, fun d h2 hd he => hp.least d h2 hd (dvd_trans_mod hp.dvd he)⟩
    · obtain ⟨a, b, c⟩ := ih x hx
      exact ⟨a, dvd_trans_mod (div_dvd hp.dvd) b, c⟩

theorem Facs.rises {n : Nat} {xs : List Nat} (h : Facs n xs) : ∀ i, i + 1 < xs.length → xs.getD i 0 ≤ xs.getD (i + 1) 0 := by
  induction h with
  | one => intro i hi; simp at hi
  | @more n p xs hn hp ht ih =>
    intro i hi
    cases i with
    | zero =>
      cases xs with
      | nil => simp at hi
      | cons q ys =>
        simp only [List.getD_cons_zero, List.getD_cons_succ]
        obtain ⟨a, b, _⟩ := ht.each q (by simp)
        exact Nat.le_of_not_lt fun hlt => hp.least q a hlt (dvd_trans_mod (div_dvd hp.dvd) b)
    | succ i =>
      simp only [List.getD_cons_succ]
      exact ih i (by simpa using hi)

/-- The product of the first k. -/
def prod (xs : List Nat) (k : Nat) : Nat := (xs.take k).foldl (· * ·) 1

theorem foldl_mul (xs : List Nat) : ∀ a, xs.foldl (· * ·) a = a * xs.foldl (· * ·) 1 := by
  induction xs with
  | nil => intro a; simp
  | cons x xs ih => intro a; simp only [List.foldl_cons]; rw [ih (a * x), ih (1 * x), Nat.one_mul, Nat.mul_assoc]

theorem prod_zero (xs : List Nat) : prod xs 0 = 1 := rfl

theorem prod_succ {xs : List Nat} {k : Nat} (h : k < xs.length) : prod xs (k + 1) = prod xs k * xs.getD k 0 := by
  unfold prod
  rw [List.take_add_one, List.foldl_append]
  have e : xs[k]? = some (xs.getD k 0) := by simp [List.getD, h]
  rw [e]; rfl

theorem Facs.product {n : Nat} {xs : List Nat} (h : Facs n xs) : xs.foldl (· * ·) 1 = n := by
  induction h with
  | one => rfl
  | @more n p xs hn hp _ ih =>
    simp only [List.foldl_cons]
    rw [foldl_mul, ih, Nat.one_mul, Nat.mul_comm]
    exact Nat.div_mul_cancel (Nat.dvd_of_mod_eq_zero hp.dvd)

theorem Facs.prod_all {n : Nat} {xs : List Nat} (h : Facs n xs) : prod xs xs.length = n := by
  unfold prod; rw [List.take_length]; exact h.product

theorem Facs.prod_le {n : Nat} {xs : List Nat} (h : Facs n xs) (k : Nat) : prod xs k ≤ n := by
  have hn := h.pos
  have e : xs.foldl (· * ·) 1 = prod xs k * (xs.drop k).foldl (· * ·) 1 := by
    unfold prod
    rw [← foldl_mul, ← List.foldl_append, List.take_append_drop]
  rw [h.product] at e
  exact Nat.le_of_dvd (by omega) ⟨_, e⟩

end Fac
end Go.Proofs.Ythinoegcijalpaa
