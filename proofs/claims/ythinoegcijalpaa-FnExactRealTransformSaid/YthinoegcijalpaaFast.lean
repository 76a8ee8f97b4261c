import Derived.Test.YthinoegcijalpaaTurnP
import Derived.Test.YthinoegcijalpaaFac
import Derived.Test.YthinoegcijalpaaSigB
/-
  The fast transform as a plain relation between lists. No program.
-/
set_option linter.unusedVariables false
set_option linter.unusedSimpArgs false
namespace Go.Proofs.Ythinoegcijalpaa
open Go Flt Turn
namespace Fast

/-- The rest of -j by division by n. -/
def rst (n j : Nat) : Nat := (n - j % n) % n
def twid (n j : Nat) : Z := turn n (rst n j)

/-- The numbers at r, r + p, r + 2 * p and so on. -/
def every (xs : List Z) (r p : Nat) : List Z := (List.range ((xs.length - r + p - 1) / p)).map fun i => xs.getD (r + i * p) z0

/-- The terms of a place. -/
def term (n : Nat) (ys : Nat → List Z) (k r : Nat) : Z := if r = 0 then (ys 0).getD k z0 else mulZ ((ys r).getD k z0) (twid n (r * k))

/-- The sum of the first j terms, turned. -/
def sumT (t : Nat → Z) (p q : Nat) : Nat → Z
  | 0 => t 0
  | j + 1 => if j = 0 then t 0 else addZ (sumT t p q j) (mulZ (t j) (twid p (j * q)))

def outP (n p : Nat) (ys : Nat → List Z) (k q : Nat) : Z :=
  if p = 2 then (if q = 0 then addZ (term n ys k 0) (term n ys k 1) else subZ (term n ys k 0) (term n ys k 1))
  else sumT (term n ys k) p q p

def joinP (n p : Nat) (ys : Nat → List Z) : List Z := (List.range n).map fun i => outP n p ys (i % (n / p)) (i / (n / p))

inductive Fast : List Z → List Z → Prop
  | small {xs : List Z} (h : xs.length ≤ 1) : Fast xs xs
  | step {xs : List Z} {p : Nat} {ys : Nat → List Z} (hn : 1 < xs.length) (hp : Fac.Least xs.length p) (h : ∀ r, r < p → Fast (every xs r p) (ys r)) : Fast xs (joinP xs.length p ys)

theorem term_congr {n p : Nat} {ys ys' : Nat → List Z} (h : ∀ r, r < p → ys r = ys' r) {k r : Nat} (hr : r < p) (hp : 0 < p) : term n ys k r = term n ys' k r := by
  unfold term
  split
  · rw [h 0 hp]
  · rw [h r hr]

theorem sumT_congr {t t' : Nat → Z} {p q : Nat} (hp : 0 < p) (h : ∀ r, r < p → t r = t' r) : ∀ j, j ≤ p → sumT t p q j = sumT t' p q j
  | 0, _ => h 0 hp
  | j + 1, hj => by
    unfold sumT
    split
    · exact h 0 hp
    · rw [sumT_congr hp h j (by omega), h j (by omega)]

theorem joinP_congr {n p : Nat} {ys ys' : Nat → List Z} (h : ∀ r, r < p → ys r = ys' r) (hp : 2 ≤ p) : joinP n p ys = joinP n p ys' := by
  unfold joinP
  congr 1
  funext i
  unfold outP
  split
  · rw [term_congr h (by omega) (by omega), term_congr h (r := 1) (by omega) (by omega)]
  · exact sumT_congr (by omega) (fun r hr => term_congr h hr (by omega)) p (Nat.le_refl _)

theorem Fast.unique {xs ys zs : List Z} (h : Fast xs ys) (h' : Fast xs zs) : ys = zs := by
  induction h generalizing zs with
  | small h =>
    cases h' with
    | small => rfl
    | step hn => omega
  | step hn hp _ ih =>
    cases h' with
    | small h => omega
    | step hn' hp' h' =>
      obtain rfl := hp.unique hp'
      exact joinP_congr (fun r hr => ih r hr (h' r hr)) hp.two

theorem joinP_length (n p : Nat) (ys : Nat → List Z) : (joinP n p ys).length = n := by simp [joinP]
theorem Fast.length {xs ys : List Z} (h : Fast xs ys) : ys.length = xs.length := by
  cases h with
  | small => rfl
  | step => exact joinP_length _ _ _

theorem joinP_getD {n p : Nat} {ys : Nat → List Z} {i : Nat} (h : i < n) : (joinP n p ys).getD i z0 = outP n p ys (i % (n / p)) (i / (n / p)) := by
  simp [joinP, List.getD, h]

/-- How many numbers a part has. -/
theorem every_length {xs : List Z} {r p m : Nat} (hp : 0 < p) (hn : xs.length = p * m) (hr : r < p) : (every xs r p).length = m := by
  unfold every
  rw [List.length_map, List.length_range, hn]
  by_cases hm : m = 0
  · subst hm
    rw [Nat.mul_zero, Nat.zero_sub, Nat.zero_add]
    exact Nat.div_eq_of_lt (by omega)
  · have h1 : p ≤ p * m := Nat.le_mul_of_pos_right _ (by omega)
    have e : p * m - r + p - 1 = (p - 1 - r) + m * p := by rw [Nat.mul_comm m p]; omega
    rw [e, Nat.add_mul_div_right _ _ hp, Nat.div_eq_of_lt (by omega), Nat.zero_add]

theorem every_getD {xs : List Z} {r p m i : Nat} (hp : 0 < p) (hn : xs.length = p * m) (hr : r < p) (hi : i < m) : (every xs r p).getD i z0 = xs.getD (r + i * p) z0 := by
  have hl := every_length hp hn hr
  unfold every at hl ⊢
  rw [List.length_map, List.length_range] at hl
  rw [hl]
  simp [List.getD, hi]

end Fast
end Go.Proofs.Ythinoegcijalpaa
