import Derived.Test.YtpobbicbfnglaaaWinE
/-
  OverlapSums of the program; RippleOf of both.
-/
set_option linter.unusedVariables false
set_option linter.unusedSimpArgs false
namespace Go.Proofs.Ytpobbicbfnglaaa
open Go.RowKit Flt Fast
attribute [local go_sem] run_fadd run_fsub run_fmul run_fquo run_cadd run_csub

theorem gb_of_below {w w' : World} (h : Below w.heap.size w w') : w.grownBy w' none := ⟨h.os, h.tape, h.output, h.size, fun k hk _ => h.block k hk⟩
theorem below_of_gb {w w' : World} (h : w.grownBy w' none) : Below w.heap.size w w' := (Below.refl _ _).grown h (Nat.le_refl _) (by simp)

/-- listOf over floats where the closure reads what was there alone. -/
theorem listOf_f64' (fn : Nat) (capt : Array Value) (n : Nat) (hn : n ≤ 1000000) (z : Nat → Option Nat) (w : World)
    (hfn : ∀ (args : Array Value) (w : World), (callFunc fn args).run Try.prog w = .ok (.enter fn args) w)
    (hcall : ∀ i w1, i < n → Below w.heap.size w w1 → Calls Try.prog fn (#[.int .i64 (i : Int)] ++ capt) w1 fun e w2 => ∃ p : Nat, e = .returned (fval p) ∧ IsF p (z i) ∧ Below w1.heap.size w1 w2) :
    Calls Try.prog 44 #[.int .i64 n, .func (.func fn) #[] capt] w fun e w' =>
      ∃ v xs, e = .returned v ∧ Row w' w.heap.size 29 v (flts xs) ∧ xs.length = n ∧ (∀ i, i < n → IsF (xs.getD i 0) (z i)) ∧ Below w.heap.size w w' := by
  refine (listOf_f64 fn capt n hn z (fun _ w1 => Below w.heap.size w w1) none w hfn (fun k h => by cases h) (fun w' h => below_of_gb h)
    (fun i w1 w2 hs hI hg => hI.grown hg hI.size (fun b e => by simp at e; omega)) (fun i w1 hi hs hI => (hcall i w1 hi hI).mono ?_)).mono ?_
  · rintro e w2 ⟨p, rfl, hp, hb⟩
    exact ⟨p, rfl, hp, below_step hI hb hI.size, gb_of_below hb⟩
  · rintro e w' ⟨v, xs, rfl, hr, hl, hg, hI, -⟩
    exact ⟨v, xs, rfl, hr, hl, hg, hI⟩

/-- Greater, less: up to the choice of a NaN. -/
def gtO : Option Nat → Option Nat → Bool
  | some x, some y => FloatKind.f64.format.order x y == some .gt
  | _, _ => false
def ltO : Option Nat → Option Nat → Bool
  | some x, some y => FloatKind.f64.format.order x y == some .lt
  | _, _ => false

theorem isF_cases {a : Nat} {z : Option Nat} (h : IsF a z) : (nan FloatKind.f64.format a = true ∧ z = none) ∨ (nan FloatKind.f64.format a = false ∧ z = some a) := by
  by_cases hn : nan FloatKind.f64.format a = true
  · exact .inl ⟨hn, by rw [← h.cn, cn_none hn]⟩
  · have hn : nan FloatKind.f64.format a = false := by simpa using hn
    exact .inr ⟨hn, by rw [← h.cn, cn_some hn]⟩
theorem ordN_l {a b : Nat} (h : nan FloatKind.f64.format a = true) : FloatKind.f64.format.order a b = none := ord_nan_l b h
theorem ordN_r {a b : Nat} (h : nan FloatKind.f64.format b = true) : FloatKind.f64.format.order a b = none := ord_nan_r a h
theorem gt_isF {a b : Nat} {x y : Option Nat} (ha : IsF a x) (hb : IsF b y) : (FloatKind.f64.format.order a b == some .gt) = gtO x y := by
  rcases isF_cases ha with ⟨h, rfl⟩ | ⟨h, rfl⟩
  · rw [ordN_l h]; rfl
  · rcases isF_cases hb with ⟨k, rfl⟩ | ⟨k, rfl⟩
    · rw [ordN_r k]; rfl
    · rfl
theorem lt_isF {a b : Nat} {x y : Option Nat} (ha : IsF a x) (hb : IsF b y) : (FloatKind.f64.format.order a b == some .lt) = ltO x y := by
  rcases isF_cases ha with ⟨h, rfl⟩ | ⟨h, rfl⟩
  · rw [ordN_l h]; rfl
  · rcases isF_cases hb with ⟨k, rfl⟩ | ⟨k, rfl⟩
    · rw [ordN_r k]; rfl
    · rfl
theorem gtO_self {a : Nat} {x : Option Nat} (ha : IsF a x) : gtO x x = false := by
  rw [← gt_isF ha ha]
  rcases isF_cases ha with ⟨h, rfl⟩ | ⟨h, rfl⟩
  · rw [ordN_l h]; rfl
  · rw [ord_eq h h rfl]; rfl
theorem ltO_self {a : Nat} {x : Option Nat} (ha : IsF a x) : ltO x x = false := by
  rw [← lt_isF ha ha]
  rcases isF_cases ha with ⟨h, rfl⟩ | ⟨h, rfl⟩
  · rw [ordN_l h]; rfl
  · rw [ord_eq h h rfl]; rfl

/-- The greatest and the least of the first numbers. -/
def mostO (z : Nat → Option Nat) : Nat → Option Nat
  | 0 => z 0
  | k + 1 => if gtO (z (k + 1)) (mostO z k) then z (k + 1) else mostO z k
def leastO (z : Nat → Option Nat) : Nat → Option Nat
  | 0 => z 0
  | k + 1 => if ltO (z (k + 1)) (leastO z k) then z (k + 1) else leastO z k

/-- A step of the search as both do it: x is the next number. -/
theorem most_step {z : Nat → Option Nat} {k x s : Nat} (hk : 0 < k) (hx : IsF x (z k)) (hs : IsF s (mostO z (k - 1))) :
    ((FloatKind.f64.format.order x s == some .gt) = true ∧ IsF x (mostO z k)) ∨ ((FloatKind.f64.format.order x s == some .gt) = false ∧ IsF s (mostO z k)) := by
  obtain ⟨j, rfl⟩ : ∃ j, k = j + 1 := ⟨k - 1, by omega⟩
  rw [gt_isF hx hs]
  simp only [Nat.add_sub_cancel] at hs ⊢
  rw [mostO]
  cases h : gtO (z (j + 1)) (mostO z j)
  · exact .inr ⟨rfl, by simpa using hs⟩
  · exact .inl ⟨rfl, by simpa using hx⟩
theorem least_step {z : Nat → Option Nat} {k x s : Nat} (hk : 0 < k) (hx : IsF x (z k)) (hs : IsF s (leastO z (k - 1))) :
    ((FloatKind.f64.format.order x s == some .lt) = true ∧ IsF x (leastO z k)) ∨ ((FloatKind.f64.format.order x s == some .lt) = false ∧ IsF s (leastO z k)) := by
  obtain ⟨j, rfl⟩ : ∃ j, k = j + 1 := ⟨k - 1, by omega⟩
  rw [lt_isF hx hs]
  simp only [Nat.add_sub_cancel] at hs ⊢
  rw [leastO]
  cases h : ltO (z (j + 1)) (leastO z j)
  · exact .inr ⟨rfl, by simpa using hs⟩
  · exact .inl ⟨rfl, by simpa using hx⟩

/-- What RippleOf answers. -/
def ripR (xs : List Nat) (h : Int) : Option Nat := if hopK xs.length h = 0 then fop .sub .f64 (mostO (ovS xs h.toNat) (h.toNat - 1)) (leastO (ovS xs h.toNat) (h.toNat - 1)) else some 0

end Go.Proofs.Ytpobbicbfnglaaa
