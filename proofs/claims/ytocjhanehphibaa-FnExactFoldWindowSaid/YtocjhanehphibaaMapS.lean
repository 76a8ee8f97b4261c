import Derived.Test.YtocjhanehphibaaNumC
import Derived.Deep.RegionWith
/-
  mapSignal, whatever function is taken (written by genmap.py).
-/
set_option linter.unusedVariables false
set_option linter.unusedSimpArgs false
namespace Go.Proofs.Ytocjhanehphibaa
open Go.RowKit Flt Fast

/-- Narrow complex numbers as values. -/
def nval (p : C) : Value := .complex .f32 p.1 p.2
def nvals (xs : List C) : List Value := xs.map nval
theorem nvals_length (xs : List C) : (nvals xs).length = xs.length := by simp [nvals]
theorem nvals_getD {xs : List C} {j : Nat} (h : j < xs.length) : (nvals xs).getD j undef = .complex .f32 (xs.getD j (0, 0)).1 (xs.getD j (0, 0)).2 := getD_map _ xs (0, 0) h
def fval (x : Nat) : Value := .float .f64 x
def fvals (xs : List Nat) : List Value := xs.map fval
theorem fvals_length (xs : List Nat) : (fvals xs).length = xs.length := by simp [fvals]
theorem fvals_getD {xs : List Nat} {j : Nat} (h : j < xs.length) : (fvals xs).getD j undef = .float .f64 (xs.getD j 0) := getD_map _ xs 0 h
theorem info_c64 : (Try.prog.info? 36).map (fun i => (i.zero, i.size, i.bytes)) = some (some (.complex .f32 0 0), 1, 8) := by kernel_rfl
theorem info_f64' : (Try.prog.info? 55).map (fun i => (i.zero, i.size, i.bytes)) = some (some (.float .f64 0), 1, 8) := by kernel_rfl

/-- The next place of a row that is being filled. -/
theorem fillV {vs : List Value} {n k : Nat} (hk : k < n) (hx : vs.length = k) (z u : Value) :
    (vs ++ List.replicate (n - k) z).set k u = (vs ++ [u]) ++ List.replicate (n - (k + 1)) z := by
  rw [List.set_append_right _ _ (by omega), hx, Nat.sub_self]
  obtain ⟨m, hm⟩ : ∃ m, n - k = m + 1 := ⟨n - k - 1, by omega⟩
  rw [hm, List.replicate_succ, List.set_cons_zero, show n - (k + 1) = m by omega, List.append_assoc]
  rfl

theorem snocGood {α : Type} {d : α} {xs : List α} {p : α} {k : Nat} {G : Nat → α → Prop} (hx : xs.length = k) (hg : ∀ i, i < k → G i (xs.getD i d)) (hp : G k p) :
    (xs ++ [p]).length = k + 1 ∧ ∀ i, i < k + 1 → G i ((xs ++ [p]).getD i d) := by
  refine ⟨by simp [hx], fun i hi => ?_⟩
  rcases Nat.lt_or_eq_of_le (Nat.le_of_lt_succ hi) with h | h
  · rw [show (xs ++ [p]).getD i d = xs.getD i d by simp [List.getD, List.getElem?_append_left, hx, h]]
    exact hg i h
  · subst h
    rw [show (xs ++ [p]).getD i d = p by simp [List.getD, ← hx]]
    exact hp

/-- What lies in a row stays behind whatever leaves the blocks that are there. -/
theorem Reads.below {w w' : World} {v : Value} {cs : List Value} (h : Reads w v cs) (hb : Below w.heap.size w w') : Reads w' v cs := by
  cases h with
  | none a cap => exact .none a cap
  | row g cap L cs hL h0 hc hm hh => exact .row g cap L cs hL h0 hc hm fun j hj => by rw [hb.cell (World.block_lt_of_cell? _ _ (hh j hj)), hh j hj]

/-- What mapSignal returns. -/
def MapsTo {α : Type} (e : TypeId) (val : List α → List Value) (d : α) (n : Nat) (G : Nat → α → Prop) (w : World) (en : Ending) (w' : World) : Prop :=
  ∃ v qs, en = .returned (.tuple #[v, .int .i64 0]) ∧ Row w' w.heap.size e v (val qs) ∧ qs.length = n ∧ (∀ i, i < n → G i (qs.getD i d)) ∧ Below w.heap.size w w'

end Go.Proofs.Ytocjhanehphibaa
