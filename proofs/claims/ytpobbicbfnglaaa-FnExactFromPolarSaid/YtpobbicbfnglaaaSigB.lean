import Derived.Test.YtpobbicbfnglaaaRow
import Derived.Test.YtpobbicbfnglaaaOpt
import Derived.Test.YtpobbicbfnglaaaRows
import Derived.Test.YtpobbicbfnglaaaCom
/-
  Signals of wide complex numbers: as values, and what they stand for up to the choice of NaNs.
-/
set_option linter.unusedVariables false
set_option linter.unusedSimpArgs false
namespace Go.Proofs.Ytpobbicbfnglaaa
open Go.RowKit Flt

namespace Fast
abbrev Z := Option Nat × Option Nat
def mulZ (a b : Z) : Z := (fop .sub .f64 (fop .mul .f64 a.1 b.1) (fop .mul .f64 a.2 b.2), fop .add .f64 (fop .mul .f64 a.1 b.2) (fop .mul .f64 a.2 b.1))
def addZ (a b : Z) : Z := (fop .add .f64 a.1 b.1, fop .add .f64 a.2 b.2)
def subZ (a b : Z) : Z := (fop .sub .f64 a.1 b.1, fop .sub .f64 a.2 b.2)
def z0 : Z := (some 0, some 0)

end Fast
open Fast
abbrev C := Nat × Nat
/-- Complex numbers as values. -/
def cval (p : C) : Value := .complex .f64 p.1 p.2
def cvals (xs : List C) : List Value := xs.map cval
theorem cvals_length (xs : List C) : (cvals xs).length = xs.length := by simp [cvals]
theorem cvals_getD {xs : List C} {j : Nat} (h : j < xs.length) : (cvals xs).getD j undef = .complex .f64 (xs.getD j (0, 0)).1 (xs.getD j (0, 0)).2 := getD_map _ xs (0, 0) h

/-- A complex number, up to the choice of NaNs. -/
structure IsC (p : C) (z : Option Nat × Option Nat) : Prop where
  re : IsF p.1 z.1
  im : IsF p.2 z.2

theorem info_c128 : (Try.prog.info? 46).map (fun i => (i.zero, i.size, i.bytes)) = some (some (.complex .f64 0 0), 1, 16) := by kernel_rfl

theorem grown_new {w w1 w2 : World} {row : Option Nat} {B : Nat} (h : w.grownBy w1 row) (k : w1.grownBy w2 (some B)) (hB : w.heap.size ≤ B) : w.grownBy w2 row :=
  ⟨k.os.trans h.os, k.tape.trans h.tape, k.output.trans h.output, Nat.le_trans h.size k.size, fun j hj hr => (k.block j (Nat.lt_of_lt_of_le hj h.size) (by simp; omega)).trans (h.block j hj hr)⟩

theorem cvals_snoc (xs : List C) (p : C) : cvals (xs ++ [p]) = cvals xs ++ [cval p] := by simp [cvals]

/-- The next place of a row that is being filled. -/
theorem fill_step {xs : List C} {p : C} {n k : Nat} (hk : k < n) (hx : xs.length = k) (z : Value) :
    (cvals xs ++ List.replicate (n - k) z).set k (cval p) = cvals (xs ++ [p]) ++ List.replicate (n - (k + 1)) z := by
  rw [List.set_append_right _ _ (by rw [cvals_length]; omega), cvals_length, hx, Nat.sub_self, cvals_snoc]
  obtain ⟨m, hm⟩ : ∃ m, n - k = m + 1 := ⟨n - k - 1, by omega⟩
  rw [hm, List.replicate_succ, List.set_cons_zero, show n - (k + 1) = m by omega, List.append_assoc]
  rfl

theorem fill_good {xs : List C} {p : C} {k : Nat} {z : Nat → Option Nat × Option Nat} (hx : xs.length = k) (hg : ∀ i, i < k → IsC (xs.getD i (0, 0)) (z i)) (hp : IsC p (z k)) :
    (xs ++ [p]).length = k + 1 ∧ ∀ i, i < k + 1 → IsC ((xs ++ [p]).getD i (0, 0)) (z i) := by
  refine ⟨by simp [hx], fun i hi => ?_⟩
  rcases Nat.lt_or_eq_of_le (Nat.le_of_lt_succ hi) with h | h
  · rw [show (xs ++ [p]).getD i (0, 0) = xs.getD i (0, 0) by simp [List.getD, List.getElem?_append_left, hx, h]]
    exact hg i h
  · subst h
    rw [show (xs ++ [p]).getD i (0, 0) = p by simp [List.getD, ← hx]]
    exact hp

/-- A complex number is returned, likewise. -/
def RetC (z : Option Nat × Option Nat) (w : World) (e : Ending) (w' : World) : Prop := ∃ a b, e = .returned (.complex .f64 a b) ∧ IsF a z.1 ∧ IsF b z.2 ∧ ∃ n, w' = w.drewN n

/-- What complex numbers stand for. -/
def zOf (p : C) : Z := (cn .f64 p.1, cn .f64 p.2)
def zsOf (xs : List C) : List Z := xs.map zOf
def WfC (xs : List C) : Prop := ∀ p ∈ xs, p.1 < 18446744073709551616 ∧ p.2 < 18446744073709551616
theorem zsOf_length (xs : List C) : (zsOf xs).length = xs.length := by simp [zsOf]
theorem zsOf_getD {xs : List C} {j : Nat} (h : j < xs.length) : (zsOf xs).getD j z0 = zOf (xs.getD j (0, 0)) := by simp [zsOf, List.getD, h]
theorem isC_zOf {p : C} (h : p.1 < 18446744073709551616 ∧ p.2 < 18446744073709551616) : IsC p (zOf p) := ⟨⟨rfl, h.1⟩, ⟨rfl, h.2⟩⟩
theorem getD_memC {xs : List C} {j : Nat} (h : j < xs.length) : xs.getD j (0, 0) ∈ xs := by
  rw [List.getD_eq_getElem?_getD, List.getElem?_eq_getElem h]
  exact List.getElem_mem h
theorem isC_getD {xs : List C} {j : Nat} (hw : WfC xs) (h : j < xs.length) : IsC (xs.getD j (0, 0)) ((zsOf xs).getD j z0) := by
  rw [zsOf_getD h]; exact isC_zOf (hw _ (getD_memC h))

theorem Row.base {w : World} {B B' : Nat} {e : TypeId} {v : Value} {cs : List Value} (h : Row w B' e v cs) (hB : B ≤ B') : Row w B e v cs := by
  refine ⟨h.1, ?_⟩
  rcases h.2 with hn | ⟨g, cap, cur, rfl, hb, r⟩
  · exact .inl hn
  · exact .inr ⟨g, cap, cur, rfl, Nat.le_trans hB hb, r⟩


end Go.Proofs.Ytpobbicbfnglaaa
