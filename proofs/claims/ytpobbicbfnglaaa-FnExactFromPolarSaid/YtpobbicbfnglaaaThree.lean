import Derived.Test.YtpobbicbfnglaaaHeldF
import Derived.Test.YtpobbicbfnglaaaMapS
/-
  The laws on functions from floats to floats: what is returned, and three rows in blocks of their own under marks.
-/
set_option linter.unusedVariables false
set_option linter.unusedSimpArgs false
namespace Go.Proofs.Ytpobbicbfnglaaa
open Go.RowKit Flt

theorem ReadsF.facts' {w : World} {a : Option Addr} {len cap : Nat} {zs : List Nat} (h : ReadsF w (.slice a len cap) zs) : zs.length = len ∧ (∀ z ∈ zs, z < 18446744073709551616) ∧ (len : Int) ≤ 9223372036854775807 := by
  generalize hv : (Value.slice a len cap) = v at h
  cases h with
  | none a cap => simp only [Value.slice.injEq] at hv; obtain ⟨-, rfl, -⟩ := hv; exact ⟨rfl, fun z hz => by simp at hz, by omega⟩
  | row x cap L zs hL h0 hc hm hz hh => simp only [Value.slice.injEq] at hv; obtain ⟨-, rfl, -⟩ := hv; exact ⟨hL, hz, maxLen_int (Nat.le_trans hc hm)⟩

/-- A float and a code are returned. -/
def FloatTo (r : Option Nat) (c : Int) (w : World) (e : Ending) (w' : World) : Prop :=
  ∃ a, e = .returned (.tuple #[.float .f64 a, .int .i64 c]) ∧ IsF a r ∧ Below w.heap.size w w'

/-- A list of floats and a code are returned. -/
def FloatsTo (n : Nat) (z : Nat → Option Nat) (c : Int) (w : World) (e : Ending) (w' : World) : Prop :=
  ∃ v fs, e = .returned (.tuple #[v, .int .i64 c]) ∧ Row w' w.heap.size 29 v (flts fs) ∧ fs.length = n ∧ (∀ i, i < n → IsF (fs.getD i 0) (z i)) ∧ Below w.heap.size w w'

theorem all_lt {fs : List Nat} {z : Nat → Option Nat} (h : ∀ i, i < fs.length → IsF (fs.getD i 0) (z i)) : ∀ x ∈ fs, x < 18446744073709551616 := fun x hx => by
  obtain ⟨i, hi, rfl⟩ := List.getElem_of_mem hx
  have := (h i hi).lt
  simpa [List.getD, hi] using this

theorem apart_low {v u : Value} {w : World} {B1 B2 : Nat} {cs : List Value} {e : TypeId} (hv : ∀ b, v.ownBlock = some b → b < B1) (hB : B1 ≤ B2) (hu : Row w B2 e u cs) : v.ownBlock = none ∨ v.ownBlock ≠ u.ownBlock := by
  cases h : v.ownBlock with
  | none => exact .inl rfl
  | some b =>
    refine .inr fun e => ?_
    have := hv b h
    have := (hu.lt b e.symm).1
    omega
theorem apart_low' {v u : Value} {w : World} {B1 B2 : Nat} {cs : List Value} {e : TypeId} (hv : ∀ b, v.ownBlock = some b → b < B1) (hB : B1 ≤ B2) (hu : Row w B2 e u cs) : u.ownBlock = none ∨ u.ownBlock ≠ v.ownBlock := by
  cases h : u.ownBlock with
  | none => exact .inl rfl
  | some b =>
    refine .inr fun e => ?_
    have := hv b e.symm
    have := (hu.lt b h).1
    omega

/-- The model's result v, the argument y and the program's result u, one behind the other. -/
structure Three (w : World) (e ea : TypeId) (B0 B1 B2 : Nat) (v y u : Value) (f c d : List Value) : Prop where
  rv : Row w B0 e v f
  ry : Row w B1 ea y c
  ru : Row w B2 e u d
  lowv : ∀ b, v.ownBlock = some b → b < B1
  lowy : ∀ b, y.ownBlock = some b → b < B2
  le : B1 ≤ B2

section
variable {w w' : World} {e ea : TypeId} {B0 B1 B2 : Nat} {v y u : Value} {f c d : List Value}
theorem Three.below (h : Three w e ea B0 B1 B2 v y u f c d) (hb : Below w.heap.size w w') : Three w' e ea B0 B1 B2 v y u f c d :=
  ⟨h.rv.below hb (fun k e => (h.rv.lt k e).2), h.ry.below hb (fun k e => (h.ry.lt k e).2), h.ru.below hb (fun k e => (h.ru.lt k e).2), h.lowv, h.lowy, h.le⟩
theorem Three.draws (h : Three w e ea B0 B1 B2 v y u f c d) (n : Nat) : Three (w.drewN n) e ea B0 B1 B2 v y u f c d := ⟨h.rv.drewN n, h.ry.drewN n, h.ru.drewN n, h.lowv, h.lowy, h.le⟩
theorem Three.markY {c' : List Value} (h : Three w e ea B0 B1 B2 v y u f c d) (hg : w.grownBy w' y.ownBlock) (hr : Row w' B1 ea y c') : Three w' e ea B0 B1 B2 v y u f c' d :=
  ⟨h.rv.kept hg (apart_low h.lowv (Nat.le_refl _) h.ry), hr, h.ru.kept hg (apart_low' h.lowy (Nat.le_refl _) h.ru), h.lowv, h.lowy, h.le⟩
theorem Three.markU {d' : List Value} (h : Three w e ea B0 B1 B2 v y u f c d) (hg : w.grownBy w' u.ownBlock) (hr : Row w' B2 e u d') : Three w' e ea B0 B1 B2 v y u f c d' :=
  ⟨h.rv.kept hg (apart_low h.lowv h.le h.ru), h.ry.kept hg (apart_low h.lowy (Nat.le_refl _) h.ru), hr, h.lowv, h.lowy, h.le⟩
end

end Go.Proofs.Ytpobbicbfnglaaa
