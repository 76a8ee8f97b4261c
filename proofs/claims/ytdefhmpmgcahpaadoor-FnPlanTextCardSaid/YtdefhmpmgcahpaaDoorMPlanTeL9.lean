/-
  Several texts of this claim, one behind the other; each says what it holds.
-/
import Derived.Test.YtdefhmpmgcahpaaDoorMPlanTeL4
import Derived.Deep.RegionWith
/-
  The draw of a signal: l01Signal, A2Wild.
-/
set_option linter.unusedVariables false
set_option linter.unusedSimpArgs false
namespace Go.Proofs.YtdefhmpmgcahpaaDoor
open Go.RowKit Flt Fast

theorem Src.alloc {w0 : World} {B : Nat} {a : Option Addr} {len cap : Nat} {i : Int} {w : World} (h : Src w0 B a len cap i w) (o : Obj) : Src w0 B a len cap i (w.alloc o) := by
  have hB := block_of_cell h.code
  have hb : Below w.heap.size w (w.alloc o) := (Below.refl _ _).alloc (Nat.le_refl _) o
  refine ⟨h.below.alloc h.below.size o, h.new, ?_, ?_, ?_, ?_, ?_, h.low⟩
  · rw [hb.cell hB]; exact h.code
  · rw [hb.cell hB]; exact h.pos
  · obtain ⟨s, e⟩ := h.seed; exact ⟨s, by rw [hb.cell hB]; exact e⟩
  · rw [hb.frozen hB]; exact h.free1
  · rw [hb.frozen hB]; exact h.free2

theorem Src.other {w0 : World} {B : Nat} {a : Option Addr} {len cap : Nat} {i : Int} {w w' : World} {row : Option Nat} (h : Src w0 B a len cap i w) (hg : w.grownBy w' row) (hne : row ≠ some B) (hr : ∀ k, row = some k → w0.heap.size ≤ k) : Src w0 B a len cap i w' := by
  have hB := block_of_cell h.code
  have hk : w'.heap[B]? = w.heap[B]? := hg.block B hB (fun e => hne e.symm)
  have hc : ∀ j, w'.cell? ⟨B, j, none⟩ = w.cell? ⟨B, j, none⟩ := fun j => World.cell?_of_block (w := w) hk
  have hf : ∀ j, w'.frozen? ⟨B, j, none⟩ = w.frozen? ⟨B, j, none⟩ := fun j => World.frozen?_of_block (w := w) hk
  refine ⟨h.below.grown hg h.below.size hr, h.new, ?_, ?_, ?_, ?_, ?_, h.low⟩
  · rw [hc]; exact h.code
  · rw [hc]; exact h.pos
  · obtain ⟨s, e⟩ := h.seed; exact ⟨s, by rw [hc]; exact e⟩
  · rw [hf]; exact h.free1
  · rw [hf]; exact h.free2

/-- A signal of at most so many numbers has been drawn. -/
def Wild (n : Nat) (w : World) (e : Ending) (w' : World) : Prop := ∃ v xs, e = .returned v ∧ Row w' w.heap.size 227 v (cvals xs) ∧ xs.length ≤ n ∧ WfC xs ∧ Below w.heap.size w w'

theorem wfC_snoc {xs : List C} {p q : Nat} (h : WfC xs) (hp : p < 18446744073709551616) (hq : q < 18446744073709551616) : WfC (xs ++ [(p, q)]) := by
  intro u hu
  rcases List.mem_append.1 hu with h1 | h1
  · exact h u h1
  · rw [List.mem_singleton.1 h1]; exact ⟨hp, hq⟩

end Go.Proofs.YtdefhmpmgcahpaaDoor
/-
  The draws of chapter 3 and on: l03Real, l03Number, P6Pick.
-/
set_option linter.unusedVariables false
set_option linter.unusedSimpArgs false
namespace Go.Proofs.YtdefhmpmgcahpaaDoor
open Go.RowKit Flt Fast

/-- A complex number is returned, of whatever bits, and the source has gone on. -/
def PicksN (w0 : World) (B : Nat) (a : Option Addr) (len cap : Nat) (i : Int) (most : Int) (w : World) (e : Ending) (w' : World) : Prop :=
  ∃ p q j, p < 18446744073709551616 ∧ q < 18446744073709551616 ∧ e = .returned (.complex .f64 p q) ∧ i ≤ j ∧ j ≤ i + most ∧ Src w0 B a len cap j w' ∧ w.grownBy w' (some B)

theorem pick_one (w : World) (B : Nat) (n : Int) (hn : n ≤ 1) :
    Calls Tryd.prog 63 #[.pointer (some ⟨B, 0, none⟩), .int .i64 n] w fun e w' => e = .returned (.int .i64 0) ∧ w' = w := by
  go_enter Tryd.func63, Tryd.ntmps63
  go_wp2
  go_ret
  exact ⟨rfl, rfl⟩

end Go.Proofs.YtdefhmpmgcahpaaDoor
/-
  What the laws of chapters 4 and on begin with.
-/
set_option linter.unusedVariables false
set_option linter.unusedSimpArgs false
namespace Go.Proofs.YtdefhmpmgcahpaaDoor
open Go.RowKit Flt Fast

theorem Row.up {w w' : World} {B e : Nat} {v : Value} {cs : List Value} (h : Row w B e v cs) (hb : Below w.heap.size w w') : Row w' B e v cs := h.below hb (fun k e => (h.lt k e).2)

end Go.Proofs.YtdefhmpmgcahpaaDoor
