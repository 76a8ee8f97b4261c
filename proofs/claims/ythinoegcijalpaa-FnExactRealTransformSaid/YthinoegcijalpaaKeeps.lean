import Derived.Test.YthinoegcijalpaaTurnG
import Derived.Test.YthinoegcijalpaaFastS
import Derived.Test.YthinoegcijalpaaSums
/-
  What a call leaves that may fill one cache: blocks below B, but for the cache, stay.
-/
set_option linter.unusedVariables false
set_option linter.unusedSimpArgs false
namespace Go.Proofs.Ythinoegcijalpaa
open Go.RowKit Flt Turn Fast

structure Keeps (B b : Nat) (w w' : World) : Prop where
  os : w'.os = w.os
  tape : w'.tape = w.tape
  output : w'.output = w.output
  size : w.heap.size ≤ w'.heap.size
  block : ∀ k, k < B → k ≠ b → w'.heap[k]? = w.heap[k]?

section
variable {B b : Nat} {w w1 w2 : World}
theorem Keeps.refl (B b : Nat) (w : World) : Keeps B b w w := ⟨rfl, rfl, rfl, Nat.le_refl _, fun _ _ _ => rfl⟩
theorem Keeps.trans (h : Keeps B b w w1) (k : Keeps B b w1 w2) : Keeps B b w w2 :=
  ⟨k.os.trans h.os, k.tape.trans h.tape, k.output.trans h.output, Nat.le_trans h.size k.size, fun i hi hb => (k.block i hi hb).trans (h.block i hi hb)⟩
theorem Keeps.mono {B' : Nat} (h : Keeps B b w w1) (hB : B' ≤ B) : Keeps B' b w w1 := ⟨h.os, h.tape, h.output, h.size, fun k hk hb => h.block k (Nat.lt_of_lt_of_le hk hB) hb⟩
theorem Keeps.of_below (h : Below B w w1) : Keeps B b w w1 := ⟨h.os, h.tape, h.output, h.size, fun k hk _ => h.block k hk⟩
theorem Keeps.of_grown (h : w.grownBy w1 (some b)) : Keeps w.heap.size b w w1 := ⟨h.os, h.tape, h.output, h.size, fun k hk hb => h.block k hk (by simpa using hb)⟩
theorem Keeps.below (h : Keeps B b w w1) (k : Below w1.heap.size w1 w2) (hB : B ≤ w1.heap.size) : Keeps B b w w2 := h.trans (.of_below (k.mono hB))
theorem Keeps.grown (h : Keeps B b w w1) (k : w1.grownBy w2 (some b)) (hB : B ≤ w1.heap.size) : Keeps B b w w2 := h.trans ((Keeps.of_grown k).mono hB)
theorem Keeps.keeps (h : Keeps B b w w1) (k : Keeps w1.heap.size b w1 w2) (hB : B ≤ w1.heap.size) : Keeps B b w w2 := h.trans (k.mono hB)
theorem Keeps.draws (h : Keeps B b w w1) (n : Nat) : Keeps B b w (w1.drewN n) := ⟨h.os, h.tape, h.output, h.size, h.block⟩
theorem Keeps.alloc (h : Keeps B b w w1) (hB : B ≤ w1.heap.size) (o : Obj) : Keeps B b w (w1.alloc o) := h.trans (.of_below ((Below.refl _ _).alloc hB o))
theorem Keeps.setCell (h : Keeps B b w w1) {p : Addr} (hp : B ≤ p.block) (u : Value) : Keeps B b w (w1.setCell p u) := h.trans (.of_below ((Below.refl _ _).setCell hp u))
theorem Keeps.cell (h : Keeps B b w w1) {p : Addr} (hp : p.block < B) (hb : p.block ≠ b) : w1.cell? p = w.cell? p := World.cell?_of_block (w := w) (h.block p.block hp hb)
theorem Keeps.frozen (h : Keeps B b w w1) {p : Addr} (hp : p.block < B) (hb : p.block ≠ b) : w1.frozen? p = w.frozen? p := World.frozen?_of_block (w := w) (h.block p.block hp hb)

/-- A row is no cache. -/
theorem Row.notCache {B c : Nat} {e : TypeId} {v : Value} {cs : List Value} (h : Row w B e v cs) (hc : Cache w b c) : v.ownBlock ≠ some b := by
  intro e1
  obtain ⟨es, clock, hb, _⟩ := hc
  rcases h.2 with ⟨rfl, _⟩ | ⟨g, cap, cur, rfl, _, hg, _⟩
  · cases e1
  · simp only [Value.ownBlock, Option.some.injEq] at e1
    subst e1
    rw [hb] at hg
    cases hg
theorem Row.keeps {B' : Nat} {e : TypeId} {v : Value} {cs : List Value} (h : Row w B' e v cs) (hk : Keeps B b w w1) (hv : ∀ k, v.ownBlock = some k → k < B) (hb : v.ownBlock ≠ some b) : Row w1 B' e v cs := by
  refine ⟨h.1, ?_⟩
  rcases h.2 with hn | ⟨g, cap, cur, rfl, hbb, hgg, rest⟩
  · exact .inl hn
  · refine .inr ⟨g, cap, cur, rfl, hbb, ?_, rest⟩
    rw [hk.block g (hv g (by simp [Value.ownBlock])) (fun e => hb (by rw [← e]; rfl))]
    exact hgg
theorem Row.grownK {B' : Nat} {e : TypeId} {v : Value} {cs : List Value} {c : Nat} (h : Row w B' e v cs) (hc : Cache w b c) (hk : w.grownBy w1 (some b)) : Row w1 B' e v cs :=
  h.keeps (Keeps.of_grown hk) (fun k e => (h.lt k e).2) (h.notCache hc)
theorem Cache.below {c : Nat} (h : Cache w b c) (hb : Below w.heap.size w w1) : Cache w1 b c := h.kept (grown_of_below hb) (by simp)
theorem cell_notCache {p : Addr} {c : Nat} {v : Value} (h : w.cell? p = some v) (hc : Cache w b c) : p.block ≠ b := by
  intro e
  obtain ⟨es, clock, hb, _⟩ := hc
  unfold World.cell? at h
  rw [e, hb] at h
  cases h
end

theorem readsAt' {w : World} {v : Value} {xs : List C} (h : Reads w v (cvals xs)) : ∀ a n cap, v = .slice a n cap → ∀ k, k < n → ∃ g, a = some ⟨g, 0, none⟩ ∧ g < w.heap.size ∧ w.cell? ⟨g, k, none⟩ = some (.complex .f64 (xs.getD k (0, 0)).1 (xs.getD k (0, 0)).2) := by
  intro a n cap e k hk
  generalize hcs : cvals xs = cs at h
  cases h with
  | none a' cap' => simp only [Value.slice.injEq] at e; omega
  | row g cap' L cs hL h0 hc hm hcell =>
    simp only [Value.slice.injEq] at e
    obtain ⟨rfl, rfl, rfl⟩ := e
    have c := hcell k hk
    rw [← hcs, cvals_getD (by rw [← hcs, cvals_length] at hL; omega)] at c
    exact ⟨g, rfl, World.block_lt_of_cell? _ _ c, c⟩

/-- The shape of what is read. -/
theorem Reads.form' {w : World} {v : Value} {cs : List Value} (h : Reads w v cs) : ∃ a cap, v = .slice a cs.length cap := by
  cases h with
  | none a cap => exact ⟨a, cap, rfl⟩
  | row g cap L cs hL => subst hL; exact ⟨_, cap, rfl⟩

end Go.Proofs.Ythinoegcijalpaa
