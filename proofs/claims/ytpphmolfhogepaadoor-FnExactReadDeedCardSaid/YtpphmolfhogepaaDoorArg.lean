import Derived.Test.YtpphmolfhogepaaDoorKit
import Derived.Test.YtpphmolfhogepaaDoorRows
import Derived.Lib.Hide
/-
  Bytes that came in; a2At, a2Long.
-/
set_option linter.unusedVariables false
set_option linter.unusedSimpArgs false
namespace Go.Proofs.YtpphmolfhogepaaDoor
open Go.RowKit

theorem isRow_cell {w0 w : World} {x : Addr} {len cap : Nat} {zs : List Int} (hr : IsRow .u8 w0 (some x) len cap zs) (hb : Below w0.heap.size w0 w) {k : Nat} (hk : k < len) :
    ∃ z : Int, w.cell? (x.add k) = some (.int .u8 z) ∧ 0 ≤ z ∧ z ≤ 255 := by
  rcases hr with ⟨h, -⟩ | ⟨y, h, hl, hm, hz, hc, hw⟩
  · cases h
  · obtain rfl := Option.some.inj h
    have hk' : k < zs.length := by omega
    have c := hc k hk'
    refine ⟨zs.getD k 0, ?_, ?_⟩
    · rw [hb.cell (World.block_lt_of_cell? _ _ c), c]
    · have hmem : zs.getD k 0 ∈ zs := by
        rw [List.getD_eq_getElem?_getD, List.getElem?_eq_getElem hk']
        exact List.getElem_mem hk'
      have := hw _ hmem
      simp only [Lit.wf, decide_eq_true_eq] at this
      have h1 : IntKind.u8.min = 0 := by decide
      have h2 : IntKind.u8.max = 255 := by decide
      rw [h1, h2] at this
      simpa using this

theorem isRow_len {w0 : World} {a : Option Addr} {len cap : Nat} {zs : List Int} (hr : IsRow .u8 w0 a len cap zs) : len ≤ 9223372036854775807 := by
  rcases hr with ⟨-, rfl, -⟩ | ⟨y, h, hl, hm, hz, hc, hw⟩
  · omega
  · unfold maxLen at hm; omega

theorem isRow_below {k : IntKind} {w0 w1 : World} {a : Option Addr} {len cap : Nat} {zs : List Int} (hr : IsRow k w0 a len cap zs) (hb : Below w0.heap.size w0 w1) : IsRow k w1 a len cap zs := by
  rcases hr with h | ⟨x, h, hl, hm, hz, hc, hw⟩
  · exact .inl h
  · exact .inr ⟨x, h, hl, hm, hz, fun i hi => by rw [hb.cell (World.block_lt_of_cell? _ _ (hc i hi)), hc i hi], hw⟩

/-- A number from 0 to n - 1 is returned. -/
def Upto (n : Int) (w : World) (e : Ending) (w' : World) : Prop := ∃ r : Int, 0 ≤ r ∧ r < n ∧ e = .returned (.int .i64 r) ∧ w' = w

end Go.Proofs.YtpphmolfhogepaaDoor
