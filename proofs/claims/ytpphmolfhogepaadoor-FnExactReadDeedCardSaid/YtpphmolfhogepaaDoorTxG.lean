import Derived.Test.YtpphmolfhogepaaDoorDecB
import Derived.Test.YtpphmolfhogepaaDoorStr
import Derived.WalkSmall
/-
  Texts of numbers behind words; strings; the library's powers of ten.
-/
set_option linter.unusedVariables false
set_option linter.unusedSimpArgs false
namespace Go.Proofs.YtpphmolfhogepaaDoor
open Go.RowKit

/-- Numbers are written behind a text. -/
def txGo (t : List UInt8) (zs : List Int) : List UInt8 := zs.foldl (fun t z => t ++ (32 :: Lib.itoa z)) t
theorem tx_take {t : List UInt8} {zs : List Int} {k : Nat} (h : k < zs.length) : txGo t (zs.take (k + 1)) = txGo t (zs.take k) ++ (32 :: Lib.itoa (zs.getD k 0)) := by
  unfold txGo
  rw [List.take_add_one, List.getElem?_eq_getElem h, List.getD_eq_getElem?_getD, List.getElem?_eq_getElem h, List.foldl_append]
  rfl
theorem tx_len {t : List UInt8} {m : Nat} (ht : t.length ≤ m) {zs : List Int} (hz : ∀ z ∈ zs, -1024 ≤ z ∧ z ≤ 1024) : ∀ k, k ≤ zs.length → (txGo t (zs.take k)).length ≤ m + 21 * k
  | 0, _ => by simpa [txGo] using ht
  | k + 1, h => by
    rw [tx_take (by omega)]
    have h1 := tx_len ht hz k (by omega)
    have hm : zs.getD k 0 ∈ zs := by
      rw [List.getD_eq_getElem?_getD, List.getElem?_eq_getElem (by omega)]
      exact List.getElem_mem _
    have h2 := hz _ hm
    have h3 := itoa_len (zs.getD k 0) (by omega) (by omega)
    rw [List.length_append, List.length_cons]
    omega

/-- The library's table of powers of ten lies where it was laid. -/
def Pow10 (w : World) : Prop := Lib.TabIs Tryd.prog w "internal/strconv.uint64pow10" .u64 Lib.pow10Tab
theorem Pow10.below {w w' : World} (h : Pow10 w) (hb : Below w.heap.size w w') : Pow10 w' := by
  unfold Pow10 Lib.TabIs at *
  have hg : Tryd.prog.globalNamed "internal/strconv.uint64pow10" = some 1 := by kernel_rfl
  have hc : w.cell? ⟨1, 0, none⟩ = some (.int .u64 1) := by
    rw [World.var?_cell hg h]
    rfl
  exact var?_below hb hg (World.block_lt_of_cell? _ _ hc) h
theorem below_grow (w : World) (k : Nat) (os : Array Obj) : Below w.heap.size w (Sort.grow (w.drewN k) os) := by
  refine ⟨rfl, rfl, rfl, ?_, fun j hj => ?_⟩
  · simp [Sort.grow]
  · show ((w.drewN k).heap ++ os)[j]? = _
    rw [Array.getElem?_append_left (by exact hj)]
    rfl

end Go.Proofs.YtpphmolfhogepaaDoor
