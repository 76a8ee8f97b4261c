import Derived.Test.YtnigbjjllolgdaaSameF
import Derived.Test.YtnigbjjllolgdaaOpt
import Derived.Test.YtnigbjjllolgdaaWalkI64
import Derived.Deep.Slices
/-
  Slices of floats that came in or that the call has made: opened, compared, copied, marked.
-/
set_option linter.unusedVariables false
set_option linter.unusedSimpArgs false
namespace Go.Proofs.Ytnigbjjllolgdaa
open Go.RowKit Flt

section
variable {H : Type} {enc : TypeId × Value → H} {P : Program} {w : World} {base : Nat} {held : Bool}

theorem trod_float {t : TypeId} {k : FloatKind} {spare : Nat → Bool} {fuel : Nat} {cs : List Value} {x : DataW H × List MemPlace} (ht : P.underlying t = some (.float k)) (h : DataW.trod enc P w base spare held fuel t cs = some x) :
    ∃ n, cs = [.float k n] ∧ (Lit.float k n).wf = true := by
  cases fuel with
  | zero => simp [DataW.trod] at h
  | succ n =>
    unfold DataW.trod at h
    rw [ht] at h
    split at h <;> simp_all

end

/-- Floats as values. -/
def flts (zs : List Nat) : List Value := zs.map (Value.float .f64)
theorem flts_length (zs : List Nat) : (flts zs).length = zs.length := by simp [flts]
theorem flts_getD {zs : List Nat} {j : Nat} (h : j < zs.length) : (flts zs).getD j undef = .float .f64 (zs.getD j 0) := getD_map _ zs 0 h
theorem flts_snoc (zs : List Nat) (a : Nat) : flts (zs ++ [a]) = flts zs ++ [.float .f64 a] := by simp [flts]

/-- A slice of floats as the walk reads it, wherever it lies. -/
inductive ReadsF (w : World) : Value → List Nat → Prop
  | none (a : Option Addr) (cap : Nat) : ReadsF w (.slice a 0 cap) []
  | row (x : Addr) (cap L : Nat) (zs : List Nat) (hL : zs.length = L) (h0 : 0 < L) (hc : L ≤ cap) (hm : cap ≤ maxLen) (hz : ∀ z ∈ zs, z < 18446744073709551616) (h : ∀ j, j < L → w.cell? (x.add j) = some (.float .f64 (zs.getD j 0))) : ReadsF w (.slice (some x) L cap) zs

/-- A slice of floats that came in. -/
def IsRowF (w : World) (a : Option Addr) (len cap : Nat) (zs : List Nat) : Prop := ReadsF w (.slice a len cap) zs ∧ (∀ x, a = some x → 0 < len → x.block < w.heap.size)

theorem isRowF_open {H : Type} {enc : TypeId × Value → H} {P : Program} {w : World} {base : Nat} {held : Bool} {t e : TypeId} {fuel : Nat} {a : Option Addr} {len cap : Nat} {x : DataW H × List MemPlace}
    (ht : P.underlying t = some (.slice e)) (he : P.underlying e = some (.float .f64)) (hc : P.cellsOf e = 1) (h : DataW.trod enc P w base (fun _ => true) held fuel t (Value.slice a len cap).cells.toList = some x) : ∃ zs, IsRowF w a len cap zs := by
  have hcs : (Value.slice a len cap).cells.toList = [.slice a len cap] := by simp [Value.cells]
  rw [hcs] at h
  rcases Go.Deep.open_slice1 ht hc h with ⟨h0, _⟩ | ⟨x, l, c, m, n, V, D, Pl, h1, hb, hl, hm, hmm, rfl, hx⟩
  · simp only [List.cons.injEq, Value.slice.injEq, and_true] at h0
    obtain ⟨rfl, rfl, rfl⟩ := h0
    exact ⟨[], .none _ _, fun x hx => by cases hx⟩
  · simp only [List.cons.injEq, Value.slice.injEq, and_true] at h1
    obtain ⟨rfl, rfl, rfl⟩ := h1
    simp only [if_true] at hmm
    subst hmm
    have hV : ∀ i, i < m → ∃ z, V i = .float .f64 z ∧ z < 18446744073709551616 := fun i hi => by
      obtain ⟨z, e1, e2⟩ := trod_float he (hx i hi).2
      exact ⟨z, by simpa using e1, by simpa [Lit.wf] using e2⟩
    by_cases h0 : len = 0
    · subst h0
      exact ⟨[], .none _ _, fun x hx h => by omega⟩
    · let B : Nat → Nat := fun i => match V i with | .float _ z => z | _ => 0
      have hB : ∀ i, i < m → V i = .float .f64 (B i) ∧ B i < 18446744073709551616 := fun i hi => by
        obtain ⟨z, e1, e2⟩ := hV i hi
        have : B i = z := by show (match V i with | .float _ z => z | _ => 0) = z; rw [e1]
        rw [this]; exact ⟨e1, e2⟩
      refine ⟨(List.range len).map B, .row x m len _ (by simp) (by omega) hl hm ?_ ?_, fun y hy _ => ?_⟩
      · intro z hz
        obtain ⟨i, hi, rfl⟩ := List.mem_map.1 hz
        exact (hB i (by have := List.mem_range.1 hi; omega)).2
      · intro j hj
        rw [(hx j (by omega)).1, (hB j (by omega)).1]
        simp [List.getD, hj]
      · cases hy
        have := World.block_lt_of_cell? _ _ (hx 0 (by omega)).1
        rwa [addr_block] at this

theorem ReadsF.of_row {w : World} {B : Nat} {e : TypeId} {v : Value} {zs : List Nat} (h : Row w B e v (flts zs)) (hz : ∀ z ∈ zs, z < 18446744073709551616) : ReadsF w v zs := by
  have h' := h
  rcases h.shape with ⟨a, cap, rfl, h0⟩ | ⟨g, cap, rfl, h0, _, _, h1, h2⟩
  · have : zs = [] := by simpa [flts] using h0
    subst this
    exact .none a cap
  · rw [flts_length] at h0 h1 h' ⊢
    refine .row _ cap _ zs rfl h0 h1 h2 hz fun j hj => ?_
    rw [addr_lit, h'.cellAt hj, flts_getD hj]

theorem ReadsF.below {w w' : World} {B : Nat} {v : Value} {zs : List Nat} (h : ReadsF w v zs) (hb : Below B w w') (hv : ∀ x L cap, v = .slice (some x) L cap → 0 < L → x.block < B) : ReadsF w' v zs := by
  cases h with
  | none a cap => exact .none a cap
  | row x cap L zs hL h0 hc hm hz hh =>
    refine .row x cap L zs hL h0 hc hm hz fun j hj => ?_
    rw [hb.cell (by rw [addr_block]; exact hv x L cap rfl h0)]
    exact hh j hj
theorem ReadsF.drewN {w : World} {v : Value} {zs : List Nat} (h : ReadsF w v zs) (n : Nat) : ReadsF (w.drewN n) v zs := by
  cases h with
  | none a cap => exact .none a cap
  | row x cap L zs hL h0 hc hm hz hh => exact .row x cap L zs hL h0 hc hm hz hh

theorem IsRowF.below {w w' : World} {a : Option Addr} {len cap : Nat} {zs : List Nat} (h : IsRowF w a len cap zs) (hb : Below w.heap.size w w') : ReadsF w' (.slice a len cap) zs :=
  h.1.below hb (fun x L c e hL => by
    simp only [Value.slice.injEq] at e
    exact h.2 x e.1 (by omega))

theorem info_f64 : (Try.prog.info? 30).map (fun i => (i.zero, i.size, i.bytes)) = some (some (.float .f64 0), 1, 8) := by kernel_rfl

theorem fillF_step {zs : List Nat} {n k : Nat} (hk : k < n) (hz : n ≤ zs.length) :
    (flts (zs.take k) ++ List.replicate (n - k) (Value.float .f64 0)).set k (.float .f64 (zs.getD k 0)) = flts (zs.take (k + 1)) ++ List.replicate (n - (k + 1)) (Value.float .f64 0) := by
  have hl : (flts (zs.take k)).length = k := by rw [flts_length, List.length_take]; omega
  rw [List.set_append_right _ _ (by omega), hl, Nat.sub_self]
  obtain ⟨m, hm⟩ : ∃ m, n - k = m + 1 := ⟨n - k - 1, by omega⟩
  rw [hm, List.replicate_succ, List.set_cons_zero, show n - (k + 1) = m by omega, List.take_add_one]
  have e : zs[k]?.toList = [zs.getD k 0] := by simp [List.getD, show k < zs.length by omega]
  rw [e, flts_snoc, List.append_assoc]
  rfl

theorem grown_newF {w w1 w2 : World} {row : Option Nat} {B : Nat} (h : w.grownBy w1 row) (k : w1.grownBy w2 (some B)) (hB : w.heap.size ≤ B) : w.grownBy w2 row :=
  ⟨k.os.trans h.os, k.tape.trans h.tape, k.output.trans h.output, Nat.le_trans h.size k.size, fun j hj hr => (k.block j (Nat.lt_of_lt_of_le hj h.size) (by simp; omega)).trans (h.block j hj hr)⟩

/-- The numbers that are laid in a row of floats: from m on. -/
def fmark (m i : Nat) : Value := .float .f64 (floatOfInt .f64 ((m + i : Nat) : Int))
def fmarks (m n : Nat) : List Value := (List.range n).map (fmark m)
theorem fmarks_length (m n : Nat) : (fmarks m n).length = n := by simp [fmarks]
theorem fmarks_getD {m n j : Nat} (h : j < n) : (fmarks m n).getD j undef = fmark m j := by simp [fmarks, List.getD, h]

end Go.Proofs.Ytnigbjjllolgdaa
