import Derived.Test.YtpobbicbfnglaaaTurnS2
import Derived.Maps.OwnSet
import Derived.DeepKeys4
/-
  The program's cache of turns: a map that the call has made, keyed by fractions.
-/
set_option linter.unusedVariables false
set_option linter.unusedSimpArgs false
namespace Go.Proofs.Ytpobbicbfnglaaa
open Go.RowKit Flt Turn
open Go.Maps (Keyed)
open Go.WideElems (Fit rd rg pl rd_val)
open Go.ChangeMaps (setBlock heap_setBlock_same heap_setBlock_other putKey notKey)

theorem laidOut0 : laidOutB Try.prog = true := by kernel_rfl
theorem rowFrac : (103 : TypeId) < Try.prog.types.size := of_decide_eq_true (by kernel_rfl)
theorem keyAtFrac : Try.prog.keyTypeAt 2 103 = true := by kernel_rfl
theorem lawFrac : Keyed Try.prog 103 := Keyed.of_law (deep_law_laid laidOut0 (m := 2) (Nat.le_of_ble_eq_true rfl) rowFrac keyAtFrac (by rw [Try.underlying103]))
theorem cellsFrac : Try.prog.cellsOf 103 = 2 := by kernel_rfl
theorem cellsI64 : Try.prog.cellsOf 2 = 1 := by kernel_rfl
theorem keyTypeFrac : Try.prog.keyType 103 = true := by kernel_rfl
theorem typesPos : 0 < Try.prog.types.size := of_decide_eq_true (by kernel_rfl)

/-- A fraction as a value. -/
def frac (n k : Int) : Value := .agg #[.int .i64 n, .int .i64 k]

theorem key_frac {n k : Int} (hn : (Lit.int .i64 n).wf = true) (hk : (Lit.int .i64 k).wf = true) : ∃ l, keyOf Try.prog 103 (frac n k) = some l := by
  unfold keyOf
  rw [Try.underlying103]
  have hf : (frac n k).formed Try.prog 103 = true := by
    simp [Value.formed, Try.underlying103, cellsFrac, frac]
  obtain ⟨m, hm⟩ : ∃ m, Try.prog.types.size + 1 = m + 2 := ⟨Try.prog.types.size - 1, by have := typesPos; omega⟩
  simp only [keyTypeFrac, hf, Bool.and_self, if_true]
  rw [hm]
  have hL : Try.prog.keyLits (m + 2) 103 (frac n k).cells.toList = some [.int .i64 n, .int .i64 k] := by
    simp [Program.keyLits, Try.underlying103, Try.underlying2, cellsFrac, cellsI64, frac, Value.cells, hn, hk]
  rw [hL]
  exact ⟨_, rfl⟩

/-- An entry of the cache holds the turn of its fraction. -/
def Holds (e : MapEntry) : Prop := ∀ n k : Nat, e.key = frac n k → ∃ a b, e.val = .complex .f64 a b ∧ IsF a (turn n k).1 ∧ IsF b (turn n k).2
def RU : Value → Option (DataW Unit × List MemPlace) := fun _ => some (.lit .nil, [])

/-- Block b is a cache of turns with at most c entries. -/
def Cache (w : World) (b c : Nat) : Prop :=
  ∃ es clock, w.heap[b]? = some (.map es clock) ∧ Fit Try.prog 103 RU es clock ∧ es.size ≤ c ∧ ∀ e ∈ es.toList, Holds e

theorem zeroC (w : World) : (zeroValue 46).run Try.prog w = .ok (.complex .f64 0 0) w := by kernel_rfl

section
variable {w w' : World} {b c : Nat}

theorem Cache.made (w : World) : Cache (w.alloc (.map #[] 0)) w.heap.size 0 :=
  ⟨#[], 0, (MapKept.heap_alloc w _).1, ⟨by simp, Go.MapKept.stamped_empty 0, by simp⟩, Nat.le_refl _, by simp⟩

theorem Cache.mono (h : Cache w b c) {c' : Nat} (hc : c ≤ c') : Cache w b c' := by
  obtain ⟨es, clock, h1, h2, h3, h4⟩ := h
  exact ⟨es, clock, h1, h2, Nat.le_trans h3 hc, h4⟩

theorem Cache.lt (h : Cache w b c) : b < w.heap.size := by
  obtain ⟨es, clock, hb, _⟩ := h
  exact (Array.getElem?_eq_some_iff.1 hb).1

theorem Cache.kept {row : Option Nat} (h : Cache w b c) (hg : w.grownBy w' row) (hne : some b ≠ row) : Cache w' b c := by
  have hlt := h.lt
  obtain ⟨es, clock, hb, r⟩ := h
  exact ⟨es, clock, (hg.block b hlt hne).trans hb, r⟩

theorem Cache.alloc (h : Cache w b c) (o : Obj) : Cache (w.alloc o) b c := h.kept (World.grownBy_alloc w o none) (by simp)
theorem Cache.drewN (h : Cache w b c) (n : Nat) : Cache (w.drewN n) b c := h
theorem Cache.setCell (h : Cache w b c) {a : Addr} (ha : b ≠ a.block) (u : Value) : Cache (w.setCell a u) b c := by
  obtain ⟨es, clock, hb, r⟩ := h
  exact ⟨es, clock, by rw [RowKit.Below.heap_setCell _ _ _ _ ha]; exact hb, r⟩

theorem Cache.look {t : TypeId} (h : Cache w b c) (ht : Try.prog.underlying t = some (.map 103 46)) {n k : Nat} (hn : (Lit.int .i64 (n : Int)).wf = true) (hk : (Lit.int .i64 (k : Int)).wf = true) :
    (Instr.lookup t (.map (some b)) (frac n k) true).run Try.prog w = .ok (.tuple #[.complex .f64 0 0, .bool false]) w ∨
    ∃ x y, IsF x (turn n k).1 ∧ IsF y (turn n k).2 ∧ (Instr.lookup t (.map (some b)) (frac n k) true).run Try.prog w = .ok (.tuple #[.complex .f64 x y, .bool true]) w := by
  obtain ⟨es, clock, hb, F, _, hI⟩ := h
  obtain ⟨kl, hkey⟩ := key_frac hn hk
  rcases Maps.fit_look true lawFrac ht (zeroC w) hb F hkey with ⟨hrun, _, _⟩ | ⟨e0, y, hm, he, hrun, _, _⟩
  · exact .inl hrun
  · obtain ⟨x, y, hv, hx, hy⟩ := hI e0 hm n k he
    rw [hv] at hrun
    exact .inr ⟨x, y, hx, hy, hrun⟩

theorem frac_inj {n k n' k' : Nat} (h : frac n k = frac n' k') : n = n' ∧ k = k' := by
  simp only [frac, Value.agg.injEq] at h
  simp at h
  omega

theorem Cache.store {t : TypeId} (h : Cache w b c) (ht : Try.prog.underlying t = some (.map 103 46)) {n k : Nat} (hn : (Lit.int .i64 (n : Int)).wf = true) (hk : (Lit.int .i64 (k : Int)).wf = true) (hc : c < maxLen)
    {x y : Nat} (hx : IsF x (turn n k).1) (hy : IsF y (turn n k).2) :
    ∃ w', (Instr.mapUpdate t (.map (some b)) (frac n k) (.complex .f64 x y)).run Try.prog w = .ok () w' ∧ Cache w' b (c + 1) ∧ w.grownBy w' (some b) := by
  obtain ⟨es, clock, hb, F, hs, hI⟩ := h
  obtain ⟨kl, hkey⟩ := key_frac hn hk
  obtain ⟨es', clock', hrun, F', hput, _, _, hall⟩ := Maps.fit_store (R' := RU) (val := .complex .f64 x y) lawFrac ht hb F (Nat.lt_of_le_of_lt hs hc) (fun _ _ _ _ hz => hz) hkey (yv := (.lit .nil, [])) rfl
  refine ⟨_, hrun, ⟨es', clock', heap_setBlock_same hb _, F', ?_, ?_⟩, ⟨rfl, rfl, rfl, by simp [setBlock], fun i _ hi => heap_setBlock_other hb _ (fun e => hi (by rw [e]))⟩⟩
  · have e1 : es'.size = ((es'.toList.map (rg Try.prog 103 RU)).foldr DataW.insert []).length := by rw [length_sorted]; simp
    rw [e1, hput]
    unfold putKey
    rw [length_insert]
    have e2 := List.length_filter_le (notKey kl) ((es.toList.map (rg Try.prog 103 RU)).foldr DataW.insert [])
    rw [length_sorted] at e2
    simp at e2
    omega
  · intro e he n' k' hk'
    rcases hall e he with ⟨hm, _⟩ | ⟨h1, h2⟩
    · exact hI e hm n' k' hk'
    · obtain ⟨rfl, rfl⟩ := frac_inj (h1.symm.trans hk')
      exact ⟨x, y, h2, hx, hy⟩
end

/-- The look-up, for the walk. -/
theorem wpList_look_cache (w : World) {ops : Array Oper} {rest : List Oper} {o : Oper} {a : Act} {Q : Exit → Act → World → Prop}
    (hg : o.guard = none) (m x : Operand) (t : TypeId) (hop : o.op = Op.lookup t m x true) (ht : Try.prog.underlying t = some (.map 103 46)) (b c : Nat) (h : Cache w b c) (hm : a.eval m = .map (some b))
    (n k : Nat) (hx : a.eval x = frac n k) (hn : (Lit.int .i64 (n : Int)).wf = true) (hk : (Lit.int .i64 (k : Int)).wf = true)
    (hMiss : wpList Try.prog ops Q rest (a.put o.dst (.tuple #[.complex .f64 0 0, .bool false])) w)
    (hHit : ∀ x y, IsF x (turn n k).1 → IsF y (turn n k).2 → wpList Try.prog ops Q rest (a.put o.dst (.tuple #[.complex .f64 x y, .bool true])) w) : wpList Try.prog ops Q (o :: rest) a w := by
  refine wpList_plain hg fun K' hK' => ?_
  rcases h.look ht hn hk with hrun | ⟨u, v, hu, hv, hrun⟩
  · unfold Oper.wp
    simp [execOp, hop, hm, hx, hrun, Result.andThen]
    exact hK' _ _ hMiss
  · unfold Oper.wp
    simp [execOp, hop, hm, hx, hrun, Result.andThen]
    exact hK' _ _ (hHit u v hu hv)

/-- The store, for the walk. -/
theorem wpList_store_cache (w : World) {ops : Array Oper} {rest : List Oper} {o : Oper} {a : Act} {Q : Exit → Act → World → Prop}
    (hg : o.guard = none) (m x v : Operand) (t : TypeId) (hop : o.op = Op.mapUpdate t m x v) (ht : Try.prog.underlying t = some (.map 103 46)) (b c : Nat) (h : Cache w b c) (hc : c < maxLen) (hm : a.eval m = .map (some b))
    (n k : Nat) (hx : a.eval x = frac n k) (hn : (Lit.int .i64 (n : Int)).wf = true) (hk : (Lit.int .i64 (k : Int)).wf = true) (p q : Nat) (hv : a.eval v = .complex .f64 p q) (hp : IsF p (turn n k).1) (hq : IsF q (turn n k).2)
    (hK : ∀ w', Cache w' b (c + 1) → w.grownBy w' (some b) → wpList Try.prog ops Q rest (a.put o.dst undef) w') : wpList Try.prog ops Q (o :: rest) a w := by
  refine wpList_plain hg fun K' hK' => ?_
  obtain ⟨w', hrun, r1, r2⟩ := h.store ht hn hk hc hp hq
  unfold Oper.wp
  simp [execOp, hop, hm, hx, hv, hrun, Result.andThen]
  exact hK' _ _ (hK w' r1 r2)

end Go.Proofs.Ytpobbicbfnglaaa
