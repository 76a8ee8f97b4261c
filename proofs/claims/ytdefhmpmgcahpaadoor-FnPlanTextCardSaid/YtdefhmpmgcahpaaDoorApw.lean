import Derived.Test.YtdefhmpmgcahpaaDoorRow
import Derived.Test.YtdefhmpmgcahpaaDoorBls
import Derived.Laws.AppendOwn
/-
  Rows that are appended, whatever their elements.
-/
set_option linter.unusedVariables false
set_option linter.unusedSimpArgs false
namespace Go.Proofs.YtdefhmpmgcahpaaDoor
open Go.RowKit

theorem app_row {P : Program} {t e : TypeId} (hu : P.underlying t = some (.slice e)) (i : TypeInfo) (hi : P.info? e = some i) {z : Value} (hz : i.zero = some z) (hsz : i.size = 1) {bytes : Nat} (hby : i.bytes = bytes) (hb64 : bytes ≤ 64) (hzs : z.cells.size = 1) (ty : TypeId)
    {w : World} {B : Nat} {v u : Value} {xs ys : List Value} (hv : Row w B e v xs) (hr : Reads w u ys) (h1 : ∀ x ∈ ys, x.oneCell' = true) (hB : B ≤ w.heap.size) (hl : xs.length + ys.length ≤ 2000000) :
    ∃ v' w', (Builtin.append_ #[t, t] ty #[v, u]).run P w = .ok v' w' ∧ Row w' B e v' (xs ++ ys) ∧ w.grownBy w' v.ownBlock := by
  have hbb : (xs.length + ys.length) * bytes ≤ 140737488355328 := by
    have := Nat.mul_le_mul hl hb64
    omega
  cases hr with
  | none a cap =>
    cases a with
    | none =>
      refine ⟨v, w, ?_, by simpa using hv, ⟨rfl, rfl, rfl, Nat.le_refl _, fun _ _ _ => rfl⟩⟩
      rcases hv.2 with ⟨rfl, h0'⟩ | ⟨g, cap', cur, rfl, -, hg, hnc, -⟩
      · simp [Builtin.append_, run_underlying hu, sizeOf, typeInfo, hi, Builtin.lenOf, Builtin.firstCells, loadCells, loadCellsFrom]
      · simp [Builtin.append_, run_underlying hu, sizeOf, typeInfo, hi, Builtin.lenOf, Builtin.firstCells, loadCells, loadCellsFrom, hnc, storeCells]
    | some x =>
      obtain ⟨v', w', e1, e2, e3, -⟩ := run_append_own (P := P) w B t ty e i z 1 bytes hu hi hz hsz hby hzs (by decide) v xs.length xs hv x 0 cap [] rfl (fun j u h => by simp at h) (fun u h => by cases h)
        (by simp only [maxLen]; omega) (by simpa using hbb) hB
      refine ⟨v', w', e1, ?_, e3⟩
      show w'.ownsRow _ _ _ _ _ _
      rw [List.length_append]
      exact e2
  | row g cap L cs hL h0 hc hm h =>
    have hn : ∀ (j : Nat) (u : Value), ys[j]? = some u → w.cell? ((⟨g, 0, none⟩ : Addr).add j) = some u := by
      intro j u hu
      have hj : j < ys.length := (List.getElem?_eq_some_iff.1 hu).1
      rw [show (⟨g, 0, none⟩ : Addr).add j = ⟨g, j, none⟩ by unfold Addr.add; split <;> simp_all, h j (by omega)]
      simp [List.getD, hu]
    obtain ⟨v', w', e1, e2, e3, -⟩ := run_append_own (P := P) w B t ty e i z 1 bytes hu hi hz hsz hby hzs (by decide) v xs.length xs hv ⟨g, 0, none⟩ L cap ys (by rw [hL, Nat.mul_one]) hn h1
      (by simp only [maxLen]; omega) (by rw [← hL]; exact hbb) hB
    refine ⟨v', w', e1, ?_, e3⟩
    show w'.ownsRow _ _ _ _ _ _
    rw [List.length_append, hL]
    exact e2

theorem wpList_appR {P : Program} {w : World} {ops : Array Oper} {rest : List Oper} {o : Oper} {a : Act} {Q : Exit → Act → World → Prop} (hw : Region.wanted o (yielded ops a.tmps) = true) (s x : Operand) (t e : TypeId)
    (ho : o.op = .call { callee := .builtin .append, args := #[s, x], argTypes := #[t, t] })
    (hu : P.underlying t = some (.slice e)) (i : TypeInfo) (hi : P.info? e = some i) {z : Value} (hz : i.zero = some z) (hsz : i.size = 1) {bytes : Nat} (hby : i.bytes = bytes) (hb64 : bytes ≤ 64) (hzs : z.cells.size = 1)
    (B : Nat) (v u : Value) (xs ys : List Value) (hs : a.eval s = v) (hx : a.eval x = u) (hv : Row w B e v xs) (hr : Reads w u ys) (h1 : ∀ x ∈ ys, x.oneCell' = true) (hB : B ≤ w.heap.size) (hl : xs.length + ys.length ≤ 2000000)
    (h : ∀ v' w', Row w' B e v' (xs ++ ys) → w.grownBy w' v.ownBlock → wpList P ops Q rest (a.put o.dst v') w') : wpList P ops Q (o :: rest) a w := by
  refine BigFrame.wpList_want hw fun K hK => ?_
  obtain ⟨v', w', hrun, h2, h3⟩ := app_row hu i hi hz hsz hby hb64 hzs o.type hv hr h1 hB hl
  unfold Oper.wp execOp
  simp only [ho, resolve, invoke, builtin, Sem.run_bind, Sem.run_pure, Result.andThen_ok, List.map_toArray, List.map_cons, List.map_nil, hs, hx, hrun]
  exact hK _ _ (h v' w' h2 h3)

end Go.Proofs.YtdefhmpmgcahpaaDoor
