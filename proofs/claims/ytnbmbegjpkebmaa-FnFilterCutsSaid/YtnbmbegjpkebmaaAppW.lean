import Derived.Test.YtnbmbegjpkebmaaAdCl
/-
  append of complex numbers to a row of the call's own, guarded or not, whatever slice they come from.
-/
set_option linter.unusedVariables false
set_option linter.unusedSimpArgs false
namespace Go.Proofs.Ytnbmbegjpkebmaa
open Go.RowKit Flt Fast

theorem app_eq {P : Program} (hu : P.underlying 24 = some (.slice 32)) (i : TypeInfo) (hi : P.info? 32 = some i) (hz : i.zero = some (.complex .f64 0 0)) (hsz : i.size = 1) (hby : i.bytes = 16) (ty : TypeId)
    {w : World} {B : Nat} {v u : Value} {xs ys : List C} (hv : Row w B 32 v (cvals xs)) (hr : RdC w u ys) (hB : B ≤ w.heap.size) (hl : xs.length + ys.length ≤ 1000000) :
    ∃ v' w', (Builtin.append_ #[24, 24] ty #[v, u]).run P w = .ok v' w' ∧ Row w' B 32 v' (cvals (xs ++ ys)) ∧ w.grownBy w' v.ownBlock := by
  obtain ⟨a, cap, rfl, h1, h2, h3⟩ := hr
  cases a with
  | none =>
    have h0 : ys.length = 0 := by
      apply Nat.eq_zero_of_not_pos
      intro hp
      obtain ⟨g, o, e, -⟩ := h3 0 hp
      cases e
    obtain rfl := List.eq_nil_of_length_eq_zero h0
    refine ⟨v, w, ?_, by simpa using hv, ⟨rfl, rfl, rfl, Nat.le_refl _, fun _ _ _ => rfl⟩⟩
    rcases hv.2 with ⟨rfl, h0'⟩ | ⟨g, cap', cur, rfl, -, hg, hnc, -⟩
    · simp [Builtin.append_, run_underlying hu, sizeOf, typeInfo, hi, Builtin.lenOf, Builtin.firstCells, loadCells, loadCellsFrom]
    · simp [Builtin.append_, run_underlying hu, sizeOf, typeInfo, hi, Builtin.lenOf, Builtin.firstCells, loadCells, loadCellsFrom, hnc, storeCells]
  | some x =>
    have hn : ∀ (j : Nat) (u : Value), (cvals ys)[j]? = some u → w.cell? (x.add j) = some u := by
      intro j u hu
      have hj : j < ys.length := by have := (List.getElem?_eq_some_iff.1 hu).1; rwa [cvals_length] at this
      obtain ⟨g, o, e, hg, hc⟩ := h3 j hj
      cases e
      rw [addr_off, hc]
      have e2 := cvals_getD hj
      have e3 : (cvals ys).getD j undef = u := by simp [List.getD, hu]
      rw [← e3, e2]
    have hone : ∀ u ∈ cvals ys, u.oneCell' = true := by
      intro u hu
      obtain ⟨p, -, rfl⟩ := List.mem_map.1 hu
      rfl
    obtain ⟨v', w', e1, e2, e3, -⟩ := run_append_own (P := P) w B 24 ty 32 i (.complex .f64 0 0) 1 16 hu hi hz hsz hby rfl (by decide) v (cvals xs).length (cvals xs) hv x ys.length cap (cvals ys) (by rw [cvals_length, Nat.mul_one]) hn hone
      (by rw [cvals_length]; simp only [maxLen]; omega) (by rw [cvals_length]; omega) hB
    refine ⟨v', w', e1, ?_, e3⟩
    show w'.ownsRow _ _ _ _ _ _
    have e4 : cvals (xs ++ ys) = cvals xs ++ cvals ys := by simp [cvals]
    rw [e4, List.length_append, cvals_length ys]
    exact e2

theorem wpList_app {P : Program} {w : World} {ops : Array Oper} {rest : List Oper} {o : Oper} {a : Act} {Q : Exit → Act → World → Prop} (hw : Region.wanted o (yielded ops a.tmps) = true) (s x : Operand)
    (ho : o.op = .call { callee := .builtin .append, args := #[s, x], argTypes := #[24, 24] })
    (hu : P.underlying 24 = some (.slice 32)) (i : TypeInfo) (hi : P.info? 32 = some i) (hz : i.zero = some (.complex .f64 0 0)) (hsz : i.size = 1) (hby : i.bytes = 16)
    (B : Nat) (v u : Value) (xs ys : List C) (hs : a.eval s = v) (hx : a.eval x = u) (hv : Row w B 32 v (cvals xs)) (hr : RdC w u ys) (hB : B ≤ w.heap.size) (hl : xs.length + ys.length ≤ 1000000)
    (h : ∀ v' w', Row w' B 32 v' (cvals (xs ++ ys)) → w.grownBy w' v.ownBlock → wpList P ops Q rest (a.put o.dst v') w') : wpList P ops Q (o :: rest) a w := by
  refine BigFrame.wpList_want hw fun K hK => ?_
  obtain ⟨v', w', hrun, h2, h3⟩ := app_eq hu i hi hz hsz hby o.type hv hr hB hl
  unfold Oper.wp execOp
  simp only [ho, resolve, invoke, builtin, Sem.run_bind, Sem.run_pure, Result.andThen_ok, List.map_toArray, List.map_cons, List.map_nil, hs, hx, hrun]
  exact hK _ _ (h v' w' h2 h3)

end Go.Proofs.Ytnbmbegjpkebmaa
