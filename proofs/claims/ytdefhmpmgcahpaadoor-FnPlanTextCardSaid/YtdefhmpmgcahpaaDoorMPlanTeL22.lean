/-
  Several texts of this claim, one behind the other; each says what it holds.
-/
import Derived.Test.YtdefhmpmgcahpaaDoorBls
import Derived.Laws.Rows
/-
  A great variable is loaded by an equation.
-/
set_option linter.unusedVariables false
set_option linter.unusedSimpArgs false
namespace Go.Proofs.YtdefhmpmgcahpaaDoor
open Go.RowKit

theorem wpList_loadV {P : Program} {w : World} {ops : Array Oper} {rest : List Oper} {o : Oper} {a : Act} {Q : Exit → Act → World → Prop} (hw : Region.wanted o (yielded ops a.tmps) = true) (t : TypeId) (x : Operand)
    (ho : o.op = .load t x) (p : Addr) (hx : a.eval x = .pointer (some p)) (v : Value) (hrun : (loadVar t p).run P w = .ok v w)
    (h : wpList P ops Q rest (a.put o.dst v) w) : wpList P ops Q (o :: rest) a w := by
  refine BigFrame.wpList_want hw fun K hK => ?_
  unfold Oper.wp execOp
  simp only [ho, hx, Sem.run_bind, Sem.run_pure, Result.andThen_ok]
  have e : (Instr.loadAt t (.pointer (some p))).run P w = .ok v w := by
    unfold Instr.loadAt
    have e0 : (Instr.sureAddr (.pointer (some p))).run P w = .ok p w := by simp [Instr.sureAddr, go_sem]
    simp only [asAddr, Sem.run_bind, Sem.run_pure, Result.andThen_ok, e0, hrun]
  rw [e]
  exact hK _ _ h

end Go.Proofs.YtdefhmpmgcahpaaDoor
/-
  A great variable is loaded by an equation.
-/
set_option linter.unusedVariables false
set_option linter.unusedSimpArgs false
namespace Go.Proofs.YtdefhmpmgcahpaaDoor
open Go.RowKit

theorem wpList_sliceV {P : Program} {w : World} {ops : Array Oper} {rest : List Oper} {o : Oper} {a : Act} {Q : Exit → Act → World → Prop} (hw : Region.wanted o (yielded ops a.tmps) = true) (t : TypeId) (x l : Operand)
    (ho : o.op = .slice t x (some l) none none) (u lv : Value) (hx : a.eval x = u) (hl : a.eval l = lv) (v : Value) (hrun : (Instr.sliceAt t u (some lv) none none).run P w = .ok v w)
    (h : wpList P ops Q rest (a.put o.dst v) w) : wpList P ops Q (o :: rest) a w := by
  refine BigFrame.wpList_want hw fun K hK => ?_
  unfold Oper.wp execOp
  simp only [ho, hx, hl, Sem.run_bind, Sem.run_pure, Result.andThen_ok, Option.map]
  rw [hrun]
  exact hK _ _ h

theorem tail_slice (b L : Nat) (h : 1 ≤ L) (hm : (L : Int) ≤ 9223372036854775807) : ∃ a', (∀ w, (Instr.sliceAt 67 (.slice (some ⟨b, 0, none⟩) L L) (some (.int .i64 1)) none none).run Tryd.prog w = .ok (.slice a' (L - 1) (L - 1)) w) ∧ (2 ≤ L → a' = some ⟨b, 1, none⟩) := by
  have h1 : (1 : Int) ≤ (L : Int) := by omega
  by_cases h2 : L = 1
  · subst h2
    refine ⟨some ⟨b, 0, none⟩, fun w => ?_, fun h => by omega⟩
    go_simp
  · refine ⟨some ⟨b, 1, none⟩, fun w => ?_, fun _ => rfl⟩
    go_simp

end Go.Proofs.YtdefhmpmgcahpaaDoor
