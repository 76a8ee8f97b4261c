import Derived.Test.YtdefhmpmgcahpaaDoorRsiZ
import Derived.Test.YtdefhmpmgcahpaaDoorRsoZ
import Derived.Test.YtdefhmpmgcahpaaDoorEqSZ
/-
  Marks of a lone step.
-/
set_option linter.unusedVariables false
set_option linter.unusedSimpArgs false
namespace Go.Proofs.YtdefhmpmgcahpaaDoor
open Go.RowKit

set_option maxRecDepth 100000 in
set_option maxHeartbeats 2000000 in
theorem markStep_any {tv : Value} {cs : List Value} {B m : Nat} {w : World} (kd n k : Int) (h : Row w B 2 tv cs) (hm : m ≤ 10000000000000) (hz : cs.length ≤ 10000000000000) :
    Calls Tryd.prog 19 #[.agg #[.int .i64 kd, .int .i64 n, .int .i64 k, tv], .int .i64 m] w fun e w' => e = .returned (.int .i64 ((m + cs.length : Nat) : Int)) ∧ Row w' B 2 tv (ints (marks m cs.length)) ∧ w.grownBy w' tv.ownBlock := by
  have M := markInt64_any (h.alloc (.cells #[.int .i64 kd, .int .i64 n, .int .i64 k, tv] 36)) hm hz
  have M := Lib.hid M
  have HG : Hid (∀ w', (w.alloc (.cells #[.int .i64 kd, .int .i64 n, .int .i64 k, tv] 36)).grownBy w' tv.ownBlock → w.grownBy w' tv.ownBlock) := fun w' hg => (World.grownBy_alloc w _ _).trans hg
  obtain ⟨aa, cc, hf⟩ := h.form
  subst hf
  clear h hm hz
  go_enter Tryd.func19, Tryd.ntmps19
  go_wp2_with fail
  refine M.out.mono ?_
  rintro e w1 ⟨rfl, hr, hg⟩
  have HR := Lib.hid hr
  have HG1 := Lib.hid (HG.out _ hg)
  clear hr hg
  go_wp2
  go_ret
  exact ⟨rfl, HR.out, HG1.out⟩

set_option maxRecDepth 100000 in
set_option maxHeartbeats 2000000 in
theorem heldStep_any {aa : Option Addr} {m L cc : Nat} {w : World} (kd n k : Int) (h : Reads w (.slice aa L cc) (ints (marks m L))) (hm : m ≤ 1000000000000) (hz : L ≤ 1000000000000) :
    Calls Tryd.prog 20 #[.agg #[.int .i64 kd, .int .i64 n, .int .i64 k, .slice aa L cc], .int .i64 m] w fun e w' => e = .returned (.int .i64 ((m + L : Nat) : Int)) ∧ Below w.heap.size w w' := by
  have hb : Below w.heap.size w (w.alloc (.cells #[.int .i64 kd, .int .i64 n, .int .i64 k, .slice aa L cc] 36)) := (Below.refl _ _).alloc (Nat.le_refl _) _
  have M := Lib.hid (heldInt64_any (h.keep hb) (show m ≤ 10000000000000 by omega) (show L ≤ 10000000000000 by omega))
  have HB := Lib.hid hb
  have hq : ¬ ((m + L : Nat) : Int) < 0 := by omega
  generalize ((m + L : Nat) : Int) = Z at M hq ⊢
  clear h hm hz hb
  go_enter Tryd.func20, Tryd.ntmps20
  go_wp2_with fail
  refine M.out.mono ?_
  rintro e w1 ⟨rfl, rfl⟩
  go_wp2
  go_ret
  exact ⟨rfl, HB.out⟩

end Go.Proofs.YtdefhmpmgcahpaaDoor
