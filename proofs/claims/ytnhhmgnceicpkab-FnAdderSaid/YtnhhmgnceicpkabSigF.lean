import Derived.Test.YtnhhmgnceicpkabSums
/-
  AddSignals, EnergyOf, DotOf, SumOf, NarrowSignal, WidenSignal, ScaleSignal of the program.
-/
set_option linter.unusedVariables false
set_option linter.unusedSimpArgs false
namespace Go.Proofs.Ytnhhmgnceicpkab
open Go.RowKit Flt Fast
attribute [local go_sem] run_fadd run_fsub run_fmul run_fquo run_cadd run_csub

/-- The shape of what is read. -/
theorem Reads.form {w : World} {v : Value} {cs : List Value} (h : Reads w v cs) : ∃ a cap, v = .slice a cs.length cap := by
  cases h with
  | none a cap => exact ⟨a, cap, rfl⟩
  | row g cap L cs hL => subst hL; exact ⟨_, cap, rfl⟩

/-- The conjugate. -/
def conjZ (x : Z) : Z := (x.1, fneg .f64 x.2)

set_option maxRecDepth 100000 in
theorem narrowSignal_any {v : Value} {xs : List C} {w : World} (h : Reads w v (cvals xs)) (hl : xs.length ≤ 256) :
    Calls Try.prog 40 #[v] w (MapsTo 119 nvals (0, 0) xs.length (fun i q => Narrows (xs.getD i (0, 0)).1 q.1 ∧ Narrows (xs.getD i (0, 0)).2 q.2) w) := by
  have HM := Lib.hid (map_c128_c64 h hl 91 #[] (fun _ _ => rfl) (fun i q => Narrows (xs.getD i (0, 0)).1 q.1 ∧ Narrows (xs.getD i (0, 0)).2 q.2) (fun i w1 hi _ => (narrowOf_any _ _ w1).mono (fun e w2 ⟨a, b, e1, e2, e3, e4⟩ => ⟨(a, b), e3, ⟨e1, e2⟩, e4⟩)))
  obtain ⟨a, cap, rfl⟩ := h.form
  clear h
  go_enter Try.func40, Try.ntmps40
  go_wp2_with fail
  refine HM.out.mono ?_
  rintro e w1 ⟨u, qs, rfl, hr, hq, hg, hb⟩
  have HE := Lib.hid (show MapsTo 119 nvals (0, 0) xs.length (fun i q => Narrows (xs.getD i (0, 0)).1 q.1 ∧ Narrows (xs.getD i (0, 0)).2 q.2) w (.returned (.tuple #[u, .int .i64 0])) w1 from ⟨u, qs, rfl, hr, hq, hg, hb⟩)
  clear hr hq hg hb HM
  go_wp2
  go_ret2
  exact HE.out

end Go.Proofs.Ytnhhmgnceicpkab
