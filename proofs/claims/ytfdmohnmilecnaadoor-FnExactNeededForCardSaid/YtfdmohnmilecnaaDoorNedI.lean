import Derived.Test.YtfdmohnmilecnaaDoorNedC
import Derived.Test.YtfdmohnmilecnaaDoorLenI
/-
  NeededFor of the program.
-/
set_option linter.unusedVariables false
set_option linter.unusedSimpArgs false
namespace Go.Proofs.YtfdmohnmilecnaaDoor
open Go.RowKit

set_option maxRecDepth 100000 in
set_option maxHeartbeats 4000000 in
theorem neededFor_impl {w : World} {B : Nat} {V : Value} {ss : List St} {tv : Nat → Value} (h : StepsO w B V ss.length ss.length ss tv) (ht : Tab w) (n : Int) :
    Calls Tryd.prog 43 #[.agg #[V], .int .i64 n] w fun e w' => e = .returned (.tuple #[.int .i64 (ndR ss n).1, .int .i64 (ndR ss n).2]) ∧ Below w.heap.size w w' := by
  obtain ⟨a, cap, rfl⟩ := h.form
  have hb : Below w.heap.size w (w.alloc (.cells #[.slice a ss.length cap] 43)) := (Below.refl _ _).alloc (Nat.le_refl _) _
  have PF := planForLength_any (h.below hb (Nat.le_refl _)) (ht.below hb) n
  have HB := Lib.hid hb
  have HSB := Lib.hid (fun (hv : cntCode ss n = 0) => validPl_st (cntCode_zero hv).1)
  have HN := Lib.hid (fun (hv : cntCode ss n = 0) => (cntCode_zero hv).2)
  obtain ⟨R, hR⟩ : ∃ R, ndR ss n = R := ⟨_, rfl⟩
  rw [hR]
  unfold ndR at hR
  obtain ⟨D, hD⟩ : ∃ D, cntCode ss n = D := ⟨_, rfl⟩
  rw [hD] at PF HSB HN hR
  have PF := Lib.hid PF
  have HR0 := Lib.hid hR
  clear h ht hb hD hR
  go_enter Tryd.func43, Tryd.ntmps43
  go_wp2_with fail
  with_reducible refine PF.out.mono ?_
  rintro e w1 ⟨V', rfl, hV, ⟨a', l', c', rfl⟩, hb1⟩
  have HB1 := Lib.hid (below_step' HB.out hb1 HB.out.size)
  have HV := Lib.hid hV
  clear hb1 PF hV
  by_cases hD0 : D = 0
  · subst hD0
    have hR1 := HV.out rfl
    have hb2 : Below w1.heap.size w1 (w1.alloc (.cells #[.slice a' l' c'] 102)) := (Below.refl _ _).alloc (Nat.le_refl _) _
    have LC := neededFor_chain (hR1.below hb2 (fun k e => (hR1.lt k e).2)) (HSB.out rfl) n (HN.out rfl)
    have e : ndGo ss ss.length n = R := HR0.out
    rw [e] at LC
    have LC := Lib.hid LC
    have HB2 := Lib.hid (below_step' HB1.out hb2 HB1.out.size)
    clear hR1 hb2 HV HR0 HSB HN e
    go_wp2_with fail
    with_reducible refine LC.out.mono ?_
    rintro e w2 ⟨rfl, hb3⟩
    have HB3 := Lib.hid (below_step' HB2.out hb3 HB2.out.size)
    clear hb3
    go_wp2
    go_ret2
    exact ⟨rfl, HB3.out⟩
  · have e : R = (0, D) := by rw [← HR0.out, if_neg hD0]
    subst e
    have hDb : (D == 0) = false := by simpa using hD0
    clear HV HSB HN
    go_wp2
    go_ret2
    exact ⟨rfl, HB1.out.alloc HB1.out.size _⟩

end Go.Proofs.YtfdmohnmilecnaaDoor
