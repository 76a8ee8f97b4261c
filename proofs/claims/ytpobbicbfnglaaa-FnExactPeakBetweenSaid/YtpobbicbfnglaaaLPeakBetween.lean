import Derived.Test.YtpobbicbfnglaaaSpK
/-
  The walk of the law on PeakBetween.
-/
set_option linter.unusedVariables false
set_option linter.unusedSimpArgs false
namespace Go.Proofs.Ytpobbicbfnglaaa
open Go.RowKit Flt

set_option maxRecDepth 100000 in
set_option maxHeartbeats 16000000 in
theorem exactPeakBetween_law (a0 : Option Addr) (len0 cap0 : Nat) (z0 : List Nat) (a1 : Int) (w : World) (h0 : IsRowF w a0 len0 cap0 z0) (ha1 : (Lit.int .i64 a1).wf = true) :
    Calls Try.prog 5 #[.slice a0 len0 cap0, .int .i64 a1] w fun e w' => e = .returned (.bool true) ∧ Below w.heap.size w w' := by
  obtain ⟨e0, q0, m0⟩ := h0.1.facts'
  by_cases hl0 : len0 ≤ 1048576
  · have T0 : Hid (∀ W, Below w.heap.size w W → Calls Try.prog 14 #[.slice a0 len0 cap0] W fun e w' => ∃ u, e = .returned u ∧ Row w' W.heap.size 29 u (flts z0) ∧ W.grownBy w' none) := fun W hb =>
      toFloat64_any (h0.below hb) (fun x L cap e hL => by
        simp only [Value.slice.injEq] at e
        exact Nat.lt_of_lt_of_le (h0.2 x e.1 (by omega)) hb.size) (by omega)
    have Q0 := Lib.hid q0
    have HS := Lib.hid (fun v W hv => between_spec z0 q0 a1 v W hv)
    have HI := Lib.hid (fun v W hv => between_impl z0 q0 a1 v W hv)
    clear h0 e0 q0 ha1
    go_enter Try.func5, Try.ntmps5
    go_wp2_with fail
    refine (T0.out w (Below.refl _ _)).mono ?_
    rintro e w2 ⟨p0, rfl, hp0, hg1⟩
    have HB2 := Lib.hid (show Below w.heap.size w w2 from (Below.refl _ _).grown hg1 (Nat.le_refl _) (by simp))
    have HP0 := Lib.hid hp0.reads
    clear hg1 hp0
    go_wp2_with fail
    refine (HS.out p0 w2 HP0.out).mono ?_
    rintro e w4 ⟨r0, s0, rfl, hr0, hs0, hb4⟩
    have HB4 := Lib.hid (HB2.out.trans (hb4.mono HB2.out.size))
    have HR0 := Lib.hid hr0
    have HS0 := Lib.hid hs0
    clear hb4 hr0 hs0 HB2 HP0 HS
    go_wp2_with fail
    refine (T0.out w4 HB4.out).mono ?_
    rintro e w5 ⟨y0, rfl, hy0, hg5⟩
    have b5 : Below w4.heap.size w4 w5 := (Below.refl _ _).grown hg5 (Nat.le_refl _) (by simp)
    have HB5 := Lib.hid (HB4.out.trans (b5.mono HB4.out.size))
    have HY0 := Lib.hid hy0
    clear hg5 hy0 b5 HB4
    go_wp2_with fail
    refine (HI.out y0 w5 HY0.out.reads).mono ?_
    rintro e w7 ⟨r1, s1, rfl, hr1, hs1, hb7⟩
    have HB7 := Lib.hid (HB5.out.trans (hb7.mono HB5.out.size))
    have HY07 := Lib.hid (HY0.out.below hb7 (fun k e => (HY0.out.lt k e).2))
    have HE := Lib.hid (fun w => sameFloat_any r1 r0 (hr1.cn.trans HR0.out.cn.symm) hr1.lt w)
    have HF := Lib.hid (fun w => sameFloat_any s1 s0 (hs1.cn.trans HS0.out.cn.symm) hs1.lt w)
    clear hb7 hr1 hs1 HR0 HS0 HY0 HB5 HI
    go_wp2_with (go_at_call 26; first | (with_reducible refine (HE.out _).mono ?_; rintro e w' ⟨rfl, rfl⟩) | (with_reducible refine (HF.out _).mono ?_; rintro e w' ⟨rfl, rfl⟩))
    refine (T0.out _ HB7.out).mono ?_
    rintro e w8 ⟨p2, rfl, hp2, hg8⟩
    have b8 := below_of_gb hg8
    have HB8 := Lib.hid (HB7.out.trans (b8.mono HB7.out.size))
    have HY08 := Lib.hid (HY07.out.below b8 (fun k e => (HY07.out.lt k e).2))
    have HP2 := Lib.hid (ReadsF.of_row hp2 Q0.out)
    clear b8 hg8 hp2 HB7 HY07
    go_wp2_with fail
    refine (eqFloat64_any (ReadsF.of_row HY08.out Q0.out) HP2.out rfl (fun j hj => rfl)).mono ?_
    rintro e w9 ⟨rfl, n3, rfl⟩
    go_wp2
    go_ret
    exact ⟨rfl, below_draws HB8.out n3⟩
  · have hg : 1048576 < len0 := by omega
    clear hl0 h0 q0 e0 ha1
    go_enter Try.func5, Try.ntmps5
    go_wp2
    go_ret
    exact ⟨rfl, Below.refl _ _⟩

end Go.Proofs.Ytpobbicbfnglaaa
