import Derived.Test.YtpobbicbfnglaaaSpH
/-
  The walk of the law on CentroidOf (written by genlaw.py).
-/
set_option linter.unusedVariables false
set_option linter.unusedSimpArgs false
namespace Go.Proofs.Ytpobbicbfnglaaa
open Go.RowKit Flt

set_option maxRecDepth 100000 in
set_option maxHeartbeats 16000000 in
theorem exactCentroidOf_walk (a0 : Option Addr) (len0 cap0 : Nat) (z0 : List Nat) (w : World) (h0 : IsRowF w a0 len0 cap0 z0) (r : Option Nat) (c : Int)
    (S : z0.length ≤ 1048576 → (∀ z ∈ z0, z < 18446744073709551616) → ∀ v W, Reads W v (flts z0) → Calls Try.prog 27 #[v] W (FloatTo r c W))
    (I : z0.length ≤ 1048576 → (∀ z ∈ z0, z < 18446744073709551616) → ∀ v W, Reads W v (flts z0) → Calls Try.prog 28 #[v] W (FloatTo r c W)) :
    Calls Try.prog 6 #[.slice a0 len0 cap0] w fun e w' => e = .returned (.bool true) ∧ Below w.heap.size w w' := by
  obtain ⟨e0, q0, m0⟩ := h0.1.facts'
  by_cases hl0 : len0 ≤ 1048576
  · have T0 : Hid (∀ W, Below w.heap.size w W → Calls Try.prog 14 #[.slice a0 len0 cap0] W fun e w' => ∃ u, e = .returned u ∧ Row w' W.heap.size 29 u (flts z0) ∧ W.grownBy w' none) := fun W hb =>
      toFloat64_any (h0.below hb) (fun x L cap e hL => by
        simp only [Value.slice.injEq] at e
        exact Nat.lt_of_lt_of_le (h0.2 x e.1 (by omega)) hb.size) (by omega)
    have Q0 := Lib.hid q0
    have hz0 : z0.length ≤ 1048576 := by omega
    have HS := Lib.hid (S hz0 q0)
    have HI := Lib.hid (I hz0 q0)
    clear h0 e0 q0 m0 S I
    go_enter Try.func6, Try.ntmps6
    go_wp2_with fail
    refine (T0.out w (Below.refl _ _)).mono ?_
    rintro e w2 ⟨p0, rfl, hp0, hg1⟩
    have HB2 := Lib.hid (show Below w.heap.size w w2 from (Below.refl _ _).grown hg1 (Nat.le_refl _) (by simp))
    have HP0 := Lib.hid hp0
    clear hg1 hp0
    go_wp2_with fail
    refine (HS.out p0 w2 HP0.out.reads).mono ?_
    rintro e w3 ⟨r0, rfl, hr0, hb3⟩
    have HB3 := Lib.hid (HB2.out.trans (hb3.mono HB2.out.size))
    have HR0 := Lib.hid hr0
    clear hb3 hr0 HB2 HP0 HS
    go_wp2_with fail
    refine (T0.out w3 HB3.out).mono ?_
    rintro e w5 ⟨y0, rfl, hy0, hg4⟩
    have HB5 := Lib.hid (HB3.out.trans (((Below.refl w3.heap.size w3).grown hg4 (Nat.le_refl _) (by simp)).mono HB3.out.size))
    have HY0 := Lib.hid hy0
    clear hg4 hy0 HB3
    go_wp2_with fail
    refine (HI.out y0 w5 HY0.out.reads).mono ?_
    rintro e w6 ⟨r1, rfl, hr1, hb6⟩
    have HB6 := Lib.hid (HB5.out.trans (hb6.mono HB5.out.size))
    have HY06 := Lib.hid (HY0.out.below hb6 (fun k e => (HY0.out.lt k e).2))
    have HE : Hid (cn .f64 r1 = cn .f64 r0) := hr1.cn.trans HR0.out.cn.symm
    have HL1 : Hid (r1 < 18446744073709551616) := hr1.lt
    clear hb6 hr1 HR0 HY0 HB5 HI
    go_wp2_with fail
    refine (sameFloat_any r1 r0 HE.out HL1.out _).mono ?_
    rintro e w' ⟨rfl, rfl⟩
    go_wp2_with fail
    refine (T0.out w' HB6.out).mono ?_
    rintro e w8 ⟨p2, rfl, hp2, hg8⟩
    have b8 : Below w'.heap.size w' w8 := (Below.refl _ _).grown hg8 (Nat.le_refl _) (by simp)
    have HB8 := Lib.hid (HB6.out.trans (b8.mono HB6.out.size))
    have HY08 := Lib.hid (HY06.out.below b8 (fun k e => (HY06.out.lt k e).2))
    have HP2 := Lib.hid (ReadsF.of_row hp2 Q0.out)
    clear b8 hg8 hp2 HB6 HY06
    go_wp2_with fail
    refine (eqFloat64_any (ReadsF.of_row HY08.out Q0.out) HP2.out rfl (fun j hj => rfl)).mono ?_
    rintro e w' ⟨rfl, n3, rfl⟩
    go_wp2
    go_ret
    exact ⟨rfl, below_draws HB8.out n3⟩
  · have hg : 1048576 < len0 := by omega
    clear hl0 h0 q0 e0 S I
    go_enter Try.func6, Try.ntmps6
    go_wp2
    go_ret
    exact ⟨rfl, Below.refl _ _⟩

theorem exactCentroidOf_law (a0 : Option Addr) (len0 cap0 : Nat) (z0 : List Nat) (w : World) (h0 : IsRowF w a0 len0 cap0 z0) :
    Calls Try.prog 6 #[.slice a0 len0 cap0] w fun e w' => e = .returned (.bool true) ∧ Below w.heap.size w w' :=
  exactCentroidOf_walk a0 len0 cap0 z0 w h0 (cenR z0) (cenK z0) (fun _ hz v W h => cen_spec z0 hz v W h) (fun _ hz v W h => cen_impl z0 hz v W h)

end Go.Proofs.Ytpobbicbfnglaaa
