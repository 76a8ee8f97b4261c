import Derived.Test.YtpobbicbfnglaaaSpG
/-
  The walk of the law on PowersApart.
-/
set_option linter.unusedVariables false
set_option linter.unusedSimpArgs false
namespace Go.Proofs.Ytpobbicbfnglaaa
open Go.RowKit Flt

set_option maxRecDepth 100000 in
set_option maxHeartbeats 16000000 in
theorem exactPowersApart_law (a0 : Option Addr) (len0 cap0 : Nat) (z0 : List Nat) (a1 : Option Addr) (len1 cap1 : Nat) (z1 : List Nat) (w : World) (h0 : IsRowF w a0 len0 cap0 z0) (h1 : IsRowF w a1 len1 cap1 z1) :
    Calls Try.prog 8 #[.slice a0 len0 cap0, .slice a1 len1 cap1] w fun e w' => e = .returned (.bool true) ∧ Below w.heap.size w w' := by
  obtain ⟨e0, q0, m0⟩ := h0.1.facts'
  obtain ⟨e1, q1, m1⟩ := h1.1.facts'
  by_cases hl0 : len0 ≤ 1048576
  · by_cases hl1 : len1 ≤ 1048576
    · have T0 : Hid (∀ W, Below w.heap.size w W → Calls Try.prog 14 #[.slice a0 len0 cap0] W fun e w' => ∃ u, e = .returned u ∧ Row w' W.heap.size 29 u (flts z0) ∧ W.grownBy w' none) := fun W hb =>
        toFloat64_any (h0.below hb) (fun x L cap e hL => by
          simp only [Value.slice.injEq] at e
          exact Nat.lt_of_lt_of_le (h0.2 x e.1 (by omega)) hb.size) (by omega)
      have T1 : Hid (∀ W, Below w.heap.size w W → Calls Try.prog 14 #[.slice a1 len1 cap1] W fun e w' => ∃ u, e = .returned u ∧ Row w' W.heap.size 29 u (flts z1) ∧ W.grownBy w' none) := fun W hb =>
        toFloat64_any (h1.below hb) (fun x L cap e hL => by
          simp only [Value.slice.injEq] at e
          exact Nat.lt_of_lt_of_le (h1.2 x e.1 (by omega)) hb.size) (by omega)
      have Q0 := Lib.hid q0
      have Q1 := Lib.hid q1
      have HS := Lib.hid (fun v u W hv hu => apart_spec z0 z1 q0 q1 v u W hv hu)
      have HI := Lib.hid (fun v u W hv hu => apart_impl z0 z1 q0 q1 v u W hv hu)
      clear h0 h1 e0 e1 q0 q1
      go_enter Try.func8, Try.ntmps8
      go_wp2_with fail
      refine (T0.out w (Below.refl _ _)).mono ?_
      rintro e w2 ⟨p0, rfl, hp0, hg1⟩
      have HB2 := Lib.hid (show Below w.heap.size w w2 from (Below.refl _ _).grown hg1 (Nat.le_refl _) (by simp))
      have HP0 := Lib.hid hp0.reads
      clear hg1 hp0
      go_wp2_with fail
      refine (T1.out w2 HB2.out).mono ?_
      rintro e w3 ⟨p1, rfl, hp1, hg1⟩
      have b3 : Below w2.heap.size w2 w3 := (Below.refl _ _).grown hg1 (Nat.le_refl _) (by simp)
      have HB3 := Lib.hid (HB2.out.trans (b3.mono HB2.out.size))
      have HP0' := Lib.hid (HP0.out.below b3)
      have HP1 := Lib.hid hp1.reads
      clear hg1 hp1 b3 HB2 HP0
      go_wp2_with fail
      refine (HS.out p0 p1 w3 HP0'.out HP1.out).mono ?_
      rintro e w4 ⟨r0, rfl, hr0, hb4⟩
      have HB4 := Lib.hid (HB3.out.trans (hb4.mono HB3.out.size))
      have HR0 := Lib.hid hr0
      clear hb4 hr0 HB3 HP0' HP1 HS
      go_wp2_with fail
      refine (T0.out w4 HB4.out).mono ?_
      rintro e w5 ⟨y0, rfl, hy0, hg5⟩
      have b5 : Below w4.heap.size w4 w5 := (Below.refl _ _).grown hg5 (Nat.le_refl _) (by simp)
      have HB5 := Lib.hid (HB4.out.trans (b5.mono HB4.out.size))
      have HY0 := Lib.hid hy0
      clear hg5 hy0 b5 HB4
      go_wp2_with fail
      refine (T1.out w5 HB5.out).mono ?_
      rintro e w6 ⟨y1, rfl, hy1, hg6⟩
      have b6 : Below w5.heap.size w5 w6 := (Below.refl _ _).grown hg6 (Nat.le_refl _) (by simp)
      have HB6 := Lib.hid (HB5.out.trans (b6.mono HB5.out.size))
      have HY06 := Lib.hid (HY0.out.below b6 (fun k e => (HY0.out.lt k e).2))
      have HY1 := Lib.hid hy1
      clear hg6 hy1 b6 HB5 HY0
      go_wp2_with fail
      refine (HI.out y0 y1 w6 HY06.out.reads HY1.out.reads).mono ?_
      rintro e w7 ⟨r1, rfl, hr1, hb7⟩
      have HB7 := Lib.hid (HB6.out.trans (hb7.mono HB6.out.size))
      have HY07 := Lib.hid (HY06.out.below hb7 (fun k e => (HY06.out.lt k e).2))
      have HY17 := Lib.hid (HY1.out.below hb7 (fun k e => (HY1.out.lt k e).2))
      have HE : Hid (cn .f64 r1 = cn .f64 r0) := hr1.cn.trans HR0.out.cn.symm
      have HL1 : Hid (r1 < 18446744073709551616) := hr1.lt
      clear hb7 hr1 HR0 HY06 HY1 HB6 HI
      go_wp2_with fail
      refine (sameFloat_any r1 r0 HE.out HL1.out _).mono ?_
      rintro e w' ⟨rfl, rfl⟩
      go_wp2_with fail
      refine (T0.out w' HB7.out).mono ?_
      rintro e w8 ⟨p2, rfl, hp2, hg8⟩
      have b8 : Below w'.heap.size w' w8 := (Below.refl _ _).grown hg8 (Nat.le_refl _) (by simp)
      have HB8 := Lib.hid (HB7.out.trans (b8.mono HB7.out.size))
      have HY08 := Lib.hid (HY07.out.below b8 (fun k e => (HY07.out.lt k e).2))
      have HY18 := Lib.hid (HY17.out.below b8 (fun k e => (HY17.out.lt k e).2))
      have HP2 := Lib.hid (ReadsF.of_row hp2 Q0.out)
      clear b8 hg8 hp2 HB7 HY07 HY17
      go_wp2_with fail
      refine (eqFloat64_any (ReadsF.of_row HY08.out Q0.out) HP2.out rfl (fun j hj => rfl)).mono ?_
      rintro e w9 ⟨rfl, n3, rfl⟩
      have HB9 := Lib.hid (below_draws HB8.out n3)
      have HY19 := Lib.hid (HY18.out.drewN n3)
      clear HB8 HY08 HY18 HP2
      generalize w8.drewN n3 = w9 at *
      go_wp2_with fail
      refine (T1.out w9 HB9.out).mono ?_
      rintro e w10 ⟨p3, rfl, hp3, hg8⟩
      have b8 : Below w9.heap.size w9 w10 := (Below.refl _ _).grown hg8 (Nat.le_refl _) (by simp)
      have HB10 := Lib.hid (HB9.out.trans (b8.mono HB9.out.size))
      have HY110 := Lib.hid (HY19.out.below b8 (fun k e => (HY19.out.lt k e).2))
      have HP3 := Lib.hid (ReadsF.of_row hp3 Q1.out)
      clear b8 hg8 hp3 HB9 HY19
      go_wp2_with fail
      refine (eqFloat64_any (ReadsF.of_row HY110.out Q1.out) HP3.out rfl (fun j hj => rfl)).mono ?_
      rintro e w' ⟨rfl, n4, rfl⟩
      go_wp2
      go_ret
      exact ⟨rfl, below_draws HB10.out n4⟩
    · have hg : 1048576 < len1 := by omega
      clear hl1 h0 h1 q0 q1 e0 e1
      go_enter Try.func8, Try.ntmps8
      go_wp2
      go_ret
      exact ⟨rfl, Below.refl _ _⟩
  · have hg : 1048576 < len0 := by omega
    clear hl0 h0 h1 q0 q1 e0 e1
    go_enter Try.func8, Try.ntmps8
    go_wp2
    go_ret
    exact ⟨rfl, Below.refl _ _⟩

end Go.Proofs.Ytpobbicbfnglaaa
