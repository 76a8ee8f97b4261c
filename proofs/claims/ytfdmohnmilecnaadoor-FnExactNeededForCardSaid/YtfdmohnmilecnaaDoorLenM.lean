import Derived.Test.YtfdmohnmilecnaaDoorLen
/-
  LengthAfter of the model.
-/
set_option linter.unusedVariables false
set_option linter.unusedSimpArgs false
namespace Go.Proofs.YtfdmohnmilecnaaDoor
open Go.RowKit

theorem lenM_any (s : St) (hs : StB s) (x : Int) (hx : 0 ≤ x ∧ x ≤ 1000000) (a : Option Addr) (L c g o : Nat) (w : World) (h : StepAt w g o s.kind s.n s.k a L c) :
    Calls Tryd.prog 81 #[.pointer (some ⟨g, o, none⟩), .int .i64 x] w fun e w' => e = .returned (.int .i64 (lenSt s x)) ∧ ∃ m, w' = w.drewN m := by
  obtain ⟨kd, n, k, taps⟩ := s
  obtain ⟨k1, k2, hn⟩ := hs
  simp only at k1 k2 hn h
  rcases kind_cases ⟨k1, k2⟩ with rfl | rfl | rfl | rfl | rfl | rfl | rfl | rfl | rfl | rfl | rfl | rfl | rfl
  · exact lenM_1 n k x a L c g o w h
  · exact lenM_2 n k x a L c g o w h
  · exact lenM_3 n k x a L c g o w h
  · exact lenM_4 n k x a L c g o w h
  · exact lenM_5 n k x a L c g o w (hn (by decide)) hx h
  · exact lenM_6 n k x a L c g o w (hn (by decide)) hx h
  · exact lenM_7 n k x a L c g o w (hn (by decide)) hx h
  · exact lenM_8 n k x a L c g o w (hn (by decide)) hx h
  · exact lenM_9 n k x a L c g o w (hn (by decide)) hx h
  · exact lenM_10 n k x a L c g o w h
  · exact lenM_11 n k x a L c g o w h
  · exact lenM_12 n k x a L c g o w h
  · exact lenM_13 n k x a L c g o w h

/-- The code of a plan and a number. -/
def cntCode (ss : List St) (n : Int) : Int := if validPl ss then (if inZ n 0 1000000 then 0 else 2) else 1

theorem counted_any {w : World} {B b : Nat} {V : Value} {ss : List St} {tv : Nat → Value} (h : StepsO w B V ss.length ss.length ss tv) (hp : w.cell? ⟨b, 0, none⟩ = some V) (n : Int) :
    Calls Tryd.prog 80 #[.pointer (some ⟨b, 0, none⟩), .int .i64 n] w fun e w' => e = .returned (.int .i64 (cntCode ss n)) ∧ Below w.heap.size w w' := by
  have C := Lib.hid (l07Ok_any h hp)
  have I := Lib.hid (fun w => in_any n 0 1000000 w)
  unfold cntCode
  obtain ⟨A, hA⟩ : ∃ A, validPl ss = A := ⟨_, rfl⟩
  obtain ⟨D, hD⟩ : ∃ A, inZ n 0 1000000 = A := ⟨_, rfl⟩
  rw [hA] at C ⊢
  rw [hD] at I ⊢
  clear h hp hA hD
  go_enter Tryd.func80, Tryd.ntmps80
  go_wp2_with fail
  refine C.out.mono ?_
  rintro e w1 ⟨rfl, hb⟩
  have HB := Lib.hid hb
  clear hb
  cases A
  · go_wp2
    go_ret
    exact ⟨rfl, HB.out⟩
  · go_wp2_with fail
    refine (I.out _).mono ?_
    rintro e w2 ⟨rfl, rfl⟩
    cases D
    · go_wp2
      go_ret
      exact ⟨rfl, HB.out⟩
    · go_wp2
      go_ret
      exact ⟨rfl, HB.out⟩

/-- What LengthAfter returns. -/
def lenR (ss : List St) (n : Int) : Int × Int := if cntCode ss n = 0 then lenGo ss n else (0, cntCode ss n)

theorem cntCode_zero {ss : List St} {n : Int} (h : cntCode ss n = 0) : validPl ss = true ∧ 0 ≤ n ∧ n ≤ 1000000 := by
  unfold cntCode at h
  split at h
  · rename_i hv
    split at h
    · rename_i hi
      exact ⟨hv, inZ_iff.1 hi⟩
    · cases h
  · cases h
theorem validPl_st {ss : List St} (h : validPl ss = true) : ∀ j, j < ss.length → StB (ss.getD j default) := fun j hj => by
  simp only [validPl, Bool.and_eq_true, decide_eq_true_eq] at h
  rw [List.getD_eq_getElem?_getD, List.getElem?_eq_getElem hj]
  exact validSt_b (List.all_eq_true.1 h.2 _ (List.getElem_mem _))
theorem validPl_len {ss : List St} (h : validPl ss = true) : ss.length ≤ 8 := by
  simp only [validPl, Bool.and_eq_true, decide_eq_true_eq] at h
  exact h.1

set_option maxRecDepth 100000 in
set_option maxHeartbeats 4000000 in
theorem lengthAfter_spec {w : World} {B : Nat} {V : Value} {ss : List St} {tv : Nat → Value} (h : StepsO w B V ss.length ss.length ss tv) (n : Int) :
    Calls Tryd.prog 40 #[.agg #[V], .int .i64 n] w fun e w' => e = .returned (.tuple #[.int .i64 (lenR ss n).1, .int .i64 (lenR ss n).2]) ∧ Below w.heap.size w w' := by
  have hA0 := fun j (hj : j < ss.length) => h.at hj (Nat.le_refl _)
  obtain ⟨a, cap, rfl⟩ := h.form
  have hb0 : Below w.heap.size w (w.alloc (.cells #[.slice a ss.length cap] 43)) := (Below.refl _ _).alloc (Nat.le_refl _) _
  obtain ⟨W, hW⟩ : ∃ W, W = w.alloc (.cells #[.slice a ss.length cap] 43) := ⟨_, rfl⟩
  have hlt : w.heap.size < W.heap.size := by rw [hW]; simp
  have p0 : W.cell? ⟨w.heap.size, 0, none⟩ = some (.slice a ss.length cap) := by rw [hW]; go_simp
  rw [← hW] at hb0
  have h1 := h.below hb0 (Nat.le_refl _)
  have HA := Lib.hid (fun j (hj : j < ss.length) => h1.at hj (Nat.le_refl _))
  have C := counted_any h1 p0 n
  have HW := Lib.hid hW.symm
  have HB0 := Lib.hid hb0
  have HSB := Lib.hid (fun (hv : cntCode ss n = 0) => validPl_st (cntCode_zero hv).1)
  have HN := Lib.hid (fun (hv : cntCode ss n = 0) => (cntCode_zero hv).2)
  have HL8 := Lib.hid (fun (hv : cntCode ss n = 0) => validPl_len (cntCode_zero hv).1)
  obtain ⟨R, hR⟩ : ∃ R, lenR ss n = R := ⟨_, rfl⟩
  rw [hR]
  unfold lenR at hR
  obtain ⟨D, hD⟩ : ∃ D, cntCode ss n = D := ⟨_, rfl⟩
  rw [hD] at C HSB HN HL8 hR
  have C := Lib.hid C
  have HR0 := Lib.hid hR
  clear h hA0 hb0 hW h1 hD hR
  go_enter Tryd.func40, Tryd.ntmps40
  go_wp2_with fail
  rw [HW.out]
  with_reducible refine C.out.mono ?_
  rintro e w1 ⟨rfl, hb1⟩
  have p1 : w1.cell? ⟨w.heap.size, 0, none⟩ = some (.slice a ss.length cap) := (hb1.cell hlt).trans p0
  have HB1 := Lib.hid hb1
  clear hb1 C HW
  by_cases hD0 : D = 0
  · subst hD0
    have hR : lenGo ss n = R := HR0.out
    have HSB' := Lib.hid (HSB.out rfl)
    obtain ⟨n0, n1⟩ := HN.out rfl
    have hL8 := HL8.out rfl
    have HR : Hid (lenGo (ss.drop 0) n = R) := hR
    clear HR0
    have HDR := Lib.hid (fun k (hk : k < ss.length) => drop_getD hk)
    have HEND : Hid (ss.drop ss.length = []) := List.drop_length
    obtain ⟨L, hL⟩ : ∃ L, ss.length = L := ⟨_, rfl⟩
    rw [hL] at HA p0 p1 HSB' hL8 HDR HEND
    clear hR HSB HN HL8 hL p0
    go_wp2
    go_loopw [1, 7] (fun y i wr => ∃ (k : Nat) (x : Int), i = .int .i64 k ∧ y = .int .i64 x ∧ k ≤ L ∧ (0 ≤ x ∧ x ≤ 1000000) ∧ lenGo (ss.drop k) x = R ∧ Below W.heap.size W wr) (fun _ i _ => L - (intOf i).toNat)
    case atStart => exact ⟨0, n, rfl, rfl, Nat.zero_le _, ⟨n0, n1⟩, HR.out, HB1.out⟩
    case round =>
      clear HR
      obtain ⟨k, x, rfl, rfl, hk, hx, hg, hB⟩ := hrel
      have HB := Lib.hid hB
      have HG := Lib.hid hg
      have HX := Lib.hid hx
      have p2 : wr.cell? ⟨w.heap.size, 0, none⟩ = some (.slice a L cap) := (hB.cell hlt).trans (by have := HB1.out.cell (p := ⟨w.heap.size, 0, none⟩) hlt; rw [← this]; exact p1)
      clear hB hg hx n0 n1 p1
      by_cases hlt' : k < L
      · obtain ⟨g, cp, ta, tc, e, -, -, hgw, -, c0, c1, c2, c3, -⟩ := HA.out k hlt'
        simp only [Value.slice.injEq] at e
        obtain ⟨rfl, -, rfl⟩ := e
        have hsb := HSB'.out k hlt'
        have hdr := HDR.out k hlt'
        obtain ⟨S, hS⟩ : ∃ S, ss.getD k default = S := ⟨_, rfl⟩
        rw [hS] at c0 c1 c2 c3 hsb hdr
        have LM := Lib.hid (lenM_any S hsb x HX.out ta _ tc g (k * 4) wr (StepAt.below ⟨c0, c1, c2, c3⟩ HB.out))
        obtain ⟨y0, y1⟩ := lenSt_bounds hsb HX.out.1 HX.out.2
        have hgo := HG.out
        rw [hdr] at hgo
        simp only [lenGo] at hgo
        obtain ⟨y, hy⟩ : ∃ y, lenSt S x = y := ⟨_, rfl⟩
        rw [hy] at LM y0 y1 hgo
        have HGO := Lib.hid hgo
        clear hS hsb hdr c0 c1 c2 c3 hgo hy HG
        go_wp2_with fail
        refine LM.out.mono ?_
        rintro e w2 ⟨rfl, m, rfl⟩
        by_cases hbig : 1000000 < y
        · have e : R = (0, 3) := by have := HGO.out; rw [if_pos hbig] at this; exact this.symm
          subst e
          have gb : decide (1000000 < y) = true := decide_eq_true hbig
          go_wp2
          go_ret2
          exact ⟨rfl, below_step' HB0.out (below_draws HB.out _) HB0.out.size⟩
        · have e : lenGo (ss.drop (k + 1)) y = R := by have := HGO.out; rwa [if_neg hbig] at this
          have HE := Lib.hid e
          have gb : decide (1000000 < y) = false := decide_eq_false hbig
          clear e HGO
          go_wp2
          go_roundw
          case rel => exact ⟨k + 1, y, by go_num, rfl, by omega, ⟨y0, by omega⟩, HE.out, below_draws HB.out _⟩
          case measure => simp [intOf]; omega
      · have e : k = L := by omega
        subst e
        have e : R = (x, 0) := by rw [← HG.out, HEND.out]; rfl
        subst e
        go_wp2
        go_ret2
        exact ⟨rfl, below_step' HB0.out HB.out HB0.out.size⟩
  · have e : R = (0, D) := by rw [← HR0.out, if_neg hD0]
    subst e
    have hDb : (D == 0) = false := by simpa using hD0
    clear HA HSB HN HL8
    go_wp2
    go_ret2
    exact ⟨rfl, below_step' HB0.out HB1.out HB0.out.size⟩

end Go.Proofs.YtfdmohnmilecnaaDoor
