import Derived.Test.YtfdmohnmilecnaaDoorLenP
import Derived.Test.YtfdmohnmilecnaaDoorNed
/-
  NeededFor of the model.
-/
set_option linter.unusedVariables false
set_option linter.unusedSimpArgs false
namespace Go.Proofs.YtfdmohnmilecnaaDoor
open Go.RowKit

/-- What NeededFor returns. -/
def ndR (ss : List St) (n : Int) : Int × Int := if cntCode ss n = 0 then ndGo ss ss.length n else (0, cntCode ss n)

theorem lenR_in {ss : List St} {n x : Int} (h : cntCode ss n = 0) (hx : 0 ≤ x ∧ x ≤ 1000000) : lenR ss x = lenGo ss x := by
  have hv := (cntCode_zero h).1
  have : cntCode ss x = 0 := by
    unfold cntCode
    rw [hv, inZ_iff.2 hx]
    rfl
  unfold lenR
  rw [if_pos this]

set_option maxRecDepth 100000 in
set_option maxHeartbeats 8000000 in
theorem neededFor_spec {w : World} {B : Nat} {V : Value} {ss : List St} {tv : Nat → Value} (h : StepsO w B V ss.length ss.length ss tv) (n : Int) :
    Calls Tryd.prog 42 #[.agg #[V], .int .i64 n] w fun e w' => e = .returned (.tuple #[.int .i64 (ndR ss n).1, .int .i64 (ndR ss n).2]) ∧ Below w.heap.size w w' := by
  have hA0 := fun j (hj : j < ss.length) => h.at hj (Nat.le_refl _)
  obtain ⟨a, cap, rfl⟩ := h.form
  have hb0 : Below w.heap.size w (w.alloc (.cells #[.slice a ss.length cap] 43)) := (Below.refl _ _).alloc (Nat.le_refl _) _
  obtain ⟨W, hW⟩ : ∃ W, W = w.alloc (.cells #[.slice a ss.length cap] 43) := ⟨_, rfl⟩
  have hlt : w.heap.size < W.heap.size := by rw [hW]; simp
  have p0 : W.cell? ⟨w.heap.size, 0, none⟩ = some (.slice a ss.length cap) := by rw [hW]; go_simp
  rw [← hW] at hb0
  have h1 := h.below hb0 (Nat.le_refl _)
  have HA := Lib.hid (fun j (hj : j < ss.length) => h1.at hj (Nat.le_refl _))
  have C := counted_any h1 p0 n
  have HW := Lib.hid hW.symm
  have HB0 := Lib.hid hb0
  have HSB := Lib.hid (fun (hv : cntCode ss n = 0) => validPl_st (cntCode_zero hv).1)
  have HN := Lib.hid (fun (hv : cntCode ss n = 0) => (cntCode_zero hv).2)
  have HL8 := Lib.hid (fun (hv : cntCode ss n = 0) => validPl_len (cntCode_zero hv).1)
  have LA := Lib.hid (fun (x : Int) (W2 : World) (hb : Below W.heap.size W W2) (hv : cntCode ss n = 0) (hx : 0 ≤ x ∧ x ≤ 1000000) => by
    have := lengthAfter_spec (h1.below hb (Nat.le_refl _)) x
    rw [lenR_in hv hx] at this
    exact this)
  obtain ⟨R, hR⟩ : ∃ R, ndR ss n = R := ⟨_, rfl⟩
  rw [hR]
  unfold ndR at hR
  obtain ⟨D, hD⟩ : ∃ D, cntCode ss n = D := ⟨_, rfl⟩
  rw [hD] at C HSB HN HL8 LA hR
  have C := Lib.hid C
  have HR0 := Lib.hid hR
  clear h hA0 hb0 hW h1 hD hR
  go_enter Tryd.func42, Tryd.ntmps42
  go_wp2_with fail
  rw [HW.out]
  with_reducible refine C.out.mono ?_
  rintro e w1 ⟨rfl, hb1⟩
  have p1 : w1.cell? ⟨w.heap.size, 0, none⟩ = some (.slice a ss.length cap) := (hb1.cell hlt).trans p0
  have HB1 := Lib.hid hb1
  clear hb1 C HW
  by_cases hD0 : D = 0
  · subst hD0
    have HR : Hid (ndGo ss ss.length n = R) := HR0.out
    have HSB' := Lib.hid (HSB.out rfl)
    have LA' := Lib.hid (fun x W2 hb => LA.out x W2 hb rfl)
    obtain ⟨n0, n1⟩ := HN.out rfl
    have hL8 := HL8.out rfl
    obtain ⟨L, hL⟩ : ∃ L, ss.length = L := ⟨_, rfl⟩
    rw [hL] at HA p0 p1 HSB' hL8 HR LA'
    clear HSB HN HL8 hL p0 HR0 LA
    go_wp2
    go_loopw [1, 7] (fun y i wr => ∃ (j : Int) (k : Nat) (x : Int), i = .int .i64 j ∧ y = .int .i64 x ∧ j = (k : Int) - 1 ∧ k ≤ L ∧ (0 ≤ x ∧ x ≤ 1000000) ∧ ndGo ss k x = R ∧ Below W.heap.size W wr) (fun _ i _ => (intOf i + 1).toNat)
    case atStart => exact ⟨(L : Int) - 1, L, n, by go_num, rfl, rfl, Nat.le_refl _, ⟨n0, n1⟩, HR.out, HB1.out⟩
    case round =>
      clear HR
      obtain ⟨j, k, x, rfl, rfl, hj, hk, hx, hg, hB⟩ := hrel
      have HB := Lib.hid hB
      have HG := Lib.hid hg
      have HX := Lib.hid hx
      have p2 : wr.cell? ⟨w.heap.size, 0, none⟩ = some (.slice a L cap) := (hB.cell hlt).trans (by have := HB1.out.cell (p := ⟨w.heap.size, 0, none⟩) hlt; rw [← this]; exact p1)
      clear hB hg hx n0 n1 p1
      rcases k with _ | m
      · obtain rfl : j = -1 := by omega
        clear hj
        have gn : decide ((0 : Int) ≤ -1) = false := by decide
        have LC := Lib.hid (LA'.out x wr HB.out HX.out)
        have e : ndEnd ss x = R := HG.out
        unfold ndEnd at e
        obtain ⟨r1, h1⟩ : ∃ r, (lenGo ss x).1 = r := ⟨_, rfl⟩
        obtain ⟨r2, h2⟩ : ∃ r, (lenGo ss x).2 = r := ⟨_, rfl⟩
        rw [h1, h2] at LC
        rw [h2] at e
        have HE := Lib.hid e
        clear h1 h2 e LA' HG
        go_wp2_with fail
        refine LC.out.mono ?_
        rintro e w2 ⟨rfl, hb2⟩
        have HB2 := Lib.hid (below_step' HB0.out (below_step' HB.out hb2 HB.out.size) HB0.out.size)
        clear hb2 LC
        by_cases h0 : r2 = 0
        · subst h0
          have e : R = (x, 0) := HE.out.symm
          subst e
          go_wp2
          go_ret2
          exact ⟨rfl, HB2.out⟩
        · have e : R = (0, r2) := by rw [← HE.out, if_neg h0]
          subst e
          have g0 : (r2 == 0) = false := by simpa using h0
          clear HE
          go_wp2
          go_ret2
          exact ⟨rfl, HB2.out⟩
      · obtain rfl : j = (m : Int) := by omega
        clear hj
        have hlt' : m < L := by omega
        obtain ⟨g, cp, ta, tc, e, -, -, hgw, -, c0, c1, c2, c3, -⟩ := HA.out m hlt'
        simp only [Value.slice.injEq] at e
        obtain ⟨rfl, -, rfl⟩ := e
        have hsb := HSB'.out m hlt'
        have hgo := HG.out
        simp only [ndGo] at hgo
        obtain ⟨S, hS⟩ : ∃ S, ss.getD m default = S := ⟨_, rfl⟩
        rw [hS] at c0 c1 c2 c3 hsb hgo
        have LM := Lib.hid (ndM_any S hsb x HX.out ta _ tc g (m * 4) wr (StepAt.below ⟨c0, c1, c2, c3⟩ HB.out))
        obtain ⟨y0, y1⟩ := ndSt_bounds hsb HX.out.1 HX.out.2
        obtain ⟨y, hy⟩ : ∃ y, ndSt S x = y := ⟨_, rfl⟩
        rw [hy] at LM y0 y1 hgo
        have HGO := Lib.hid hgo
        clear hS hsb c0 c1 c2 c3 hgo hy HG LA'
        go_wp2_with fail
        refine LM.out.mono ?_
        rintro e w2 ⟨rfl, q, rfl⟩
        by_cases hbig : 1000000 < y
        · have e : R = (0, 3) := by have := HGO.out; rw [if_pos hbig] at this; exact this.symm
          subst e
          have gb : decide (1000000 < y) = true := decide_eq_true hbig
          go_wp2
          go_ret2
          exact ⟨rfl, below_step' HB0.out (below_draws HB.out _) HB0.out.size⟩
        · have e : ndGo ss m y = R := by have := HGO.out; rwa [if_neg hbig] at this
          have HE := Lib.hid e
          have gb : decide (1000000 < y) = false := decide_eq_false hbig
          clear e HGO
          go_wp2
          go_roundw
          case rel => exact ⟨(m : Int) - 1, m, y, by go_num, rfl, rfl, by omega, ⟨y0, by omega⟩, HE.out, below_draws HB.out _⟩
          case measure => first | (simp [intOf]; done) | (simp [intOf]; omega)
  · have e : R = (0, D) := by rw [← HR0.out, if_neg hD0]
    subst e
    have hDb : (D == 0) = false := by simpa using hD0
    clear HA HSB HN HL8 LA
    go_wp2
    go_ret2
    exact ⟨rfl, below_step' HB0.out HB1.out HB0.out.size⟩

end Go.Proofs.YtfdmohnmilecnaaDoor
