import Derived.Test.YtcoieclecmefiaaAddO
/-
  OverlapAdd of the program, where the blocks have one size.
-/
set_option linter.unusedVariables false
set_option linter.unusedSimpArgs false
namespace Go.Proofs.Ytcoieclecmefiaa
open Go.RowKit Flt Fast

section
variable {V : Value} {vs : List Value} {w : World} {bs : Nat → List C} {q : Nat → Nat → Z} {n : Nat}

set_option maxRecDepth 100000 in
set_option maxHeartbeats 4000000 in
theorem checkBlocks_any (h : Blks w V vs bs q n) (s p : Nat) (hs : vs.length ≠ 0 → s = n) (hs2 : s ≤ 256) (hn : n ≤ 256) (hp : 1 ≤ p ∧ p ≤ s) (hvs : vs.length ≤ 64) (ht : ((vs.length : Int) - 1) * p + s ≤ 256) :
    Calls Try.prog 85 #[V, .agg #[.int .i64 s, .int .i64 p]] w fun e w' => e = .returned (.int .i64 0) ∧ Below w.heap.size w w' := by
  have hb0 : Below w.heap.size w (w.alloc (.cells #[.int .i64 s, .int .i64 p] 90)) := (Below.refl _ _).alloc (Nat.le_refl _) _
  have hB := h.below hb0
  have K1 := Lib.hid (contains_none hB hvs 108 #[] enter_cb1 (fun _ a cap => cb1_any a n cap hn _))
  have hc0 : (w.alloc (.cells #[.int .i64 s, .int .i64 p] 90)).cell? ⟨w.heap.size, 0, none⟩ = some (.int .i64 s) := by go_simp
  have hc1 : (w.alloc (.cells #[.int .i64 s, .int .i64 p] 90)).cell? ⟨w.heap.size, 1, none⟩ = some (.int .i64 p) := by go_simp
  have R : ∀ w, Calls Try.prog 79 #[.agg #[.int .i64 s, .int .i64 p]] w fun e w' => e = .returned (.bool true) ∧ Below w.heap.size w w' := fun w => by
    have := right_impl s p w
    rwa [show rightB s p = true from decide_eq_true ⟨by omega, by omega⟩] at this
  have R := Lib.hid R
  have K2 := Lib.hid (fun (w2 : World) (hb : Below w.heap.size w w2) (hc : w2.cell? ⟨w.heap.size, 0, none⟩ = some (.int .i64 s)) => contains_none (h.below hb) hvs 109 #[.pointer (some ⟨w.heap.size, 0, none⟩)] enter_cb2 (fun h0 a cap => by
    have hsn := hs h0
    subst hsn
    exact cb2_any a s cap w.heap.size hn w2 hc))
  have T := fun w => tooLong_any vs.length s p hvs hs2 (by omega) w
  rw [decide_eq_false (show ¬ 256 < ((vs.length : Int) - 1) * p + s by omega)] at T
  have T := Lib.hid T
  have HB0 := Lib.hid hb0
  obtain ⟨a, cap, rfl, hcap, -⟩ := h.find
  obtain ⟨c, hc⟩ : ∃ c, vs.length = c := ⟨_, rfl⟩
  rw [hc] at hvs hcap K1 K2 T ⊢
  clear h hB hs ht hp hb0 hc hs2 hn
  go_enter Try.func85, Try.ntmps85
  go_wp2_with fail
  with_reducible refine K1.out.mono ?_
  rintro e w' ⟨rfl, rfl⟩
  go_wp2_with fail
  with_reducible refine (R.out _).mono ?_
  rintro e w2 ⟨rfl, hb2⟩
  have d0 : w2.cell? ⟨w.heap.size, 0, none⟩ = some (.int .i64 s) := by rw [hb2.cell (by simp)]; exact hc0
  have d1 : w2.cell? ⟨w.heap.size, 1, none⟩ = some (.int .i64 p) := by rw [hb2.cell (by simp)]; exact hc1
  have HB2 := Lib.hid (below_step HB0.out hb2 HB0.out.size)
  clear hb2 hc0 hc1
  go_wp2_with fail
  with_reducible refine (K2.out _ HB2.out d0).mono ?_
  rintro e w' ⟨rfl, rfl⟩
  go_wp2_with fail
  with_reducible refine (T.out _).mono ?_
  rintro e w3 ⟨rfl, hb3⟩
  have HB3 := Lib.hid (below_step HB2.out hb3 HB2.out.size)
  clear hb3
  go_wp2
  go_ret
  exact ⟨rfl, HB3.out⟩

set_option maxRecDepth 100000 in
set_option maxHeartbeats 4000000 in
theorem ovl_impl (h : Blks w V vs bs q n) (p : Nat) (hp : 1 ≤ p ∧ p ≤ n) (hn : n ≤ 256) (hvs : vs.length ≤ 64) (ht : vs.length ≠ 0 → ((vs.length : Int) - 1) * p + n ≤ 256) :
    Calls Try.prog 39 #[V, .int .i64 p] w fun e w' => ∃ u fs, e = .returned (.tuple #[u, .int .i64 0]) ∧ Row w' w.heap.size 26 u (cvals fs) ∧ FitsC fs (ovlL q n p vs.length) ∧ Below w.heap.size w w' := by
  have A := Lib.hid (fun (w1 : World) (hb : Below w.heap.size w w1) => sumsAt_c128 (h.row.below hb) bs q (fun _ => n) p (fun b hb' => ⟨((h.each b hb').1).below hb, (h.each b hb').2.1, (h.each b hb').2.2⟩) (fun _ => hn) hvs (by omega))
  have E : ovlL q n p vs.length = addAll addZ z0 q (fun _ => n) p vs.length := rfl
  rw [E]
  by_cases h0 : vs.length = 0
  · have J := Lib.hid (checkBlocks_any h 256 p (fun k => absurd h0 k) (Nat.le_refl _) hn (by omega) hvs (by rw [h0]; simp; omega))
    obtain ⟨a, cap, rfl, hcap, -⟩ := h.find
    rw [h0] at A J ⊢
    clear h h0 hcap ht E
    go_enter Try.func39, Try.ntmps39
    go_wp2_with fail
    refine J.out.mono ?_
    rintro e w1 ⟨rfl, hb1⟩
    have HB1 := Lib.hid hb1
    clear hb1
    go_wp2_with fail
    refine (A.out _ HB1.out).mono ?_
    rintro e w2 ⟨u, fs, rfl, hS⟩
    have HS : Hid (Row w2 w.heap.size 26 u (cvals fs) ∧ FitsC fs (addAll addZ z0 q (fun _ => n) p 0) ∧ Below w.heap.size w w2) := ⟨hS.row.base HB1.out.size, hS.fits, below_step HB1.out hS.below HB1.out.size⟩
    clear hS
    go_wp2
    go_ret2
    exact ⟨u, fs, rfl, HS.out⟩
  · have J := Lib.hid (checkBlocks_any h n p (fun _ => rfl) hn hn hp hvs (ht h0))
    obtain ⟨a, cap, rfl, hcap, hrd⟩ := h.find
    obtain ⟨g, ab, cb, rfl, hg, hcb, hnI, -⟩ := hrd 0 (by omega)
    obtain ⟨c, hc⟩ : ∃ c, vs.length = c := ⟨_, rfl⟩
    rw [hc] at A J hcap hvs h0 ⊢
    have hc0 : 0 < c := by omega
    clear h ht hrd hg hc E
    go_enter Try.func39, Try.ntmps39
    go_wp2_with fail
    with_reducible refine J.out.mono ?_
    rintro e w1 ⟨rfl, hb1⟩
    have HB1 := Lib.hid hb1
    clear hb1
    go_wp2_with fail
    with_reducible refine (A.out _ HB1.out).mono ?_
    rintro e w2 ⟨u, fs, rfl, hS⟩
    have HS : Hid (Row w2 w.heap.size 26 u (cvals fs) ∧ FitsC fs (addAll addZ z0 q (fun _ => n) p c) ∧ Below w.heap.size w w2) := ⟨hS.row.base HB1.out.size, hS.fits, below_step HB1.out hS.below HB1.out.size⟩
    clear hS
    go_wp2
    go_ret2
    exact ⟨u, fs, rfl, HS.out⟩

end

end Go.Proofs.Ytcoieclecmefiaa
