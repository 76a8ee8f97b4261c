import Derived.Test.YtnbmbegjpkebmaaCvS
import Derived.Test.YtnbmbegjpkebmaaAppW
/-
  Convolve of the program.
-/
set_option linter.unusedVariables false
set_option linter.unusedSimpArgs false
namespace Go.Proofs.Ytnbmbegjpkebmaa
open Go.RowKit Flt Fast

theorem run_max_word3 {P : Program} {w : World} (ts : Array TypeId) (t : TypeId) (k k' k'' : IntKind) (x y z : Int) : (Builtin.max_ ts t #[.int k x, .int k' y, .int k'' z]).run P w = .ok (.int k (maxI (maxI x y) z)) w := by
  simp [Builtin.max_, Builtin.max2, maxI]
attribute [local go_sem ↓] run_max_word run_max_word3
theorem maxI_le {x y z : Int} (hx : x ≤ z) (hy : y ≤ z) : maxI x y ≤ z := by unfold maxI; split <;> omega

set_option maxRecDepth 100000 in
set_option maxHeartbeats 4000000 in
theorem cvCheck_any (a1 a2 : Option Addr) (n1 c1 n2 c2 : Nat) (h1 : n1 ≤ 256) (h2 : n2 ≤ 256) (hl : cvLen n1 n2 ≤ 256) (w : World) :
    Calls Try.prog 55 #[.agg #[.slice a1 n1 c1, .slice a2 n2 c2]] w fun e w' => e = .returned (.int .i64 0) ∧ Below w.heap.size w w' := by
  have HLen := Lib.hid (fun w => cvLength_any a1 a2 n1 c1 n2 c2 (by omega) (by omega) w)
  obtain ⟨L, hL⟩ : ∃ L, cvLen n1 n2 = L := ⟨_, rfl⟩
  rw [hL] at HLen hl
  clear hL
  have hm : decide ((256 : Int) < maxI (maxI (n1 : Int) (n2 : Int)) (L : Int)) = false := decide_eq_false (by
    have : maxI (maxI (n1 : Int) (n2 : Int)) (L : Int) ≤ 256 := maxI_le (maxI_le (by omega) (by omega)) (by omega)
    omega)
  obtain ⟨N, hN⟩ : ∃ N, w.heap.size = N := ⟨_, rfl⟩
  have HC : Hid (∀ W, Below (N + 1) (w.alloc (.cells #[.slice a1 n1 c1, .slice a2 n2 c2] 53)) W → W.cell? ⟨N, 0, none⟩ = some (.slice a1 n1 c1) ∧ W.cell? ⟨N, 1, none⟩ = some (.slice a2 n2 c2)) := fun W hW => by
    subst hN
    have hn := World.alloc_heap_new w (.cells #[.slice a1 n1 c1, .slice a2 n2 c2] 53)
    exact ⟨by rw [hW.cell (by simp)]; exact cell_of_heap hn rfl, by rw [hW.cell (by simp)]; exact cell_of_heap hn rfl⟩
  obtain ⟨w1, hw1⟩ : ∃ w1, w.alloc (.cells #[.slice a1 n1 c1, .slice a2 n2 c2] 53) = w1 := ⟨_, rfl⟩
  have hs1 : w1.heap.size = N + 1 := by rw [← hw1, ← hN]; simp
  have HB1 : Hid (Below w.heap.size w w1) := by rw [← hw1]; exact (Below.refl _ _).alloc (Nat.le_refl _) _
  have HW1 := Lib.hid hw1
  rw [hw1] at HC
  have d := HC.out w1.drew (below_draws (Below.refl _ _) 1)
  have d0 := d.1
  have d1 := d.2
  have HS1 := Lib.hid hs1
  have HN := Lib.hid hN
  clear d hw1 hs1
  go_enter Try.func55, Try.ntmps55
  go_wp2_with fail
  rw [HW1.out]
  try rw [HN.out]
  clear hN
  go_region_held3 (fun w' => w'.cell? ⟨N, 0, none⟩ = some (.slice a1 n1 c1) ∧ w'.cell? ⟨N, 1, none⟩ = some (.slice a2 n2 c2))
    (first
      | exact ⟨d0, d1⟩
      | exact HC.out _ HB2.out
      | go_keep)
    (first
      | (go_at_call 36; refine (HLen.out _).mono ?_; rintro e w2 ⟨rfl, hb⟩; have HB2 : Hid (Below (N + 1) w1 w2) := (below_draws (Below.refl _ _) 1).trans (hb.mono (by rw [← HS1.out]; exact Nat.le_refl _)); clear hb))
  all_goals
    go_wp2
    go_ret
    exact ⟨rfl, HB1.out.trans (HB2.out.mono (by rw [HN.out]; omega))⟩

theorem cvPart_all (x h : List Z) : cvPart x h 0 (cvLen x.length h.length) = cvAll x h := by
  unfold cvPart cvAll
  rw [show min (cvLen x.length h.length) (max 0 (cvLen x.length h.length)) - 0 = cvLen x.length h.length by omega]
  simp

set_option maxRecDepth 100000 in
set_option maxHeartbeats 4000000 in
theorem convolved_any (x h : List C) (v1 v2 : Value) (hx : x.length ≤ 256) (hh : h.length ≤ 256) (hl : cvLen x.length h.length ≤ 256) (hwx : WfC x) (hwh : WfC h) (w : World) (hrx : RdO w.heap.size w v1 x) (hrh : RdO w.heap.size w v2 h) :
    Calls Try.prog 37 #[v1, v2] w fun e w' =>
      ∃ v ps, e = .returned (.tuple #[v, .int .i64 0]) ∧ Row w' w.heap.size 32 v (cvals ps) ∧ IsCs ps (cvAll (zsOf x) (zsOf h)) ∧ Below w.heap.size w w' := by
  have hnum : ∀ w1, Below w.heap.size w w1 → Calls Try.prog 35 #[.agg #[v1, v2], .int .i64 0, .int .i64 (cvLen x.length h.length)] w1 fun e w' =>
      ∃ v ps, e = .returned v ∧ Row w' w.heap.size 32 v (cvals ps) ∧ IsCs ps (cvAll (zsOf x) (zsOf h)) ∧ Below w1.heap.size w1 w' := fun w1 hb => by
    refine (numbers_any x h 0 (cvLen x.length h.length) v1 v2 (by omega) (by omega) (Nat.zero_le _) (by omega) hwx hwh w1 ((hrx.below hb).base hb.size) ((hrh.below hb).base hb.size)).mono ?_
    rintro e w' ⟨v, ps, rfl, hr, hf, hB⟩
    refine ⟨v, ps, rfl, hr.base hb.size, ?_, hB⟩
    rw [← cvPart_all, zsOf_length, zsOf_length]; exact hf
  have HNUM := Lib.hid hnum
  obtain ⟨a1, c1, e1, -, -, -⟩ := hrx.find
  obtain ⟨a2, c2, e2, -, -, -⟩ := hrh.find
  subst e1
  subst e2
  clear hrx hrh hnum
  have HCK := Lib.hid (fun w => cvCheck_any a1 a2 x.length c1 h.length c2 hx hh hl w)
  have HLen := Lib.hid (fun w => cvLength_any a1 a2 x.length c1 h.length c2 (by omega) (by omega) w)
  obtain ⟨T, hT⟩ : ∃ T, cvLen x.length h.length = T := ⟨_, rfl⟩
  rw [hT] at HNUM HLen
  clear hT hl
  obtain ⟨L, hL⟩ : ∃ L, x.length = L := ⟨_, rfl⟩
  obtain ⟨M, hM⟩ : ∃ M, h.length = M := ⟨_, rfl⟩
  rw [hL] at hx HNUM HCK HLen ⊢
  rw [hM] at hh HNUM HCK HLen ⊢
  clear hL hM
  have HC : Hid (∀ W, Below (w.heap.size + 1) (w.alloc (.cells #[.slice a1 L c1, .slice a2 M c2] 53)) W → W.cell? ⟨w.heap.size, 0, none⟩ = some (.slice a1 L c1) ∧ W.cell? ⟨w.heap.size, 1, none⟩ = some (.slice a2 M c2)) := fun W hW => by
    have hn := World.alloc_heap_new w (.cells #[.slice a1 L c1, .slice a2 M c2] 53)
    exact ⟨by rw [hW.cell (by simp)]; exact cell_of_heap hn rfl, by rw [hW.cell (by simp)]; exact cell_of_heap hn rfl⟩
  go_enter Try.func37, Try.ntmps37
  go_wp2_with fail
  with_reducible refine (HCK.out _).mono ?_
  rintro e w2 ⟨rfl, hb⟩
  have HB2 : Hid (Below (w.heap.size + 1) (w.alloc (.cells #[.slice a1 L c1, .slice a2 M c2] 53)) w2) := hb.mono (by simp)
  have HW2 : Hid (Below w.heap.size w w2) := ((Below.refl _ _).alloc (Nat.le_refl _) _).trans (HB2.out.mono (by omega))
  have hs2 : w.heap.size + 1 ≤ w2.heap.size := by have := hb.size; simpa using this
  have d := HC.out w2.drew (below_draws HB2.out 1)
  have d0 := d.1
  have d1 := d.2
  clear d hb
  go_wp2_with fail
  go_region_held3 (fun w' => w'.cell? ⟨w.heap.size, 0, none⟩ = some (.slice a1 L c1) ∧ w'.cell? ⟨w.heap.size, 1, none⟩ = some (.slice a2 M c2))
    (first
      | exact ⟨d0, d1⟩
      | exact HC.out _ HB3.out
      | exact HC.out _ HB4.out
      | go_keep)
    (first
      | (go_at_call 36; refine (HLen.out _).mono ?_; rintro e w3 ⟨rfl, hb⟩; have HB3 : Hid (Below (w.heap.size + 1) (w.alloc (.cells #[.slice a1 L c1, .slice a2 M c2] 53)) w3) := (below_draws HB2.out 1).trans (hb.mono hs2); have HW3 : Hid (Below w.heap.size w w3) := (below_draws HW2.out 1).trans (hb.mono (by show w.heap.size ≤ w2.heap.size; omega)); have hs3 : w.heap.size + 1 ≤ w3.heap.size := Nat.le_trans hs2 hb.size; clear hb)
      | (go_at_call 35; refine (HNUM.out _ HW3.out).mono ?_; rintro e w4 ⟨v, ps, rfl, hr, hf, hb⟩; obtain ⟨va, vc, rfl⟩ := hr.written rfl; have HE := Lib.hid (And.intro hr (And.intro hf (below_step HW3.out hb HW3.out.size))); have HB4 : Hid (Below (w.heap.size + 1) (w.alloc (.cells #[.slice a1 L c1, .slice a2 M c2] 53)) w4) := HB3.out.trans (hb.mono hs3); clear hr hf hb))
  all_goals
    go_wp2
    go_ret2
    exact ⟨_, ps, rfl, HE.out.1, HE.out.2.1, HE.out.2.2⟩

theorem convolve_impl (x h : List C) (v1 v2 : Value) (hx : x.length ≤ 256) (hh : h.length ≤ 256) (hl : cvLen x.length h.length ≤ 256) (hwx : WfC x) (hwh : WfC h) (w : World) (hrx : RdO w.heap.size w v1 x) (hrh : RdO w.heap.size w v2 h) :
    Calls Try.prog 17 #[v1, v2] w fun e w' =>
      ∃ v ps, e = .returned (.tuple #[v, .int .i64 0]) ∧ Row w' w.heap.size 32 v (cvals ps) ∧ IsCs ps (cvAll (zsOf x) (zsOf h)) ∧ Below w.heap.size w w' := by
  have K := Lib.hid (convolved_any x h v1 v2 hx hh hl hwx hwh w hrx hrh)
  obtain ⟨a1, c1, e1, -, -, -⟩ := hrx.find
  obtain ⟨a2, c2, e2, -, -, -⟩ := hrh.find
  subst e1
  subst e2
  clear hrx hrh
  go_enter Try.func17, Try.ntmps17
  go_wp2_with fail
  with_reducible refine K.out.mono ?_
  rintro e w1 ⟨v, ps, rfl, hr, hf, hb⟩
  obtain ⟨va, vc, rfl⟩ := hr.written rfl
  have HE := Lib.hid (And.intro hr (And.intro hf hb))
  clear hr hf hb
  go_wp2
  go_ret2
  exact ⟨_, ps, rfl, HE.out.1, HE.out.2.1, HE.out.2.2⟩

end Go.Proofs.Ytnbmbegjpkebmaa
