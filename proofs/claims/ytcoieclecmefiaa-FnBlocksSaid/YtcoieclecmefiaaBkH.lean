import Derived.Test.YtcoieclecmefiaaBkG
/-
  Blocks times a window of ones.
-/
set_option linter.unusedVariables false
set_option linter.unusedSimpArgs false
namespace Go.Proofs.Ytcoieclecmefiaa
open Go.RowKit Flt Fast
attribute [local go_sem] run_fadd run_fsub run_fmul run_fquo run_cadd run_csub

set_option maxRecDepth 100000 in
set_option maxHeartbeats 4000000 in
theorem listOf_cB (fn : Nat) (capt : Array Value) (n : Nat) (hn : n ≤ 1000000) (z : Nat → Z) (w : World)
    (hfn : ∀ (args : Array Value) (w : World), (callFunc fn args).run Try.prog w = .ok (.enter fn args) w)
    (hcall : ∀ i w1, i < n → Below w.heap.size w w1 → Calls Try.prog fn (#[.int .i64 (i : Int)] ++ capt) w1 fun e w2 => ∃ p : C, e = .returned (cval p) ∧ IsC p (z i) ∧ Below w1.heap.size w1 w2) :
    Calls Try.prog 125 #[.int .i64 n, .func (.func fn) #[] capt] w fun e w' =>
      ∃ v y, e = .returned v ∧ Row w' w.heap.size 26 v (cvals y) ∧ y.length = n ∧ (∀ i, i < n → IsC (y.getD i (0, 0)) (z i)) ∧ Below w.heap.size w w' := by
  obtain ⟨i0, hi, hz0, hz1, hz2⟩ := info_parts info_c128
  have HF := Lib.hid hcall
  clear hcall
  go_enter Try.func125, Try.ntmps125
  go_wp2_with (at_make; refine wpList_make_full _ rfl _ _ 24 rfl w.heap.size 26 i0 (.complex .f64 0 0) 1 Try.underlying24 hi hz0 hz1 .i64 .i64 _ _ n rfl rfl rfl rfl (by rw [hz2]; omega) (by simp only [maxLen]; omega) (Nat.le_refl _) ?_)
  intro w1 hown hg1
  rw [toList_madeCells_one] at hown
  have HO : Hid (Row w1 w.heap.size 26 (.slice (some ⟨w.heap.size, 0, none⟩) n n) (List.replicate n (.complex .f64 0 0))) := by
    show w1.ownsRow _ _ _ _ _ _
    simpa using hown
  have HG : Hid (Below w.heap.size w w1) := (Below.refl _ _).grown hg1 (Nat.le_refl _) (fun b e => by cases e)
  clear hown hg1 hi hz0 hz1 hz2
  go_wp2
  go_loopw [10] (fun i wr => ∃ (k : Nat) (xs : List Go.Proofs.Ytcoieclecmefiaa.C), i = .int .i64 k ∧ k ≤ n ∧ xs.length = k ∧ Row wr w.heap.size 26 (.slice (some ⟨w.heap.size, 0, none⟩) n n) (cvals xs ++ List.replicate (n - k) (.complex .f64 0 0)) ∧ (∀ j, j < k → IsC (xs.getD j (0, 0)) (z j)) ∧ Below w.heap.size w wr) (fun i _ => n - (intOf i).toNat)
  case atStart => exact ⟨0, [], rfl, Nat.zero_le _, rfl, HO.out, fun j hj => by omega, HG.out⟩
  case round =>
    clear HO HG
    obtain ⟨k, xs, rfl, hk, hx, hrw, hgd, hg⟩ := hrel
    have HX := Lib.hid hx
    have HRW := Lib.hid hrw
    have HGD := Lib.hid hgd
    have HGk := Lib.hid hg
    clear hx hrw hgd hg
    by_cases hlt : k < n
    · have S := Lib.hid (HF.out k wr hlt HGk.out)
      go_wp2_with fail
      refine S.out.mono ?_
      rintro e w2 ⟨⟨a, b⟩, rfl, hp, hb2⟩
      have hr2 := HRW.out.below hb2 (fun j e => (HRW.out.lt j e).2)
      have hS := hr2.set k (cval (a, b))
      rw [fill_step hlt HX.out] at hS
      have hF := fill_good HX.out HGD.out hp
      have c1 := hr2.cellAt hlt
      have f1 := hr2.frozenAt k
      have hsz := HGk.out.size
      have h2 := below_step HGk.out hb2 hsz
      have hg3 : Below w.heap.size w (w2.setCell ⟨w.heap.size, k, none⟩ (cval (a, b))) := h2.grown hS.2 h2.size (fun b e => by cases e; exact Nat.le_refl _)
      simp only [cval] at hS hg3 ⊢
      obtain ⟨u, hu⟩ : ∃ u, (cvals xs ++ List.replicate (n - k) (Value.complex .f64 0 0)).getD k undef = u := ⟨_, rfl⟩
      rw [hu] at c1
      have HS2 := Lib.hid hS
      have HF2 := Lib.hid hF
      have HG3 := Lib.hid hg3
      clear hu hr2 hS hF hp hb2 hg3 h2 S
      go_wp2
      go_roundw
      case rel => exact ⟨k + 1, xs ++ [(a, b)], by go_num, by omega, HF2.out.1, HS2.out.1, HF2.out.2, HG3.out⟩
      case measure => simp [intOf]; omega
    · have e : k = n := by omega
      subst e
      go_wp2
      go_ret
      refine ⟨_, xs, rfl, ?_, HX.out, HGD.out, HGk.out⟩
      have := HRW.out
      rwa [Nat.sub_self, List.replicate_zero, List.append_nil] at this

theorem enter_tw1 (args : Array Value) (w : World) : (callFunc 126 args).run Try.prog w = .ok (.enter 126 args) w := by kernel_rfl
theorem enter_btw1 (args : Array Value) (w : World) : (callFunc 111 args).run Try.prog w = .ok (.enter 111 args) w := by kernel_rfl

/-- A window of n ones. -/
def ones (n : Nat) : List Nat := List.replicate n 4607182418800017408

set_option maxRecDepth 100000 in
set_option maxHeartbeats 4000000 in
theorem tw1_any (xs : List C) (n i B0 B1 : Nat) (z : Z) (v u : Value) (w : World) (hx : Reads w v (cvals xs)) (hl : xs.length = n) (hi : i < n) (hz : IsC (xs.getD i (0, 0)) z) (hu : Reads w u (flts (ones n))) (c0 : w.cell? ⟨B0, 0, none⟩ = some v) (c1 : w.cell? ⟨B1, 0, none⟩ = some u) :
    Calls Try.prog 126 #[.int .i64 i, .pointer (some ⟨B0, 0, none⟩), .pointer (some ⟨B1, 0, none⟩)] w fun e w2 => ∃ p : C, e = .returned (cval p) ∧ IsC p z ∧ Below w.heap.size w w2 := by
  have hrd := c_reads hx
  have hrf := fl_reads hu
  obtain ⟨a, cap, rfl⟩ := cform hx
  obtain ⟨a', cap', rfl⟩ := fl_form hu
  have ho : (ones n).length = n := List.length_replicate ..
  rw [cvals_length, hl] at c0 hrd
  rw [flts_length, ho] at c1 hrf
  obtain ⟨g, rfl, hg, k0⟩ := hrd _ _ _ rfl i hi
  obtain ⟨g', rfl, hg', k1⟩ := hrf _ _ _ rfl i hi
  have e1 : (ones n).getD i 0 = 4607182418800017408 := by simp [ones, List.getD, List.getElem?_replicate, hi]
  rw [e1] at k1
  obtain ⟨x, y, hxy⟩ : ∃ x y, xs.getD i (0, 0) = (x, y) := ⟨_, _, rfl⟩
  rw [hxy] at k0 hz
  have HZ := Lib.hid hz
  have H1 : IsF 4607182418800017408 (some 4607182418800017408) := IsF.lit (by decide) (by omega)
  have HN : Hid (∀ p q, IsF p (fop .mul .f64 z.1 (some 4607182418800017408)) → IsF q (fop .mul .f64 z.2 (some 4607182418800017408)) → IsC (p, q) z) := fun p q h1 h2 => by
    rw [mul_one HZ.out.1] at h1
    rw [mul_one HZ.out.2] at h2
    exact ⟨h1, h2⟩
  have HO := Lib.hid H1
  have NU := Lib.hid (fun w => numberOf_any x y w)
  have PA := Lib.hid (fun w => parts_any x y w)
  have b0 := World.block_lt_of_cell? _ _ c1
  clear hx hu hrd hrf hxy hz ho hl e1 H1
  have C1 := Lib.hid c1
  have K1 := Lib.hid k1
  go_enter Try.func126, Try.ntmps126
  go_wp2_with fail
  refine (NU.out _).mono ?_
  rintro e w1 ⟨rfl, hb1⟩
  have HB1 := Lib.hid hb1
  clear hb1 c1 k1
  go_wp2_with fail
  refine (PA.out _).mono ?_
  rintro e w2 ⟨rfl, hb2⟩
  have hs1 := HB1.out.size
  have hbb : Below w.heap.size w w2 := by
    first
      | exact below_step HB1.out hb2 hs1
      | exact below_step (HB1.out.alloc hs1 _) hb2 (by simp; omega)
  have d1 : w2.cell? ⟨B1, 0, none⟩ = some (.slice (some ⟨g', 0, none⟩) n cap') := by rw [hbb.cell b0]; exact C1.out
  have l1 : w2.cell? ⟨g', i, none⟩ = some (.float .f64 4607182418800017408) := by rw [hbb.cell hg']; exact K1.out
  have HBB := Lib.hid hbb
  clear hb2 hbb HB1 C1 K1
  go_wp2
  go_ret
  exact ⟨(_, _), rfl, HN.out _ _ (isF_fres HZ.out.1 HO.out _) (isF_fres HZ.out.2 HO.out _), below_draws HBB.out _⟩

end Go.Proofs.Ytcoieclecmefiaa
