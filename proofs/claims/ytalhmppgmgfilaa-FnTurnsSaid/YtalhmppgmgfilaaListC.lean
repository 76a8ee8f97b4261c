import Derived.Test.YtalhmppgmgfilaaC128
/-
  listOf over wide complex numbers, whatever makes them.
-/
set_option linter.unusedVariables false
set_option linter.unusedSimpArgs false
namespace Go.Proofs.Ytalhmppgmgfilaa
open Go.RowKit Flt Turn

set_option maxRecDepth 100000 in
set_option maxHeartbeats 4000000 in
theorem listOf_c128 (fn : Nat) (capt : Array Value) (n : Nat) (hn : n ≤ 1000000) (z : Nat → Option Nat × Option Nat) (I : Nat → World → Prop) (row : Option Nat) (w : World)
    (hfn : ∀ (args : Array Value) (w : World), (callFunc fn args).run Try.prog w = .ok (.enter fn args) w) (hrow : ∀ k, row = some k → k < w.heap.size) (hI0 : ∀ w', w.grownBy w' none → I 0 w')
    (hIs : ∀ i w1 w2, w.heap.size < w1.heap.size → I i w1 → w1.grownBy w2 (some w.heap.size) → I i w2)
    (hcall : ∀ i w1, i < n → w.heap.size < w1.heap.size → I i w1 → Calls Try.prog fn (#[.int .i64 (i : Int)] ++ capt) w1 fun e w2 => ∃ p : C, e = .returned (cval p) ∧ IsC p (z i) ∧ I (i + 1) w2 ∧ w1.grownBy w2 row) :
    Calls Try.prog 40 #[.int .i64 n, .func (.func fn) #[] capt] w fun e w' =>
      ∃ v xs, e = .returned v ∧ Row w' w.heap.size 24 v (cvals xs) ∧ xs.length = n ∧ (∀ i, i < n → IsC (xs.getD i (0, 0)) (z i)) ∧ I n w' ∧ w.grownBy w' row := by
  obtain ⟨i0, hi, hz0, hz1, hz2⟩ := info_parts info_c128
  have HC := Lib.hid hcall
  have HS := Lib.hid hIs
  have HI := Lib.hid hI0
  have HR := Lib.hid hrow
  clear hcall hIs hI0 hrow
  go_enter Try.func40, Try.ntmps40
  go_wp2_with (at_make; refine wpList_make_full _ rfl _ _ 31 rfl w.heap.size 24 i0 (.complex .f64 0 0) 1 Try.underlying31 hi hz0 hz1 .i64 .i64 _ _ n rfl rfl rfl rfl (by rw [hz2]; omega) (by simp only [maxLen]; omega) (Nat.le_refl _) ?_)
  intro w1 hown hg1
  rw [toList_madeCells_one] at hown
  have HO : Hid (Row w1 w.heap.size 24 (.slice (some ⟨w.heap.size, 0, none⟩) n n) (List.replicate n (.complex .f64 0 0))) := by
    show w1.ownsRow _ _ _ _ _ _
    simpa using hown
  have HG := Lib.hid hg1
  clear hown hg1 hi hz0 hz1 hz2
  go_wp2
  go_loopw [10] (fun i wr => ∃ (k : Nat) (xs : List C), i = .int .i64 k ∧ k ≤ n ∧ xs.length = k ∧ Row wr w.heap.size 24 (.slice (some ⟨w.heap.size, 0, none⟩) n n) (cvals xs ++ List.replicate (n - k) (.complex .f64 0 0)) ∧ (∀ j, j < k → IsC (xs.getD j (0, 0)) (z j)) ∧ I k wr ∧ w.grownBy wr row ∧ w.heap.size < wr.heap.size) (fun i _ => n - (intOf i).toNat)
  case atStart => exact ⟨0, [], rfl, Nat.zero_le _, rfl, HO.out, fun j hj => by omega, HI.out _ HG.out, grown_up HG.out _, (HO.out.lt _ rfl).2⟩
  case round =>
    obtain ⟨k, xs, rfl, hk, hx, hrw, hgd, hI, hg, hsz⟩ := hrel
    have HX := Lib.hid hx
    have HRW := Lib.hid hrw
    have HGD := Lib.hid hgd
    have HIk := Lib.hid hI
    have HGk := Lib.hid hg
    clear hx hrw hgd hI hg
    by_cases hlt : k < n
    · go_wp2_with fail
      refine (HC.out k wr hlt hsz HIk.out).mono ?_
      rintro e w2 ⟨⟨a, b⟩, rfl, hp, hI2, hg2⟩
      have hr2 := HRW.out.kept hg2 (.inr (fun e => by have := HR.out _ e.symm; simp at this))
      have hS := hr2.set k (cval (a, b))
      rw [fill_step hlt HX.out] at hS
      have hF := fill_good HX.out HGD.out hp
      have c1 := hr2.cellAt hlt
      have f1 := hr2.frozenAt k
      have hsz2 : w.heap.size < w2.heap.size := Nat.lt_of_lt_of_le hsz hg2.size
      have hI3 := HS.out _ _ _ hsz2 hI2 hS.2
      have hg3 := grown_new (HGk.out.trans hg2) hS.2 (Nat.le_refl _)
      have hsz3 : w.heap.size < (w2.setCell ⟨w.heap.size, k, none⟩ (cval (a, b))).heap.size := Nat.lt_of_lt_of_le hsz2 hS.2.size
      simp only [cval] at hS hI3 hg3 hsz3 ⊢
      obtain ⟨u, hu⟩ : ∃ u, (cvals xs ++ List.replicate (n - k) (Value.complex .f64 0 0)).getD k undef = u := ⟨_, rfl⟩
      rw [hu] at c1
      have HS2 := Lib.hid hS
      have HF := Lib.hid hF
      have HI3 := Lib.hid hI3
      have HG3 := Lib.hid hg3
      have HZ3 := Lib.hid hsz3
      clear hu hr2 hS hF hp hI2 hg2 hI3 hg3 hsz3
      go_wp2
      go_roundw
      case rel => exact ⟨k + 1, xs ++ [(a, b)], by go_num, by omega, HF.out.1, HS2.out.1, HF.out.2, HI3.out, HG3.out, HZ3.out⟩
      case measure => simp [intOf]; omega
    · have e : k = n := by omega
      subst e
      go_wp2
      go_ret
      refine ⟨_, xs, rfl, ?_, HX.out, HGD.out, HIk.out, HGk.out⟩
      have := HRW.out
      rwa [Nat.sub_self, List.replicate_zero, List.append_nil] at this

end Go.Proofs.Ytalhmppgmgfilaa
