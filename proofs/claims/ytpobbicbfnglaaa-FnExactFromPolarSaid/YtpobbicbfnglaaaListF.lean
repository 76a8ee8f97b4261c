import Derived.Test.YtpobbicbfnglaaaSums
import Derived.Test.YtpobbicbfnglaaaThree
/-
  listOf and everyOf over floats; how floats that lie in a row are read.
-/
set_option linter.unusedVariables false
set_option linter.unusedSimpArgs false
namespace Go.Proofs.Ytpobbicbfnglaaa
open Go.RowKit Flt Fast

theorem fl_form {w : World} {v : Value} {cs : List Value} (h : Reads w v cs) : ∃ a cap, v = .slice a cs.length cap := by
  cases h with
  | none a cap => exact ⟨a, cap, rfl⟩
  | row g cap L cs hL => subst hL; exact ⟨_, cap, rfl⟩

theorem fl_reads {w : World} {v : Value} {xs : List Nat} (h : Reads w v (flts xs)) : ∀ a n cap, v = .slice a n cap → ∀ k, k < n → ∃ g, a = some ⟨g, 0, none⟩ ∧ g < w.heap.size ∧ w.cell? ⟨g, k, none⟩ = some (.float .f64 (xs.getD k 0)) := by
  intro a n cap e k hk
  generalize hcs : flts xs = cs at h
  cases h with
  | none a cap => simp only [Value.slice.injEq] at e; omega
  | row g cap L cs hL h0 hc hm hh =>
    simp only [Value.slice.injEq] at e
    obtain ⟨e1, e2, -⟩ := e
    have hl : xs.length = L := by rw [← hL, ← hcs, flts_length]
    have hc := hh k (by omega)
    refine ⟨g, e1.symm, World.block_lt_of_cell? _ _ hc, ?_⟩
    rw [hc, ← hcs, flts_getD (by omega)]

theorem fl_cap {w : World} {v : Value} {cs : List Value} (h : Reads w v cs) : ∀ a n cap, v = .slice a n cap → (n : Int) ≤ 9223372036854775807 := by
  intro a n cap e
  cases h with
  | none a cap => simp only [Value.slice.injEq] at e; omega
  | row g cap L cs hL h0 hc hm hh => simp only [Value.slice.injEq] at e; obtain ⟨-, rfl, -⟩ := e; exact maxLen_int (Nat.le_trans hc hm)

theorem flts_fvals (xs : List Nat) : flts xs = fvals xs := rfl

theorem up_row {w w' : World} (h : w.grownBy w' none) (row : Option Nat) : w.grownBy w' row := ⟨h.os, h.tape, h.output, h.size, fun k hk _ => h.block k hk (by simp)⟩

/-- What was converted to a number up to the choice of a NaN. -/
def wO (xs : List Nat) (i : Nat) : Option Nat := cn .f64 (xs.getD i 0)
theorem wO_isF {xs : List Nat} (hz : ∀ z ∈ xs, z < 18446744073709551616) {i : Nat} (h : i < xs.length) : IsF (xs.getD i 0) (wO xs i) :=
  IsF.self (hz _ (by rw [List.getD_eq_getElem?_getD, List.getElem?_eq_getElem h]; exact List.getElem_mem _))

set_option maxRecDepth 100000 in
set_option maxHeartbeats 4000000 in
theorem listOf_f64 (fn : Nat) (capt : Array Value) (n : Nat) (hn : n ≤ 1000000) (z : Nat → Option Nat) (I : Nat → World → Prop) (row : Option Nat) (w : World)
    (hfn : ∀ (args : Array Value) (w : World), (callFunc fn args).run Try.prog w = .ok (.enter fn args) w) (hrow : ∀ k, row = some k → k < w.heap.size) (hI0 : ∀ w', w.grownBy w' none → I 0 w')
    (hIs : ∀ i w1 w2, w.heap.size < w1.heap.size → I i w1 → w1.grownBy w2 (some w.heap.size) → I i w2)
    (hcall : ∀ i w1, i < n → w.heap.size < w1.heap.size → I i w1 → Calls Try.prog fn (#[.int .i64 (i : Int)] ++ capt) w1 fun e w2 => ∃ p : Nat, e = .returned (fval p) ∧ IsF p (z i) ∧ I (i + 1) w2 ∧ w1.grownBy w2 row) :
    Calls Try.prog 44 #[.int .i64 n, .func (.func fn) #[] capt] w fun e w' =>
      ∃ v xs, e = .returned v ∧ Row w' w.heap.size 29 v (flts xs) ∧ xs.length = n ∧ (∀ i, i < n → IsF (xs.getD i 0) (z i)) ∧ I n w' ∧ w.grownBy w' row := by
  obtain ⟨i0, hi, hz0, hz1, hz2⟩ := info_parts info_f64'
  have HC := Lib.hid hcall
  have HS := Lib.hid hIs
  have HI := Lib.hid hI0
  have HR := Lib.hid hrow
  clear hcall hIs hI0 hrow
  go_enter Try.func44, Try.ntmps44
  go_wp2_with (at_make; refine wpList_make_full _ rfl _ _ 22 rfl w.heap.size 29 i0 (.float .f64 0) 1 Try.underlying22 hi hz0 hz1 .i64 .i64 _ _ n rfl rfl rfl rfl (by rw [hz2]; omega) (by simp only [maxLen]; omega) (Nat.le_refl _) ?_)
  intro w1 hown hg1
  rw [toList_madeCells_one] at hown
  have HO : Hid (Row w1 w.heap.size 29 (.slice (some ⟨w.heap.size, 0, none⟩) n n) (List.replicate n (.float .f64 0))) := by
    show w1.ownsRow _ _ _ _ _ _
    simpa using hown
  have HG := Lib.hid hg1
  clear hown hg1 hi hz0 hz1 hz2
  go_wp2
  go_loopw [10] (fun i wr => ∃ (k : Nat) (xs : List Nat), i = .int .i64 k ∧ k ≤ n ∧ xs.length = k ∧ Row wr w.heap.size 29 (.slice (some ⟨w.heap.size, 0, none⟩) n n) (flts xs ++ List.replicate (n - k) (.float .f64 0)) ∧ (∀ j, j < k → IsF (xs.getD j 0) (z j)) ∧ I k wr ∧ w.grownBy wr row ∧ w.heap.size < wr.heap.size) (fun i _ => n - (intOf i).toNat)
  case atStart => exact ⟨0, [], rfl, Nat.zero_le _, rfl, HO.out, fun j hj => by omega, HI.out _ HG.out, up_row HG.out _, (HO.out.lt _ rfl).2⟩
  case round =>
    obtain ⟨k, xs, rfl, hk, hx, hrw, hgd, hI, hg, hsz⟩ := hrel
    have HX := Lib.hid hx
    have HRW := Lib.hid hrw
    have HGD := Lib.hid hgd
    have HIk := Lib.hid hI
    have HGk := Lib.hid hg
    clear hx hrw hgd hI hg
    by_cases hlt : k < n
    · go_wp2_with fail
      refine (HC.out k wr hlt hsz HIk.out).mono ?_
      rintro e w2 ⟨a, rfl, hp, hI2, hg2⟩
      have hr2 := HRW.out.kept hg2 (.inr (fun e => by have := HR.out _ e.symm; simp at this))
      have hS := hr2.set k (.float .f64 a)
      rw [fillV hlt (by rw [flts_length]; exact HX.out)] at hS
      have hF := snocGood (d := (0 : Nat)) (G := fun i p => IsF p (z i)) HX.out HGD.out hp
      have c1 := hr2.cellAt hlt
      have f1 := hr2.frozenAt k
      have hsz2 : w.heap.size < w2.heap.size := Nat.lt_of_lt_of_le hsz hg2.size
      have hI3 := HS.out _ _ _ hsz2 hI2 hS.2
      have hg3 := grown_new (HGk.out.trans hg2) hS.2 (Nat.le_refl _)
      have hsz3 : w.heap.size < (w2.setCell ⟨w.heap.size, k, none⟩ (.float .f64 a)).heap.size := Nat.lt_of_lt_of_le hsz2 hS.2.size
      simp only [fval] at ⊢
      obtain ⟨u, hu⟩ : ∃ u, (flts xs ++ List.replicate (n - k) (Value.float .f64 0)).getD k undef = u := ⟨_, rfl⟩
      rw [hu] at c1
      rw [← flts_snoc] at hS
      have HS2 := Lib.hid hS
      have HF := Lib.hid hF
      have HI3 := Lib.hid hI3
      have HG3 := Lib.hid hg3
      have HZ3 := Lib.hid hsz3
      clear hu hr2 hS hF hp hI2 hg2 hI3 hg3 hsz3
      go_wp2
      go_roundw
      case rel => exact ⟨k + 1, xs ++ [a], by go_num, by omega, HF.out.1, HS2.out.1, HF.out.2, HI3.out, HG3.out, HZ3.out⟩
      case measure => simp [intOf]; omega
    · have e : k = n := by omega
      subst e
      go_wp2
      go_ret
      refine ⟨_, xs, rfl, ?_, HX.out, HGD.out, HIk.out, HGk.out⟩
      have := HRW.out
      rwa [Nat.sub_self, List.replicate_zero, List.append_nil] at this

/-- The first t floats of those that stand p places apart, from the place r on. -/
def partF (xs : List Nat) (r p t : Nat) : List Nat := (List.range t).map fun i => xs.getD (r + i * p) 0
theorem partF_length (xs : List Nat) (r p t : Nat) : (partF xs r p t).length = t := by simp [partF]
theorem partF_succ (xs : List Nat) (r p t : Nat) : partF xs r p (t + 1) = partF xs r p t ++ [xs.getD (r + t * p) 0] := by simp [partF, List.range_succ]
theorem partF_getD (xs : List Nat) (r p t : Nat) {i : Nat} (h : i < t) : (partF xs r p t).getD i 0 = xs.getD (r + i * p) 0 := by simp [partF, List.getD, h]

end Go.Proofs.Ytpobbicbfnglaaa
