import Derived.Test.YtnigbjjllolgdaaSpD
/-
  DelaysOf of both.
-/
set_option linter.unusedVariables false
set_option linter.unusedSimpArgs false
namespace Go.Proofs.Ytnigbjjllolgdaa
open Go.RowKit Flt Fast
attribute [local go_sem] run_fadd run_fsub run_fmul run_fquo run_cadd run_csub

def delO (xs : List Nat) (i : Nat) : Option Nat := fop .sub .f64 (unwO xs i) (unwO xs (i + 1))
def delN (n : Nat) : Nat := if 256 < n then 0 else n - 1
theorem delN_le (n : Nat) : delN n ≤ 100000000 := by unfold delN; split <;> omega

theorem enter_delays1 (args : Array Value) (w : World) : (callFunc 31 args).run Try.prog w = .ok (.enter 31 args) w := by kernel_rfl

set_option maxRecDepth 100000 in
set_option maxHeartbeats 4000000 in
theorem delays1_any (fs : List Nat) (z : Nat → Option Nat) (n : Nat) (hl : fs.length = n) (hn : n ≤ 256) (hg : ∀ i, i < n → IsF (fs.getD i 0) (z i)) (v : Value) (i b : Nat) (hi : i + 1 < n) (w : World) (h : Reads w v (flts fs)) (hb : w.cell? ⟨b, 0, none⟩ = some v) :
    Calls Try.prog 31 #[.int .i64 i, .pointer (some ⟨b, 0, none⟩)] w fun e w' => ∃ q, e = .returned (fval q) ∧ IsF q (fop .sub .f64 (z i) (z (i + 1))) ∧ Below w.heap.size w w' := by
  have hrd := fl_reads h
  obtain ⟨a, cap, rfl⟩ := fl_form h
  rw [flts_length, hl] at *
  obtain ⟨g, rfl, -, c1⟩ := hrd _ _ _ rfl i (by omega)
  obtain ⟨g', e', -, c2⟩ := hrd _ _ _ rfl (i + 1) hi
  simp only [Option.some.injEq, Addr.mk.injEq, and_true] at e'
  subst e'
  have hx := hg i (by omega)
  have hy := hg (i + 1) hi
  obtain ⟨x, hxx⟩ : ∃ x, fs.getD i 0 = x := ⟨_, rfl⟩
  obtain ⟨y, hyy⟩ : ∃ y, fs.getD (i + 1) 0 = y := ⟨_, rfl⟩
  obtain ⟨j, hj⟩ : ∃ j, i + 1 = j := ⟨_, rfl⟩
  rw [hxx] at c1 hx
  rw [hyy] at c2 hy
  rw [hj] at c2 hy ⊢
  have hj1 : (i : Int) + 1 = (j : Int) := by omega
  have eW : IntKind.i64.wrap (j : Int) = (j : Int) := IntWalk.i64_in _ (by omega)
  have hi1 : (0 : Int) ≤ (j : Int) := by omega
  have hi2 : (j : Int) < (n : Int) := by omega
  have hi3 : (i : Int) < (n : Int) := by omega
  have HX := Lib.hid hx
  have HY := Lib.hid hy
  clear h hg hrd hxx hyy hx hy hl hj hi
  go_enter Try.func31, Try.ntmps31
  go_wp2
  go_region
  go_wp2
  go_ret
  exact ⟨_, rfl, isF_fres HX.out HY.out _, below_draws (Below.refl _ _) _⟩

set_option maxRecDepth 100000 in
set_option maxHeartbeats 4000000 in
theorem delays_impl (xs : List Nat) (hz : ∀ z ∈ xs, z < 18446744073709551616) (v : Value) (w : World) (h : Reads w v (flts xs)) :
    Calls Try.prog 10 #[v] w (FloatsTo (delN xs.length) (delO xs) (tooK xs.length) w) := by
  have U := Lib.hid (unwrap_impl xs hz v w h)
  have hD : ∀ i, delO xs i = fop .sub .f64 (unwO xs i) (unwO xs (i + 1)) := fun i => rfl
  obtain ⟨K, hK⟩ : ∃ K, tooK xs.length = K := ⟨_, rfl⟩
  obtain ⟨n, hn⟩ : ∃ n, unwN xs.length = n := ⟨_, rfl⟩
  have hn256 : n ≤ 256 := by rw [← hn]; unfold unwN; split <;> omega
  have hdn : delN xs.length = n - 1 := by rw [← hn]; unfold delN unwN; split <;> omega
  rw [hK, hdn]
  rw [hK, hn] at U
  clear hK hn hdn h
  obtain ⟨m, hm⟩ : ∃ m, n - 1 = m := ⟨_, rfl⟩
  rw [hm]
  have HD := Lib.hid hD
  clear hD
  go_enter Try.func10, Try.ntmps10
  go_wp2_with fail
  refine U.out.mono ?_
  rintro e w2 ⟨u, fs, rfl, hr, hl, hg, hb⟩
  have hrr := hr.reads
  have HB := Lib.hid hb
  have HG := Lib.hid hg
  have HL := Lib.hid hl
  obtain ⟨a, cap, rfl⟩ := fl_form hrr
  rw [flts_length, hl] at hrr
  clear hr
  rw [flts_length, hl]
  have hmax : (if (n : Int) - 1 < 0 then (0 : Int) else (n : Int) - 1) = (m : Int) := by split <;> omega
  have C := Lib.hid (fun (i : Nat) (hi : i < m) (w1 : World) (b : Nat) (h1 : Reads w1 (.slice a n cap) (flts fs)) => delays1_any fs (unwO xs) n HL.out hn256 HG.out (.slice a n cap) i b (by omega) w1 h1)
  have L : Hid (∀ w3 : World, Below w2.heap.size w2 w3 → w2.heap.size < w3.heap.size → w3.cell? ⟨w2.heap.size, 0, none⟩ = some (.slice a n cap) → Calls Try.prog 30 #[.int .i64 m, .func (.func 31) #[] #[.pointer (some ⟨w2.heap.size, 0, none⟩)]] w3 fun e w' =>
      ∃ v xs', e = .returned v ∧ Row w' w3.heap.size 30 v (flts xs') ∧ xs'.length = m ∧ (∀ i, i < m → IsF (xs'.getD i 0) (delO xs i)) ∧ Below w3.heap.size w3 w') := by
    refine Lib.hid fun w3 hb3 hlt hc => listOf_f64' 31 _ m (by omega) (delO xs) w3 enter_delays1 fun i w1 hi hb1 => ?_
    refine (C.out i hi w1 w2.heap.size ((hrr.below hb3).below hb1) (by rw [hb1.cell hlt]; exact hc)).mono ?_
    rintro e w4 ⟨q, rfl, hq, hb4⟩
    exact ⟨q, rfl, by rw [HD.out]; exact hq, hb4⟩
  clear hrr hl hg hb C
  go_wp2_with (go_at_call 30; with_reducible refine (L.out _ ?_ ?_ ?_).mono ?_)
  · exact (Below.refl _ _).alloc (Nat.le_refl _) _
  · simp
  · go_simp
  rintro e w3 ⟨v', fs', rfl, hr', hl', hg', hb'⟩
  have HX : Hid (Row w3 w.heap.size 30 v' (flts fs') ∧ fs'.length = m ∧ (∀ i, i < m → IsF (fs'.getD i 0) (delO xs i)) ∧ Below w.heap.size w w3) := by
    have hs := HB.out.size
    refine ⟨hr'.base (by simp; omega), hl', hg', ?_⟩
    exact below_step (HB.out.alloc hs _) hb' (by simp; omega)
  clear hr' hl' hg' hb'
  go_wp2
  go_ret2
  exact ⟨v', fs', rfl, HX.out⟩

end Go.Proofs.Ytnigbjjllolgdaa
