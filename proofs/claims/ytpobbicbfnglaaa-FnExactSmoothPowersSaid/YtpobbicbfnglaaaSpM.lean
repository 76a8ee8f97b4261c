import Derived.Test.YtpobbicbfnglaaaSpI
/-
  SmoothPowers of the program.
-/
set_option linter.unusedVariables false
set_option linter.unusedSimpArgs false
namespace Go.Proofs.Ytpobbicbfnglaaa
open Go.RowKit Flt Fast
attribute [local go_sem] run_fadd run_fsub run_fmul run_fquo run_cadd run_csub

/-- A term of a smooth power, and the power. -/
def smI (n r k i : Nat) : Nat := (k + i + n - r) % n
def smZ (xs : List Nat) (r k i : Nat) : Option Nat := wO xs (smI xs.length r k i)
def smO (xs : List Nat) (r k : Nat) : Option Nat := fop .quo .f64 (sumO (smZ xs r k) (2 * r + 1)) (some (floatOfInt .f64 ((2 * r + 1 : Nat) : Int)))
def smK (n : Nat) (r : Int) : Int := if 256 < n then 3 else if 0 ≤ r ∧ r ≤ (n : Int) - 1 ∨ (n = 0 ∧ r = 0) then 0 else 2
def smN (n : Nat) (r : Int) : Nat := if smK n r = 0 then n else 0
theorem smN_le (n : Nat) (r : Int) : smN n r ≤ 100000000 := by
  unfold smN
  split
  · rename_i h
    have : ¬ 256 < n := fun c => by
      unfold smK at h
      rw [if_pos c] at h
      exact absurd h (by decide)
    omega
  · omega
theorem smI_lt {n : Nat} (r k i : Nat) (h : 0 < n) : smI n r k i < n := Nat.mod_lt _ h
theorem sm_rest {n r k i : Nat} (h : r < n) : ((k : Int) - (r : Int) + (i : Int)) % (n : Int) = (smI n r k i : Int) := by
  rw [← Int.add_emod_right, show (k : Int) - (r : Int) + (i : Int) + (n : Int) = ((k + i + n - r : Nat) : Int) by omega]
  rfl

theorem enter_sm1 (args : Array Value) (w : World) : (callFunc 45 args).run Try.prog w = .ok (.enter 45 args) w := by kernel_rfl
theorem enter_sm11 (args : Array Value) (w : World) : (callFunc 46 args).run Try.prog w = .ok (.enter 46 args) w := by kernel_rfl

set_option maxRecDepth 100000 in
set_option maxHeartbeats 4000000 in
theorem sm11_any (xs : List Nat) (n : Nat) (hx : xs.length = n) (hn : n ≤ 256) (hz : ∀ z ∈ xs, z < 18446744073709551616) (r k i : Nat) (hr : r < n) (hk : k < n) (hi : i < 1000) (v : Value) (b c d e : Nat) (w : World) (h : Reads w v (flts xs))
    (h1 : w.cell? ⟨b, 0, none⟩ = some v) (h2 : w.cell? ⟨c, 0, none⟩ = some (.int .i64 k)) (h3 : w.cell? ⟨d, 0, none⟩ = some (.int .i64 r)) (h4 : w.cell? ⟨e, 0, none⟩ = some (.int .i64 n)) :
    Calls Try.prog 46 #[.int .i64 i, .pointer (some ⟨b, 0, none⟩), .pointer (some ⟨c, 0, none⟩), .pointer (some ⟨d, 0, none⟩), .pointer (some ⟨e, 0, none⟩)] w fun e w' => ∃ q, e = .returned (fval q) ∧ IsF q (smZ xs r k i) ∧ Below w.heap.size w w' := by
  have hp := smI_lt r k i (show 0 < n by omega)
  have hrd := fl_reads h
  have R := Lib.hid (fun w => restOf_any ((k : Int) - (r : Int) + (i : Int)) n (smI n r k i) (by omega) (by omega) (sm_rest hr) w)
  have hX := wO_isF hz (i := smI n r k i) (by omega)
  have hZ : smZ xs r k i = wO xs (smI n r k i) := by unfold smZ; rw [hx]
  obtain ⟨a, cap, rfl⟩ := fl_form h
  rw [flts_length, hx] at hrd h1
  obtain ⟨P, hP⟩ : ∃ P, smI n r k i = P := ⟨_, rfl⟩
  rw [hP] at hp R hX hZ
  obtain ⟨g, rfl, -, c1⟩ := hrd _ _ _ rfl P hp
  obtain ⟨x, hxx⟩ : ∃ x, xs.getD P 0 = x := ⟨_, rfl⟩
  rw [hxx] at c1 hX
  have HX : Hid (IsF x (smZ xs r k i)) := by rw [hZ]; exact hX
  have i1 : (P : Int) < (n : Int) := by omega
  have eW1 : IntKind.i64.wrap ((k : Int) - (r : Int)) = (k : Int) - (r : Int) := IntWalk.i64_in _ (by omega)
  have eW2 : IntKind.i64.wrap ((k : Int) - (r : Int) + (i : Int)) = (k : Int) - (r : Int) + (i : Int) := IntWalk.i64_in _ (by omega)
  clear h hrd hx hz hxx hP hX hZ
  go_enter Try.func46, Try.ntmps46
  go_wp2
  go_quiet ((go_at_call 47; exact Calls.quiet_of_same (R.out _)))
  go_wp2
  go_ret
  exact ⟨x, rfl, HX.out, below_draws (Below.refl _ _) _⟩

set_option maxRecDepth 100000 in
set_option maxHeartbeats 4000000 in
theorem sm1_any (xs : List Nat) (n : Nat) (hx : xs.length = n) (hn : n ≤ 256) (hz : ∀ z ∈ xs, z < 18446744073709551616) (r k : Nat) (hr : r < n) (hk : k < n) (v : Value) (b d e m : Nat) (w : World) (h : Reads w v (flts xs))
    (h1 : w.cell? ⟨b, 0, none⟩ = some v) (h3 : w.cell? ⟨d, 0, none⟩ = some (.int .i64 r)) (h4 : w.cell? ⟨e, 0, none⟩ = some (.int .i64 n)) (h5 : w.cell? ⟨m, 0, none⟩ = some (.int .i64 ((2 * r + 1 : Nat) : Int)))
    (l1 : b < w.heap.size) (l3 : d < w.heap.size) (l4 : e < w.heap.size) (l5 : m < w.heap.size) :
    Calls Try.prog 45 #[.int .i64 k, .pointer (some ⟨m, 0, none⟩), .pointer (some ⟨b, 0, none⟩), .pointer (some ⟨d, 0, none⟩), .pointer (some ⟨e, 0, none⟩)] w fun e w' => ∃ q, e = .returned (fval q) ∧ IsF q (smO xs r k) ∧ Below w.heap.size w w' := by
  obtain ⟨M, hM⟩ : ∃ M, 2 * r + 1 = M := ⟨_, rfl⟩
  have hO : smO xs r k = fop .quo .f64 (sumO (smZ xs r k) M) (some (floatOfInt .f64 (M : Int))) := by unfold smO; rw [hM]
  have hM2 : M ≤ 600 := by omega
  rw [hM] at h5
  have L : Hid (∀ w3 : World, Below w.heap.size w w3 → w.heap.size < w3.heap.size → w3.cell? ⟨w.heap.size, 0, none⟩ = some (.int .i64 k) →
      Calls Try.prog 44 #[.int .i64 M, .func (.func 46) #[] #[.pointer (some ⟨b, 0, none⟩), .pointer (some ⟨w.heap.size, 0, none⟩), .pointer (some ⟨d, 0, none⟩), .pointer (some ⟨e, 0, none⟩)]] w3 fun e w' =>
      ∃ v xs', e = .returned v ∧ Row w' w3.heap.size 29 v (flts xs') ∧ xs'.length = M ∧ (∀ i, i < M → IsF (xs'.getD i 0) (smZ xs r k i)) ∧ Below w3.heap.size w3 w') := by
    refine Lib.hid fun w3 hb3 hlt hc => listOf_f64' 46 _ M (by omega) (smZ xs r k) w3 enter_sm11 fun i w1 hi hb1 => ?_
    have hb31 := below_step hb3 hb1 hb3.size
    exact sm11_any xs n hx hn hz r k i hr hk (by omega) v b w.heap.size d e w1 (h.below hb31) (by rw [hb31.cell l1]; exact h1) (by rw [hb1.cell hlt]; exact hc) (by rw [hb31.cell l3]; exact h3) (by rw [hb31.cell l4]; exact h4)
  rw [hO]
  clear h hx hz h1 h3 h4 hM hO hr l1 l3 l4
  go_enter Try.func45, Try.ntmps45
  go_wp2_with (go_at_call 44; with_reducible refine (L.out _ ?_ ?_ ?_).mono ?_)
  · exact (Below.refl _ _).alloc (Nat.le_refl _) _
  · simp
  · go_simp
  rintro e2 w3 ⟨v', fs, rfl, hrw, hl, hg, hb⟩
  have S := Lib.hid (fun W => sumF_any (xs := fs) (w := w3.drewN W) (hrw.reads.drewN W) (by omega) (smZ xs r k) (fun i hi => hg i (by omega)))
  rw [hl] at S
  have h5' : w3.cell? ⟨m, 0, none⟩ = some (.int .i64 (M : Int)) := by rw [hb.cell (by simp; omega)]; go_simp
  have HB : Hid (Below w.heap.size w w3) := below_step ((Below.refl _ _).alloc (Nat.le_refl _) _) hb (by simp)
  clear hrw hl hg hb h5
  go_wp2
  go_region_law (go_simp; go_at_call 48; refine (S.out 1).mono ?_; rintro e w4 ⟨q, rfl, hq, nn, rfl⟩; have HQ := Lib.hid hq; clear hq)
  all_goals
    go_wp2
    go_ret
    exact ⟨_, rfl, isF_fres HQ.out (IsF.ofInt _) _, below_draws HB.out _⟩

set_option maxRecDepth 100000 in
set_option maxHeartbeats 4000000 in
theorem smooth_impl (xs : List Nat) (hz : ∀ z ∈ xs, z < 18446744073709551616) (r : Int) (v : Value) (w : World) (h : Reads w v (flts xs)) :
    Calls Try.prog 15 #[v, .int .i64 r] w (FloatsTo (smN xs.length r) (smO xs r.toNat) (smK xs.length r) w) := by
  have hcap := fl_cap h
  have hf := fl_form h
  by_cases hb : 256 < xs.length
  · have e2 : smK xs.length r = 3 := if_pos hb
    have e1 : smN xs.length r = 0 := by unfold smN; rw [e2, if_neg (by decide)]
    rw [e1, e2]
    obtain ⟨a, cap, rfl⟩ := hf
    rw [flts_length] at *
    replace hcap := hcap _ _ _ rfl
    obtain ⟨n, hn⟩ : ∃ n, xs.length = n := ⟨_, rfl⟩
    rw [hn] at hcap hb ⊢
    clear e1 e2 h hn hz
    go_enter Try.func15, Try.ntmps15
    go_wp2
    go_ret2
    exact ⟨_, [], rfl, World.ownsRow_nil _ _ _ _, rfl, fun i hi => by omega, (((Below.refl _ _).alloc (Nat.le_refl _) _).alloc (by simp) _).alloc (by simp; omega) _⟩
  · by_cases hin : 0 ≤ r ∧ r ≤ (xs.length : Int) - 1 ∨ (xs.length = 0 ∧ r = 0)
    · have e2 : smK xs.length r = 0 := by unfold smK; rw [if_neg hb, if_pos hin]
      have e1 : smN xs.length r = xs.length := by unfold smN; rw [e2, if_pos rfl]
      rw [e1, e2]
      obtain ⟨q, rfl⟩ : ∃ q : Nat, r = q := ⟨r.toNat, by omega⟩
      rw [show ((q : Int)).toNat = q from rfl]
      obtain ⟨n, hn⟩ : ∃ n, xs.length = n := ⟨_, rfl⟩
      rw [hn] at hb hin ⊢
      obtain ⟨M, hM⟩ : ∃ M : Nat, n - 1 = M := ⟨_, rfl⟩
      have hqM : q ≤ M := by omega
      have hmax : (if (n : Int) - 1 < 0 then (0 : Int) else (n : Int) - 1) = (M : Int) := by split <;> omega
      have g1 : decide ((q : Int) < 0) = false := by simp
      have g2 : decide ((M : Int) < (q : Int)) = false := by simp; omega
      obtain ⟨T, hT⟩ : ∃ T : Nat, 2 * q + 1 = T := ⟨_, rfl⟩
      have hT' : 2 * (q : Int) + 1 = (T : Int) := by omega
      have HT := Lib.hid hT
      have hnx : (n : Int) ≤ 9223372036854775807 := by omega
      obtain ⟨N, hN⟩ : ∃ N, w.heap.size = N := ⟨_, rfl⟩
      have L : Hid (∀ w3 : World, Below w.heap.size w w3 → w.heap.size + 3 < w3.heap.size → w3.cell? ⟨w.heap.size, 0, none⟩ = some v → w3.cell? ⟨w.heap.size + 1, 0, none⟩ = some (.int .i64 q) → w3.cell? ⟨w.heap.size + 2, 0, none⟩ = some (.int .i64 n) → w3.cell? ⟨w.heap.size + 3, 0, none⟩ = some (.int .i64 T) →
          Calls Try.prog 44 #[.int .i64 n, .func (.func 45) #[] #[.pointer (some ⟨w.heap.size + 3, 0, none⟩), .pointer (some ⟨w.heap.size, 0, none⟩), .pointer (some ⟨w.heap.size + 1, 0, none⟩), .pointer (some ⟨w.heap.size + 2, 0, none⟩)]] w3 fun e w' =>
          ∃ v xs', e = .returned v ∧ Row w' w3.heap.size 29 v (flts xs') ∧ xs'.length = n ∧ (∀ i, i < n → IsF (xs'.getD i 0) (smO xs q i)) ∧ Below w3.heap.size w3 w') := by
        refine Lib.hid fun w3 hb3 hlt c0 c1 c2 c3 => listOf_f64' 45 _ n (by omega) (smO xs q) w3 enter_sm1 fun i w1 hi hb1 => ?_
        have hs1 := hb1.size
        exact sm1_any xs n hn (by omega) hz q i (by omega) hi v _ _ _ _ w1 (h.below (below_step hb3 hb1 hb3.size)) (by rw [hb1.cell (by show w.heap.size < _; omega)]; exact c0) (by rw [hb1.cell (by show w.heap.size + 1 < _; omega)]; exact c1) (by rw [hb1.cell (by show w.heap.size + 2 < _; omega)]; exact c2)
          (by rw [hb1.cell hlt, HT.out]; exact c3) (by omega) (by omega) (by omega) (by omega)
      obtain ⟨a, cap, rfl⟩ := hf
      rw [flts_length, hn] at *
      clear h hz e1 e2 hn hM hT hcap hin hN
      go_enter Try.func15, Try.ntmps15
      go_wp2_with (go_at_call 44; with_reducible refine (L.out _ ?_ ?_ ?_ ?_ ?_ ?_).mono ?_)
      · exact ((((Below.refl _ _).alloc (Nat.le_refl _) _).alloc (by simp) _).alloc (by simp; omega) _).alloc (by simp; omega) _
      · simp
      · go_simp
      · go_simp
      · go_simp
      · go_simp
      rintro e w3 ⟨v', fs, rfl, hr, hl, hg, hbb⟩
      have HX : Hid (Row w3 w.heap.size 29 v' (flts fs) ∧ fs.length = n ∧ (∀ i, i < n → IsF (fs.getD i 0) (smO xs q i)) ∧ Below w.heap.size w w3) :=
        ⟨hr.base (by simp; omega), hl, hg, below_step (((((Below.refl _ _).alloc (Nat.le_refl _) _).alloc (by simp) _).alloc (by simp; omega) _).alloc (by simp; omega) _) hbb (by simp; omega)⟩
      clear hr hl hg hbb
      go_wp2
      go_ret2
      exact ⟨v', fs, rfl, HX.out⟩
    · have e2 : smK xs.length r = 2 := by unfold smK; rw [if_neg hb, if_neg hin]
      have e1 : smN xs.length r = 0 := by unfold smN; rw [e2, if_neg (by decide)]
      rw [e1, e2]
      obtain ⟨a, cap, rfl⟩ := hf
      rw [flts_length] at *
      replace hcap := hcap _ _ _ rfl
      obtain ⟨n, hn⟩ : ∃ n, xs.length = n := ⟨_, rfl⟩
      rw [hn] at hcap hb hin ⊢
      obtain ⟨M, hM⟩ : ∃ M : Nat, n - 1 = M := ⟨_, rfl⟩
      have hmax : (if (n : Int) - 1 < 0 then (0 : Int) else (n : Int) - 1) = (M : Int) := by split <;> omega
      clear e1 e2 h hz hn
      by_cases r0 : r < 0
      · have g1 : decide (r < 0) = true := by simp [r0]
        clear hin hM
        go_enter Try.func15, Try.ntmps15
        go_wp2
        go_ret2
        exact ⟨_, [], rfl, World.ownsRow_nil _ _ _ _, rfl, fun i hi => by omega, (((Below.refl _ _).alloc (Nat.le_refl _) _).alloc (by simp) _).alloc (by simp; omega) _⟩
      · have g1 : decide (r < 0) = false := by simp; omega
        have g2 : decide ((M : Int) < r) = true := by simp; omega
        have g3 : (M : Int) < r := by omega
        clear hin hM
        go_enter Try.func15, Try.ntmps15
        go_wp2
        go_ret2
        exact ⟨_, [], rfl, World.ownsRow_nil _ _ _ _, rfl, fun i hi => by omega, (((Below.refl _ _).alloc (Nat.le_refl _) _).alloc (by simp) _).alloc (by simp; omega) _⟩

end Go.Proofs.Ytpobbicbfnglaaa
