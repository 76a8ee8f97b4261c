import Derived.Test.YtcoieclecmefiaaWinD
/-
  The sums over all hops: OverlapSums of both.
-/
set_option linter.unusedVariables false
set_option linter.unusedSimpArgs false
namespace Go.Proofs.Ytcoieclecmefiaa
open Go.RowKit Flt Fast
attribute [local go_sem] run_fadd run_fsub run_fmul run_fquo run_cadd run_csub

/-- What is told of a window and a hop. -/
def hopK (n : Nat) (h : Int) : Int := if 256 < n then 3 else if 1 ≤ h ∧ h ≤ n then 0 else 2

theorem hop_spec (a : Option Addr) (n cap : Nat) (h : Int) (hn : (n : Int) ≤ 9223372036854775807) (w : World) :
    Calls Try.prog 65 #[.slice a n cap, .int .i64 h] w fun e w' => e = .returned (.int .i64 (hopK n h)) ∧ w' = w := by
  by_cases h1 : 256 < n
  · have e : hopK n h = 3 := if_pos h1
    rw [e]; clear e
    go_enter Try.func65, Try.ntmps65
    go_wp2
    go_ret
    exact ⟨rfl, rfl⟩
  · by_cases h2 : 1 ≤ h ∧ h ≤ n
    · have e : hopK n h = 0 := by unfold hopK; rw [if_neg h1, if_pos h2]
      rw [e]; clear e
      have C := Lib.hid (in_t h 1 n h2)
      clear h2
      go_enter Try.func65, Try.ntmps65
      go_wp2_with fail
      refine (C.out w).mono ?_
      rintro e w' ⟨rfl, rfl⟩
      go_wp2
      go_ret
      exact ⟨rfl, rfl⟩
    · have e : hopK n h = 2 := by unfold hopK; rw [if_neg h1, if_neg h2]
      rw [e]; clear e
      have C := Lib.hid (in_f h 1 n h2)
      clear h2
      go_enter Try.func65, Try.ntmps65
      go_wp2_with fail
      refine (C.out w).mono ?_
      rintro e w' ⟨rfl, rfl⟩
      go_wp2
      go_ret
      exact ⟨rfl, rfl⟩

set_option maxRecDepth 100000 in
theorem hop_impl (a : Option Addr) (n cap : Nat) (h : Int) (hn : (n : Int) ≤ 9223372036854775807) (w : World) :
    Calls Try.prog 67 #[.slice a n cap, .int .i64 h] w fun e w' => e = .returned (.int .i64 (hopK n h)) ∧ Below w.heap.size w w' := by
  have ha1 : Below w.heap.size w (w.alloc (.cells #[.int .i64 n, .int .i64 h] 90)) := (Below.refl _ _).alloc (Nat.le_refl _) _
  have HA := Lib.hid ha1
  by_cases h1 : 256 < n
  · have e : hopK n h = 3 := if_pos h1
    rw [e]; clear e ha1
    go_enter Try.func67, Try.ntmps67
    go_wp2
    go_ret
    exact ⟨rfl, HA.out⟩
  · by_cases h2 : 1 ≤ h ∧ h ≤ n
    · have e : hopK n h = 0 := by unfold hopK; rw [if_neg h1, if_pos h2]
      have R : ∀ w, Calls Try.prog 79 #[.agg #[.int .i64 n, .int .i64 h]] w fun e w' => e = .returned (.bool true) ∧ Below w.heap.size w w' := fun w => by
        have := right_impl n h w
        rwa [show rightB n h = true from decide_eq_true ⟨h2, by omega⟩] at this
      have R := Lib.hid R
      rw [e]; clear e h2 ha1
      go_enter Try.func67, Try.ntmps67
      go_wp2_with fail
      refine (R.out _).mono ?_
      rintro e w2 ⟨rfl, hb2⟩
      go_wp2
      go_ret
      exact ⟨rfl, below_step HA.out hb2 HA.out.size⟩
    · have e : hopK n h = 2 := by unfold hopK; rw [if_neg h1, if_neg h2]
      have R : ∀ w, Calls Try.prog 79 #[.agg #[.int .i64 n, .int .i64 h]] w fun e w' => e = .returned (.bool false) ∧ Below w.heap.size w w' := fun w => by
        have := right_impl n h w
        rwa [show rightB n h = false from decide_eq_false (fun h => h2 h.1)] at this
      have R := Lib.hid R
      rw [e]; clear e h2 ha1
      go_enter Try.func67, Try.ntmps67
      go_wp2_with fail
      refine (R.out _).mono ?_
      rintro e w2 ⟨rfl, hb2⟩
      go_wp2
      go_ret
      exact ⟨rfl, below_step HA.out hb2 HA.out.size⟩

/-- How many numbers stand p places apart from the place i on. -/
def ovC (n p i : Nat) : Nat := (n - i + p - 1) / p
theorem ovC_iff {n p i : Nat} (hp : 0 < p) (t : Nat) : i + t * p < n ↔ t < ovC n p i := by
  unfold ovC
  rw [Nat.lt_iff_add_one_le, Nat.lt_iff_add_one_le, Nat.le_div_iff_mul_le hp, Nat.add_mul, Nat.one_mul]
  omega
theorem ovC_pos {n p i : Nat} (hp : 0 < p) (h : i < n) : 0 < ovC n p i := (ovC_iff hp 0).1 (by omega)
/-- The numbers p places apart from i on, and their sum. -/
def ovZ (xs : List Nat) (p i t : Nat) : Option Nat := wO xs (i + t * p)
def ovS (xs : List Nat) (p i : Nat) : Option Nat := sumO (ovZ xs p i) (ovC xs.length p i)

set_option maxRecDepth 100000 in
set_option maxHeartbeats 4000000 in
theorem sums_spec (xs : List Nat) (hz : ∀ z ∈ xs, z < 18446744073709551616) (p : Nat) (hp : 0 < p) (hpn : p ≤ xs.length) (hl : xs.length ≤ 256) (v : Value) (w : World) (h : Reads w v (flts xs)) :
    Calls Try.prog 66 #[v, .int .i64 p] w fun e w' => ∃ u fs, e = .returned u ∧ Row w' w.heap.size 29 u (flts fs) ∧ fs.length = p ∧ (∀ i, i < p → IsF (fs.getD i 0) (ovS xs p i)) ∧ Below w.heap.size w w' := by
  obtain ⟨i0, hi, hz0, hz1, hz2⟩ := info_parts info_f64'
  have hrd := fl_reads h
  obtain ⟨a, cap, rfl⟩ := fl_form h
  rw [flts_length] at *
  replace hrd := hrd _ _ _ rfl
  have hW : ∀ i, i < xs.length → IsF (xs.getD i 0) (wO xs i) := fun i hi => wO_isF hz hi
  have hS : ∀ i, ovS xs p i = sumO (ovZ xs p i) (ovC xs.length p i) := fun i => rfl
  obtain ⟨n, hn⟩ : ∃ n, xs.length = n := ⟨_, rfl⟩
  rw [hn] at hrd hW hpn hl hS ⊢
  have HM := Lib.hid (fun i t => ovC_iff (n := n) (i := i) hp t)
  have HRD := Lib.hid hrd
  have HW := Lib.hid hW
  have HS := Lib.hid hS
  clear h hrd hW hz hn hS
  go_enter Try.func66, Try.ntmps66
  go_wp2
  go_loopw [5, 6] (fun v5 i wr => ∃ (k : Nat) (fs : List Nat), i = .int .i64 k ∧ k ≤ p ∧ Row wr w.heap.size 29 v5 (flts fs) ∧ fs.length = k ∧ (∀ j, j < k → IsF (fs.getD j 0) (ovS xs p j)) ∧ Below w.heap.size w wr) (fun _ i _ => p - (intOf i).toNat)
  case atStart =>
    exact ⟨0, [], rfl, Nat.zero_le _, World.ownsRow_lit w #[] 0 (Nat.le_refl _) (by unfold maxLen; omega) rfl, rfl, fun j hj => by omega, (Below.refl _ _).alloc (Nat.le_refl _) _⟩
  case round =>
    obtain ⟨k, fs, rfl, hk, hrw, hfs, hgd, hbw⟩ := hrel
    have HRW := Lib.hid hrw
    have HFS := Lib.hid hfs
    have HGD := Lib.hid hgd
    have HBW := Lib.hid hbw
    clear hrw hfs hgd hbw
    by_cases hlt : k < p
    · obtain ⟨g, rfl, hg, hc⟩ := HRD.out k (by omega)
      have c1 : wr.cell? ⟨g, k, none⟩ = some (.float .f64 (xs.getD k 0)) := by rw [HBW.out.cell hg]; exact hc
      have hx := HW.out k (by omega)
      obtain ⟨x, hxx⟩ : ∃ x, xs.getD k 0 = x := ⟨_, rfl⟩
      rw [hxx] at c1 hx
      have HX : Hid (IsF x (sumO (ovZ xs p k) 1)) := by
        show IsF x (ovZ xs p k 0)
        unfold ovZ
        rw [Nat.zero_mul, Nat.add_zero]; exact hx
      have HGL := Lib.hid hg
      clear hxx hx hc hg
      obtain ⟨wo, hwo⟩ : ∃ x, x = wr := ⟨_, rfl⟩
      have HWO := Lib.hid hwo
      clear hwo
      go_wp2
      go_loopw [7, 8] (fun s J wq => ∃ (t j a q : Nat), J = .int .i64 j ∧ s = .float .f64 a ∧ j = k + t * p ∧ 0 < t ∧ t ≤ ovC n p k ∧ j ≤ n + p ∧ IsF a (sumO (ovZ xs p k) t) ∧ wq = wo.drewN q) (fun _ j _ => n - (intOf j).toNat)
      case atStart => exact ⟨1, k + p, x, 0, by go_num, rfl, by omega, by omega, ovC_pos hp (by omega), by omega, HX.out, HWO.out.symm⟩
      case round =>
        obtain ⟨t, j, s, q, rfl, rfl, hj, ht0, ht, hjn, hs, hw⟩ := hrel
        have HJ := Lib.hid hj
        have HSS := Lib.hid hs
        have HWR := Lib.hid hw
        clear hj hs hw
        by_cases hjl : j < n
        · obtain ⟨g', hg', hgl, hc⟩ := HRD.out j hjl
          obtain rfl : g = g' := by simpa using hg'
          have c2 : wr.cell? ⟨g, j, none⟩ = some (.float .f64 (xs.getD j 0)) := by rw [HWR.out, World.cell?_drewN, HWO.out, HBW.out.cell HGL.out]; exact hc
          have hy := HW.out j hjl
          obtain ⟨y, hyy⟩ : ∃ y, xs.getD j 0 = y := ⟨_, rfl⟩
          rw [hyy] at c2 hy
          have htm : t < ovC n p k := (HM.out k t).1 (by have := HJ.out; omega)
          have HY : Hid (IsF y (ovZ xs p k t)) := by
            unfold ovZ
            rw [← HJ.out]; exact hy
          have HJ2 : Hid (j + p = k + (t + 1) * p) := by show j + p = k + (t + 1) * p; have := HJ.out; rw [Nat.add_mul, Nat.one_mul]; omega
          have HN : Hid (∀ u, IsF u (fop .add .f64 (sumO (ovZ xs p k) t) (ovZ xs p k t)) → IsF u (sumO (ovZ xs p k) (t + 1))) := fun u hu => by rw [sumO_succ _ (by omega)]; exact hu
          clear hyy hy hc hg'
          go_wp2
          go_roundw
          case rel => exact ⟨t + 1, j + p, _, _, by go_num, rfl, HJ2.out, by omega, by omega, by omega, HN.out _ (isF_fres HSS.out HY.out _), by rw [HWR.out, World.drewN_drewN]⟩
          case measure => simp [intOf]; omega
        · have htm : t = ovC n p k := by
            apply Nat.le_antisymm ht
            apply Nat.le_of_not_lt
            intro hc
            have := (HM.out k t).2 hc
            have := HJ.out
            omega
          have HSK : Hid (IsF s (ovS xs p k)) := by rw [HS.out, ← htm]; exact HSS.out
          have HRW2 : Hid (Row wr w.heap.size 29 u5 (flts fs)) := by rw [HWR.out, HWO.out]; exact HRW.out.drewN q
          have HB2 : Hid (Below w.heap.size w wr) := by rw [HWR.out, HWO.out]; exact below_draws HBW.out q
          have hl8 : (flts fs).length = k := by rw [flts_length, HFS.out]
          have HL8 := Lib.hid hl8
          have HF2 := Lib.hid (snocGood (d := (0 : Nat)) (G := fun i p' => IsF p' (ovS xs p i)) HFS.out HGD.out HSK.out)
          clear hl8 htm
          go_wp2_with (at_builtin; refine wpList_append_own _ rfl _ _ 49 rfl w.heap.size 29 i0 (.float .f64 0) 1 8 Try.underlying49 hi hz0 hz1 hz2 rfl (by decide) _ _ _ rfl (HRW2.out.alloc _) ⟨_, 0, none⟩ 1 1 [.float .f64 s] rfl rfl (cell_one_new _ _ _) (by intro u hu; simp at hu; subst hu; rfl) (by rw [HL8.out]; simp only [maxLen]; omega) (by rw [HL8.out]; omega) (by have := HB2.out.size; simp; omega) ?_)
          intro v' w1 hown' hgrow _
          have hlt' := (HRW2.out.alloc (.cells #[.float .f64 s] 29)).lt
          have HB' : Hid (Below w.heap.size w w1) := (HB2.out.alloc HB2.out.size _).grown hgrow (by have := HB2.out.size; simp; omega) (fun b e => (hlt' b e).1)
          have HO' : Hid (Row w1 w.heap.size 29 v' (flts (fs ++ [s]))) := by
            show w1.ownsRow _ _ _ _ _ _
            rw [flts_snoc, List.length_append]
            exact hown'
          clear hown' hgrow hlt'
          go_wp2
          go_roundw
          case rel => first | exact ⟨k + 1, fs ++ [s], by go_num, by omega, HO'.out, HF2.out.1, HF2.out.2, HB'.out⟩ | ((repeat apply Exists.intro); refine ⟨?_, rfl⟩; exact ⟨k + 1, fs ++ [s], by go_num, by omega, HO'.out, HF2.out.1, HF2.out.2, HB'.out⟩)
          case measure => simp [intOf]; omega
    · have e : k = p := by omega
      subst e
      go_wp2
      go_ret
      exact ⟨_, fs, rfl, HRW.out, HFS.out, HGD.out, HBW.out⟩

/-- What OverlapSums and FlatWindow answer: how many numbers, which ones, and the code. -/
def ovN (n : Nat) (h : Int) : Nat := if hopK n h = 0 then h.toNat else 0
theorem hopK_zero {n : Nat} {h : Int} (hk : hopK n h = 0) : 1 ≤ h ∧ h ≤ n ∧ n ≤ 256 := by
  unfold hopK at hk
  split at hk
  · omega
  · split at hk
    · omega
    · omega
theorem ovN_le (n : Nat) (h : Int) : ovN n h ≤ 100000000 := by
  unfold ovN
  split
  · rename_i hk
    have := hopK_zero hk
    omega
  · omega

theorem enter_overlap1 (args : Array Value) (w : World) : (callFunc 68 args).run Try.prog w = .ok (.enter 68 args) w := by kernel_rfl

set_option maxRecDepth 100000 in
set_option maxHeartbeats 4000000 in
theorem overlap1_any (xs : List Nat) (hz : ∀ z ∈ xs, z < 18446744073709551616) (p : Nat) (hp : 0 < p) (hpn : p ≤ xs.length) (hl : xs.length ≤ 256) (v : Value) (i b c : Nat) (hi : i < p) (w : World) (h : Reads w v (flts xs))
    (hb : w.cell? ⟨b, 0, none⟩ = some v) (hc : w.cell? ⟨c, 0, none⟩ = some (.int .i64 p)) :
    Calls Try.prog 68 #[.int .i64 i, .pointer (some ⟨b, 0, none⟩), .pointer (some ⟨c, 0, none⟩)] w fun e w' => ∃ q, e = .returned (fval q) ∧ IsF q (ovS xs p i) ∧ Below w.heap.size w w' := by
  have E := Lib.hid (everyF_any h p (ovC xs.length p i) i (fun t => ovC_iff hp t) hp (by omega) (by omega) (by omega))
  have W : Hid (∀ t, t < ovC xs.length p i → IsF ((partF xs i p (ovC xs.length p i)).getD t 0) (ovZ xs p i t)) := fun t ht => by
    rw [partF_getD _ _ _ _ ht]
    unfold ovZ
    exact wO_isF hz ((ovC_iff hp t).2 ht)
  have hm : ovC xs.length p i ≤ 100000 := by
    unfold ovC
    exact Nat.le_trans (Nat.div_le_self _ _) (by omega)
  obtain ⟨a, cap, rfl⟩ := fl_form h
  have HM := Lib.hid hm
  clear h hz hm
  go_enter Try.func68, Try.ntmps68
  go_wp2_with fail
  refine E.out.mono ?_
  rintro e w2 ⟨u, rfl, hr, hb2⟩
  have S := Lib.hid (sumF_any (xs := partF xs i p (ovC xs.length p i)) (w := w2) hr.reads (by rw [partF_length]; exact HM.out) (ovZ xs p i) (fun t ht => W.out t (by rw [partF_length] at ht; exact ht)))
  have HB := Lib.hid hb2
  clear hr hb2
  go_wp2_with fail
  refine S.out.mono ?_
  rintro e w3 ⟨r, rfl, hr, m, rfl⟩
  rw [partF_length] at hr
  have HR := Lib.hid hr
  clear hr
  go_wp2
  go_ret
  exact ⟨_, rfl, HR.out, below_draws HB.out m⟩

end Go.Proofs.Ytcoieclecmefiaa
