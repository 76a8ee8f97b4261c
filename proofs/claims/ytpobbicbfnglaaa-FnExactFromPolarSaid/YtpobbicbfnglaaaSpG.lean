import Derived.Test.YtpobbicbfnglaaaSpA
import Derived.Laws.EntriesVeiled
import Derived.StillTailTactics
import Derived.Deep.RegionLaw
/-
  PowersApart of both.
-/
set_option linter.unusedVariables false
set_option linter.unusedSimpArgs false
namespace Go.Proofs.Ytpobbicbfnglaaa
open Go.RowKit Flt Fast
attribute [local go_sem] run_fadd run_fsub run_fmul run_fquo run_cadd run_csub

/-- The absolute value, up to NaNs. -/
def absO : Option Nat → Option Nat
  | some x => some (x % 9223372036854775808)
  | none => none
theorem nan_abs (a : Nat) : nan FloatKind.f64.format (a % 9223372036854775808) = nan FloatKind.f64.format a := by
  show nan Ieee.double _ = nan Ieee.double _
  rw [nan64, nan64]; congr 1; simp
theorem isF_abs {a : Nat} {z : Option Nat} (h : IsF a z) : IsF (a % 9223372036854775808) (absO z) := by
  refine ⟨?_, by omega⟩
  rcases isF_cases h with ⟨hn, rfl⟩ | ⟨hn, rfl⟩
  · exact cn_none (by rw [nan_abs]; exact hn)
  · exact cn_some (by rw [nan_abs]; exact hn)

def apO (xs ys : List Nat) (i : Nat) : Option Nat := absO (fop .sub .f64 (wO xs i) (wO ys i))
def apK (n m : Nat) : Int := if 256 < n ∨ 256 < m then 3 else if n ≠ m then 2 else 0
def apR (xs ys : List Nat) : Option Nat := if apK xs.length ys.length = 0 then sumO (apO xs ys) xs.length else some 0

theorem apK_zero {n m : Nat} (h : apK n m = 0) : n ≤ 256 ∧ n = m := by
  unfold apK at h
  split at h
  · omega
  · split at h <;> omega

theorem checkPairA_any (a a' : Option Addr) (n m cap cap' : Nat) (hn : (n : Int) ≤ 9223372036854775807) (hm : (m : Int) ≤ 9223372036854775807) (w : World) :
    Calls Try.prog 62 #[.slice a n cap, .slice a' m cap'] w fun e w' => e = .returned (.int .i64 (apK n m)) ∧ w' = w := by
  by_cases h1 : 256 < n
  · have e : apK n m = 3 := if_pos (.inl h1)
    rw [e]; clear e
    go_enter Try.func62, Try.ntmps62
    go_wp2
    go_ret
    exact ⟨rfl, rfl⟩
  · by_cases h2 : 256 < m
    · have e : apK n m = 3 := if_pos (.inr h2)
      rw [e]; clear e
      go_enter Try.func62, Try.ntmps62
      go_wp2
      go_ret
      exact ⟨rfl, rfl⟩
    · by_cases h3 : n = m
      · have e : apK n m = 0 := by unfold apK; rw [if_neg (by omega), if_neg (by omega)]
        rw [e]; clear e
        subst h3
        go_enter Try.func62, Try.ntmps62
        go_wp2
        go_ret
        exact ⟨rfl, rfl⟩
      · have e : apK n m = 2 := by unfold apK; rw [if_neg (by omega), if_pos h3]
        rw [e]; clear e
        have g3 : ((n : Int) == (m : Int)) = false := by simp; omega
        clear h3
        go_enter Try.func62, Try.ntmps62
        go_wp2
        go_ret
        exact ⟨rfl, rfl⟩

theorem enter_apart1 (args : Array Value) (w : World) : (callFunc 63 args).run Try.prog w = .ok (.enter 63 args) w := by kernel_rfl

set_option maxRecDepth 100000 in
set_option maxHeartbeats 4000000 in
theorem apart1_any (xs ys : List Nat) (n : Nat) (hx : xs.length = n) (hy : ys.length = n) (hn : n ≤ 256) (hzx : ∀ z ∈ xs, z < 18446744073709551616) (hzy : ∀ z ∈ ys, z < 18446744073709551616) (v u : Value) (i b c : Nat) (hi : i < n) (w : World) (h : Reads w v (flts xs)) (h' : Reads w u (flts ys))
    (hb : w.cell? ⟨b, 0, none⟩ = some v) (hc : w.cell? ⟨c, 0, none⟩ = some u) :
    Calls Try.prog 63 #[.int .i64 i, .pointer (some ⟨b, 0, none⟩), .pointer (some ⟨c, 0, none⟩)] w fun e w' => ∃ q, e = .returned (fval q) ∧ IsF q (apO xs ys i) ∧ Below w.heap.size w w' := by
  have hrd := fl_reads h
  have hrd' := fl_reads h'
  obtain ⟨a, cap, rfl⟩ := fl_form h
  obtain ⟨a', cap', rfl⟩ := fl_form h'
  rw [flts_length, hx] at hrd hb
  rw [flts_length, hy] at hrd' hc
  obtain ⟨g, rfl, -, c1⟩ := hrd _ _ _ rfl i hi
  obtain ⟨g', rfl, -, c2⟩ := hrd' _ _ _ rfl i hi
  have hX := wO_isF hzx (i := i) (by omega)
  have hY := wO_isF hzy (i := i) (by omega)
  have hA := fun wf => isF_abs (isF_fres (op := .sub) hX hY wf)
  obtain ⟨x, hxx⟩ : ∃ x, xs.getD i 0 = x := ⟨_, rfl⟩
  obtain ⟨y, hyy⟩ : ∃ y, ys.getD i 0 = y := ⟨_, rfl⟩
  rw [hxx] at c1
  rw [hyy] at c2
  rw [hxx, hyy] at hA
  have hi3 : (i : Int) < (n : Int) := by omega
  have HA := Lib.hid hA
  clear h h' hrd hrd' hxx hyy hX hY hA hzx hzy
  go_enter Try.func63, Try.ntmps63
  go_wp2
  go_still_tail 8, (by kernel_rfl)
  change wpList _ _ _ _ _ w.drew
  go_wp2_with (go_at_call 61; refine (abs_any _ (fres_lt64 _ _ _ _) _).mono ?_; rintro e w' ⟨rfl, rfl⟩)
  go_ret
  exact ⟨_, rfl, HA.out _, below_draws (Below.refl _ _) _⟩

set_option maxRecDepth 100000 in
set_option maxHeartbeats 4000000 in
theorem apart_impl (xs ys : List Nat) (hzx : ∀ z ∈ xs, z < 18446744073709551616) (hzy : ∀ z ∈ ys, z < 18446744073709551616) (v u : Value) (w : World) (h : Reads w v (flts xs)) (h' : Reads w u (flts ys)) :
    Calls Try.prog 32 #[v, u] w (FloatTo (apR xs ys) (apK xs.length ys.length) w) := by
  have hcap := fl_cap h
  have hcap' := fl_cap h'
  have hf := fl_form h
  have hf' := fl_form h'
  by_cases hk : apK xs.length ys.length = 0
  · obtain ⟨h1, h2⟩ := apK_zero hk
    have e1 : apR xs ys = sumO (apO xs ys) xs.length := if_pos hk
    rw [e1, hk]
    obtain ⟨a, cap, rfl⟩ := hf
    obtain ⟨a', cap', rfl⟩ := hf'
    rw [flts_length] at *
    rw [flts_length] at *
    have CK := Lib.hid (fun w => checkPairA_any a a' xs.length ys.length cap cap' (hcap _ _ _ rfl) (hcap' _ _ _ rfl) w)
    rw [hk] at CK
    obtain ⟨n, hn⟩ : ∃ n, xs.length = n := ⟨_, rfl⟩
    have hm : ys.length = n := by omega
    have HRX := Lib.hid (fun w1 (hb : Below w.heap.size w w1) => h.below hb)
    have HRY := Lib.hid (fun w1 (hb : Below w.heap.size w w1) => h'.below hb)
    rw [hn, hm] at CK
    rw [hn, hm]
    rw [hn] at h1 HRX
    rw [hm] at HRY
    have C := Lib.hid (fun (i : Nat) (hi : i < n) (w1 : World) (b c : Nat) (hx1 : Reads w1 (.slice a n cap) (flts xs)) (hy1 : Reads w1 (.slice a' n cap') (flts ys)) => apart1_any xs ys n hn hm h1 hzx hzy (.slice a n cap) (.slice a' n cap') i b c hi w1 hx1 hy1)
    have hmax : (n : Int) ≤ 9223372036854775807 := by omega
    have L : Hid (∀ w3 : World, Below w.heap.size w w3 → w.heap.size + 1 < w3.heap.size → w3.cell? ⟨w.heap.size, 0, none⟩ = some (.slice a n cap) → w3.cell? ⟨w.heap.size + 1, 0, none⟩ = some (.slice a' n cap') →
        Calls Try.prog 44 #[.int .i64 n, .func (.func 63) #[] #[.pointer (some ⟨w.heap.size, 0, none⟩), .pointer (some ⟨w.heap.size + 1, 0, none⟩)]] w3 fun e w' =>
        ∃ v xs', e = .returned v ∧ Row w' w3.heap.size 29 v (flts xs') ∧ xs'.length = n ∧ (∀ i, i < n → IsF (xs'.getD i 0) (apO xs ys i)) ∧ Below w3.heap.size w3 w') := by
      refine Lib.hid fun w3 hb3 hlt hc hd => listOf_f64' 63 _ n (by omega) (apO xs ys) w3 enter_apart1 fun i w1 hi hb1 => ?_
      have hb31 := below_step hb3 hb1 hb3.size
      exact C.out i hi w1 _ _ (HRX.out w1 hb31) (HRY.out w1 hb31) (by rw [hb1.cell (by show w.heap.size < _; omega)]; exact hc) (by rw [hb1.cell hlt]; exact hd)
    clear e1 hk h h' hzx hzy hn hm h2 hcap hcap' C HRX HRY
    go_enter Try.func32, Try.ntmps32
    go_wp2_with fail
    refine (CK.out _).mono ?_
    rintro e w' ⟨rfl, rfl⟩
    go_wp2_with (go_at_call 44; with_reducible refine (L.out _ ?_ ?_ ?_ ?_).mono ?_)
    · exact ((Below.refl _ _).alloc (Nat.le_refl _) _).alloc (by simp) _
    · simp
    · go_simp
    · go_simp
    rintro e w3 ⟨v', fs, rfl, hr, hl, hg, hb⟩
    have S := Lib.hid (sumF_any (xs := fs) (w := w3) hr.reads (by omega) (apO xs ys) (fun i hi => hg i (by omega)))
    rw [hl] at S
    have HB : Hid (Below w.heap.size w w3) := below_step (((Below.refl _ _).alloc (Nat.le_refl _) _).alloc (by simp) _) hb (by simp; omega)
    clear hr hl hg hb
    go_wp2_with fail
    refine S.out.mono ?_
    rintro e w4 ⟨r, rfl, hr, m, rfl⟩
    have HR := Lib.hid hr
    clear hr
    go_wp2
    go_ret2
    exact ⟨_, rfl, HR.out, below_draws HB.out m⟩
  · have e1 : apR xs ys = some 0 := if_neg hk
    rw [e1]
    obtain ⟨a, cap, rfl⟩ := hf
    obtain ⟨a', cap', rfl⟩ := hf'
    rw [flts_length] at *
    rw [flts_length] at *
    have CK := Lib.hid (fun w => checkPairA_any a a' xs.length ys.length cap cap' (hcap _ _ _ rfl) (hcap' _ _ _ rfl) w)
    obtain ⟨n, hn⟩ : ∃ n, xs.length = n := ⟨_, rfl⟩
    obtain ⟨m, hm⟩ : ∃ m, ys.length = m := ⟨_, rfl⟩
    rw [hn, hm] at CK hk ⊢
    obtain ⟨K, hK⟩ : ∃ K, apK n m = K := ⟨_, rfl⟩
    rw [hK] at CK hk ⊢
    clear e1 h h' hzx hzy hn hm hcap hcap' hK
    go_enter Try.func32, Try.ntmps32
    go_wp2_with fail
    refine (CK.out _).mono ?_
    rintro e w' ⟨rfl, rfl⟩
    go_wp2
    go_ret2
    exact ⟨0, rfl, IsF.lit (by decide) (by omega), ((Below.refl _ _).alloc (Nat.le_refl _) _).alloc (by simp) _⟩

set_option maxRecDepth 100000 in
set_option maxHeartbeats 8000000 in
theorem apart_spec (xs ys : List Nat) (hzx : ∀ z ∈ xs, z < 18446744073709551616) (hzy : ∀ z ∈ ys, z < 18446744073709551616) (v u : Value) (w : World) (h : Reads w v (flts xs)) (h' : Reads w u (flts ys)) :
    Calls Try.prog 31 #[v, u] w (FloatTo (apR xs ys) (apK xs.length ys.length) w) := by
  have hcap := fl_cap h
  have hcap' := fl_cap h'
  have hrd := fl_reads h
  have hrd' := fl_reads h'
  obtain ⟨a, cap, rfl⟩ := fl_form h
  obtain ⟨a', cap', rfl⟩ := fl_form h'
  rw [flts_length xs] at *
  rw [flts_length ys] at *
  replace hcap := hcap _ _ _ rfl
  replace hcap' := hcap' _ _ _ rfl
  replace hrd := hrd _ _ _ rfl
  replace hrd' := hrd' _ _ _ rfl
  have hX : ∀ i, i < xs.length → IsF (xs.getD i 0) (wO xs i) := fun i hi => wO_isF hzx hi
  have hY : ∀ i, i < ys.length → IsF (ys.getD i 0) (wO ys i) := fun i hi => wO_isF hzy hi
  have hR : apR xs ys = if apK xs.length ys.length = 0 then sumO (apO xs ys) xs.length else some 0 := rfl
  rw [hR]
  obtain ⟨n, hn⟩ : ∃ n, xs.length = n := ⟨_, rfl⟩
  obtain ⟨m, hm⟩ : ∃ m, ys.length = m := ⟨_, rfl⟩
  rw [hn] at hcap hrd hX
  rw [hm] at hcap' hrd' hY
  rw [hn, hm]
  clear h h' hzx hzy hR hn hm
  by_cases h1 : 256 < n
  · have e : apK n m = 3 := if_pos (.inl h1)
    rw [e, if_neg (by decide)]; clear e hrd hrd' hX hY
    go_enter Try.func31, Try.ntmps31
    go_wp2
    go_ret2
    exact ⟨0, rfl, IsF.lit (by decide) (by omega), Below.refl _ _⟩
  · by_cases h2 : 256 < m
    · have e : apK n m = 3 := if_pos (.inr h2)
      rw [e, if_neg (by decide)]; clear e hrd hrd' hX hY
      go_enter Try.func31, Try.ntmps31
      go_wp2
      go_ret2
      exact ⟨0, rfl, IsF.lit (by decide) (by omega), Below.refl _ _⟩
    · by_cases h3 : n = m
      · have e : apK n m = 0 := by unfold apK; rw [if_neg (by omega), if_neg (by omega)]
        rw [e, if_pos rfl]; clear e
        subst h3
        have HRD := Lib.hid hrd
        have HRD' := Lib.hid hrd'
        have HX := Lib.hid hX
        have HY := Lib.hid hY
        have HAP : Hid (∀ i, apO xs ys i = absO (fop .sub .f64 (wO xs i) (wO ys i))) := fun i => rfl
        clear hrd hrd' hX hY
        go_enter Try.func31, Try.ntmps31
        go_wp2
        go_loopw [6, 7] (fun s i wr => ∃ (k a q : Nat), i = .int .i64 k ∧ s = .float .f64 a ∧ k ≤ n ∧ IsF a (sumO (apO xs ys) k) ∧ wr = w.drewN q) (fun _ i _ => n - (intOf i).toNat)
        case atStart => exact ⟨0, 0, 0, rfl, rfl, Nat.zero_le _, IsF.lit (by decide) (by omega), rfl⟩
        case round =>
          obtain ⟨k, s, q, rfl, rfl, hk, hs, hw⟩ := hrel
          have HS := Lib.hid hs
          have HWR := Lib.hid hw
          clear hs hw
          by_cases hlt : k < n
          · obtain ⟨g, rfl, -, hc⟩ := HRD.out k hlt
            obtain ⟨g', rfl, -, hc'⟩ := HRD'.out k hlt
            have c1 : wr.cell? ⟨g, k, none⟩ = some (.float .f64 (xs.getD k 0)) := by rw [HWR.out]; exact hc
            have c2 : wr.cell? ⟨g', k, none⟩ = some (.float .f64 (ys.getD k 0)) := by rw [HWR.out]; exact hc'
            have hx := HX.out k hlt
            have hy := HY.out k hlt
            have hA : ∀ wf, IsF (fres .sub .f64 (xs.getD k 0) (ys.getD k 0) wf % 9223372036854775808) (apO xs ys k) := fun wf => by rw [HAP.out]; exact isF_abs (isF_fres hx hy wf)
            obtain ⟨x, hxx⟩ : ∃ x, xs.getD k 0 = x := ⟨_, rfl⟩
            obtain ⟨y, hyy⟩ : ∃ y, ys.getD k 0 = y := ⟨_, rfl⟩
            rw [hxx] at c1 hA
            rw [hyy] at c2 hA
            have HA := Lib.hid hA
            have hi3 : (k : Int) < (n : Int) := by omega
            clear hx hy hA hxx hyy hc hc'
            by_cases h0 : k = 0
            · have e0 : sumO (apO xs ys) (k + 1) = apO xs ys k := sumO_first _ h0
              have HN : Hid (∀ u, IsF u (apO xs ys k) → IsF u (sumO (apO xs ys) (k + 1))) := fun u hu => by rw [e0]; exact hu
              clear e0
              subst h0
              go_wp2
              go_still_tail 6, (by kernel_rfl)
              change wpList _ _ _ _ _ wr.drew
              go_wp2_with (go_at_call 61; refine (abs_any _ (fres_lt64 _ _ _ _) _).mono ?_; rintro e w' ⟨rfl, rfl⟩)
              go_roundw
              case rel => exact ⟨1, _, _, by go_num, rfl, by omega, HN.out _ (HA.out _), by rw [HWR.out, World.drewN_drewN]⟩
              case measure => simp [intOf]; omega
            · have e0 : sumO (apO xs ys) (k + 1) = fop .add .f64 (sumO (apO xs ys) k) (apO xs ys k) := sumO_succ _ h0
              have HN : Hid (∀ u, IsF u (fop .add .f64 (sumO (apO xs ys) k) (apO xs ys k)) → IsF u (sumO (apO xs ys) (k + 1))) := fun u hu => by rw [e0]; exact hu
              clear e0
              go_wp2
              go_region_law (go_simp; go_at_call 61; refine (abs_any _ (fres_lt64 _ _ _ _) _).mono ?_; rintro e w' ⟨rfl, rfl⟩)
              all_goals
                go_wp2
                go_roundw
                case rel => exact ⟨k + 1, _, _, by go_num, rfl, by omega, HN.out _ (isF_fres HS.out (HA.out _) _), by rw [HWR.out, World.drewN_drewN]⟩
                case measure => simp [intOf]; omega
          · have e : k = n := by omega
            subst e
            go_wp2
            go_ret2
            exact ⟨_, rfl, HS.out, by rw [HWR.out]; exact below_draws (Below.refl _ _) q⟩
      · have e : apK n m = 2 := by unfold apK; rw [if_neg (by omega), if_pos h3]
        rw [e, if_neg (by decide)]; clear e hrd hrd' hX hY
        have g3 : ((n : Int) == (m : Int)) = false := by simp; omega
        clear h3
        go_enter Try.func31, Try.ntmps31
        go_wp2
        go_ret2
        exact ⟨0, rfl, IsF.lit (by decide) (by omega), Below.refl _ _⟩

end Go.Proofs.Ytpobbicbfnglaaa
