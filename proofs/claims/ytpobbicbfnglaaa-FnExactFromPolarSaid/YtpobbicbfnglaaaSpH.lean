import Derived.Test.YtpobbicbfnglaaaSpA
import Derived.Laws.EntriesVeiled
import Derived.StillTailTactics
import Derived.Deep.RegionLaw
/-
  CentroidOf of both.
-/
set_option linter.unusedVariables false
set_option linter.unusedSimpArgs false
namespace Go.Proofs.Ytpobbicbfnglaaa
open Go.RowKit Flt Fast
attribute [local go_sem] run_fadd run_fsub run_fmul run_fquo run_cadd run_csub

/-- No number, or 0. -/
def zeroO : Option Nat → Bool
  | some x => FloatKind.f64.format.order x 0 == some .eq
  | none => true
theorem zeroO_cases {s : Nat} {z : Option Nat} (h : IsF s z) :
    (zeroO z = true ∧ (FloatKind.f64.format.order s 0 == some .eq) = true) ∨ (zeroO z = true ∧ FloatKind.f64.format.order s 0 = none ∧ FloatKind.f64.format.order s s = none ∧ nan FloatKind.f64.format s = true) ∨
      (zeroO z = false ∧ (FloatKind.f64.format.order s 0 == some .eq) = false ∧ FloatKind.f64.format.order s s = some .eq ∧ nan FloatKind.f64.format s = false) := by
  rcases isF_cases h with ⟨hn, rfl⟩ | ⟨hn, rfl⟩
  · exact .inr (.inl ⟨rfl, ordN_l hn, ordN_l hn, hn⟩)
  · cases ho : (FloatKind.f64.format.order s 0 == some .eq)
    · exact .inr (.inr ⟨ho, rfl, ord_eq hn hn rfl, hn⟩)
    · exact .inl ⟨ho, rfl⟩

/-- A place times its number. -/
def cenZ (xs : List Nat) (k : Nat) : Option Nat := fop .mul .f64 (some (floatOfInt .f64 (k : Int))) (wO xs k)
def cenK (xs : List Nat) : Int := if 256 < xs.length then 3 else if zeroO (sumO (wO xs) xs.length) = true then 4 else 0
def cenR (xs : List Nat) : Option Nat := if cenK xs = 0 then fop .quo .f64 (sumO (cenZ xs) xs.length) (sumO (wO xs) xs.length) else some 0

theorem enter_cen1 (args : Array Value) (w : World) : (callFunc 56 args).run Try.prog w = .ok (.enter 56 args) w := by kernel_rfl

set_option maxRecDepth 100000 in
set_option maxHeartbeats 4000000 in
theorem cen1_any (xs : List Nat) (n : Nat) (hx : xs.length = n) (hn : n ≤ 256) (hz : ∀ z ∈ xs, z < 18446744073709551616) (v : Value) (i b : Nat) (hi : i < n) (w : World) (h : Reads w v (flts xs)) (hb : w.cell? ⟨b, 0, none⟩ = some v) :
    Calls Try.prog 56 #[.int .i64 i, .pointer (some ⟨b, 0, none⟩)] w fun e w' => ∃ q, e = .returned (fval q) ∧ IsF q (cenZ xs i) ∧ Below w.heap.size w w' := by
  have hrd := fl_reads h
  obtain ⟨a, cap, rfl⟩ := fl_form h
  rw [flts_length, hx] at hrd hb
  obtain ⟨g, rfl, -, c1⟩ := hrd _ _ _ rfl i hi
  have hX := wO_isF hz (i := i) (by omega)
  have hA := fun wf => isF_fres (op := .mul) (IsF.ofInt (i : Int)) hX wf
  obtain ⟨x, hxx⟩ : ∃ x, xs.getD i 0 = x := ⟨_, rfl⟩
  rw [hxx] at c1 hA
  have hi3 : (i : Int) < (n : Int) := by omega
  have HA := Lib.hid hA
  clear h hrd hxx hX hA hz
  go_enter Try.func56, Try.ntmps56
  go_wp2
  go_ret
  exact ⟨_, rfl, HA.out _, below_draws (Below.refl _ _) _⟩

set_option maxRecDepth 100000 in
set_option maxHeartbeats 4000000 in
theorem cen_impl (xs : List Nat) (hz : ∀ z ∈ xs, z < 18446744073709551616) (v : Value) (w : World) (h : Reads w v (flts xs)) :
    Calls Try.prog 28 #[v] w (FloatTo (cenR xs) (cenK xs) w) := by
  have hcap := fl_cap h
  have hW : ∀ i, i < xs.length → IsF (xs.getD i 0) (wO xs i) := fun i hi => wO_isF hz hi
  by_cases hb : 256 < xs.length
  · have e2 : cenK xs = 3 := if_pos hb
    have e1 : cenR xs = some 0 := by unfold cenR; rw [e2]; rfl
    rw [e1, e2]
    obtain ⟨a, cap, rfl⟩ := fl_form h
    rw [flts_length] at *
    replace hcap := hcap _ _ _ rfl
    obtain ⟨n, hn⟩ : ∃ n, xs.length = n := ⟨_, rfl⟩
    rw [hn] at hcap hb ⊢
    clear e1 e2 h hW hn hz
    go_enter Try.func28, Try.ntmps28
    go_wp2
    go_ret2
    exact ⟨0, rfl, IsF.lit (by decide) (by omega), (Below.refl _ _).alloc (Nat.le_refl _) _⟩
  · have SX := Lib.hid (fun w1 (hb : Below w.heap.size w w1) => sumF_any (xs := xs) (w := w1) (h.below hb) (by omega) (wO xs) hW)
    have hK : cenK xs = if zeroO (sumO (wO xs) xs.length) = true then 4 else 0 := if_neg hb
    have hR : cenR xs = if cenK xs = 0 then fop .quo .f64 (sumO (cenZ xs) xs.length) (sumO (wO xs) xs.length) else some 0 := rfl
    have HRX := Lib.hid (fun w1 (hb : Below w.heap.size w w1) => h.below hb)
    obtain ⟨a, cap, rfl⟩ := fl_form h
    rw [flts_length] at *
    replace hcap := hcap _ _ _ rfl
    obtain ⟨n, hn⟩ : ∃ n, xs.length = n := ⟨_, rfl⟩
    have hn2 : n ≤ 256 := by omega
    rw [hn] at SX hcap HRX hK hR hb ⊢
    have C := Lib.hid (fun (i : Nat) (hi : i < n) (w1 : World) (b : Nat) (hx1 : Reads w1 (.slice a n cap) (flts xs)) => cen1_any xs n hn hn2 hz (.slice a n cap) i b hi w1 hx1)
    obtain ⟨s, hs⟩ : ∃ s, sumO (wO xs) n = s := ⟨_, rfl⟩
    rw [hs] at SX hK hR
    rw [hR, hK]
    clear h hz hW hn hs hR hK
    have SX0 := Lib.hid (fun w1 hb => (SX.out w1 hb))
    have hb0 := (Below.refl w.heap.size w).alloc (Nat.le_refl _) (.cells #[.slice a n cap] 22)
    have S0 := Lib.hid (SX.out _ hb0)
    cases hz0 : zeroO s
    · rw [show (if false = true then (4 : Int) else 0) = 0 from rfl, if_pos rfl]
      have HZ0 := Lib.hid hz0
      clear hz0
      go_enter Try.func28, Try.ntmps28
      go_wp2_with fail
      refine S0.out.mono ?_
      rintro e w2 ⟨r, rfl, hr, m, rfl⟩
      have HR := Lib.hid hr
      obtain ⟨k2, k3⟩ : (FloatKind.f64.format.order r 0 == some .eq) = false ∧ FloatKind.f64.format.order r r = some .eq := by
        rcases zeroO_cases hr with ⟨k1, k2⟩ | ⟨k1, k2, k3, k4⟩ | ⟨k1, k2, k3, k4⟩
        · rw [HZ0.out] at k1; cases k1
        · rw [HZ0.out] at k1; cases k1
        · exact ⟨k2, k3⟩
      clear hr hb0 S0 SX0
      have L : Hid (∀ w3 : World, Below w.heap.size w w3 → w.heap.size < w3.heap.size → w3.cell? ⟨w.heap.size, 0, none⟩ = some (.slice a n cap) →
          Calls Try.prog 44 #[.int .i64 n, .func (.func 56) #[] #[.pointer (some ⟨w.heap.size, 0, none⟩)]] w3 fun e w' =>
          ∃ v xs', e = .returned v ∧ Row w' w3.heap.size 29 v (flts xs') ∧ xs'.length = n ∧ (∀ i, i < n → IsF (xs'.getD i 0) (cenZ xs i)) ∧ Below w3.heap.size w3 w') := by
        refine Lib.hid fun w3 hb3 hlt hc => listOf_f64' 56 _ n (by omega) (cenZ xs) w3 enter_cen1 fun i w1 hi hb1 => ?_
        exact C.out i hi w1 _ (HRX.out w1 (below_step hb3 hb1 hb3.size)) (by rw [hb1.cell hlt]; exact hc)
      clear C HRX SX
      go_wp2_with (first | (go_at_call 55; go_in) | (go_at_call 44; with_reducible refine (L.out _ ?_ ?_ ?_).mono ?_))
      · exact below_draws ((Below.refl _ _).alloc (Nat.le_refl _) _) _
      · simp
      · go_simp
      rintro e w3 ⟨v', fs, rfl, hr, hl, hg, hb⟩
      have S := Lib.hid (sumF_any (xs := fs) (w := w3) hr.reads (by omega) (cenZ xs) (fun i hi => hg i (by omega)))
      rw [hl] at S
      have HB : Hid (Below w.heap.size w w3) := below_step (below_draws ((Below.refl _ _).alloc (Nat.le_refl _) _) _) hb (by simp)
      clear hr hl hg hb
      go_wp2_with fail
      refine S.out.mono ?_
      rintro e w4 ⟨r2, rfl, hr2, m2, rfl⟩
      have HR2 := Lib.hid hr2
      clear hr2
      go_wp2
      go_ret2
      exact ⟨_, rfl, isF_fres HR2.out HR.out _, below_draws HB.out _⟩
    · rw [show (if true = true then (4 : Int) else 0) = 4 from rfl, if_neg (by decide)]
      have HZ0 := Lib.hid hz0
      clear hz0
      go_enter Try.func28, Try.ntmps28
      go_wp2_with fail
      refine S0.out.mono ?_
      rintro e w2 ⟨r, rfl, hr, m, rfl⟩
      rcases zeroO_cases hr with ⟨k1, k2⟩ | ⟨k1, k2, k3, k4⟩ | ⟨k1, k2, k3, k4⟩
      · clear k1
        go_wp2
        go_ret2
        exact ⟨0, rfl, IsF.lit (by decide) (by omega), below_draws ((Below.refl _ _).alloc (Nat.le_refl _) _) _⟩
      · clear k1 k4
        go_wp2_with (go_at_call 55; go_in)
        go_ret2
        exact ⟨0, rfl, IsF.lit (by decide) (by omega), below_draws ((Below.refl _ _).alloc (Nat.le_refl _) _) _⟩
      · rw [HZ0.out] at k1; cases k1

theorem float0 : floatOfInt .f64 ((0 : Nat) : Int) = 0 := by decide

set_option maxRecDepth 100000 in
set_option maxHeartbeats 4000000 in
theorem cen_spec (xs : List Nat) (hz : ∀ z ∈ xs, z < 18446744073709551616) (v : Value) (w : World) (h : Reads w v (flts xs)) :
    Calls Try.prog 27 #[v] w (FloatTo (cenR xs) (cenK xs) w) := by
  have hcap := fl_cap h
  have hrd := fl_reads h
  have hW : ∀ i, i < xs.length → IsF (xs.getD i 0) (wO xs i) := fun i hi => wO_isF hz hi
  have hR : cenR xs = if cenK xs = 0 then fop .quo .f64 (sumO (cenZ xs) xs.length) (sumO (wO xs) xs.length) else some 0 := rfl
  have hCZ : ∀ k, cenZ xs k = fop .mul .f64 (some (floatOfInt .f64 (k : Int))) (wO xs k) := fun k => rfl
  obtain ⟨a, cap, rfl⟩ := fl_form h
  rw [flts_length] at *
  replace hcap := hcap _ _ _ rfl
  replace hrd := hrd _ _ _ rfl
  by_cases hb : 256 < xs.length
  · have e2 : cenK xs = 3 := if_pos hb
    rw [hR, e2, if_neg (by decide)]
    obtain ⟨n, hn⟩ : ∃ n, xs.length = n := ⟨_, rfl⟩
    rw [hn] at hcap hb ⊢
    clear e2 h hW hn hz hrd hR hCZ
    go_enter Try.func27, Try.ntmps27
    go_wp2
    go_ret2
    exact ⟨0, rfl, IsF.lit (by decide) (by omega), Below.refl _ _⟩
  · have hK : cenK xs = if zeroO (sumO (wO xs) xs.length) = true then 4 else 0 := if_neg hb
    by_cases hn0 : xs.length = 0
    · have e2 : cenK xs = 4 := by rw [hK, hn0]; rfl
      rw [hR, e2, if_neg (by decide), hn0]
      clear e2 h hW hz hrd hR hCZ hK hb hcap
      go_enter Try.func27, Try.ntmps27
      go_wp2
      go_ret2
      exact ⟨0, rfl, IsF.lit (by decide) (by omega), Below.refl _ _⟩
    · obtain ⟨n, hn⟩ : ∃ n, xs.length = n := ⟨_, rfl⟩
      rw [hn] at hcap hb hrd hW hR hK hn0 ⊢
      obtain ⟨s, hs⟩ : ∃ s, sumO (wO xs) n = s := ⟨_, rfl⟩
      rw [hs] at hR hK
      have HSN : Hid (sumO (wO xs) n = s) := hs
      have HRD := Lib.hid hrd
      have HW := Lib.hid hW
      have HCZ := Lib.hid hCZ
      have hne : ((n : Int) == 0) = false := by simp; omega
      have hpos : 0 < n := by omega
      rw [hR, hK]
      clear h hz hn hR hCZ hrd hW hs hK hn0
      obtain ⟨g, rfl, -, c0⟩ := HRD.out 0 hpos
      have hx0 := HW.out 0 hpos
      have hm0 := fun wf => isF_fres (op := .mul) (IsF.lit (u := 0) (by decide) (by omega)) hx0 wf
      obtain ⟨x0, hxx⟩ : ∃ x, xs.getD 0 0 = x := ⟨_, rfl⟩
      rw [hxx] at c0 hx0 hm0
      have HX0 : Hid (IsF x0 (sumO (wO xs) 1)) := hx0
      have HM0 : Hid (∀ wf, IsF (fres .mul .f64 0 x0 wf) (sumO (cenZ xs) 1)) := fun wf => by
        have e : sumO (cenZ xs) 1 = fop .mul .f64 (some 0) (wO xs 0) := by rw [sumO_one, HCZ.out 0, float0]
        rw [e]; exact hm0 wf
      clear hxx hx0 hm0
      cases hz0 : zeroO s
      all_goals
        first
          | rw [show (if false = true then (4 : Int) else 0) = 0 from rfl, if_pos rfl]
          | rw [show (if true = true then (4 : Int) else 0) = 4 from rfl, if_neg (by decide)]
        have HZ0 := Lib.hid hz0
        clear hz0
        go_enter Try.func27, Try.ntmps27
        go_wp2
        go_loopw [4, 5, 6] (fun p s i wr => ∃ (k a b m : Nat), i = .int .i64 k ∧ p = .float .f64 a ∧ s = .float .f64 b ∧ 0 < k ∧ k ≤ n ∧ IsF a (sumO (cenZ xs) k) ∧ IsF b (sumO (wO xs) k) ∧ wr = w.drewN m) (fun _ _ i _ => n - (intOf i).toNat)
        case atStart => exact ⟨1, _, x0, _, rfl, rfl, rfl, by omega, by omega, HM0.out _, HX0.out, rfl⟩
        case round =>
          obtain ⟨k, p, b, m, rfl, rfl, rfl, hk0, hk, hp, hs, hw⟩ := hrel
          have HP := Lib.hid hp
          have HS := Lib.hid hs
          have HWR := Lib.hid hw
          clear hw
          by_cases hlt : k < n
          · obtain ⟨g', e', -, hc⟩ := HRD.out k hlt
            simp only [Option.some.injEq, Addr.mk.injEq, and_true] at e'
            subst e'
            have c1 : wr.cell? ⟨g, k, none⟩ = some (.float .f64 (xs.getD k 0)) := by rw [HWR.out]; exact hc
            have hx := HW.out k hlt
            obtain ⟨x, hxx⟩ : ∃ x, xs.getD k 0 = x := ⟨_, rfl⟩
            rw [hxx] at c1 hx
            have HX := Lib.hid hx
            have e1 : sumO (cenZ xs) (k + 1) = fop .add .f64 (sumO (cenZ xs) k) (cenZ xs k) := sumO_succ _ (by omega)
            have e2 : sumO (wO xs) (k + 1) = fop .add .f64 (sumO (wO xs) k) (wO xs k) := sumO_succ _ (by omega)
            have HN1 : Hid (∀ u, IsF u (fop .add .f64 (sumO (cenZ xs) k) (fop .mul .f64 (some (floatOfInt .f64 (k : Int))) (wO xs k))) → IsF u (sumO (cenZ xs) (k + 1))) := fun u hu => by rw [e1, HCZ.out]; exact hu
            have HN2 : Hid (∀ u, IsF u (fop .add .f64 (sumO (wO xs) k) (wO xs k)) → IsF u (sumO (wO xs) (k + 1))) := fun u hu => by rw [e2]; exact hu
            clear e1 e2 hx hxx hc hp hs
            go_wp2
            go_roundw
            case rel => exact ⟨k + 1, _, _, _, by go_num, rfl, rfl, by omega, by omega, HN1.out _ (isF_fres HP.out (isF_fres (IsF.ofInt _) HX.out _) _), HN2.out _ (isF_fres HS.out HX.out _), by rw [HWR.out, World.drewN_drewN]⟩
            case measure => simp [intOf]; omega
          · have e : k = n := by omega
            have hb' : IsF b s := by rw [← HSN.out, ← e]; exact hs
            have HPN : Hid (IsF p (sumO (cenZ xs) n)) := by rw [← e]; exact hp
            have HB' := Lib.hid hb'
            rcases zeroO_cases hb' with ⟨k1, k2⟩ | ⟨k1, k2, k3, k4⟩ | ⟨k1, k2, k3, k4⟩
            all_goals first
              | (exfalso; rw [HZ0.out] at k1; cases k1; done)
              | (clear k1 hp hs hb' e
                 try clear k4
                 go_wp2_with (go_at_call 54; go_in)
                 go_ret2
                 first
                   | exact ⟨0, rfl, IsF.lit (by decide) (by omega), by rw [HWR.out]; exact below_draws (Below.refl _ _) _⟩
                   | exact ⟨_, rfl, isF_fres HPN.out HB'.out _, by rw [HWR.out]; (try rw [World.drewN_drewN]); exact below_draws (Below.refl _ _) _⟩)

end Go.Proofs.Ytpobbicbfnglaaa
