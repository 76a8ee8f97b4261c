/-
  Several texts of this claim, one behind the other; each says what it holds.
-/
import Derived.Test.YtnigbjjllolgdaaMPeaks6
/-
  PeakBetween of both.
-/
set_option linter.unusedVariables false
set_option linter.unusedSimpArgs false
namespace Go.Proofs.Ytnigbjjllolgdaa
open Go.RowKit Flt Fast
attribute [local go_sem] run_fadd run_fsub run_fmul run_fquo run_cadd run_csub

def ringK (n : Nat) : Int := if 256 < n then 3 else if n < 3 then 2 else 0
theorem ringK_zero {n : Nat} (h : ringK n = 0) : 3 ≤ n ∧ n ≤ 256 := by
  unfold ringK at h
  split at h
  · omega
  · split at h <;> omega

theorem hills_impl (a : Option Addr) (n cap : Nat) (hm : (n : Int) ≤ 9223372036854775807) (w : World) :
    Calls Try.prog 36 #[.slice a n cap] w fun e w' => e = .returned (.int .i64 (ringK n)) ∧ w' = w := by
  by_cases h1 : 256 < n
  · rw [show ringK n = 3 from if_pos h1]
    go_enter Try.func36, Try.ntmps36
    go_wp2
    go_ret
    exact ⟨rfl, rfl⟩
  · by_cases h2 : n < 3
    · rw [show ringK n = 2 by unfold ringK; rw [if_neg h1, if_pos h2]]
      go_enter Try.func36, Try.ntmps36
      go_wp2
      go_ret
      exact ⟨rfl, rfl⟩
    · rw [show ringK n = 0 by unfold ringK; rw [if_neg h1, if_neg h2]]
      go_enter Try.func36, Try.ntmps36
      go_wp2
      go_ret
      exact ⟨rfl, rfl⟩

theorem hills_spec (a : Option Addr) (n cap : Nat) (hm : (n : Int) ≤ 9223372036854775807) (w : World) :
    Calls Try.prog 39 #[.slice a n cap] w fun e w' => e = .returned (.int .i64 (ringK n)) ∧ w' = w := by
  by_cases h1 : 256 < n
  · rw [show ringK n = 3 from if_pos h1]
    go_enter Try.func39, Try.ntmps39
    go_wp2
    go_ret
    exact ⟨rfl, rfl⟩
  · by_cases h2 : n < 3
    · rw [show ringK n = 2 by unfold ringK; rw [if_neg h1, if_pos h2]]
      go_enter Try.func39, Try.ntmps39
      go_wp2
      go_ret
      exact ⟨rfl, rfl⟩
    · rw [show ringK n = 0 by unfold ringK; rw [if_neg h1, if_neg h2]]
      go_enter Try.func39, Try.ntmps39
      go_wp2
      go_ret
      exact ⟨rfl, rfl⟩

/-- Two floats and a code are returned. -/
def Float2To (r s : Option Nat) (c : Int) (w : World) (e : Ending) (w' : World) : Prop :=
  ∃ a b, e = .returned (.tuple #[.float .f64 a, .float .f64 b, .int .i64 c]) ∧ IsF a r ∧ IsF b s ∧ Below w.heap.size w w'

def pbIn (xs : List Nat) (k : Int) : Prop := ringK xs.length = 0 ∧ 0 ≤ k ∧ k < (xs.length : Int)
instance (xs : List Nat) (k : Int) : Decidable (pbIn xs k) := by unfold pbIn; infer_instance
/-- The offset and the value at a place. -/
def hillO (xs : List Nat) (k : Nat) : Option Nat := offO (wO xs (prv xs.length k)) (wO xs k) (wO xs (nxt xs.length k))
def hillV (xs : List Nat) (k : Nat) : Option Nat := topO (wO xs (prv xs.length k)) (wO xs k) (wO xs (nxt xs.length k))
def pbK (xs : List Nat) (k : Int) : Int := if ringK xs.length = 0 then (if 0 ≤ k ∧ k < (xs.length : Int) then (if inUnit (hillO xs k.toNat) = true then 0 else 4) else 2) else ringK xs.length
def pbO (xs : List Nat) (k : Int) : Option Nat := if pbK xs k = 0 then hillO xs k.toNat else some 0
def pbV (xs : List Nat) (k : Int) : Option Nat := if pbK xs k = 0 then hillV xs k.toNat else some 0

set_option maxRecDepth 100000 in
set_option maxHeartbeats 4000000 in
theorem between_impl (xs : List Nat) (hz : ∀ z ∈ xs, z < 18446744073709551616) (k : Int) (v : Value) (w : World) (h : Reads w v (flts xs)) :
    Calls Try.prog 19 #[v, .int .i64 k] w (Float2To (pbO xs k) (pbV xs k) (pbK xs k) w) := by
  have hcap := fl_cap h
  have hf := fl_form h
  have hO : pbO xs k = if pbK xs k = 0 then hillO xs k.toNat else some 0 := rfl
  have hV : pbV xs k = if pbK xs k = 0 then hillV xs k.toNat else some 0 := rfl
  have hK : pbK xs k = if ringK xs.length = 0 then (if 0 ≤ k ∧ k < (xs.length : Int) then (if inUnit (hillO xs k.toNat) = true then 0 else 4) else 2) else ringK xs.length := rfl
  rw [hO, hV]
  have CK := Lib.hid (fun (a : Option Addr) (cap : Nat) (w : World) (hm : (xs.length : Int) ≤ 9223372036854775807) => hills_impl a xs.length cap hm w)
  by_cases hr : ringK xs.length = 0
  · obtain ⟨n3, n256⟩ := ringK_zero hr
    rw [hr] at CK hK
    rw [if_pos rfl] at hK
    by_cases hin : 0 ≤ k ∧ k < (xs.length : Int)
    · rw [if_pos hin] at hK
      obtain ⟨j, rfl⟩ : ∃ j : Nat, k = j := ⟨k.toNat, by omega⟩
      rw [show ((j : Int)).toNat = j from rfl] at *
      have hj : j < xs.length := by omega
      have H := Lib.hid (fun (w1 : World) (hb : Below w.heap.size w w1) => hillAt_any xs xs.length rfl n256 j hj v w1 (h.below hb))
      have T := Lib.hid (fun w => top_any (xs.getD (prv xs.length j) 0) (xs.getD j 0) (xs.getD (nxt xs.length j) 0) _ _ _ (wO_isF hz (prv_lt hj)) (wO_isF hz hj) (wO_isF hz (nxt_lt hj)) w)
      have eO : hillO xs j = offO (wO xs (prv xs.length j)) (wO xs j) (wO xs (nxt xs.length j)) := rfl
      have eV : hillV xs j = topO (wO xs (prv xs.length j)) (wO xs j) (wO xs (nxt xs.length j)) := rfl
      rw [← eO, ← eV] at T
      obtain ⟨a, cap, rfl⟩ := hf
      rw [flts_length] at *
      replace CK := Lib.hid (fun w => CK.out a cap w (hcap _ _ _ rfl))
      obtain ⟨n, hn⟩ : ∃ n, xs.length = n := ⟨_, rfl⟩
      rw [hn] at CK H T hj n256
      rw [hn]
      have g1 : decide ((j : Int) < 0) = false := by simp
      have g2 : decide ((n : Int) ≤ (j : Int)) = false := by simp; omega
      obtain ⟨x, hxx⟩ : ∃ x, xs.getD (prv n j) 0 = x := ⟨_, rfl⟩
      obtain ⟨y, hyy⟩ : ∃ x, xs.getD j 0 = x := ⟨_, rfl⟩
      obtain ⟨z, hzz⟩ : ∃ x, xs.getD (nxt n j) 0 = x := ⟨_, rfl⟩
      rw [hxx, hyy, hzz] at H T
      obtain ⟨u, hu⟩ : ∃ u, inUnit (hillO xs j) = u := ⟨_, rfl⟩
      rw [hu] at T hK
      rw [hK]
      have hmax : (n : Int) ≤ 9223372036854775807 := by omega
      clear h hz hO hV hK hr hin hxx hyy hzz hn hcap hu eO eV
      cases u
      · rw [show (if false = true then (0 : Int) else 4) = 4 from rfl, if_neg (by decide), if_neg (by decide)]
        go_enter Try.func19, Try.ntmps19
        go_wp2_with fail
        refine (CK.out _).mono ?_
        rintro e w' ⟨rfl, rfl⟩
        go_wp2_with fail
        refine (H.out _ (Below.refl _ _)).mono ?_
        rintro e w2 ⟨rfl, hb2⟩
        have HB2 := Lib.hid hb2
        clear hb2
        go_wp2_with fail
        refine (T.out _).mono ?_
        rintro e w3 ⟨o, t, rfl, ho, ht, hb3⟩
        have HB3 := Lib.hid (below_step HB2.out hb3 HB2.out.size)
        clear ho ht hb3
        go_wp2
        go_ret3
        exact ⟨0, 0, rfl, IsF.lit (by decide) (by omega), IsF.lit (by decide) (by omega), HB3.out⟩
      · rw [show (if true = true then (0 : Int) else 4) = 0 from rfl, if_pos rfl, if_pos rfl]
        go_enter Try.func19, Try.ntmps19
        go_wp2_with fail
        refine (CK.out _).mono ?_
        rintro e w' ⟨rfl, rfl⟩
        go_wp2_with fail
        refine (H.out _ (Below.refl _ _)).mono ?_
        rintro e w2 ⟨rfl, hb2⟩
        have HB2 := Lib.hid hb2
        clear hb2
        go_wp2_with fail
        refine (T.out _).mono ?_
        rintro e w3 ⟨o, t, rfl, ho, ht, hb3⟩
        have HB3 := Lib.hid (below_step HB2.out hb3 HB2.out.size)
        have HO := Lib.hid ho
        have HT := Lib.hid ht
        clear ho ht hb3
        go_wp2
        go_ret3
        exact ⟨o, t, rfl, HO.out, HT.out, HB3.out⟩
    · rw [if_neg hin] at hK
      rw [hK, if_neg (by decide), if_neg (by decide)]
      obtain ⟨a, cap, rfl⟩ := hf
      rw [flts_length] at *
      replace CK := Lib.hid (fun w => CK.out a cap w (hcap _ _ _ rfl))
      obtain ⟨n, hn⟩ : ∃ n, xs.length = n := ⟨_, rfl⟩
      rw [hn] at CK hin n256
      rw [hn]
      have hmax : (n : Int) ≤ 9223372036854775807 := by omega
      clear h hz hO hV hK hr hn hcap
      by_cases k0 : k < 0
      · have g1 : decide (k < 0) = true := by simp [k0]
        go_enter Try.func19, Try.ntmps19
        go_wp2_with fail
        refine (CK.out _).mono ?_
        rintro e w' ⟨rfl, rfl⟩
        go_wp2
        go_ret3
        exact ⟨0, 0, rfl, IsF.lit (by decide) (by omega), IsF.lit (by decide) (by omega), Below.refl _ _⟩
      · have g1 : decide (k < 0) = false := by simp; omega
        have g2 : decide ((n : Int) ≤ k) = true := by simp; omega
        have g3 : (n : Int) ≤ k := by omega
        clear hin
        go_enter Try.func19, Try.ntmps19
        go_wp2_with fail
        refine (CK.out _).mono ?_
        rintro e w' ⟨rfl, rfl⟩
        go_wp2
        go_ret3
        exact ⟨0, 0, rfl, IsF.lit (by decide) (by omega), IsF.lit (by decide) (by omega), Below.refl _ _⟩
  · rw [if_neg hr] at hK
    rw [hK, if_neg hr, if_neg hr]
    obtain ⟨a, cap, rfl⟩ := hf
    rw [flts_length] at *
    replace CK := Lib.hid (fun w => CK.out a cap w (hcap _ _ _ rfl))
    obtain ⟨n, hn⟩ : ∃ n, xs.length = n := ⟨_, rfl⟩
    rw [hn] at CK hr ⊢
    obtain ⟨K, hKK⟩ : ∃ K, ringK n = K := ⟨_, rfl⟩
    rw [hKK] at CK hr ⊢
    clear h hz hO hV hK hn hcap hKK
    go_enter Try.func19, Try.ntmps19
    go_wp2_with fail
    refine (CK.out _).mono ?_
    rintro e w' ⟨rfl, rfl⟩
    go_wp2
    go_ret3
    exact ⟨0, 0, rfl, IsF.lit (by decide) (by omega), IsF.lit (by decide) (by omega), Below.refl _ _⟩

/-- Is it 0; at least -1; at most 1. -/
def eqzO : Option Nat → Bool
  | some x => FloatKind.f64.format.order x 0 == some .eq
  | none => false
def geO1 : Option Nat → Bool
  | some x => FloatKind.f64.format.order x 13830554455654793216 == some .gt || FloatKind.f64.format.order x 13830554455654793216 == some .eq
  | none => false
def leO1 : Option Nat → Bool
  | some x => FloatKind.f64.format.order x 4607182418800017408 == some .lt || FloatKind.f64.format.order x 4607182418800017408 == some .eq
  | none => false
theorem eqz_isF {a : Nat} {z : Option Nat} (h : IsF a z) : (FloatKind.f64.format.order a 0 == some .eq) = eqzO z := by
  rcases isF_cases h with ⟨hn, rfl⟩ | ⟨hn, rfl⟩
  · rw [ordN_l hn]; rfl
  · rfl
theorem ge1_isF {a : Nat} {z : Option Nat} (h : IsF a z) : (FloatKind.f64.format.order a 13830554455654793216 == some .gt || FloatKind.f64.format.order a 13830554455654793216 == some .eq) = geO1 z := by
  rcases isF_cases h with ⟨hn, rfl⟩ | ⟨hn, rfl⟩
  · rw [ordN_l hn]; rfl
  · rfl
theorem le1_isF {a : Nat} {z : Option Nat} (h : IsF a z) : (FloatKind.f64.format.order a 4607182418800017408 == some .lt || FloatKind.f64.format.order a 4607182418800017408 == some .eq) = leO1 z := by
  rcases isF_cases h with ⟨hn, rfl⟩ | ⟨hn, rfl⟩
  · rw [ordN_l hn]; rfl
  · rfl
theorem unit_parts {a : Nat} {z : Option Nat} (h : IsF a z) : inUnit z = (geO1 z && leO1 z) := by
  rw [← unit_both h, ge1_isF h, le1_isF h]
theorem unit_eqz {d : Nat} {q z : Option Nat} (h : IsF d z) (hz : eqzO z = true) : inUnit (fop .quo .f64 q z) = false := by
  rcases isF_cases h with ⟨hn, rfl⟩ | ⟨hn, rfl⟩
  · cases hz
  · exact unit_zero h.lt hz

end Go.Proofs.Ytnigbjjllolgdaa
/-
  PeaksOf of both.
-/
set_option linter.unusedVariables false
set_option linter.unusedSimpArgs false
namespace Go.Proofs.Ytnigbjjllolgdaa
open Go.RowKit Flt Fast

/-- At least. -/
def geO : Option Nat → Option Nat → Bool
  | some x, some y => FloatKind.f64.format.order x y == some .gt || FloatKind.f64.format.order x y == some .eq
  | _, _ => false
theorem ge_isF {a b : Nat} {x y : Option Nat} (ha : IsF a x) (hb : IsF b y) : (FloatKind.f64.format.order a b == some .gt || FloatKind.f64.format.order a b == some .eq) = geO x y := by
  rcases isF_cases ha with ⟨h, rfl⟩ | ⟨h, rfl⟩
  · rw [ordN_l h]; rfl
  · rcases isF_cases hb with ⟨k, rfl⟩ | ⟨k, rfl⟩
    · rw [ordN_r k]; rfl
    · rfl

/-- A place that is greater than both neighbours; and at least the floor. -/
def hiB (xs : List Nat) (k : Nat) : Bool := gtO (wO xs k) (wO xs (prv xs.length k)) && gtO (wO xs k) (wO xs (nxt xs.length k))
def pkB (xs : List Nat) (f : Option Nat) (k : Nat) : Bool := hiB xs k && geO (wO xs k) f
/-- The peaks ahead of the place k. -/
def pks (xs : List Nat) (f : Option Nat) : Nat → List Int
  | 0 => []
  | k + 1 => if pkB xs f k = true then pks xs f k ++ [(k : Int)] else pks xs f k
theorem pks_len (xs : List Nat) (f : Option Nat) (k : Nat) : (pks xs f k).length ≤ k := by
  induction k with
  | zero => exact Nat.le_refl _
  | succ k ih =>
    unfold pks
    split
    · simp; omega
    · omega
theorem info_i64P : (Try.prog.info? 2).map (fun i => (i.zero, i.size, i.bytes)) = some (some (.int .i64 0), 1, 8) := by kernel_rfl
theorem ints_snoc (zs : List Int) (a : Int) : ints (zs ++ [a]) = ints zs ++ [.int .i64 a] := by simp [ints]
/-- What PeaksOf answers. -/
def pksR (xs : List Nat) (f : Option Nat) : List Int := if ringK xs.length = 0 then pks xs f xs.length else []
def IntsTo (zs : List Int) (c : Int) (w : World) (e : Ending) (w' : World) : Prop :=
  ∃ v, e = .returned (.tuple #[v, .int .i64 c]) ∧ Row w' w.heap.size 2 v (ints zs) ∧ Below w.heap.size w w'

set_option maxRecDepth 100000 in
theorem isPeak_any (a b c : Nat) (x y z : Option Nat) (ha : IsF a x) (hb : IsF b y) (hc : IsF c z) (w : World) :
    Calls Try.prog 38 #[.agg #[.float .f64 a, .float .f64 b, .float .f64 c]] w fun e w' => e = .returned (.bool (gtO y x && gtO y z)) ∧ Below w.heap.size w w' := by
  have g1 := gt_isF hb ha
  have g2 := gt_isF hb hc
  generalize gtO y x = b1 at *
  generalize gtO y z = b2 at *
  clear ha hb hc
  cases b1 <;> cases b2
  all_goals
    go_enter Try.func38, Try.ntmps38
    go_wp2
    go_ret
    exact ⟨rfl, (Below.refl _ _).alloc (Nat.le_refl _) _⟩

set_option maxRecDepth 100000 in
set_option maxHeartbeats 4000000 in
theorem peaks_impl (xs : List Nat) (hz : ∀ z ∈ xs, z < 18446744073709551616) (fl : Nat) (f : Option Nat) (hfl : IsF fl f) (v : Value) (w : World) (h : Reads w v (flts xs)) :
    Calls Try.prog 17 #[v, .float .f64 fl] w (IntsTo (pksR xs f) (ringK xs.length) w) := by
  have hcap := fl_cap h
  have hfo := fl_form h
  have hR : pksR xs f = if ringK xs.length = 0 then pks xs f xs.length else [] := rfl
  have CK := Lib.hid (fun (a : Option Addr) (cap : Nat) (w : World) (hm : (xs.length : Int) ≤ 9223372036854775807) => hills_impl a xs.length cap hm w)
  by_cases hr : ringK xs.length = 0
  · obtain ⟨n3, n256⟩ := ringK_zero hr
    obtain ⟨i0, hi, hz0, hz1, hz2⟩ := info_parts info_i64P
    rw [hR, hr, if_pos rfl]
    rw [hr] at CK
    have hrd := fl_reads h
    have H := Lib.hid (fun (w1 : World) (hb : Below w.heap.size w w1) (j : Nat) (hj : j < xs.length) => hillAt_any xs xs.length rfl n256 j hj v w1 (h.below hb))
    have P := Lib.hid (fun (j : Nat) (hj : j < xs.length) (w : World) => isPeak_any (xs.getD (prv xs.length j) 0) (xs.getD j 0) (xs.getD (nxt xs.length j) 0) _ _ _ (wO_isF hz (prv_lt hj)) (wO_isF hz hj) (wO_isF hz (nxt_lt hj)) w)
    have G := Lib.hid (fun (j : Nat) (hj : j < xs.length) => ge_isF (wO_isF hz hj) hfl)
    have HPS : Hid (∀ j, pks xs f (j + 1) = if (hiB xs j && geO (wO xs j) f) = true then pks xs f j ++ [(j : Int)] else pks xs f j) := fun j => rfl
    have HPL := Lib.hid (fun j => pks_len xs f j)
    have HHI : Hid (∀ j, hiB xs j = (gtO (wO xs j) (wO xs (prv xs.length j)) && gtO (wO xs j) (wO xs (nxt xs.length j)))) := fun j => rfl
    obtain ⟨a, cap, rfl⟩ := hfo
    rw [flts_length] at *
    replace CK := Lib.hid (fun w => CK.out a cap w (hcap _ _ _ rfl))
    replace hrd := hrd _ _ _ rfl
    obtain ⟨n, hn⟩ : ∃ n, xs.length = n := ⟨_, rfl⟩
    rw [hn] at CK H P G HHI hrd n256 n3 ⊢
    have HRD := Lib.hid hrd
    have hmax : (n : Int) ≤ 9223372036854775807 := by omega
    clear h hz hR hr hn hcap hrd hfl
    go_enter Try.func17, Try.ntmps17
    go_wp2_with fail
    refine (CK.out _).mono ?_
    rintro e w' ⟨rfl, rfl⟩
    go_wp2
    go_loopw [7, 16] (fun v7 i wr => ∃ k : Nat, i = .int .i64 k ∧ k ≤ n ∧ Row wr w'.heap.size 2 v7 (ints (pks xs f k)) ∧ Below w'.heap.size w' wr) (fun _ i _ => n - (intOf i).toNat)
    case atStart => exact ⟨0, rfl, Nat.zero_le _, World.ownsRow_nil _ _ _ _, Below.refl _ _⟩
    case round =>
      obtain ⟨k, rfl, hk, hrw, hbw⟩ := hrel
      have HRW := Lib.hid hrw
      have HBW := Lib.hid hbw
      clear hrw hbw
      by_cases hlt : k < n
      · obtain ⟨g, rfl, hg, hc⟩ := HRD.out k hlt
        have HK := Lib.hid (H.out wr HBW.out k hlt)
        have PK := Lib.hid (P.out k hlt)
        have GK := G.out k hlt
        have e1 := HPS.out k
        have hl := HPL.out k
        have hgs : g < wr.heap.size := by have := HBW.out.size; omega
        have c1 : wr.cell? ⟨g, k, none⟩ = some (.float .f64 (xs.getD k 0)) := by rw [HBW.out.cell hg]; exact hc
        rw [← HHI.out k] at PK
        obtain ⟨y, hyy⟩ : ∃ y, xs.getD k 0 = y := ⟨_, rfl⟩
        rw [hyy] at HK PK GK c1
        obtain ⟨x, hxx⟩ : ∃ y, xs.getD (prv n k) 0 = y := ⟨_, rfl⟩
        obtain ⟨z, hzz⟩ : ∃ y, xs.getD (nxt n k) 0 = y := ⟨_, rfl⟩
        rw [hxx, hzz] at HK PK
        obtain ⟨b1, hb1⟩ : ∃ b, hiB xs k = b := ⟨_, rfl⟩
        obtain ⟨b2, hb2⟩ : ∃ b, geO (wO xs k) f = b := ⟨_, rfl⟩
        rw [hb1] at PK e1
        rw [hb2] at GK e1
        have i3 : (k : Int) < (n : Int) := by omega
        obtain ⟨zs, hzs⟩ : ∃ zs, pks xs f k = zs := ⟨_, rfl⟩
        rw [hzs] at HRW e1 hl
        have HE1 := Lib.hid e1
        have hli : (ints zs).length ≤ 256 := by rw [ints_length]; omega
        clear hyy hxx hzz hb1 hb2 hzs hc e1
        go_wp2_with fail
        refine HK.out.mono ?_
        rintro e w2 ⟨rfl, hbb⟩
        have HB2 := Lib.hid (below_step HBW.out hbb HBW.out.size)
        have HR2 := Lib.hid (HRW.out.below hbb (fun j hj => (HRW.out.lt j hj).2))
        have c2 : w2.cell? ⟨g, k, none⟩ = some (.float .f64 y) := by rw [hbb.cell hgs]; exact c1
        have hgs2 : g < w2.heap.size := Nat.lt_of_lt_of_le hgs hbb.size
        clear hbb c1 HK HRW HBW
        go_wp2_with fail
        refine (PK.out _).mono ?_
        rintro e w3 ⟨rfl, hbb⟩
        have HB3 := Lib.hid (below_step HB2.out hbb HB2.out.size)
        have HR3 := Lib.hid (HR2.out.below hbb (fun j hj => (HR2.out.lt j hj).2))
        have c3 : w3.cell? ⟨g, k, none⟩ = some (.float .f64 y) := by rw [hbb.cell hgs2]; exact c2
        clear hbb c2 HB2 HR2 PK
        have notPeak : ∀ (hb : (b1 && b2) = false), Hid (Row w3 w'.heap.size 2 u7 (ints (pks xs f (k + 1)))) := fun hb => by
          have e := HE1.out
          rw [hb] at e
          rw [e]
          exact HR3.out
        have isPeak : ∀ (hb : (b1 && b2) = true), Hid (pks xs f (k + 1) = zs ++ [(k : Int)]) := fun hb => by
          have e := HE1.out
          rw [hb] at e
          exact e
        cases b1 <;> cases b2
        · have HN := notPeak rfl
          clear notPeak isPeak
          go_wp2
          go_roundw
          case rel => exact ⟨k + 1, by go_num, by omega, HN.out, HB3.out⟩
          case measure => simp [intOf]; omega
        · have HN := notPeak rfl
          clear notPeak isPeak
          go_wp2
          go_roundw
          case rel => exact ⟨k + 1, by go_num, by omega, HN.out, HB3.out⟩
          case measure => simp [intOf]; omega
        · have HN := notPeak rfl
          clear notPeak isPeak
          go_wp2
          go_roundw
          case rel => exact ⟨k + 1, by go_num, by omega, HN.out, HB3.out⟩
          case measure => simp [intOf]; omega
        · have HN := isPeak rfl
          clear notPeak isPeak
          go_wp2_with (at_builtin; refine wpList_append_own _ rfl _ _ 34 rfl w'.heap.size 2 i0 (.int .i64 0) 1 8 Try.underlying34 hi hz0 hz1 hz2 rfl (by decide) _ _ _ rfl (HR3.out.alloc _) ⟨_, 0, none⟩ 1 1 [.int .i64 (k : Int)] rfl rfl (cell_one_new _ _ _) (by intro u hu; simp at hu; subst hu; rfl) (by simp only [maxLen]; omega) (by omega) (by have := HB3.out.size; simp; omega) ?_)
          intro v' w1 hown' hgrow _
          have hlt' := (HR3.out.alloc (.cells #[.int .i64 (k : Int)] 2)).lt
          have hb' : Below w'.heap.size w' w1 := (HB3.out.alloc HB3.out.size _).grown hgrow (by have := HB3.out.size; simp; omega) (fun b e => (hlt' b e).1)
          have HO' : Hid (Row w1 w'.heap.size 2 v' (ints (pks xs f (k + 1)))) := by
            show w1.ownsRow _ _ _ _ _ _
            rw [HN.out, ints_snoc, List.length_append]
            exact hown'
          have HX' := Lib.hid hb'
          clear hown' hgrow hlt' hb' HR3 HB3 HN
          go_wp2
          go_roundw
          case rel => first | exact ⟨k + 1, by go_num, by omega, HO'.out, HX'.out⟩ | ((repeat apply Exists.intro); refine ⟨?_, rfl⟩; exact ⟨k + 1, by go_num, by omega, HO'.out, HX'.out⟩)
          case measure => simp [intOf]; omega
      · have e : k = n := by omega
        subst e
        go_wp2
        go_ret2
        exact ⟨_, rfl, HRW.out, HBW.out⟩
  · rw [hR, if_neg hr]
    obtain ⟨a, cap, rfl⟩ := hfo
    rw [flts_length] at *
    replace hcap := hcap _ _ _ rfl
    replace CK := Lib.hid (fun w => CK.out a cap w hcap)
    obtain ⟨n, hn⟩ : ∃ n, xs.length = n := ⟨_, rfl⟩
    rw [hn] at CK hr hcap ⊢
    obtain ⟨K, hKK⟩ : ∃ K, ringK n = K := ⟨_, rfl⟩
    rw [hKK] at CK hr ⊢
    have g0 : (K == 0) = false := by simpa using hr
    clear h hz hR hn hKK hfl
    go_enter Try.func17, Try.ntmps17
    go_wp2_with fail
    refine (CK.out _).mono ?_
    rintro e w' ⟨rfl, rfl⟩
    go_wp2
    go_ret2
    exact ⟨_, rfl, World.ownsRow_nil _ _ _ _, Below.refl _ _⟩

set_option maxRecDepth 100000 in
set_option maxHeartbeats 8000000 in
theorem peaks_spec (xs : List Nat) (hz : ∀ z ∈ xs, z < 18446744073709551616) (fl : Nat) (f : Option Nat) (hfl : IsF fl f) (v : Value) (w : World) (h : Reads w v (flts xs)) :
    Calls Try.prog 18 #[v, .float .f64 fl] w (IntsTo (pksR xs f) (ringK xs.length) w) := by
  have hcap := fl_cap h
  have hfo := fl_form h
  have hR : pksR xs f = if ringK xs.length = 0 then pks xs f xs.length else [] := rfl
  have CK := Lib.hid (fun (a : Option Addr) (cap : Nat) (w : World) (hm : (xs.length : Int) ≤ 9223372036854775807) => hills_spec a xs.length cap hm w)
  by_cases hr : ringK xs.length = 0
  · obtain ⟨n3, n256⟩ := ringK_zero hr
    obtain ⟨i0, hi, hz0, hz1, hz2⟩ := info_parts info_i64P
    rw [hR, hr, if_pos rfl]
    rw [hr] at CK
    have hrd := fl_reads h
    have G1 := Lib.hid (fun (j : Nat) (hj : j < xs.length) => gt_isF (wO_isF hz hj) (wO_isF hz (prv_lt hj)))
    have G2 := Lib.hid (fun (j : Nat) (hj : j < xs.length) => gt_isF (wO_isF hz hj) (wO_isF hz (nxt_lt hj)))
    have G3 := Lib.hid (fun (j : Nat) (hj : j < xs.length) => ge_isF (wO_isF hz hj) hfl)
    have HPS : Hid (∀ j, pks xs f (j + 1) = if ((gtO (wO xs j) (wO xs (prv xs.length j)) && gtO (wO xs j) (wO xs (nxt xs.length j))) && geO (wO xs j) f) = true then pks xs f j ++ [(j : Int)] else pks xs f j) := fun j => rfl
    have HPL := Lib.hid (fun j => pks_len xs f j)
    obtain ⟨a, cap, rfl⟩ := hfo
    rw [flts_length] at *
    replace CK := Lib.hid (fun w => CK.out a cap w (hcap _ _ _ rfl))
    replace hrd := hrd _ _ _ rfl
    obtain ⟨n, hn⟩ : ∃ n, xs.length = n := ⟨_, rfl⟩
    rw [hn] at CK G1 G2 G3 HPS hrd n256 n3 ⊢
    have HRD := Lib.hid hrd
    have hmax : (n : Int) ≤ 9223372036854775807 := by omega
    have hnz : ¬ (n : Int) = 0 := by omega
    have hnz' : ¬ n = 0 := by omega
    clear h hz hR hr hn hcap hrd hfl
    go_enter Try.func18, Try.ntmps18
    go_wp2_with fail
    refine (CK.out _).mono ?_
    rintro e w' ⟨rfl, rfl⟩
    have HLIT := Lib.hid (World.ownsRow_lit w' (e := 2) (base := w'.heap.size) (size := 1) #[] 0 (Nat.le_refl _) (by unfold maxLen; omega) rfl)
    go_wp2
    go_loopw [8, 9] (fun v7 i wr => ∃ k : Nat, i = .int .i64 k ∧ k ≤ n ∧ Row wr w'.heap.size 2 v7 (ints (pks xs f k)) ∧ Below w'.heap.size w' wr) (fun _ i _ => n - (intOf i).toNat)
    case atStart => exact ⟨0, rfl, Nat.zero_le _, HLIT.out, (Below.refl _ _).alloc (Nat.le_refl _) _⟩
    case round =>
      obtain ⟨k, rfl, hk, hrw, hbw⟩ := hrel
      have HRW := Lib.hid hrw
      have HBW := Lib.hid hbw
      clear hrw hbw
      by_cases hlt : k < n
      · obtain ⟨g, rfl, hg, hc⟩ := HRD.out k hlt
        have p1 := prv_lt hlt
        have p2 := nxt_lt hlt
        obtain ⟨g', e', -, hc1⟩ := HRD.out _ p1
        simp only [Option.some.injEq, Addr.mk.injEq, and_true] at e'
        subst e'
        obtain ⟨g', e', -, hc2⟩ := HRD.out _ p2
        simp only [Option.some.injEq, Addr.mk.injEq, and_true] at e'
        subst e'
        have g1 := G1.out k hlt
        have g2 := G2.out k hlt
        have g3 := G3.out k hlt
        have e1 := HPS.out k
        have hl := HPL.out k
        have c1 : wr.cell? ⟨g, k, none⟩ = some (.float .f64 (xs.getD k 0)) := by rw [HBW.out.cell hg]; exact hc
        have c2 : wr.cell? ⟨g, prv n k, none⟩ = some (.float .f64 (xs.getD (prv n k) 0)) := by rw [HBW.out.cell hg]; exact hc1
        have c3 : wr.cell? ⟨g, nxt n k, none⟩ = some (.float .f64 (xs.getD (nxt n k) 0)) := by rw [HBW.out.cell hg]; exact hc2
        have q1 : ((k : Int) + (n : Int) - 1) % (n : Int) = (prv n k : Int) := by
          rw [show (k : Int) + (n : Int) - 1 = (k : Int) - 1 + (n : Int) by omega, Int.add_emod_right]; exact prv_rest hlt
        have q2 := nxt_rest hlt
        obtain ⟨y, hyy⟩ : ∃ y, xs.getD k 0 = y := ⟨_, rfl⟩
        obtain ⟨x, hxx⟩ : ∃ y, xs.getD (prv n k) 0 = y := ⟨_, rfl⟩
        obtain ⟨z, hzz⟩ : ∃ y, xs.getD (nxt n k) 0 = y := ⟨_, rfl⟩
        rw [hyy] at c1 g1 g2 g3
        rw [hxx] at c2 g1
        rw [hzz] at c3 g2
        obtain ⟨b1, hb1⟩ : ∃ b, gtO (wO xs k) (wO xs (prv n k)) = b := ⟨_, rfl⟩
        obtain ⟨b2, hb2⟩ : ∃ b, gtO (wO xs k) (wO xs (nxt n k)) = b := ⟨_, rfl⟩
        obtain ⟨b3, hb3⟩ : ∃ b, geO (wO xs k) f = b := ⟨_, rfl⟩
        rw [hb1] at g1 e1
        rw [hb2] at g2 e1
        rw [hb3] at g3 e1
        obtain ⟨P, hP⟩ : ∃ P, prv n k = P := ⟨_, rfl⟩
        obtain ⟨Q, hQ⟩ : ∃ Q, nxt n k = Q := ⟨_, rfl⟩
        rw [hP] at c2 p1 q1
        rw [hQ] at c3 p2 q2
        obtain ⟨zs, hzs⟩ : ∃ zs, pks xs f k = zs := ⟨_, rfl⟩
        rw [hzs] at HRW e1 hl
        have HE1 := Lib.hid e1
        have hli : (ints zs).length ≤ 256 := by rw [ints_length]; omega
        clear hyy hxx hzz hb1 hb2 hb3 hzs hc hc1 hc2 e1 hP hQ
        have q1' : ((k : Int) + (n : Int) - 1).tmod (n : Int) = (P : Int) := by rw [Int.tmod_eq_emod_of_nonneg (by omega)]; exact q1
        have q2' : ((k : Int) + 1).tmod (n : Int) = (Q : Int) := by rw [Int.tmod_eq_emod_of_nonneg (by omega)]; exact q2
        have i1 : (P : Int) < (n : Int) := by omega
        have i2 : (Q : Int) < (n : Int) := by omega
        have i3 : (k : Int) < (n : Int) := by omega
        have eW1 : IntKind.i64.wrap ((k : Int) + (n : Int)) = (k : Int) + (n : Int) := IntWalk.i64_in _ (by omega)
        have eW2 : IntKind.i64.wrap ((k : Int) + 1) = (k : Int) + 1 := IntWalk.i64_in _ (by omega)
        have eW3 : IntKind.i64.wrap ((k : Int) + (n : Int) - 1) = (k : Int) + (n : Int) - 1 := IntWalk.i64_in _ (by omega)
        have notPeak : ∀ (hb : ((b1 && b2) && b3) = false), Hid (∀ m, Row (wr.drewN m) w'.heap.size 2 u8 (ints (pks xs f (k + 1)))) := fun hb m => by
          have e := HE1.out
          rw [hb] at e
          rw [e]
          exact HRW.out.drewN m
        have isPeak : ∀ (hb : ((b1 && b2) && b3) = true), Hid (pks xs f (k + 1) = zs ++ [(k : Int)]) := fun hb => by
          have e := HE1.out
          rw [hb] at e
          exact e
        by_cases hall : ((b1 && b2) && b3) = true
        · have HN := isPeak hall
          obtain ⟨rfl, rfl, rfl⟩ : b1 = true ∧ b2 = true ∧ b3 = true := by
            cases b1 <;> cases b2 <;> cases b3 <;> simp at hall ⊢
          clear notPeak isPeak hall
          go_wp2
          go_quiet (fail)
          have HR3 := Lib.hid (HRW.out.drewN nq)
          have HB3 := Lib.hid (below_draws HBW.out nq)
          go_wp2_with (at_builtin; refine wpList_append_own _ rfl _ _ 34 rfl w'.heap.size 2 i0 (.int .i64 0) 1 8 Try.underlying34 hi hz0 hz1 hz2 rfl (by decide) _ _ _ rfl (HR3.out.alloc _) ⟨_, 0, none⟩ 1 1 [.int .i64 (k : Int)] rfl rfl (cell_one_new _ _ _) (by intro u hu; simp at hu; subst hu; rfl) (by simp only [maxLen]; omega) (by omega) (by have := HB3.out.size; simp at this; simp; omega) ?_)
          intro v' w1 hown' hgrow _
          have hlt' := (HR3.out.alloc (.cells #[.int .i64 (k : Int)] 2)).lt
          have hb' : Below w'.heap.size w' w1 := (HB3.out.alloc HB3.out.size _).grown hgrow (by have := HB3.out.size; simp at this; simp; omega) (fun b e => (hlt' b e).1)
          have HO' : Hid (Row w1 w'.heap.size 2 v' (ints (pks xs f (k + 1)))) := by
            show w1.ownsRow _ _ _ _ _ _
            rw [HN.out, ints_snoc, List.length_append]
            exact hown'
          have HX' := Lib.hid hb'
          clear hown' hgrow hlt' hb' HR3 HB3 HN
          go_wp2
          go_roundw
          case rel => first | exact ⟨k + 1, by go_num, by omega, HO'.out, HX'.out⟩ | ((repeat apply Exists.intro); refine ⟨?_, rfl⟩; exact ⟨k + 1, by go_num, by omega, HO'.out, HX'.out⟩)
          case measure => simp [intOf]; omega
        · have HN := notPeak (by simpa using hall)
          clear notPeak isPeak
          cases b1 <;> cases b2 <;> cases b3
          all_goals first
            | (exfalso; simp at hall; done)
            | (clear hall
               go_wp2
               go_quiet (fail)
               go_wp2
               go_roundw
               case rel => exact ⟨k + 1, by go_num, by omega, HN.out _, below_draws HBW.out _⟩
               case measure => simp [intOf]; omega)
      · have e : k = n := by omega
        subst e
        go_wp2
        go_ret2
        exact ⟨_, rfl, HRW.out, HBW.out⟩
  · rw [hR, if_neg hr]
    obtain ⟨a, cap, rfl⟩ := hfo
    rw [flts_length] at *
    replace hcap := hcap _ _ _ rfl
    replace CK := Lib.hid (fun w => CK.out a cap w hcap)
    obtain ⟨n, hn⟩ : ∃ n, xs.length = n := ⟨_, rfl⟩
    rw [hn] at CK hr hcap ⊢
    obtain ⟨K, hKK⟩ : ∃ K, ringK n = K := ⟨_, rfl⟩
    rw [hKK] at CK hr ⊢
    have g0 : (K == 0) = false := by simpa using hr
    clear h hz hR hn hKK hfl
    go_enter Try.func18, Try.ntmps18
    go_wp2_with fail
    refine (CK.out _).mono ?_
    rintro e w' ⟨rfl, rfl⟩
    go_wp2
    go_ret2
    exact ⟨_, rfl, World.ownsRow_lit w' #[] 0 (Nat.le_refl _) (by unfold maxLen; omega) rfl, (Below.refl _ _).alloc (Nat.le_refl _) _⟩

end Go.Proofs.Ytnigbjjllolgdaa
/-
  SmoothPowers of the program.
-/
set_option linter.unusedVariables false
set_option linter.unusedSimpArgs false
namespace Go.Proofs.Ytnigbjjllolgdaa
open Go.RowKit Flt Fast
attribute [local go_sem] run_fadd run_fsub run_fmul run_fquo run_cadd run_csub

/-- A term of a smooth power, and the power. -/
def smI (n r k i : Nat) : Nat := (k + i + n - r) % n
def smZ (xs : List Nat) (r k i : Nat) : Option Nat := wO xs (smI xs.length r k i)
def smO (xs : List Nat) (r k : Nat) : Option Nat := fop .quo .f64 (sumO (smZ xs r k) (2 * r + 1)) (some (floatOfInt .f64 ((2 * r + 1 : Nat) : Int)))
def smK (n : Nat) (r : Int) : Int := if 256 < n then 3 else if 0 ≤ r ∧ r ≤ (n : Int) - 1 ∨ (n = 0 ∧ r = 0) then 0 else 2
def smN (n : Nat) (r : Int) : Nat := if smK n r = 0 then n else 0
theorem smN_le (n : Nat) (r : Int) : smN n r ≤ 100000000 := by
  unfold smN
  split
  · rename_i h
    have : ¬ 256 < n := fun c => by
      unfold smK at h
      rw [if_pos c] at h
      exact absurd h (by decide)
    omega
  · omega
theorem smI_lt {n : Nat} (r k i : Nat) (h : 0 < n) : smI n r k i < n := Nat.mod_lt _ h
theorem sm_rest {n r k i : Nat} (h : r < n) : ((k : Int) - (r : Int) + (i : Int)) % (n : Int) = (smI n r k i : Int) := by
  rw [← Int.add_emod_right, show (k : Int) - (r : Int) + (i : Int) + (n : Int) = ((k + i + n - r : Nat) : Int) by omega]
  rfl

theorem enter_sm1 (args : Array Value) (w : World) : (callFunc 48 args).run Try.prog w = .ok (.enter 48 args) w := by kernel_rfl
theorem enter_sm11 (args : Array Value) (w : World) : (callFunc 49 args).run Try.prog w = .ok (.enter 49 args) w := by kernel_rfl

set_option maxRecDepth 100000 in
set_option maxHeartbeats 4000000 in
theorem sm11_any (xs : List Nat) (n : Nat) (hx : xs.length = n) (hn : n ≤ 256) (hz : ∀ z ∈ xs, z < 18446744073709551616) (r k i : Nat) (hr : r < n) (hk : k < n) (hi : i < 1000) (v : Value) (b c d e : Nat) (w : World) (h : Reads w v (flts xs))
    (h1 : w.cell? ⟨b, 0, none⟩ = some v) (h2 : w.cell? ⟨c, 0, none⟩ = some (.int .i64 k)) (h3 : w.cell? ⟨d, 0, none⟩ = some (.int .i64 r)) (h4 : w.cell? ⟨e, 0, none⟩ = some (.int .i64 n)) :
    Calls Try.prog 49 #[.int .i64 i, .pointer (some ⟨b, 0, none⟩), .pointer (some ⟨c, 0, none⟩), .pointer (some ⟨d, 0, none⟩), .pointer (some ⟨e, 0, none⟩)] w fun e w' => ∃ q, e = .returned (fval q) ∧ IsF q (smZ xs r k i) ∧ Below w.heap.size w w' := by
  have hp := smI_lt r k i (show 0 < n by omega)
  have hrd := fl_reads h
  have R := Lib.hid (fun w => restOf_any ((k : Int) - (r : Int) + (i : Int)) n (smI n r k i) (by omega) (by omega) (sm_rest hr) w)
  have hX := wO_isF hz (i := smI n r k i) (by omega)
  have hZ : smZ xs r k i = wO xs (smI n r k i) := by unfold smZ; rw [hx]
  obtain ⟨a, cap, rfl⟩ := fl_form h
  rw [flts_length, hx] at hrd h1
  obtain ⟨P, hP⟩ : ∃ P, smI n r k i = P := ⟨_, rfl⟩
  rw [hP] at hp R hX hZ
  obtain ⟨g, rfl, -, c1⟩ := hrd _ _ _ rfl P hp
  obtain ⟨x, hxx⟩ : ∃ x, xs.getD P 0 = x := ⟨_, rfl⟩
  rw [hxx] at c1 hX
  have HX : Hid (IsF x (smZ xs r k i)) := by rw [hZ]; exact hX
  have i1 : (P : Int) < (n : Int) := by omega
  have eW1 : IntKind.i64.wrap ((k : Int) - (r : Int)) = (k : Int) - (r : Int) := IntWalk.i64_in _ (by omega)
  have eW2 : IntKind.i64.wrap ((k : Int) - (r : Int) + (i : Int)) = (k : Int) - (r : Int) + (i : Int) := IntWalk.i64_in _ (by omega)
  clear h hrd hx hz hxx hP hX hZ
  go_enter Try.func49, Try.ntmps49
  go_wp2
  go_quiet ((go_at_call 50; exact Calls.quiet_of_same (R.out _)))
  go_wp2
  go_ret
  exact ⟨x, rfl, HX.out, below_draws (Below.refl _ _) _⟩

set_option maxRecDepth 100000 in
set_option maxHeartbeats 4000000 in
theorem sm1_any (xs : List Nat) (n : Nat) (hx : xs.length = n) (hn : n ≤ 256) (hz : ∀ z ∈ xs, z < 18446744073709551616) (r k : Nat) (hr : r < n) (hk : k < n) (v : Value) (b d e m : Nat) (w : World) (h : Reads w v (flts xs))
    (h1 : w.cell? ⟨b, 0, none⟩ = some v) (h3 : w.cell? ⟨d, 0, none⟩ = some (.int .i64 r)) (h4 : w.cell? ⟨e, 0, none⟩ = some (.int .i64 n)) (h5 : w.cell? ⟨m, 0, none⟩ = some (.int .i64 ((2 * r + 1 : Nat) : Int)))
    (l1 : b < w.heap.size) (l3 : d < w.heap.size) (l4 : e < w.heap.size) (l5 : m < w.heap.size) :
    Calls Try.prog 48 #[.int .i64 k, .pointer (some ⟨m, 0, none⟩), .pointer (some ⟨b, 0, none⟩), .pointer (some ⟨d, 0, none⟩), .pointer (some ⟨e, 0, none⟩)] w fun e w' => ∃ q, e = .returned (fval q) ∧ IsF q (smO xs r k) ∧ Below w.heap.size w w' := by
  obtain ⟨M, hM⟩ : ∃ M, 2 * r + 1 = M := ⟨_, rfl⟩
  have hO : smO xs r k = fop .quo .f64 (sumO (smZ xs r k) M) (some (floatOfInt .f64 (M : Int))) := by unfold smO; rw [hM]
  have hM2 : M ≤ 600 := by omega
  rw [hM] at h5
  have L : Hid (∀ w3 : World, Below w.heap.size w w3 → w.heap.size < w3.heap.size → w3.cell? ⟨w.heap.size, 0, none⟩ = some (.int .i64 k) →
      Calls Try.prog 30 #[.int .i64 M, .func (.func 49) #[] #[.pointer (some ⟨b, 0, none⟩), .pointer (some ⟨w.heap.size, 0, none⟩), .pointer (some ⟨d, 0, none⟩), .pointer (some ⟨e, 0, none⟩)]] w3 fun e w' =>
      ∃ v xs', e = .returned v ∧ Row w' w3.heap.size 30 v (flts xs') ∧ xs'.length = M ∧ (∀ i, i < M → IsF (xs'.getD i 0) (smZ xs r k i)) ∧ Below w3.heap.size w3 w') := by
    refine Lib.hid fun w3 hb3 hlt hc => listOf_f64' 49 _ M (by omega) (smZ xs r k) w3 enter_sm11 fun i w1 hi hb1 => ?_
    have hb31 := below_step hb3 hb1 hb3.size
    exact sm11_any xs n hx hn hz r k i hr hk (by omega) v b w.heap.size d e w1 (h.below hb31) (by rw [hb31.cell l1]; exact h1) (by rw [hb1.cell hlt]; exact hc) (by rw [hb31.cell l3]; exact h3) (by rw [hb31.cell l4]; exact h4)
  rw [hO]
  clear h hx hz h1 h3 h4 hM hO hr l1 l3 l4
  go_enter Try.func48, Try.ntmps48
  go_wp2_with (go_at_call 30; with_reducible refine (L.out _ ?_ ?_ ?_).mono ?_)
  · exact (Below.refl _ _).alloc (Nat.le_refl _) _
  · simp
  · go_simp
  rintro e2 w3 ⟨v', fs, rfl, hrw, hl, hg, hb⟩
  have S := Lib.hid (fun W => sumF_any (xs := fs) (w := w3.drewN W) (hrw.reads.drewN W) (by omega) (smZ xs r k) (fun i hi => hg i (by omega)))
  rw [hl] at S
  have h5' : w3.cell? ⟨m, 0, none⟩ = some (.int .i64 (M : Int)) := by rw [hb.cell (by simp; omega)]; go_simp
  have HB : Hid (Below w.heap.size w w3) := below_step ((Below.refl _ _).alloc (Nat.le_refl _) _) hb (by simp)
  clear hrw hl hg hb h5
  go_wp2
  go_region_law (go_simp; go_at_call 41; refine (S.out 1).mono ?_; rintro e w4 ⟨q, rfl, hq, nn, rfl⟩; have HQ := Lib.hid hq; clear hq)
  all_goals
    go_wp2
    go_ret
    exact ⟨_, rfl, isF_fres HQ.out (IsF.ofInt _) _, below_draws HB.out _⟩

set_option maxRecDepth 100000 in
set_option maxHeartbeats 4000000 in
theorem smooth_impl (xs : List Nat) (hz : ∀ z ∈ xs, z < 18446744073709551616) (r : Int) (v : Value) (w : World) (h : Reads w v (flts xs)) :
    Calls Try.prog 22 #[v, .int .i64 r] w (FloatsTo (smN xs.length r) (smO xs r.toNat) (smK xs.length r) w) := by
  have hcap := fl_cap h
  have hf := fl_form h
  by_cases hb : 256 < xs.length
  · have e2 : smK xs.length r = 3 := if_pos hb
    have e1 : smN xs.length r = 0 := by unfold smN; rw [e2, if_neg (by decide)]
    rw [e1, e2]
    obtain ⟨a, cap, rfl⟩ := hf
    rw [flts_length] at *
    replace hcap := hcap _ _ _ rfl
    obtain ⟨n, hn⟩ : ∃ n, xs.length = n := ⟨_, rfl⟩
    rw [hn] at hcap hb ⊢
    clear e1 e2 h hn hz
    go_enter Try.func22, Try.ntmps22
    go_wp2
    go_ret2
    exact ⟨_, [], rfl, World.ownsRow_nil _ _ _ _, rfl, fun i hi => by omega, (((Below.refl _ _).alloc (Nat.le_refl _) _).alloc (by simp) _).alloc (by simp; omega) _⟩
  · by_cases hin : 0 ≤ r ∧ r ≤ (xs.length : Int) - 1 ∨ (xs.length = 0 ∧ r = 0)
    · have e2 : smK xs.length r = 0 := by unfold smK; rw [if_neg hb, if_pos hin]
      have e1 : smN xs.length r = xs.length := by unfold smN; rw [e2, if_pos rfl]
      rw [e1, e2]
      obtain ⟨q, rfl⟩ : ∃ q : Nat, r = q := ⟨r.toNat, by omega⟩
      rw [show ((q : Int)).toNat = q from rfl]
      obtain ⟨n, hn⟩ : ∃ n, xs.length = n := ⟨_, rfl⟩
      rw [hn] at hb hin ⊢
      obtain ⟨M, hM⟩ : ∃ M : Nat, n - 1 = M := ⟨_, rfl⟩
      have hqM : q ≤ M := by omega
      have hmax : (if (n : Int) - 1 < 0 then (0 : Int) else (n : Int) - 1) = (M : Int) := by split <;> omega
      have g1 : decide ((q : Int) < 0) = false := by simp
      have g2 : decide ((M : Int) < (q : Int)) = false := by simp; omega
      obtain ⟨T, hT⟩ : ∃ T : Nat, 2 * q + 1 = T := ⟨_, rfl⟩
      have hT' : 2 * (q : Int) + 1 = (T : Int) := by omega
      have HT := Lib.hid hT
      have hnx : (n : Int) ≤ 9223372036854775807 := by omega
      obtain ⟨N, hN⟩ : ∃ N, w.heap.size = N := ⟨_, rfl⟩
      have L : Hid (∀ w3 : World, Below w.heap.size w w3 → w.heap.size + 3 < w3.heap.size → w3.cell? ⟨w.heap.size, 0, none⟩ = some v → w3.cell? ⟨w.heap.size + 1, 0, none⟩ = some (.int .i64 q) → w3.cell? ⟨w.heap.size + 2, 0, none⟩ = some (.int .i64 n) → w3.cell? ⟨w.heap.size + 3, 0, none⟩ = some (.int .i64 T) →
          Calls Try.prog 30 #[.int .i64 n, .func (.func 48) #[] #[.pointer (some ⟨w.heap.size + 3, 0, none⟩), .pointer (some ⟨w.heap.size, 0, none⟩), .pointer (some ⟨w.heap.size + 1, 0, none⟩), .pointer (some ⟨w.heap.size + 2, 0, none⟩)]] w3 fun e w' =>
          ∃ v xs', e = .returned v ∧ Row w' w3.heap.size 30 v (flts xs') ∧ xs'.length = n ∧ (∀ i, i < n → IsF (xs'.getD i 0) (smO xs q i)) ∧ Below w3.heap.size w3 w') := by
        refine Lib.hid fun w3 hb3 hlt c0 c1 c2 c3 => listOf_f64' 48 _ n (by omega) (smO xs q) w3 enter_sm1 fun i w1 hi hb1 => ?_
        have hs1 := hb1.size
        exact sm1_any xs n hn (by omega) hz q i (by omega) hi v _ _ _ _ w1 (h.below (below_step hb3 hb1 hb3.size)) (by rw [hb1.cell (by show w.heap.size < _; omega)]; exact c0) (by rw [hb1.cell (by show w.heap.size + 1 < _; omega)]; exact c1) (by rw [hb1.cell (by show w.heap.size + 2 < _; omega)]; exact c2)
          (by rw [hb1.cell hlt, HT.out]; exact c3) (by omega) (by omega) (by omega) (by omega)
      obtain ⟨a, cap, rfl⟩ := hf
      rw [flts_length, hn] at *
      clear h hz e1 e2 hn hM hT hcap hin hN
      go_enter Try.func22, Try.ntmps22
      go_wp2_with (go_at_call 30; with_reducible refine (L.out _ ?_ ?_ ?_ ?_ ?_ ?_).mono ?_)
      · exact ((((Below.refl _ _).alloc (Nat.le_refl _) _).alloc (by simp) _).alloc (by simp; omega) _).alloc (by simp; omega) _
      · simp
      · go_simp
      · go_simp
      · go_simp
      · go_simp
      rintro e w3 ⟨v', fs, rfl, hr, hl, hg, hbb⟩
      have HX : Hid (Row w3 w.heap.size 30 v' (flts fs) ∧ fs.length = n ∧ (∀ i, i < n → IsF (fs.getD i 0) (smO xs q i)) ∧ Below w.heap.size w w3) :=
        ⟨hr.base (by simp; omega), hl, hg, below_step (((((Below.refl _ _).alloc (Nat.le_refl _) _).alloc (by simp) _).alloc (by simp; omega) _).alloc (by simp; omega) _) hbb (by simp; omega)⟩
      clear hr hl hg hbb
      go_wp2
      go_ret2
      exact ⟨v', fs, rfl, HX.out⟩
    · have e2 : smK xs.length r = 2 := by unfold smK; rw [if_neg hb, if_neg hin]
      have e1 : smN xs.length r = 0 := by unfold smN; rw [e2, if_neg (by decide)]
      rw [e1, e2]
      obtain ⟨a, cap, rfl⟩ := hf
      rw [flts_length] at *
      replace hcap := hcap _ _ _ rfl
      obtain ⟨n, hn⟩ : ∃ n, xs.length = n := ⟨_, rfl⟩
      rw [hn] at hcap hb hin ⊢
      obtain ⟨M, hM⟩ : ∃ M : Nat, n - 1 = M := ⟨_, rfl⟩
      have hmax : (if (n : Int) - 1 < 0 then (0 : Int) else (n : Int) - 1) = (M : Int) := by split <;> omega
      clear e1 e2 h hz hn
      by_cases r0 : r < 0
      · have g1 : decide (r < 0) = true := by simp [r0]
        clear hin hM
        go_enter Try.func22, Try.ntmps22
        go_wp2
        go_ret2
        exact ⟨_, [], rfl, World.ownsRow_nil _ _ _ _, rfl, fun i hi => by omega, (((Below.refl _ _).alloc (Nat.le_refl _) _).alloc (by simp) _).alloc (by simp; omega) _⟩
      · have g1 : decide (r < 0) = false := by simp; omega
        have g2 : decide ((M : Int) < r) = true := by simp; omega
        have g3 : (M : Int) < r := by omega
        clear hin hM
        go_enter Try.func22, Try.ntmps22
        go_wp2
        go_ret2
        exact ⟨_, [], rfl, World.ownsRow_nil _ _ _ _, rfl, fun i hi => by omega, (((Below.refl _ _).alloc (Nat.le_refl _) _).alloc (by simp) _).alloc (by simp; omega) _⟩

end Go.Proofs.Ytnigbjjllolgdaa
/-
  SmoothPowers of the model.
-/
set_option linter.unusedVariables false
set_option linter.unusedSimpArgs false
namespace Go.Proofs.Ytnigbjjllolgdaa
open Go.RowKit Flt Fast
attribute [local go_sem] run_fadd run_fsub run_fmul run_fquo run_cadd run_csub

theorem l00Max_any (a b c : Int) (h : (if b < a then a else b) = c) (w : World) :
    Calls Try.prog 52 #[.int .i64 a, .int .i64 b] w fun e w' => e = .returned (.int .i64 c) ∧ w' = w := by
  subst h
  by_cases g : b < a
  · rw [if_pos g]
    go_enter Try.func52, Try.ntmps52
    go_wp2
    go_ret
    exact ⟨rfl, rfl⟩
  · rw [if_neg g]
    have g' : decide (b < a) = false := decide_eq_false g
    go_enter Try.func52, Try.ntmps52
    go_wp2
    go_ret
    exact ⟨rfl, rfl⟩

theorem sm_rest' {n r k i : Nat} {J : Int} (h : r < n) (hJ : J + (r : Int) = (i : Int)) : ((k : Int) + J + (n : Int)) % (n : Int) = (smI n r k i : Int) := by
  rw [Int.add_emod_right, show (k : Int) + J = (k : Int) - (r : Int) + (i : Int) by omega]
  exact sm_rest h
theorem sm_rest0 {n r k : Nat} (h : r < n) : ((k : Int) - (r : Int) + (n : Int)) % (n : Int) = (smI n r k 0 : Int) := by
  have := sm_rest (n := n) (r := r) (k := k) (i := 0) h
  rw [Int.add_emod_right]
  simpa using this

set_option maxRecDepth 100000 in
set_option maxHeartbeats 8000000 in
theorem smooth_spec (xs : List Nat) (hz : ∀ z ∈ xs, z < 18446744073709551616) (r : Int) (v : Value) (w : World) (h : Reads w v (flts xs)) :
    Calls Try.prog 23 #[v, .int .i64 r] w (FloatsTo (smN xs.length r) (smO xs r.toNat) (smK xs.length r) w) := by
  have hcap := fl_cap h
  have hrd := fl_reads h
  obtain ⟨a, cap, rfl⟩ := fl_form h
  rw [flts_length] at *
  replace hcap := hcap _ _ _ rfl
  replace hrd := hrd _ _ _ rfl
  by_cases hb : 256 < xs.length
  · have e2 : smK xs.length r = 3 := if_pos hb
    have e1 : smN xs.length r = 0 := by unfold smN; rw [e2, if_neg (by decide)]
    rw [e1, e2]
    obtain ⟨n, hn⟩ : ∃ n, xs.length = n := ⟨_, rfl⟩
    rw [hn] at hcap hb ⊢
    clear e1 e2 h hn hz hrd
    go_enter Try.func23, Try.ntmps23
    go_wp2
    go_ret2
    exact ⟨_, [], rfl, World.ownsRow_lit w #[] 0 (Nat.le_refl _) (by unfold maxLen; omega) rfl, rfl, fun i hi => by omega, (Below.refl _ _).alloc (Nat.le_refl _) _⟩
  · obtain ⟨M, hM⟩ : ∃ M : Nat, xs.length - 1 = M := ⟨_, rfl⟩
    have MX := Lib.hid (fun w => l00Max_any 0 ((xs.length : Int) - 1) (M : Int) (by split <;> omega) w)
    by_cases hin : 0 ≤ r ∧ r ≤ (xs.length : Int) - 1 ∨ (xs.length = 0 ∧ r = 0)
    · have IN := Lib.hid (fun w => in_t r 0 (M : Int) (by omega) w)
      have e2 : smK xs.length r = 0 := by unfold smK; rw [if_neg hb, if_pos hin]
      have e1 : smN xs.length r = xs.length := by unfold smN; rw [e2, if_pos rfl]
      rw [e1, e2]
      obtain ⟨i0, hi, hz0, hz1, hz2⟩ := info_parts info_f64'
      obtain ⟨q, rfl⟩ : ∃ q : Nat, r = q := ⟨r.toNat, by omega⟩
      rw [show ((q : Int)).toNat = q from rfl]
      have hW : ∀ i, i < xs.length → IsF (xs.getD i 0) (wO xs i) := fun i hi => wO_isF hz hi
      obtain ⟨T, hT⟩ : ∃ T : Nat, 2 * q + 1 = T := ⟨_, rfl⟩
      have hO : ∀ k, smO xs q k = fop .quo .f64 (sumO (smZ xs q k) T) (some (floatOfInt .f64 (T : Int))) := fun k => by unfold smO; rw [hT]
      have hZ : ∀ k i, smZ xs q k i = wO xs (smI xs.length q k i) := fun k i => rfl
      obtain ⟨n, hn⟩ : ∃ n, xs.length = n := ⟨_, rfl⟩
      rw [hn] at hb hin hcap hrd hW hZ MX ⊢
      have hqn : ∀ k, k < n → q < n := fun k hk => by omega
      have hqb : q ≤ 256 := by omega
      have hTb : T ≤ 600 := by omega
      have hT' : 2 * (q : Int) + 1 = (T : Int) := by omega
      have HRD := Lib.hid hrd
      have HW := Lib.hid hW
      have HO := Lib.hid hO
      have HZ := Lib.hid hZ
      have HT := Lib.hid hT
      have HQN := Lib.hid hqn
      have HLIT := Lib.hid (World.ownsRow_lit w (e := 30) (base := w.heap.size) (size := 1) #[] 0 (Nat.le_refl _) (by unfold maxLen; omega) rfl)
      clear h hz e1 e2 hrd hW hO hZ hn hM hT hin hqn
      go_enter Try.func23, Try.ntmps23
      go_wp2_with fail
      refine (MX.out _).mono ?_
      rintro e w' ⟨rfl, rfl⟩
      go_wp2_with fail
      refine (IN.out _).mono ?_
      rintro e w' ⟨rfl, rfl⟩
      go_wp2
      go_loopw [7, 8] (fun v7 i wr => ∃ (k : Nat) (gs : List Nat), i = .int .i64 k ∧ k ≤ n ∧ Row wr w'.heap.size 30 v7 (flts gs) ∧ gs.length = k ∧ (∀ j, j < k → IsF (gs.getD j 0) (smO xs q j)) ∧ Below w'.heap.size w' wr) (fun _ i _ => n - (intOf i).toNat)
      case atStart => exact ⟨0, [], rfl, Nat.zero_le _, HLIT.out, rfl, fun j hj => by omega, (Below.refl _ _).alloc (Nat.le_refl _) _⟩
      case round =>
        obtain ⟨k, gs, rfl, hk, hrw, hfs, hgd, hbw⟩ := hrel
        have HRW := Lib.hid hrw
        have HFS := Lib.hid hfs
        have HGD := Lib.hid hgd
        have HBW := Lib.hid hbw
        clear hrw hfs hgd hbw
        by_cases hlt : k < n
        · have hq := HQN.out k hlt
          have hnz : ¬ (n : Int) = 0 := by omega
          have hnz' : ¬ n = 0 := by omega
          obtain ⟨wo, hwo⟩ : ∃ wo, wo = wr := ⟨_, rfl⟩
          have CELL : Hid (∀ P, P < n → ∃ g, a = some ⟨g, 0, none⟩ ∧ ∀ m, (wo.drewN m).cell? ⟨g, P, none⟩ = some (.float .f64 (xs.getD P 0))) := fun P hP => by
            obtain ⟨g, e, hg, hc⟩ := HRD.out P hP
            refine ⟨g, e, fun m => ?_⟩
            rw [hwo]
            show wr.cell? _ = _
            rw [HBW.out.cell hg]; exact hc
          have p0 := smI_lt q k 0 (show 0 < n by omega)
          have q0 := sm_rest0 (k := k) hq
          have hz00 := HZ.out k 0
          obtain ⟨P, hP⟩ : ∃ P, smI n q k 0 = P := ⟨_, rfl⟩
          rw [hP] at p0 q0 hz00
          obtain ⟨g, rfl, hc⟩ := CELL.out P p0
          have c1 : wr.cell? ⟨g, P, none⟩ = some (.float .f64 (xs.getD P 0)) := by rw [← hwo]; exact hc 0
          have hx := HW.out P p0
          obtain ⟨x, hxx⟩ : ∃ x, xs.getD P 0 = x := ⟨_, rfl⟩
          rw [hxx] at c1 hx
          have HX : Hid (IsF x (sumO (smZ xs q k) 1)) := by rw [sumO_one, hz00]; exact hx
          have q0' : ((k : Int) - (q : Int) + (n : Int)).tmod (n : Int) = (P : Int) := by rw [Int.tmod_eq_emod_of_nonneg (by omega)]; exact q0
          have i1 : (P : Int) < (n : Int) := by omega
          have eW1 : IntKind.i64.wrap ((k : Int) - (q : Int)) = (k : Int) - (q : Int) := IntWalk.i64_in _ (by omega)
          have eW2 : IntKind.i64.wrap ((k : Int) - (q : Int) + (n : Int)) = (k : Int) - (q : Int) + (n : Int) := IntWalk.i64_in _ (by omega)
          clear hxx hx hz00 hP hc
          go_wp2
          rw [← hwo] at HRW HBW ⊢
          clear hwo
          go_loopw [9, 10] (fun s j wq => ∃ (i b m : Nat) (J : Int), j = .int .i64 J ∧ s = .float .f64 b ∧ J + (q : Int) = (i : Int) ∧ 1 ≤ i ∧ i ≤ T ∧ IsF b (sumO (smZ xs q k) i) ∧ wq = wo.drewN m) (fun _ j _ => ((q : Int) + 1 - intOf j).toNat)
          case atStart => exact ⟨1, x, 0, _, rfl, rfl, by omega, by omega, by have := HT.out; omega, HX.out, rfl⟩
          case round =>
            obtain ⟨i, s, m, J, rfl, rfl, hJ, hi1, hiT, hs, hw⟩ := hrel
            have HS := Lib.hid hs
            have HWR := Lib.hid hw
            have HJ := Lib.hid hJ
            clear hs hw hJ
            by_cases hle : J ≤ (q : Int)
            · have p1 := smI_lt q k i (show 0 < n by omega)
              have q1 := sm_rest' (k := k) hq HJ.out
              have hz1' := HZ.out k i
              obtain ⟨P', hP'⟩ : ∃ P, smI n q k i = P := ⟨_, rfl⟩
              rw [hP'] at p1 q1 hz1'
              obtain ⟨g', e', hc'⟩ := CELL.out P' p1
              simp only [Option.some.injEq, Addr.mk.injEq, and_true] at e'
              subst e'
              have c2 : wr.cell? ⟨g, P', none⟩ = some (.float .f64 (xs.getD P' 0)) := by rw [HWR.out]; exact hc' m
              have hy := HW.out P' p1
              obtain ⟨y, hyy⟩ : ∃ x, xs.getD P' 0 = x := ⟨_, rfl⟩
              rw [hyy] at c2 hy
              have e0 : sumO (smZ xs q k) (i + 1) = fop .add .f64 (sumO (smZ xs q k) i) (smZ xs q k i) := sumO_succ _ (by omega)
              have HN : Hid (∀ wf, IsF (fres .add .f64 s y wf) (sumO (smZ xs q k) (i + 1))) := fun wf => by rw [e0, hz1']; exact isF_fres HS.out hy wf
              have b1 : -256 ≤ J := by have := HJ.out; omega
              have q1' : ((k : Int) + J + (n : Int)).tmod (n : Int) = (P' : Int) := by have := HJ.out; rw [Int.tmod_eq_emod_of_nonneg (by omega)]; exact q1
              have j1 : (P' : Int) < (n : Int) := by omega
              have eV1 : IntKind.i64.wrap ((k : Int) + J) = (k : Int) + J := IntWalk.i64_in _ (by omega)
              have eV2 : IntKind.i64.wrap ((k : Int) + J + (n : Int)) = (k : Int) + J + (n : Int) := IntWalk.i64_in _ (by omega)
              have hnext : Hid (J + 1 + (q : Int) = ((i + 1 : Nat) : Int) ∧ i + 1 ≤ T) := ⟨by have := HJ.out; omega, by have := HJ.out; have := HT.out; omega⟩
              clear hyy hy hz1' hP' hc' e0
              go_wp2
              go_roundw
              case rel => exact ⟨i + 1, _, _, J + 1, by go_num, rfl, hnext.out.1, by omega, hnext.out.2, HN.out _, by rw [HWR.out, World.drewN_drewN]⟩
              case measure => simp [intOf]; omega
            · have HI : Hid (i = T) := by have := HJ.out; have := HT.out; show i = T; omega
              have HS2 : Hid (IsF s (sumO (smZ xs q k) T)) := by rw [← HI.out]; exact HS.out
              have hle' : decide (J ≤ (q : Int)) = false := decide_eq_false hle
              have hl8 : (flts gs).length = k := by rw [flts_length, HFS.out]
              have HRW2 : Hid (Row wr w'.heap.size 30 u7 (flts gs)) := by rw [HWR.out]; exact HRW.out.drewN m
              have HBW2 : Hid (Below w'.heap.size w' wr) := by rw [HWR.out]; exact below_draws HBW.out m
              have HN : Hid (∀ wf, IsF (fres .quo .f64 s (floatOfInt .f64 (T : Int)) wf) (smO xs q k)) := fun wf => by rw [HO.out]; exact isF_fres HS2.out (IsF.ofInt _) wf
              clear HS HS2 HI HJ
              go_wp2_with (at_builtin; refine wpList_append_own _ rfl _ _ 24 rfl w'.heap.size 30 i0 (.float .f64 0) 1 8 Try.underlying24 hi hz0 hz1 hz2 rfl (by decide) _ _ _ rfl ((HRW2.out.drewN _).alloc _) ⟨_, 0, none⟩ 1 1 [.float .f64 _] rfl rfl (cell_one_new _ _ _) (one_single _ _) (by rw [hl8]; simp only [maxLen]; omega) (by rw [hl8]; omega) (by have := HBW2.out.size; simp; omega) ?_)
              intro v' w1 hown' hgrow _
              have hF := snocGood (d := (0 : Nat)) (G := fun i p' => IsF p' (smO xs q i)) HFS.out HGD.out (HN.out wr)
              have hb' : Below w'.heap.size w' w1 := ((below_draws HBW2.out _).alloc (by have := HBW2.out.size; simp; omega) _).grown hgrow (by have := HBW2.out.size; simp; omega) (fun b e => (HRW2.out.lt b e).1)
              have HO' : Hid (∃ fs', Row w1 w'.heap.size 30 v' (flts fs') ∧ fs'.length = k + 1 ∧ ∀ j, j < k + 1 → IsF (fs'.getD j 0) (smO xs q j)) := by
                refine ⟨gs ++ [_], ?_, hF.1, hF.2⟩
                show w1.ownsRow _ _ _ _ _ _
                rw [flts_snoc, List.length_append, hl8]
                (try rw [hl8] at hown')
                exact hown'
              have HB' := Lib.hid hb'
              obtain ⟨fs', hO'⟩ := HO'.out
              have HOO := Lib.hid hO'
              clear hown' hgrow hb' hF hO' HO' HRW HBW HRW2 HBW2 hl8
              go_wp2
              go_roundw
              case rel => first | exact ⟨k + 1, fs', by go_num, by omega, HOO.out.1, HOO.out.2.1, HOO.out.2.2, HB'.out⟩ | ((repeat apply Exists.intro); refine ⟨?_, rfl⟩; exact ⟨k + 1, fs', by go_num, by omega, HOO.out.1, HOO.out.2.1, HOO.out.2.2, HB'.out⟩)
              case measure => simp [intOf]; omega
        · have e : k = n := by omega
          subst e
          go_wp2
          go_ret2
          exact ⟨_, gs, rfl, HRW.out, HFS.out, HGD.out, HBW.out⟩
    · have IN := Lib.hid (fun w => in_f r 0 (M : Int) (by omega) w)
      have e2 : smK xs.length r = 2 := by unfold smK; rw [if_neg hb, if_neg hin]
      have e1 : smN xs.length r = 0 := by unfold smN; rw [e2, if_neg (by decide)]
      rw [e1, e2]
      obtain ⟨n, hn⟩ : ∃ n, xs.length = n := ⟨_, rfl⟩
      rw [hn] at hcap hb MX ⊢
      clear e1 e2 h hn hz hrd hin hM
      go_enter Try.func23, Try.ntmps23
      go_wp2_with fail
      refine (MX.out _).mono ?_
      rintro e w' ⟨rfl, rfl⟩
      go_wp2_with fail
      refine (IN.out _).mono ?_
      rintro e w' ⟨rfl, rfl⟩
      go_wp2
      go_ret2
      exact ⟨_, [], rfl, World.ownsRow_lit w' #[] 0 (Nat.le_refl _) (by unfold maxLen; omega) rfl, rfl, fun i hi => by omega, (Below.refl _ _).alloc (Nat.le_refl _) _⟩

end Go.Proofs.Ytnigbjjllolgdaa
