import Derived.Test.YtpobbicbfnglaaaSpJ
/-
  PeakBetween of both.
-/
set_option linter.unusedVariables false
set_option linter.unusedSimpArgs false
namespace Go.Proofs.Ytpobbicbfnglaaa
open Go.RowKit Flt Fast
attribute [local go_sem] run_fadd run_fsub run_fmul run_fquo run_cadd run_csub

def ringK (n : Nat) : Int := if 256 < n then 3 else if n < 3 then 2 else 0
theorem ringK_zero {n : Nat} (h : ringK n = 0) : 3 ≤ n ∧ n ≤ 256 := by
  unfold ringK at h
  split at h
  · omega
  · split at h <;> omega

theorem hills_impl (a : Option Addr) (n cap : Nat) (hm : (n : Int) ≤ 9223372036854775807) (w : World) :
    Calls Try.prog 50 #[.slice a n cap] w fun e w' => e = .returned (.int .i64 (ringK n)) ∧ w' = w := by
  by_cases h1 : 256 < n
  · rw [show ringK n = 3 from if_pos h1]
    go_enter Try.func50, Try.ntmps50
    go_wp2
    go_ret
    exact ⟨rfl, rfl⟩
  · by_cases h2 : n < 3
    · rw [show ringK n = 2 by unfold ringK; rw [if_neg h1, if_pos h2]]
      go_enter Try.func50, Try.ntmps50
      go_wp2
      go_ret
      exact ⟨rfl, rfl⟩
    · rw [show ringK n = 0 by unfold ringK; rw [if_neg h1, if_neg h2]]
      go_enter Try.func50, Try.ntmps50
      go_wp2
      go_ret
      exact ⟨rfl, rfl⟩

theorem hills_spec (a : Option Addr) (n cap : Nat) (hm : (n : Int) ≤ 9223372036854775807) (w : World) :
    Calls Try.prog 49 #[.slice a n cap] w fun e w' => e = .returned (.int .i64 (ringK n)) ∧ w' = w := by
  by_cases h1 : 256 < n
  · rw [show ringK n = 3 from if_pos h1]
    go_enter Try.func49, Try.ntmps49
    go_wp2
    go_ret
    exact ⟨rfl, rfl⟩
  · by_cases h2 : n < 3
    · rw [show ringK n = 2 by unfold ringK; rw [if_neg h1, if_pos h2]]
      go_enter Try.func49, Try.ntmps49
      go_wp2
      go_ret
      exact ⟨rfl, rfl⟩
    · rw [show ringK n = 0 by unfold ringK; rw [if_neg h1, if_neg h2]]
      go_enter Try.func49, Try.ntmps49
      go_wp2
      go_ret
      exact ⟨rfl, rfl⟩

/-- Two floats and a code are returned. -/
def Float2To (r s : Option Nat) (c : Int) (w : World) (e : Ending) (w' : World) : Prop :=
  ∃ a b, e = .returned (.tuple #[.float .f64 a, .float .f64 b, .int .i64 c]) ∧ IsF a r ∧ IsF b s ∧ Below w.heap.size w w'

def pbIn (xs : List Nat) (k : Int) : Prop := ringK xs.length = 0 ∧ 0 ≤ k ∧ k < (xs.length : Int)
instance (xs : List Nat) (k : Int) : Decidable (pbIn xs k) := by unfold pbIn; infer_instance
/-- The offset and the value at a place. -/
def hillO (xs : List Nat) (k : Nat) : Option Nat := offO (wO xs (prv xs.length k)) (wO xs k) (wO xs (nxt xs.length k))
def hillV (xs : List Nat) (k : Nat) : Option Nat := topO (wO xs (prv xs.length k)) (wO xs k) (wO xs (nxt xs.length k))
def pbK (xs : List Nat) (k : Int) : Int := if ringK xs.length = 0 then (if 0 ≤ k ∧ k < (xs.length : Int) then (if inUnit (hillO xs k.toNat) = true then 0 else 4) else 2) else ringK xs.length
def pbO (xs : List Nat) (k : Int) : Option Nat := if pbK xs k = 0 then hillO xs k.toNat else some 0
def pbV (xs : List Nat) (k : Int) : Option Nat := if pbK xs k = 0 then hillV xs k.toNat else some 0

set_option maxRecDepth 100000 in
set_option maxHeartbeats 4000000 in
theorem between_impl (xs : List Nat) (hz : ∀ z ∈ xs, z < 18446744073709551616) (k : Int) (v : Value) (w : World) (h : Reads w v (flts xs)) :
    Calls Try.prog 25 #[v, .int .i64 k] w (Float2To (pbO xs k) (pbV xs k) (pbK xs k) w) := by
  have hcap := fl_cap h
  have hf := fl_form h
  have hO : pbO xs k = if pbK xs k = 0 then hillO xs k.toNat else some 0 := rfl
  have hV : pbV xs k = if pbK xs k = 0 then hillV xs k.toNat else some 0 := rfl
  have hK : pbK xs k = if ringK xs.length = 0 then (if 0 ≤ k ∧ k < (xs.length : Int) then (if inUnit (hillO xs k.toNat) = true then 0 else 4) else 2) else ringK xs.length := rfl
  rw [hO, hV]
  have CK := Lib.hid (fun (a : Option Addr) (cap : Nat) (w : World) (hm : (xs.length : Int) ≤ 9223372036854775807) => hills_impl a xs.length cap hm w)
  by_cases hr : ringK xs.length = 0
  · obtain ⟨n3, n256⟩ := ringK_zero hr
    rw [hr] at CK hK
    rw [if_pos rfl] at hK
    by_cases hin : 0 ≤ k ∧ k < (xs.length : Int)
    · rw [if_pos hin] at hK
      obtain ⟨j, rfl⟩ : ∃ j : Nat, k = j := ⟨k.toNat, by omega⟩
      rw [show ((j : Int)).toNat = j from rfl] at *
      have hj : j < xs.length := by omega
      have H := Lib.hid (fun (w1 : World) (hb : Below w.heap.size w w1) => hillAt_any xs xs.length rfl n256 j hj v w1 (h.below hb))
      have T := Lib.hid (fun w => top_any (xs.getD (prv xs.length j) 0) (xs.getD j 0) (xs.getD (nxt xs.length j) 0) _ _ _ (wO_isF hz (prv_lt hj)) (wO_isF hz hj) (wO_isF hz (nxt_lt hj)) w)
      have eO : hillO xs j = offO (wO xs (prv xs.length j)) (wO xs j) (wO xs (nxt xs.length j)) := rfl
      have eV : hillV xs j = topO (wO xs (prv xs.length j)) (wO xs j) (wO xs (nxt xs.length j)) := rfl
      rw [← eO, ← eV] at T
      obtain ⟨a, cap, rfl⟩ := hf
      rw [flts_length] at *
      replace CK := Lib.hid (fun w => CK.out a cap w (hcap _ _ _ rfl))
      obtain ⟨n, hn⟩ : ∃ n, xs.length = n := ⟨_, rfl⟩
      rw [hn] at CK H T hj n256
      rw [hn]
      have g1 : decide ((j : Int) < 0) = false := by simp
      have g2 : decide ((n : Int) ≤ (j : Int)) = false := by simp; omega
      obtain ⟨x, hxx⟩ : ∃ x, xs.getD (prv n j) 0 = x := ⟨_, rfl⟩
      obtain ⟨y, hyy⟩ : ∃ x, xs.getD j 0 = x := ⟨_, rfl⟩
      obtain ⟨z, hzz⟩ : ∃ x, xs.getD (nxt n j) 0 = x := ⟨_, rfl⟩
      rw [hxx, hyy, hzz] at H T
      obtain ⟨u, hu⟩ : ∃ u, inUnit (hillO xs j) = u := ⟨_, rfl⟩
      rw [hu] at T hK
      rw [hK]
      have hmax : (n : Int) ≤ 9223372036854775807 := by omega
      clear h hz hO hV hK hr hin hxx hyy hzz hn hcap hu eO eV
      cases u
      · rw [show (if false = true then (0 : Int) else 4) = 4 from rfl, if_neg (by decide), if_neg (by decide)]
        go_enter Try.func25, Try.ntmps25
        go_wp2_with fail
        refine (CK.out _).mono ?_
        rintro e w' ⟨rfl, rfl⟩
        go_wp2_with fail
        refine (H.out _ (Below.refl _ _)).mono ?_
        rintro e w2 ⟨rfl, hb2⟩
        have HB2 := Lib.hid hb2
        clear hb2
        go_wp2_with fail
        refine (T.out _).mono ?_
        rintro e w3 ⟨o, t, rfl, ho, ht, hb3⟩
        have HB3 := Lib.hid (below_step HB2.out hb3 HB2.out.size)
        clear ho ht hb3
        go_wp2
        go_ret3
        exact ⟨0, 0, rfl, IsF.lit (by decide) (by omega), IsF.lit (by decide) (by omega), HB3.out⟩
      · rw [show (if true = true then (0 : Int) else 4) = 0 from rfl, if_pos rfl, if_pos rfl]
        go_enter Try.func25, Try.ntmps25
        go_wp2_with fail
        refine (CK.out _).mono ?_
        rintro e w' ⟨rfl, rfl⟩
        go_wp2_with fail
        refine (H.out _ (Below.refl _ _)).mono ?_
        rintro e w2 ⟨rfl, hb2⟩
        have HB2 := Lib.hid hb2
        clear hb2
        go_wp2_with fail
        refine (T.out _).mono ?_
        rintro e w3 ⟨o, t, rfl, ho, ht, hb3⟩
        have HB3 := Lib.hid (below_step HB2.out hb3 HB2.out.size)
        have HO := Lib.hid ho
        have HT := Lib.hid ht
        clear ho ht hb3
        go_wp2
        go_ret3
        exact ⟨o, t, rfl, HO.out, HT.out, HB3.out⟩
    · rw [if_neg hin] at hK
      rw [hK, if_neg (by decide), if_neg (by decide)]
      obtain ⟨a, cap, rfl⟩ := hf
      rw [flts_length] at *
      replace CK := Lib.hid (fun w => CK.out a cap w (hcap _ _ _ rfl))
      obtain ⟨n, hn⟩ : ∃ n, xs.length = n := ⟨_, rfl⟩
      rw [hn] at CK hin n256
      rw [hn]
      have hmax : (n : Int) ≤ 9223372036854775807 := by omega
      clear h hz hO hV hK hr hn hcap
      by_cases k0 : k < 0
      · have g1 : decide (k < 0) = true := by simp [k0]
        go_enter Try.func25, Try.ntmps25
        go_wp2_with fail
        refine (CK.out _).mono ?_
        rintro e w' ⟨rfl, rfl⟩
        go_wp2
        go_ret3
        exact ⟨0, 0, rfl, IsF.lit (by decide) (by omega), IsF.lit (by decide) (by omega), Below.refl _ _⟩
      · have g1 : decide (k < 0) = false := by simp; omega
        have g2 : decide ((n : Int) ≤ k) = true := by simp; omega
        have g3 : (n : Int) ≤ k := by omega
        clear hin
        go_enter Try.func25, Try.ntmps25
        go_wp2_with fail
        refine (CK.out _).mono ?_
        rintro e w' ⟨rfl, rfl⟩
        go_wp2
        go_ret3
        exact ⟨0, 0, rfl, IsF.lit (by decide) (by omega), IsF.lit (by decide) (by omega), Below.refl _ _⟩
  · rw [if_neg hr] at hK
    rw [hK, if_neg hr, if_neg hr]
    obtain ⟨a, cap, rfl⟩ := hf
    rw [flts_length] at *
    replace CK := Lib.hid (fun w => CK.out a cap w (hcap _ _ _ rfl))
    obtain ⟨n, hn⟩ : ∃ n, xs.length = n := ⟨_, rfl⟩
    rw [hn] at CK hr ⊢
    obtain ⟨K, hKK⟩ : ∃ K, ringK n = K := ⟨_, rfl⟩
    rw [hKK] at CK hr ⊢
    clear h hz hO hV hK hn hcap hKK
    go_enter Try.func25, Try.ntmps25
    go_wp2_with fail
    refine (CK.out _).mono ?_
    rintro e w' ⟨rfl, rfl⟩
    go_wp2
    go_ret3
    exact ⟨0, 0, rfl, IsF.lit (by decide) (by omega), IsF.lit (by decide) (by omega), Below.refl _ _⟩

/-- Is it 0; at least -1; at most 1. -/
def eqzO : Option Nat → Bool
  | some x => FloatKind.f64.format.order x 0 == some .eq
  | none => false
def geO1 : Option Nat → Bool
  | some x => FloatKind.f64.format.order x 13830554455654793216 == some .gt || FloatKind.f64.format.order x 13830554455654793216 == some .eq
  | none => false
def leO1 : Option Nat → Bool
  | some x => FloatKind.f64.format.order x 4607182418800017408 == some .lt || FloatKind.f64.format.order x 4607182418800017408 == some .eq
  | none => false
theorem eqz_isF {a : Nat} {z : Option Nat} (h : IsF a z) : (FloatKind.f64.format.order a 0 == some .eq) = eqzO z := by
  rcases isF_cases h with ⟨hn, rfl⟩ | ⟨hn, rfl⟩
  · rw [ordN_l hn]; rfl
  · rfl
theorem ge1_isF {a : Nat} {z : Option Nat} (h : IsF a z) : (FloatKind.f64.format.order a 13830554455654793216 == some .gt || FloatKind.f64.format.order a 13830554455654793216 == some .eq) = geO1 z := by
  rcases isF_cases h with ⟨hn, rfl⟩ | ⟨hn, rfl⟩
  · rw [ordN_l hn]; rfl
  · rfl
theorem le1_isF {a : Nat} {z : Option Nat} (h : IsF a z) : (FloatKind.f64.format.order a 4607182418800017408 == some .lt || FloatKind.f64.format.order a 4607182418800017408 == some .eq) = leO1 z := by
  rcases isF_cases h with ⟨hn, rfl⟩ | ⟨hn, rfl⟩
  · rw [ordN_l hn]; rfl
  · rfl
theorem unit_parts {a : Nat} {z : Option Nat} (h : IsF a z) : inUnit z = (geO1 z && leO1 z) := by
  rw [← unit_both h, ge1_isF h, le1_isF h]
theorem unit_eqz {d : Nat} {q z : Option Nat} (h : IsF d z) (hz : eqzO z = true) : inUnit (fop .quo .f64 q z) = false := by
  rcases isF_cases h with ⟨hn, rfl⟩ | ⟨hn, rfl⟩
  · cases hz
  · exact unit_zero h.lt hz

set_option maxRecDepth 100000 in
set_option maxHeartbeats 4000000 in
theorem between_spec (xs : List Nat) (hz : ∀ z ∈ xs, z < 18446744073709551616) (k : Int) (v : Value) (w : World) (h : Reads w v (flts xs)) :
    Calls Try.prog 24 #[v, .int .i64 k] w (Float2To (pbO xs k) (pbV xs k) (pbK xs k) w) := by
  have hcap := fl_cap h
  have hf := fl_form h
  have hrd := fl_reads h
  have hO : pbO xs k = if pbK xs k = 0 then hillO xs k.toNat else some 0 := rfl
  have hV : pbV xs k = if pbK xs k = 0 then hillV xs k.toNat else some 0 := rfl
  have hK : pbK xs k = if ringK xs.length = 0 then (if 0 ≤ k ∧ k < (xs.length : Int) then (if inUnit (hillO xs k.toNat) = true then 0 else 4) else 2) else ringK xs.length := rfl
  rw [hO, hV]
  have CK := Lib.hid (fun (a : Option Addr) (cap : Nat) (w : World) (hm : (xs.length : Int) ≤ 9223372036854775807) => hills_spec a xs.length cap hm w)
  by_cases hr : ringK xs.length = 0
  · obtain ⟨n3, n256⟩ := ringK_zero hr
    rw [hr] at CK hK
    rw [if_pos rfl] at hK
    by_cases hin : 0 ≤ k ∧ k < (xs.length : Int)
    · rw [if_pos hin] at hK
      have IN := Lib.hid (fun w => in_t k 0 ((xs.length : Int) - 1) ⟨hin.1, by omega⟩ w)
      obtain ⟨j, rfl⟩ : ∃ j : Nat, k = j := ⟨k.toNat, by omega⟩
      rw [show ((j : Int)).toNat = j from rfl] at *
      have hj : j < xs.length := by omega
      have hX := wO_isF hz (prv_lt hj)
      have hY := wO_isF hz hj
      have hZ := wO_isF hz (nxt_lt hj)
      have eO : hillO xs j = offO (wO xs (prv xs.length j)) (wO xs j) (wO xs (nxt xs.length j)) := rfl
      have eV : hillV xs j = topO (wO xs (prv xs.length j)) (wO xs j) (wO xs (nxt xs.length j)) := rfl
      obtain ⟨a, cap, rfl⟩ := hf
      rw [flts_length] at *
      replace CK := Lib.hid (fun w => CK.out a cap w (hcap _ _ _ rfl))
      replace hrd := hrd _ _ _ rfl
      obtain ⟨g, rfl, hgw, c1⟩ := hrd _ (prv_lt hj)
      obtain ⟨g', e', -, c2⟩ := hrd _ hj
      simp only [Option.some.injEq, Addr.mk.injEq, and_true] at e'
      subst e'
      obtain ⟨g', e', -, c3⟩ := hrd _ (nxt_lt hj)
      simp only [Option.some.injEq, Addr.mk.injEq, and_true] at e'
      subst e'
      obtain ⟨n, hn⟩ : ∃ n, xs.length = n := ⟨_, rfl⟩
      rw [hn] at CK IN hj n256 n3 hX hZ c1 c3 eO eV
      rw [hn]
      obtain ⟨x, hxx⟩ : ∃ x, xs.getD (prv n j) 0 = x := ⟨_, rfl⟩
      obtain ⟨y, hyy⟩ : ∃ x, xs.getD j 0 = x := ⟨_, rfl⟩
      obtain ⟨z, hzz⟩ : ∃ x, xs.getD (nxt n j) 0 = x := ⟨_, rfl⟩
      rw [hxx] at c1 hX
      rw [hyy] at c2 hY
      rw [hzz] at c3 hZ
      have p1 := prv_lt hj
      have p2 := nxt_lt hj
      have q1 : ((j : Int) + (n : Int) - 1) % (n : Int) = (prv n j : Int) := by
        rw [show (j : Int) + (n : Int) - 1 = (j : Int) - 1 + (n : Int) by omega, Int.add_emod_right]; exact prv_rest hj
      have q2 := nxt_rest hj
      obtain ⟨P, hP⟩ : ∃ P, prv n j = P := ⟨_, rfl⟩
      obtain ⟨Q, hQ⟩ : ∃ Q, nxt n j = Q := ⟨_, rfl⟩
      rw [hP] at c1 p1 q1
      rw [hQ] at c3 p2 q2
      have q1' : ((j : Int) + (n : Int) - 1).tmod (n : Int) = (P : Int) := by rw [Int.tmod_eq_emod_of_nonneg (by omega)]; exact q1
      have q2' : ((j : Int) + 1).tmod (n : Int) = (Q : Int) := by rw [Int.tmod_eq_emod_of_nonneg (by omega)]; exact q2
      have i1 : (P : Int) < (n : Int) := by omega
      have i2 : (Q : Int) < (n : Int) := by omega
      have i3 : (j : Int) < (n : Int) := by omega
      have hnz : ¬ (n : Int) = 0 := by omega
      have hnz' : ¬ n = 0 := by omega
      have hmax : (n : Int) ≤ 9223372036854775807 := by omega
      rw [hP, hQ] at eO eV
      rw [hP] at hX
      rw [hQ] at hZ
      have HOI := Lib.hid (fun w1 w2 w3 w4 w5 w6 => off_isF hX hY hZ w1 w2 w3 w4 w5 w6)
      have HTI := Lib.hid (fun o (ho : IsF o (offO (wO xs P) (wO xs j) (wO xs Q))) w1 w2 w3 w4 => top_isF hX hY hZ ho w1 w2 w3 w4)
      have HD := fun w3 w4 w5 => eqz_isF (bend_isF hX hY hZ w3 w4 w5)
      have HG := fun w1 w2 w3 w4 w5 w6 => ge1_isF (HOI.out w1 w2 w3 w4 w5 w6)
      have HL := fun w1 w2 w3 w4 w5 w6 => le1_isF (HOI.out w1 w2 w3 w4 w5 w6)
      have hu := unit_parts (HOI.out w w w w w w)
      have hdz : eqzO (bendO (wO xs P) (wO xs j) (wO xs Q)) = true → inUnit (offO (wO xs P) (wO xs j) (wO xs Q)) = false := fun e => unit_eqz (bend_isF hX hY hZ w w w) e
      obtain ⟨o, ho⟩ : ∃ o, offO (wO xs P) (wO xs j) (wO xs Q) = o := ⟨_, rfl⟩
      obtain ⟨t, ht⟩ : ∃ o, topO (wO xs P) (wO xs j) (wO xs Q) = o := ⟨_, rfl⟩
      obtain ⟨bd, hbd⟩ : ∃ o, bendO (wO xs P) (wO xs j) (wO xs Q) = o := ⟨_, rfl⟩
      rw [ho] at eO HOI HTI HG HL hu hdz
      rw [ht] at eV HTI
      rw [hbd] at HD hdz
      rw [eO] at hK ⊢
      rw [eV]
      rw [hu] at hK hdz
      obtain ⟨dz, hdd⟩ : ∃ b, eqzO bd = b := ⟨_, rfl⟩
      obtain ⟨g1, hg1⟩ : ∃ b, geO1 o = b := ⟨_, rfl⟩
      obtain ⟨g2, hg2⟩ : ∃ b, leO1 o = b := ⟨_, rfl⟩
      rw [hdd] at HD hdz
      rw [hg1] at HG hK hdz
      rw [hg2] at HL hK hdz
      rw [hK]
      clear h hz hO hV hK hr hin hxx hyy hzz hn hcap hu eO eV hX hY hZ hrd hP hQ q1' q2' hdd hg1 hg2 ho ht hbd
      have q1' : ((j : Int) + (n : Int) - 1).tmod (n : Int) = (P : Int) := by rw [Int.tmod_eq_emod_of_nonneg (by omega)]; exact q1
      have q2' : ((j : Int) + 1).tmod (n : Int) = (Q : Int) := by rw [Int.tmod_eq_emod_of_nonneg (by omega)]; exact q2
      by_cases hok : dz = false ∧ g1 = true ∧ g2 = true
      · obtain ⟨rfl, rfl, rfl⟩ := hok
        rw [show (if (true && true) = true then (0 : Int) else 4) = 0 from rfl, if_pos rfl, if_pos rfl]
        clear hdz
        go_enter Try.func24, Try.ntmps24
        go_wp2_with fail
        refine (CK.out _).mono ?_
        rintro e w' ⟨rfl, rfl⟩
        go_wp2_with fail
        refine (IN.out _).mono ?_
        rintro e w' ⟨rfl, rfl⟩
        go_wp2
        go_ret3
        exact ⟨_, _, rfl, HOI.out _ _ _ _ _ _, HTI.out _ (HOI.out _ _ _ _ _ _) _ _ _ _, below_draws (Below.refl _ _) _⟩
      · have hs : (if (g1 && g2) = true then (0 : Int) else 4) = 4 := by
          cases dz <;> cases g1 <;> cases g2 <;> simp_all
        rw [hs, if_neg (by decide), if_neg (by decide)]
        clear hs
        cases dz <;> cases g1 <;> cases g2
        all_goals first
          | (exfalso; simp at hok; done)
          | (exfalso; simp at hdz; done)
          | (clear hok hdz
             go_enter Try.func24, Try.ntmps24
             go_wp2_with fail
             refine (CK.out _).mono ?_
             rintro e w' ⟨rfl, rfl⟩
             go_wp2_with fail
             refine (IN.out _).mono ?_
             rintro e w' ⟨rfl, rfl⟩
             go_wp2
             go_ret3
             exact ⟨0, 0, rfl, IsF.lit (by decide) (by omega), IsF.lit (by decide) (by omega), below_draws (Below.refl _ _) _⟩)
    · rw [if_neg hin] at hK
      rw [hK, if_neg (by decide), if_neg (by decide)]
      have IN := Lib.hid (fun w => in_f k 0 ((xs.length : Int) - 1) (by omega) w)
      obtain ⟨a, cap, rfl⟩ := hf
      rw [flts_length] at *
      replace CK := Lib.hid (fun w => CK.out a cap w (hcap _ _ _ rfl))
      obtain ⟨n, hn⟩ : ∃ n, xs.length = n := ⟨_, rfl⟩
      rw [hn] at CK IN n256 n3
      rw [hn]
      have hmax : (n : Int) ≤ 9223372036854775807 := by omega
      clear h hz hO hV hK hr hn hcap hin hrd
      go_enter Try.func24, Try.ntmps24
      go_wp2_with fail
      refine (CK.out _).mono ?_
      rintro e w' ⟨rfl, rfl⟩
      go_wp2_with fail
      refine (IN.out _).mono ?_
      rintro e w' ⟨rfl, rfl⟩
      go_wp2
      go_ret3
      exact ⟨0, 0, rfl, IsF.lit (by decide) (by omega), IsF.lit (by decide) (by omega), Below.refl _ _⟩
  · rw [if_neg hr] at hK
    rw [hK, if_neg hr, if_neg hr]
    obtain ⟨a, cap, rfl⟩ := hf
    rw [flts_length] at *
    replace hcap := hcap _ _ _ rfl
    replace CK := Lib.hid (fun w => CK.out a cap w hcap)
    obtain ⟨n, hn⟩ : ∃ n, xs.length = n := ⟨_, rfl⟩
    rw [hn] at CK hr hcap ⊢
    obtain ⟨K, hKK⟩ : ∃ K, ringK n = K := ⟨_, rfl⟩
    rw [hKK] at CK hr ⊢
    have g0 : (K == 0) = false := by simpa using hr
    clear h hz hO hV hK hn hKK hrd
    go_enter Try.func24, Try.ntmps24
    go_wp2_with fail
    refine (CK.out _).mono ?_
    rintro e w' ⟨rfl, rfl⟩
    go_wp2
    go_ret3
    exact ⟨0, 0, rfl, IsF.lit (by decide) (by omega), IsF.lit (by decide) (by omega), Below.refl _ _⟩

end Go.Proofs.Ytpobbicbfnglaaa
