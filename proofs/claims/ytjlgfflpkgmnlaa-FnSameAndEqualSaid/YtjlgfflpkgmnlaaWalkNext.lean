import Derived.Test.YtjlgfflpkgmnlaaKit
import Derived.Test.YtjlgfflpkgmnlaaFlt
import Derived.Test.YtjlgfflpkgmnlaaRows
import Derived.Test.YtjlgfflpkgmnlaaExt
/-
  The walks of NextUp and NextUpNarrow.
-/
set_option linter.unusedVariables false
set_option linter.unusedSimpArgs false
namespace Go.Proofs.Ytjlgfflpkgmnlaa
open Go.RowKit Flt

/-- sameFloat of two words that are one, or both NaN. -/
theorem sameFloat_nan (a b : Nat) (ha : nan FloatKind.f64.format a = true) (hb : nan FloatKind.f64.format b = true) (w : World) :
    Calls Try.prog 23 #[.float .f64 a, .float .f64 b] w fun e w' => e = .returned (.bool true) ∧ w' = w := by
  have h1 : FloatKind.f64.format.order a a = none := ord_nan_l _ ha
  have h2 : FloatKind.f64.format.order b b = none := ord_nan_l _ hb
  go_enter Try.func23, Try.ntmps23
  go_wp2
  go_ret
  exact ⟨rfl, rfl⟩

theorem sameFloat_num (a : Nat) (ha : nan FloatKind.f64.format a = false) (h0 : place FloatKind.f64.format a ≠ 0) (w : World) :
    Calls Try.prog 23 #[.float .f64 a, .float .f64 a] w fun e w' => e = .returned (.bool true) ∧ w' = w := by
  have h1 : FloatKind.f64.format.order a a = some .eq := ord_eq ha ha rfl
  have hz : place FloatKind.f64.format 0 = 0 := by decide
  have hn : nan FloatKind.f64.format 0 = false := by decide
  rcases Int.lt_or_gt_of_ne h0 with h | h
  · have h2 : FloatKind.f64.format.order a 0 = some .lt := ord_lt ha hn (by rw [hz]; exact h)
    clear hz hn h0 h ha
    go_enter Try.func23, Try.ntmps23
    go_wp2
    go_ret
    exact ⟨rfl, rfl⟩
  · have h2 : FloatKind.f64.format.order a 0 = some .gt := ord_gt ha hn (by rw [hz]; exact h)
    clear hz hn h0 h ha
    go_enter Try.func23, Try.ntmps23
    go_wp2
    go_ret
    exact ⟨rfl, rfl⟩

theorem sameFloat_zero (w : World) :
    Calls Try.prog 23 #[.float .f64 0, .float .f64 0] w fun e w' => e = .returned (.bool true) ∧ w' = w := by
  have h1 : FloatKind.f64.format.order 0 0 = some .eq := by decide
  have h3 : FloatKind.f64.format.order 9218868437227405312 0 = some .gt := by decide
  have hq : ∀ w : World, (binOp .quo 24 (.float .f64 4607182418800017408) (.float .f64 0)).run Try.prog w = .ok (.float .f64 9218868437227405312) w := fun w => run_float_arith w .quo 24 .f64 _ _ _ (by decide +kernel)
  go_enter Try.func23, Try.ntmps23
  go_wp2
  go_ret
  exact ⟨rfl, rfl⟩

theorem sameFloat_mzero (w : World) :
    Calls Try.prog 23 #[.float .f64 9223372036854775808, .float .f64 9223372036854775808] w fun e w' => e = .returned (.bool true) ∧ w' = w := by
  have h0 : FloatKind.f64.format.order 9223372036854775808 9223372036854775808 = some .eq := by decide
  have h1 : FloatKind.f64.format.order 9223372036854775808 0 = some .eq := by decide
  have h3 : FloatKind.f64.format.order 18442240474082181120 0 = some .lt := by decide
  have hq : ∀ w : World, (binOp .quo 24 (.float .f64 4607182418800017408) (.float .f64 9223372036854775808)).run Try.prog w = .ok (.float .f64 18442240474082181120) w := fun w => run_float_arith w .quo 24 .f64 _ _ _ (by decide +kernel)
  go_enter Try.func23, Try.ntmps23
  go_wp2
  go_ret
  exact ⟨rfl, rfl⟩

/-- Two words that are one, or both NaN, are the same. -/
theorem sameFloat_any (a b : Nat) (h : cn .f64 a = cn .f64 b) (la : a < 18446744073709551616) (w : World) :
    Calls Try.prog 23 #[.float .f64 a, .float .f64 b] w fun e w' => e = .returned (.bool true) ∧ w' = w := by
  by_cases ha : nan FloatKind.f64.format a = true
  · have hb : nan FloatKind.f64.format b = true := by
      rw [cn_none ha] at h
      unfold cn at h
      split at h
      · assumption
      · cases h
    exact sameFloat_nan a b ha hb w
  · have ha : nan FloatKind.f64.format a = false := by simpa using ha
    have e : a = b := by
      rw [cn_some ha] at h
      unfold cn at h
      split at h
      · cases h
      · exact Option.some.inj h
    subst e
    by_cases h0 : place FloatKind.f64.format a = 0
    · by_cases hs : a < 9223372036854775808
      · have := place64_lo hs
        have e0 : (a : Int) = 0 := by rw [← this]; exact h0
        obtain rfl : a = 0 := by omega
        exact sameFloat_zero w
      · have := place64_hi (x := a) (by omega) la
        have e0 : 9223372036854775808 - (a : Int) = 0 := by rw [← this]; exact h0
        obtain rfl : a = 9223372036854775808 := by omega
        exact sameFloat_mzero w
    · exact sameFloat_num a ha h0 w

/-- The next greater word. -/
def upBits (a : Nat) : Nat := if a = 0 ∨ a = 9223372036854775808 then 1 else if a < 9223372036854775808 then (if a = 9218868437227405312 then a else a + 1) else a - 1

theorem plc_lo {x : Nat} (h : x < 9223372036854775808) : place FloatKind.f64.format x = x := place64_lo h
theorem plc_hi {x : Nat} (h : 9223372036854775808 ≤ x) (h' : x < 18446744073709551616) : place FloatKind.f64.format x = 9223372036854775808 - (x : Int) := place64_hi h h'
theorem nan_no {x : Nat} (h : x % 9223372036854775808 ≤ 9218868437227405312) : nan FloatKind.f64.format x = false := by
  show nan Ieee.double x = false
  rw [nan64]; exact decide_eq_false (by omega)
theorem nan_le {x : Nat} (h : nan FloatKind.f64.format x = false) : x % 9223372036854775808 ≤ 9218868437227405312 := by
  have h' : nan Ieee.double x = false := h
  rw [nan64] at h'
  have := of_decide_eq_false h'
  omega

theorem inf_any (w : World) :
    Calls Try.prog 70 #[.int .i64 1] w fun e w' => e = .returned (.float .f64 9218868437227405312) ∧ w' = w := by
  go_enter Try.func70, Try.ntmps70
  go_wp2
  go_ret
  exact ⟨rfl, rfl⟩

set_option maxRecDepth 100000 in
theorem copysign_one (w : World) :
    Calls Try.prog 121 #[.float .f64 1, .float .f64 9218868437227405312] w fun e w' => e = .returned (.float .f64 1) ∧ w' = w := by
  go_enter Try.func121, Try.ntmps121
  go_wp2
  go_ret
  exact ⟨by kernel_rfl, rfl⟩

set_option maxRecDepth 100000 in
set_option maxHeartbeats 1000000 in
theorem nextUp_impl (a : Nat) (ha : nan FloatKind.f64.format a = false) (la : a < 18446744073709551616) (w : World) :
    Calls Try.prog 17 #[.float .f64 a] w fun e w' => e = .returned (.float .f64 (upBits a)) ∧ w' = w := by
  have hle := nan_le ha
  have ni : nan FloatKind.f64.format 9218868437227405312 = false := by decide
  have nz : nan FloatKind.f64.format 0 = false := by decide
  have pi : place FloatKind.f64.format 9218868437227405312 = 9218868437227405312 := by decide
  have pz : place FloatKind.f64.format 0 = 0 := by decide
  have hii : FloatKind.f64.format.order 9218868437227405312 9218868437227405312 = some .eq := by decide
  have haa : FloatKind.f64.format.order a a = some .eq := ord_eq ha ha rfl
  by_cases h0 : a = 0 ∨ a = 9223372036854775808
  · have hu : upBits a = 1 := by unfold upBits; rw [if_pos h0]
    rw [hu]
    have p0 : place FloatKind.f64.format a = 0 := by rcases h0 with rfl | rfl <;> decide
    have h1 : FloatKind.f64.format.order a 9218868437227405312 = some .lt := ord_lt ha ni (by rw [p0, pi]; omega)
    have h2 : FloatKind.f64.format.order a 0 = some .eq := ord_eq ha nz (by rw [p0, pz])
    clear p0 pz pi nz ni h0 hle ha la hu
    go_enter Try.func17, Try.ntmps17
    go_wp2_with (first | (go_at_call 70; refine (inf_any _).mono ?_; rintro e w' ⟨rfl, rfl⟩) | (go_at_call 121; refine (copysign_one _).mono ?_; rintro e w' ⟨rfl, rfl⟩) | go_in)
    go_ret
    exact ⟨rfl, rfl⟩
  · by_cases hp : a < 9223372036854775808
    · have pa := plc_lo hp
      have h2 : FloatKind.f64.format.order a 0 = some .gt := ord_gt ha nz (by rw [pa, pz]; omega)
      by_cases hi : a = 9218868437227405312
      · have hu : upBits a = a := by unfold upBits; rw [if_neg h0, if_pos hp, if_pos hi]
        rw [hu]
        subst hi
        clear pa pz pi nz ni h0 hle ha la hu hp
        go_enter Try.func17, Try.ntmps17
        go_wp2_with (first | (go_at_call 70; refine (inf_any _).mono ?_; rintro e w' ⟨rfl, rfl⟩) | go_in)
        go_ret
        exact ⟨rfl, rfl⟩
      · have hu : upBits a = a + 1 := by unfold upBits; rw [if_neg h0, if_pos hp, if_neg hi]
        rw [hu]
        have h1 : FloatKind.f64.format.order a 9218868437227405312 = some .lt := ord_lt ha ni (by rw [pa, pi]; omega)
        have h3 : FloatKind.f64.format.order 9218868437227405312 a = some .gt := ord_gt ni ha (by rw [pa, pi]; omega)
        have hb : a ≤ 9223372036854775807 := by omega
        clear pa pz pi nz ni h0 hle ha la hu hp hi
        go_enter Try.func17, Try.ntmps17
        go_wp2_with (first | (go_at_call 70; refine (inf_any _).mono ?_; rintro e w' ⟨rfl, rfl⟩) | go_in)
        go_ret
        exact ⟨rfl, rfl⟩
    · have pa := plc_hi (x := a) (by omega) la
      have hu : upBits a = a - 1 := by unfold upBits; rw [if_neg h0, if_neg hp]
      rw [hu]
      have h1 : FloatKind.f64.format.order a 9218868437227405312 = some .lt := ord_lt ha ni (by rw [pa, pi]; omega)
      have h2 : FloatKind.f64.format.order a 0 = some .lt := ord_lt ha nz (by rw [pa, pz]; omega)
      have h3 : FloatKind.f64.format.order 9218868437227405312 a = some .gt := ord_gt ni ha (by rw [pa, pi]; omega)
      have hb : 9223372036854775808 < a := by omega
      clear pa pz pi nz ni h0 hle ha hu hp
      go_enter Try.func17, Try.ntmps17
      go_wp2_with (first | (go_at_call 70; refine (inf_any _).mono ?_; rintro e w' ⟨rfl, rfl⟩) | go_in)
      go_ret
      exact ⟨rfl, rfl⟩

theorem nextUp_impl_nan (a : Nat) (ha : nan FloatKind.f64.format a = true) (w : World) :
    Calls Try.prog 17 #[.float .f64 a] w fun e w' => e = .returned (.float .f64 9221120237041090561) ∧ w' = w := by
  have haa : FloatKind.f64.format.order a a = none := ord_nan_l _ ha
  clear ha
  go_enter Try.func17, Try.ntmps17
  go_wp2_with (first | (go_at_call 70; refine (inf_any _).mono ?_; rintro e w' ⟨rfl, rfl⟩) | go_in)
  go_ret
  exact ⟨rfl, rfl⟩

theorem nextUp_spec_nan (a : Nat) (ha : nan FloatKind.f64.format a = true) (w : World) :
    Calls Try.prog 22 #[.float .f64 a] w fun e w' => e = .returned (.float .f64 a) ∧ w' = w := by
  have haa : FloatKind.f64.format.order a a = none := ord_nan_l _ ha
  clear ha
  go_enter Try.func22, Try.ntmps22
  go_wp2
  go_ret
  exact ⟨rfl, rfl⟩

set_option maxRecDepth 100000 in
set_option maxHeartbeats 1000000 in
theorem nextUp_spec (a : Nat) (ha : nan FloatKind.f64.format a = false) (la : a < 18446744073709551616) (w : World) :
    Calls Try.prog 22 #[.float .f64 a] w fun e w' => e = .returned (.float .f64 (upBits a)) ∧ w' = w := by
  have hle := nan_le ha
  have nm : nan FloatKind.f64.format 9218868437227405311 = false := by decide
  have nz : nan FloatKind.f64.format 0 = false := by decide
  have pm : place FloatKind.f64.format 9218868437227405311 = 9218868437227405311 := by decide
  have pz : place FloatKind.f64.format 0 = 0 := by decide
  have haa : FloatKind.f64.format.order a a = some .eq := ord_eq ha ha rfl
  by_cases h0 : a = 0 ∨ a = 9223372036854775808
  · have hu : upBits a = 1 := by unfold upBits; rw [if_pos h0]
    rw [hu]
    have p0 : place FloatKind.f64.format a = 0 := by rcases h0 with rfl | rfl <;> decide
    have h1 : FloatKind.f64.format.order a 9218868437227405311 = some .lt := ord_lt ha nm (by rw [p0, pm]; omega)
    have h2 : FloatKind.f64.format.order a 0 = some .eq := ord_eq ha nz (by rw [p0, pz])
    clear p0 pz pm nz nm h0 hle ha la hu
    go_enter Try.func22, Try.ntmps22
    go_wp2
    go_ret
    exact ⟨rfl, rfl⟩
  · by_cases hp : a < 9223372036854775808
    · have pa := plc_lo hp
      have h2 : FloatKind.f64.format.order a 0 = some .gt := ord_gt ha nz (by rw [pa, pz]; omega)
      by_cases hi : a = 9218868437227405312
      · have hu : upBits a = a := by unfold upBits; rw [if_neg h0, if_pos hp, if_pos hi]
        rw [hu]
        have h1 : FloatKind.f64.format.order a 9218868437227405311 = some .gt := ord_gt ha nm (by rw [pa, pm]; omega)
        clear pa pz pm nz nm h0 hle ha la hu hp hi
        go_enter Try.func22, Try.ntmps22
        go_wp2
        go_ret
        exact ⟨rfl, rfl⟩
      · have hu : upBits a = a + 1 := by unfold upBits; rw [if_neg h0, if_pos hp, if_neg hi]
        rw [hu]
        have hb : a ≤ 9223372036854775807 := by omega
        rcases Nat.lt_or_ge a 9218868437227405311 with hm | hm
        · have h1 : FloatKind.f64.format.order a 9218868437227405311 = some .lt := ord_lt ha nm (by rw [pa, pm]; omega)
          clear pa pz pm nz nm h0 hle ha la hu hp hi hm
          go_enter Try.func22, Try.ntmps22
          go_wp2
          go_ret
          exact ⟨rfl, rfl⟩
        · have h1 : FloatKind.f64.format.order a 9218868437227405311 = some .eq := ord_eq ha nm (by rw [pa, pm]; omega)
          clear pa pz pm nz nm h0 hle ha la hu hp hi hm
          go_enter Try.func22, Try.ntmps22
          go_wp2
          go_ret
          exact ⟨rfl, rfl⟩
    · have pa := plc_hi (x := a) (by omega) la
      have hu : upBits a = a - 1 := by unfold upBits; rw [if_neg h0, if_neg hp]
      rw [hu]
      have h1 : FloatKind.f64.format.order a 9218868437227405311 = some .lt := ord_lt ha nm (by rw [pa, pm]; omega)
      have h2 : FloatKind.f64.format.order a 0 = some .lt := ord_lt ha nz (by rw [pa, pz]; omega)
      have hb : 9223372036854775808 < a := by omega
      clear pa pz pm nz nm h0 hle ha hu hp
      go_enter Try.func22, Try.ntmps22
      go_wp2
      go_ret
      exact ⟨rfl, rfl⟩

theorem upBits_lt {a : Nat} (h : a < 18446744073709551616) : upBits a < 18446744073709551616 := by
  unfold upBits; split
  · omega
  · split
    · split <;> omega
    · omega

theorem nextUp_law (a : Nat) (w : World) (wa : (Lit.float .f64 a).wf = true) :
    Calls Try.prog 5 #[.float .f64 a] w fun e w' => e = .returned (.bool true) ∧ Below w.heap.size w w' := by
  have la : a < 18446744073709551616 := by simpa [Lit.wf] using wa
  by_cases ha : nan FloatKind.f64.format a = true
  · go_enter Try.func5, Try.ntmps5
    go_wp2_with (first
      | (go_at_call 22; refine (nextUp_spec_nan a ha _).mono ?_; rintro e w' ⟨rfl, rfl⟩)
      | (go_at_call 17; refine (nextUp_impl_nan a ha _).mono ?_; rintro e w' ⟨rfl, rfl⟩)
      | (go_at_call 23; refine (sameFloat_nan _ _ (by decide) ha _).mono ?_; rintro e w' ⟨rfl, rfl⟩))
    go_ret
    exact ⟨rfl, Below.refl _ _⟩
  · have ha : nan FloatKind.f64.format a = false := by simpa using ha
    go_enter Try.func5, Try.ntmps5
    go_wp2_with (first
      | (go_at_call 22; refine (nextUp_spec a ha la _).mono ?_; rintro e w' ⟨rfl, rfl⟩)
      | (go_at_call 17; refine (nextUp_impl a ha la _).mono ?_; rintro e w' ⟨rfl, rfl⟩)
      | (go_at_call 23; refine (sameFloat_any _ _ rfl (upBits_lt la) _).mono ?_; rintro e w' ⟨rfl, rfl⟩))
    go_ret
    exact ⟨rfl, Below.refl _ _⟩
end Go.Proofs.Ytjlgfflpkgmnlaa
