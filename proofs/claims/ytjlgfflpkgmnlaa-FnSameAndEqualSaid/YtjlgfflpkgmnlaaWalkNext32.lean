import Derived.Test.YtjlgfflpkgmnlaaKit
import Derived.Test.YtjlgfflpkgmnlaaFlt
import Derived.Test.YtjlgfflpkgmnlaaRows
import Derived.Test.YtjlgfflpkgmnlaaExt
import Derived.Test.YtjlgfflpkgmnlaaWalkNext
import Derived.Test.YtjlgfflpkgmnlaaWalkUnits
/-
  The walks of NextUpNarrow and NarrowUnitsApart.
-/
set_option linter.unusedVariables false
set_option linter.unusedSimpArgs false
namespace Go.Proofs.Ytjlgfflpkgmnlaa
open Go.RowKit Flt

def upBits32 (a : Nat) : Nat := if a = 0 ∨ a = 2147483648 then 1 else if a < 2147483648 then (if a = 2139095040 then a else a + 1) else a - 1

theorem plc32_lo {x : Nat} (h : x < 2147483648) : place FloatKind.f32.format x = x := place32_lo h
theorem plc32_hi {x : Nat} (h : 2147483648 ≤ x) (h' : x < 4294967296) : place FloatKind.f32.format x = 2147483648 - (x : Int) := place32_hi h h'
theorem nan32_no {x : Nat} (h : x % 2147483648 ≤ 2139095040) : nan FloatKind.f32.format x = false := by
  show nan Ieee.single x = false
  rw [nan32]; exact decide_eq_false (by omega)
theorem nan32_le {x : Nat} (h : nan FloatKind.f32.format x = false) : x % 2147483648 ≤ 2139095040 := by
  have h' : nan Ieee.single x = false := h
  rw [nan32] at h'
  have := of_decide_eq_false h'
  omega

theorem conv32_inf (w : World) : (convert 24 29 (.float .f64 9218868437227405312)).run Try.prog w = .ok (.float .f32 2139095040) w :=
  run_convert_float_float w _ _ .f64 .f32 _ _ (by kernel_rfl) Try.underlying29 (by decide +kernel)
theorem conv32_one (w : World) : (convert 24 29 (.float .f64 3936146074321813504)).run Try.prog w = .ok (.float .f32 1) w :=
  run_convert_float_float w _ _ .f64 .f32 _ _ (by kernel_rfl) Try.underlying29 (by decide +kernel)
theorem conv64_one (w : World) : (convert 29 24 (.float .f32 1)).run Try.prog w = .ok (.float .f64 3936146074321813504) w :=
  run_convert_float_float w _ _ .f32 .f64 _ _ (by kernel_rfl) Try.underlying24 (by decide +kernel)
theorem conv64_inf (w : World) : (convert 29 24 (.float .f32 2139095040)).run Try.prog w = .ok (.float .f64 9218868437227405312) w :=
  run_convert_float_float w _ _ .f32 .f64 _ _ (by kernel_rfl) Try.underlying24 (by decide +kernel)
theorem conv64_num {u v : Nat} (h : floatToFloatBits .f32 u .f64 = some v) (w : World) : (convert 29 24 (.float .f32 u)).run Try.prog w = .ok (.float .f64 v) w :=
  run_convert_float_float w _ _ .f32 .f64 _ _ (by kernel_rfl) Try.underlying24 h

set_option maxRecDepth 100000 in
theorem copysign_least (w : World) :
    Calls Try.prog 121 #[.float .f64 3936146074321813504, .float .f64 9218868437227405312] w fun e w' => e = .returned (.float .f64 3936146074321813504) ∧ w' = w := by
  go_enter Try.func121, Try.ntmps121
  go_wp2
  go_ret
  exact ⟨by kernel_rfl, rfl⟩

set_option maxRecDepth 100000 in
set_option maxHeartbeats 1000000 in
theorem nextUp32_impl (a : Nat) (ha : nan FloatKind.f32.format a = false) (la : a < 4294967296) (w : World) :
    Calls Try.prog 18 #[.float .f32 a] w fun e w' => e = .returned (.float .f32 (upBits32 a)) ∧ w' = w := by
  have hle := nan32_le ha
  have ni : nan FloatKind.f32.format 2139095040 = false := by decide
  have nz : nan FloatKind.f32.format 0 = false := by decide
  have pi : place FloatKind.f32.format 2139095040 = 2139095040 := by decide
  have pz : place FloatKind.f32.format 0 = 0 := by decide
  have hii : FloatKind.f64.format.order 9218868437227405312 9218868437227405312 = some .eq := by decide
  obtain ⟨v, hv, nv, -⟩ := widen_num ha
  have hvv : FloatKind.f64.format.order v v = some .eq := ord_eq nv nv rfl
  have c1 := conv32_inf
  have c2 := conv64_inf
  have c3 := conv64_one
  have c4 := conv32_one
  have c5 := conv64_num hv
  clear nv hv
  by_cases h0 : a = 0 ∨ a = 2147483648
  · have hu : upBits32 a = 1 := by unfold upBits32; rw [if_pos h0]
    rw [hu]
    have p0 : place FloatKind.f32.format a = 0 := by rcases h0 with rfl | rfl <;> decide
    have h1 : FloatKind.f32.format.order a 2139095040 = some .lt := ord_lt ha ni (by rw [p0, pi]; omega)
    have h2 : FloatKind.f32.format.order a 0 = some .eq := ord_eq ha nz (by rw [p0, pz])
    clear p0 pz pi nz ni h0 hle ha la hu
    go_enter Try.func18, Try.ntmps18
    go_wp2_with (first | (go_at_call 70; refine (inf_any _).mono ?_; rintro e w' ⟨rfl, rfl⟩) | (go_at_call 121; refine (copysign_least _).mono ?_; rintro e w' ⟨rfl, rfl⟩) | go_in)
    go_ret
    exact ⟨rfl, rfl⟩
  · by_cases hp : a < 2147483648
    · have pa := plc32_lo hp
      have h2 : FloatKind.f32.format.order a 0 = some .gt := ord_gt ha nz (by rw [pa, pz]; omega)
      by_cases hi : a = 2139095040
      · have hu : upBits32 a = a := by unfold upBits32; rw [if_neg h0, if_pos hp, if_pos hi]
        rw [hu]
        have h1 : FloatKind.f32.format.order a 2139095040 = some .eq := ord_eq ha ni (by rw [hi])
        clear pa pz pi nz ni h0 hle ha la hu hp hi
        go_enter Try.func18, Try.ntmps18
        go_wp2_with (first | (go_at_call 70; refine (inf_any _).mono ?_; rintro e w' ⟨rfl, rfl⟩) | go_in)
        go_ret
        exact ⟨rfl, rfl⟩
      · have hu : upBits32 a = a + 1 := by unfold upBits32; rw [if_neg h0, if_pos hp, if_neg hi]
        rw [hu]
        have h1 : FloatKind.f32.format.order a 2139095040 = some .lt := ord_lt ha ni (by rw [pa, pi]; omega)
        have h3 : FloatKind.f32.format.order 2139095040 a = some .gt := ord_gt ni ha (by rw [pa, pi]; omega)
        have hb : a ≤ 2147483647 := by omega
        clear pa pz pi nz ni h0 hle ha la hu hp hi
        go_enter Try.func18, Try.ntmps18
        go_wp2_with (first | (go_at_call 70; refine (inf_any _).mono ?_; rintro e w' ⟨rfl, rfl⟩) | go_in)
        go_ret
        exact ⟨rfl, rfl⟩
    · have pa := plc32_hi (x := a) (by omega) la
      have hu : upBits32 a = a - 1 := by unfold upBits32; rw [if_neg h0, if_neg hp]
      rw [hu]
      have h1 : FloatKind.f32.format.order a 2139095040 = some .lt := ord_lt ha ni (by rw [pa, pi]; omega)
      have h2 : FloatKind.f32.format.order a 0 = some .lt := ord_lt ha nz (by rw [pa, pz]; omega)
      have h3 : FloatKind.f32.format.order 2139095040 a = some .gt := ord_gt ni ha (by rw [pa, pi]; omega)
      have hb : 2147483648 < a := by omega
      clear pa pz pi nz ni h0 hle ha hu hp
      go_enter Try.func18, Try.ntmps18
      go_wp2_with (first | (go_at_call 70; refine (inf_any _).mono ?_; rintro e w' ⟨rfl, rfl⟩) | go_in)
      go_ret
      exact ⟨rfl, rfl⟩

theorem nextUp32_spec_nan (a : Nat) (ha : nan FloatKind.f32.format a = true) (w : World) :
    Calls Try.prog 24 #[.float .f32 a] w fun e w' => e = .returned (.float .f32 a) ∧ w' = w := by
  have haa : FloatKind.f32.format.order a a = none := ord_nan_l _ ha
  clear ha
  go_enter Try.func24, Try.ntmps24
  go_wp2
  go_ret
  exact ⟨rfl, rfl⟩

set_option maxRecDepth 100000 in
set_option maxHeartbeats 1000000 in
theorem nextUp32_spec (a : Nat) (ha : nan FloatKind.f32.format a = false) (la : a < 4294967296) (w : World) :
    Calls Try.prog 24 #[.float .f32 a] w fun e w' => e = .returned (.float .f32 (upBits32 a)) ∧ w' = w := by
  have hle := nan32_le ha
  have nm : nan FloatKind.f32.format 2139095039 = false := by decide
  have nz : nan FloatKind.f32.format 0 = false := by decide
  have pm : place FloatKind.f32.format 2139095039 = 2139095039 := by decide
  have pz : place FloatKind.f32.format 0 = 0 := by decide
  have haa : FloatKind.f32.format.order a a = some .eq := ord_eq ha ha rfl
  by_cases h0 : a = 0 ∨ a = 2147483648
  · have hu : upBits32 a = 1 := by unfold upBits32; rw [if_pos h0]
    rw [hu]
    have p0 : place FloatKind.f32.format a = 0 := by rcases h0 with rfl | rfl <;> decide
    have h1 : FloatKind.f32.format.order a 2139095039 = some .lt := ord_lt ha nm (by rw [p0, pm]; omega)
    have h2 : FloatKind.f32.format.order a 0 = some .eq := ord_eq ha nz (by rw [p0, pz])
    clear p0 pz pm nz nm h0 hle ha la hu
    go_enter Try.func24, Try.ntmps24
    go_wp2
    go_ret
    exact ⟨rfl, rfl⟩
  · by_cases hp : a < 2147483648
    · have pa := plc32_lo hp
      have h2 : FloatKind.f32.format.order a 0 = some .gt := ord_gt ha nz (by rw [pa, pz]; omega)
      by_cases hi : a = 2139095040
      · have hu : upBits32 a = a := by unfold upBits32; rw [if_neg h0, if_pos hp, if_pos hi]
        rw [hu]
        have h1 : FloatKind.f32.format.order a 2139095039 = some .gt := ord_gt ha nm (by rw [pa, pm]; omega)
        clear pa pz pm nz nm h0 hle ha la hu hp hi
        go_enter Try.func24, Try.ntmps24
        go_wp2
        go_ret
        exact ⟨rfl, rfl⟩
      · have hu : upBits32 a = a + 1 := by unfold upBits32; rw [if_neg h0, if_pos hp, if_neg hi]
        rw [hu]
        have hb : a ≤ 2147483647 := by omega
        rcases Nat.lt_or_ge a 2139095039 with hm | hm
        · have h1 : FloatKind.f32.format.order a 2139095039 = some .lt := ord_lt ha nm (by rw [pa, pm]; omega)
          clear pa pz pm nz nm h0 hle ha la hu hp hi hm
          go_enter Try.func24, Try.ntmps24
          go_wp2
          go_ret
          exact ⟨rfl, rfl⟩
        · have h1 : FloatKind.f32.format.order a 2139095039 = some .eq := ord_eq ha nm (by rw [pa, pm]; omega)
          clear pa pz pm nz nm h0 hle ha la hu hp hi hm
          go_enter Try.func24, Try.ntmps24
          go_wp2
          go_ret
          exact ⟨rfl, rfl⟩
    · have pa := plc32_hi (x := a) (by omega) la
      have hu : upBits32 a = a - 1 := by unfold upBits32; rw [if_neg h0, if_neg hp]
      rw [hu]
      have h1 : FloatKind.f32.format.order a 2139095039 = some .lt := ord_lt ha nm (by rw [pa, pm]; omega)
      have h2 : FloatKind.f32.format.order a 0 = some .lt := ord_lt ha nz (by rw [pa, pz]; omega)
      have hb : 2147483648 < a := by omega
      clear pa pz pm nz nm h0 hle ha hu hp
      go_enter Try.func24, Try.ntmps24
      go_wp2
      go_ret
      exact ⟨rfl, rfl⟩

theorem upBits32_lt {a : Nat} (h : a < 4294967296) : upBits32 a < 4294967296 := by
  unfold upBits32; split
  · omega
  · split
    · split <;> omega
    · omega
theorem upBits32_num {a : Nat} (ha : nan FloatKind.f32.format a = false) (h : a < 4294967296) : nan FloatKind.f32.format (upBits32 a) = false := by
  have hle := nan32_le ha
  apply nan32_no
  unfold upBits32; split
  · omega
  · split
    · split <;> omega
    · omega

/-- The function gives such a narrow float, and draws at most. -/
def GivesF (k : FloatKind) (p : Nat → Prop) (w : World) (e : Ending) (w' : World) : Prop := ∃ r n, p r ∧ e = .returned (.float k r) ∧ w' = w.drewN n

set_option maxRecDepth 100000 in
theorem nextUp32_impl_nan (a : Nat) (ha : nan FloatKind.f32.format a = true) (w : World) :
    Calls Try.prog 18 #[.float .f32 a] w (GivesF .f32 (fun r => nan FloatKind.f32.format r = true) w) := by
  have c1 := conv32_inf
  go_enter Try.func18, Try.ntmps18
  go_wp2_with (first
    | (go_at_call 70; refine (inf_any _).mono ?_; rintro e w' ⟨rfl, rfl⟩)
    | (refine wpList_widen _ rfl 29 24 _ rfl a rfl (by kernel_rfl) Try.underlying24 ?_; intro r n hr hb; have hr' : FloatKind.f64.format.order r r = none := ord_nan_l _ (nan_of_cn (hr.trans (widen_nan ha))); clear hr hb)
    | (refine wpList_narrow _ rfl 24 29 _ rfl 9221120237041090561 rfl (by kernel_rfl) Try.underlying29 ?_; intro r n hr; have hq := hr.nan (by decide); clear hr)
    | go_in)
  go_ret
  exact ⟨_, _, ‹_›, rfl, rfl⟩

theorem nextUp32_law (a : Nat) (w : World) (wa : (Lit.float .f32 a).wf = true) :
    Calls Try.prog 6 #[.float .f32 a] w fun e w' => e = .returned (.bool true) ∧ Below w.heap.size w w' := by
  have la : a < 4294967296 := by simpa [Lit.wf] using wa
  by_cases ha : nan FloatKind.f32.format a = true
  · go_enter Try.func6, Try.ntmps6
    go_wp2_with (first
      | (go_at_call 24; refine (nextUp32_spec_nan a ha _).mono ?_; rintro e w' ⟨rfl, rfl⟩)
      | (go_at_call 18; refine (nextUp32_impl_nan a ha _).mono ?_; rintro e w' ⟨q, n, hq, rfl, rfl⟩)
      | (refine wpList_widen _ rfl 29 24 _ rfl _ rfl (by kernel_rfl) Try.underlying24 ?_; intro r n hr hb; first | (have hr' := nan_of_cn (hr.trans (widen_nan hq)); clear hr hb hq) | (have hr'' := nan_of_cn (hr.trans (widen_nan ha)); clear hr hb))
      | (go_at_call 23; refine (sameFloat_nan _ _ hr' hr'' _).mono ?_; rintro e w' ⟨rfl, rfl⟩))
    go_ret
    exact ⟨rfl, below_draws (Below.refl _ _) _⟩
  · have ha : nan FloatKind.f32.format a = false := by simpa using ha
    obtain ⟨v, hv, nv, lv⟩ := widen_num (upBits32_num ha la)
    have c5 := conv64_num hv
    clear hv
    go_enter Try.func6, Try.ntmps6
    go_wp2_with (first
      | (go_at_call 24; refine (nextUp32_spec a ha la _).mono ?_; rintro e w' ⟨rfl, rfl⟩)
      | (go_at_call 18; refine (nextUp32_impl a ha la _).mono ?_; rintro e w' ⟨rfl, rfl⟩)
      | (go_at_call 23; refine (sameFloat_any _ _ rfl lv _).mono ?_; rintro e w' ⟨rfl, rfl⟩))
    go_ret
    exact ⟨rfl, Below.refl _ _⟩

theorem and_hi32 {a : Nat} (h : a < 4294967296) : bits .and .u64 (a : Int) 2147483648 = if a < 2147483648 then 0 else 2147483648 := by
  have := u64_and_nat a 2147483648 (by omega) (by omega)
  rw [show ((2147483648 : Nat) : Int) = 2147483648 from rfl] at this
  rw [this]
  have e : a &&& 2147483648 = if a < 2147483648 then 0 else 2147483648 := by
    apply Nat.eq_of_testBit_eq; intro i
    rw [Nat.testBit_and, show (2147483648 : Nat) = 2 ^ 31 from rfl, Nat.testBit_two_pow]
    by_cases hi : 31 = i
    · subst hi
      split
      · rename_i h1; rw [Nat.testBit_lt_two_pow h1]; rfl
      · rename_i h1
        obtain ⟨y, rfl⟩ : ∃ y, a = 2 ^ 31 + y := ⟨a - 2 ^ 31, by omega⟩
        rw [Nat.testBit_two_pow_add_eq, Nat.testBit_lt_two_pow (by omega)]
        decide
    · split
      · simp [hi]
      · rw [Nat.testBit_two_pow]; simp [hi]
  rw [e]; split <;> rfl

theorem andNot_hi32 {a : Nat} (h : 2147483648 ≤ a) (h' : a < 4294967296) : bits .andNot .u64 (a : Int) 2147483648 = (a : Int) - 2147483648 := by
  have := u64_andNot_nat a 2147483648 (by omega) (by omega)
  rw [show ((2147483648 : Nat) : Int) = 2147483648 from rfl] at this
  rw [this]
  have e : a &&& (18446744073709551615 - 2147483648) = a - 2147483648 := by
    obtain ⟨y, rfl⟩ : ∃ y, a = 2 ^ 31 + y := ⟨a - 2 ^ 31, by omega⟩
    have hy : y < 2 ^ 31 := by omega
    rw [show 2 ^ 31 + y - 2147483648 = y by omega]
    apply Nat.eq_of_testBit_eq; intro i
    rw [Nat.testBit_and]
    rcases Nat.lt_trichotomy i 31 with hi | rfl | hi
    · rw [Nat.testBit_two_pow_add_gt hi]
      have : (18446744073709551615 - 2147483648 : Nat).testBit i = true := by
        have : i = 0 ∨ i = 1 ∨ i = 2 ∨ i = 3 ∨ i = 4 ∨ i = 5 ∨ i = 6 ∨ i = 7 ∨ i = 8 ∨ i = 9 ∨ i = 10 ∨ i = 11 ∨ i = 12 ∨ i = 13 ∨ i = 14 ∨ i = 15 ∨ i = 16 ∨ i = 17 ∨ i = 18 ∨ i = 19 ∨ i = 20 ∨ i = 21 ∨ i = 22 ∨ i = 23 ∨ i = 24 ∨ i = 25 ∨ i = 26 ∨ i = 27 ∨ i = 28 ∨ i = 29 ∨ i = 30 := by omega
        rcases this with rfl | rfl | rfl | rfl | rfl | rfl | rfl | rfl | rfl | rfl | rfl | rfl | rfl | rfl | rfl | rfl | rfl | rfl | rfl | rfl | rfl | rfl | rfl | rfl | rfl | rfl | rfl | rfl | rfl | rfl | rfl <;> decide
      rw [this, Bool.and_true]
    · rw [Nat.testBit_lt_two_pow hy, show (18446744073709551615 - 2147483648 : Nat).testBit 31 = false by decide, Bool.and_false]
    · rw [Nat.testBit_lt_two_pow (show 2 ^ 31 + y < 2 ^ i from Nat.lt_of_lt_of_le (by omega) (Nat.pow_le_pow_right (by omega) (show 32 ≤ i by omega))), Nat.testBit_lt_two_pow (show y < 2 ^ i from Nat.lt_of_lt_of_le hy (Nat.pow_le_pow_right (by omega) (by omega))), Bool.false_and]
  rw [e]; omega

set_option maxRecDepth 100000 in
theorem placeOf32_any (a : Nat) (la : a < 4294967296) (w : World) :
    Calls Try.prog 66 #[.int .u64 a, .int .u64 2147483648] w fun e w' => e = .returned (.int .i64 (place FloatKind.f32.format a)) ∧ w' = w := by
  have lb : (a : Int) ≤ 4294967296 := by omega
  by_cases h : a < 2147483648
  · rw [plc32_lo h]
    have h1 := and_hi32 la
    rw [if_pos h] at h1
    go_enter Try.func66, Try.ntmps66
    go_wp2
    go_ret
    exact ⟨rfl, rfl⟩
  · rw [plc32_hi (by omega) la]
    have h1 := and_hi32 la
    rw [if_neg h] at h1
    have h2 := andNot_hi32 (a := a) (by omega) la
    have hge : 2147483648 ≤ (a : Int) := by omega
    go_enter Try.func66, Try.ntmps66
    go_wp2
    go_ret
    exact ⟨congrArg (fun n => Ending.returned (.int .i64 n)) (show -((a : Int) - 2147483648) = 2147483648 - (a : Int) by omega), rfl⟩

theorem plc32_bounds {x : Nat} (h : x < 4294967296) : -9223372036854775808 ≤ place FloatKind.f32.format x ∧ place FloatKind.f32.format x ≤ 9223372036854775807 := by
  by_cases h1 : x < 2147483648
  · rw [plc32_lo h1]; omega
  · rw [plc32_hi (by omega) h]; omega

/-- The function returns this, and draws at most. -/
def Drew (v : Value) (w : World) (e : Ending) (w' : World) : Prop := ∃ n, e = .returned v ∧ w' = w.drewN n

theorem units32_impl_nan (a b : Nat) (h : nan FloatKind.f32.format a = true ∨ nan FloatKind.f32.format b = true) (w : World) :
    Calls Try.prog 19 #[.float .f32 a, .float .f32 b] w (Drew (.tuple #[.int .i64 0, .int .i64 2]) w) := by
  by_cases ha : nan FloatKind.f32.format a = true
  · clear h
    go_enter Try.func19, Try.ntmps19
    go_wp2_with (first
      | (refine wpList_widen _ rfl 29 24 _ rfl a rfl (by kernel_rfl) Try.underlying24 ?_; intro r n hr hb; have hr' : FloatKind.f64.format.order r r = none := ord_nan_l _ (nan_of_cn (hr.trans (widen_nan ha))); clear hr hb)
      | go_in)
    go_ret2
    exact ⟨_, rfl, rfl⟩
  · have hb : nan FloatKind.f32.format b = true := h.resolve_left ha
    have ha : nan FloatKind.f32.format a = false := by simpa using ha
    obtain ⟨v, hv, nv, lv⟩ := widen_num ha
    have c5 := conv64_num hv
    have hvv : FloatKind.f64.format.order v v = some .eq := ord_eq nv nv rfl
    clear h hv nv lv
    go_enter Try.func19, Try.ntmps19
    go_wp2_with (first
      | (refine wpList_widen _ rfl 29 24 _ rfl b rfl (by kernel_rfl) Try.underlying24 ?_; intro r n hr hr1; have hr' : FloatKind.f64.format.order r r = none := ord_nan_l _ (nan_of_cn (hr.trans (widen_nan hb))); clear hr hr1)
      | go_in)
    go_ret2
    exact ⟨_, rfl, rfl⟩

theorem units32_impl (a b : Nat) (ha : nan FloatKind.f32.format a = false) (hb : nan FloatKind.f32.format b = false) (la : a < 4294967296) (lb : b < 4294967296) (w : World) :
    Calls Try.prog 19 #[.float .f32 a, .float .f32 b] w fun e w' => e = .returned (.tuple #[.int .i64 (unitsOf (place FloatKind.f32.format a) (place FloatKind.f32.format b)), .int .i64 0]) ∧ w' = w := by
  obtain ⟨v, hv, nv, lv⟩ := widen_num ha
  have c5 := conv64_num hv
  have hvv : FloatKind.f64.format.order v v = some .eq := ord_eq nv nv rfl
  obtain ⟨u, hu, nu, lu⟩ := widen_num hb
  have c6 := conv64_num hu
  have huu : FloatKind.f64.format.order u u = some .eq := ord_eq nu nu rfl
  have pa := plc32_bounds la
  have pb := plc32_bounds lb
  clear hv nv lv hu nu lu
  go_enter Try.func19, Try.ntmps19
  go_wp2_with (first
    | (go_at_call 66; (first | (with_reducible refine (placeOf32_any a la _).mono ?_) | (with_reducible refine (placeOf32_any b lb _).mono ?_)); rintro e w' ⟨rfl, rfl⟩)
    | (go_at_call 68; refine (steps_any _ _ pa pb _).mono ?_; rintro e w' ⟨rfl, rfl⟩)
    | (go_at_call 65; go_in))
  go_ret2
  exact ⟨rfl, rfl⟩

theorem negF32_hi {a : Nat} (h : 2147483648 ≤ a) (h' : a < 4294967296) : Op.negFloat .f32 a = a - 2147483648 := neg32_hi h h'

set_option maxRecDepth 100000 in
theorem l01NarrowPlace_any (a : Nat) (ha : nan FloatKind.f32.format a = false) (la : a < 4294967296) (w : World) :
    Calls Try.prog 79 #[.float .f32 a] w fun e w' => e = .returned (.int .i64 (place FloatKind.f32.format a)) ∧ w' = w := by
  have nz : nan FloatKind.f32.format 0 = false := by decide
  have pz : place FloatKind.f32.format 0 = 0 := by decide
  by_cases h0 : place FloatKind.f32.format a = 0
  · have h1 : FloatKind.f32.format.order a 0 = some .eq := ord_eq ha nz (by rw [pz, h0])
    rw [h0]
    clear h0 pz nz ha
    go_enter Try.func79, Try.ntmps79
    go_wp2
    go_ret
    exact ⟨rfl, rfl⟩
  · by_cases h : a < 2147483648
    · have h1 : FloatKind.f32.format.order a 0 = some .gt := ord_gt ha nz (by rw [pz]; rw [plc32_lo h] at *; omega)
      rw [plc32_lo h]
      have hb : (a : Int) ≤ 2147483647 := by omega
      clear h0 pz nz ha h
      go_enter Try.func79, Try.ntmps79
      go_wp2
      go_ret
      exact ⟨rfl, rfl⟩
    · have h1 : FloatKind.f32.format.order a 0 = some .lt := ord_lt ha nz (by rw [pz]; rw [plc32_hi (by omega) la] at *; omega)
      rw [plc32_hi (by omega) la]
      have hn := negF32_hi (a := a) (by omega) la
      have hb : 2147483648 ≤ a := by omega
      have hc : ((a - 2147483648 : Nat) : Int) ≤ 4294967296 := by omega
      clear h0 pz nz ha h
      go_enter Try.func79, Try.ntmps79
      go_wp2
      go_ret
      exact ⟨congrArg (fun n => Ending.returned (.int .i64 n)) (show -((a - 2147483648 : Nat) : Int) = 2147483648 - (a : Int) by omega), rfl⟩

theorem units32_spec_nan (a b : Nat) (h : nan FloatKind.f32.format a = true ∨ nan FloatKind.f32.format b = true) (w : World) :
    Calls Try.prog 26 #[.float .f32 a, .float .f32 b] w fun e w' => e = .returned (.tuple #[.int .i64 0, .int .i64 2]) ∧ w' = w := by
  by_cases ha : nan FloatKind.f32.format a = true
  · have haa : FloatKind.f32.format.order a a = none := ord_nan_l _ ha
    clear h
    go_enter Try.func26, Try.ntmps26
    go_wp2
    go_ret2
    exact ⟨rfl, rfl⟩
  · have hb : nan FloatKind.f32.format b = true := h.resolve_left ha
    have ha : nan FloatKind.f32.format a = false := by simpa using ha
    have haa : FloatKind.f32.format.order a a = some .eq := ord_eq ha ha rfl
    have hbb : FloatKind.f32.format.order b b = none := ord_nan_l _ hb
    clear h
    go_enter Try.func26, Try.ntmps26
    go_wp2
    go_ret2
    exact ⟨rfl, rfl⟩

theorem units32_spec (a b : Nat) (ha : nan FloatKind.f32.format a = false) (hb : nan FloatKind.f32.format b = false) (la : a < 4294967296) (lb : b < 4294967296) (w : World) :
    Calls Try.prog 26 #[.float .f32 a, .float .f32 b] w fun e w' => e = .returned (.tuple #[.int .i64 (unitsOf (place FloatKind.f32.format a) (place FloatKind.f32.format b)), .int .i64 0]) ∧ w' = w := by
  have haa : FloatKind.f32.format.order a a = some .eq := ord_eq ha ha rfl
  have hbb : FloatKind.f32.format.order b b = some .eq := ord_eq hb hb rfl
  have pa := plc32_bounds la
  have pb := plc32_bounds lb
  go_enter Try.func26, Try.ntmps26
  go_wp2_with (first
    | (go_at_call 79; (first | (with_reducible refine (l01NarrowPlace_any a ha la _).mono ?_) | (with_reducible refine (l01NarrowPlace_any b hb lb _).mono ?_)); rintro e w' ⟨rfl, rfl⟩)
    | (go_at_call 77; refine (l01Apart_any _ _ pa pb _).mono ?_; rintro e w' ⟨rfl, rfl⟩))
  go_ret2
  exact ⟨rfl, rfl⟩

theorem units32_law (a b : Nat) (w : World) (wa : (Lit.float .f32 a).wf = true) (wb : (Lit.float .f32 b).wf = true) :
    Calls Try.prog 8 #[.float .f32 a, .float .f32 b] w fun e w' => e = .returned (.bool true) ∧ Below w.heap.size w w' := by
  have la : a < 4294967296 := by simpa [Lit.wf] using wa
  have lb : b < 4294967296 := by simpa [Lit.wf] using wb
  by_cases h : nan FloatKind.f32.format a = true ∨ nan FloatKind.f32.format b = true
  · go_enter Try.func8, Try.ntmps8
    go_wp2_with (first
      | (go_at_call 26; refine (units32_spec_nan a b h _).mono ?_; rintro e w' ⟨rfl, rfl⟩)
      | (go_at_call 19; refine (units32_impl_nan a b h _).mono ?_; rintro e w' ⟨n, rfl, rfl⟩))
    go_ret
    exact ⟨rfl, below_draws (Below.refl _ _) _⟩
  · have ha : nan FloatKind.f32.format a = false := by simpa using fun x => h (.inl x)
    have hb : nan FloatKind.f32.format b = false := by simpa using fun x => h (.inr x)
    go_enter Try.func8, Try.ntmps8
    go_wp2_with (first
      | (go_at_call 26; refine (units32_spec a b ha hb la lb _).mono ?_; rintro e w' ⟨rfl, rfl⟩)
      | (go_at_call 19; refine (units32_impl a b ha hb la lb _).mono ?_; rintro e w' ⟨rfl, rfl⟩))
    go_ret
    exact ⟨rfl, Below.refl _ _⟩
end Go.Proofs.Ytjlgfflpkgmnlaa
