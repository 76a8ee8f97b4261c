import Derived.Test.YtjlgfflpkgmnlaaKit
import Derived.Test.YtjlgfflpkgmnlaaFlt
import Derived.Test.YtjlgfflpkgmnlaaRows
import Derived.Test.YtjlgfflpkgmnlaaExt
import Derived.Test.YtjlgfflpkgmnlaaWalkNext
import Derived.Test.YtjlgfflpkgmnlaaWalkUnits
import Derived.Test.YtjlgfflpkgmnlaaWalkNext32
import Derived.Test.YtjlgfflpkgmnlaaSrc
/-
  The walk of the law FnUnits.
-/
set_option linter.unusedVariables false
set_option linter.unusedSimpArgs false
namespace Go.Proofs.Ytjlgfflpkgmnlaa
open Go.RowKit Flt

theorem up_place {a : Nat} (ha : nan FloatKind.f64.format a = false) (la : a < 18446744073709551616) (hi : a ≠ 9218868437227405312) :
    place FloatKind.f64.format (upBits a) = place FloatKind.f64.format a + 1 ∧ nan FloatKind.f64.format (upBits a) = false := by
  have hle := nan_le ha
  unfold upBits
  split
  · rename_i h
    rcases h with rfl | rfl <;> decide
  · split
    · rename_i h1 h2
      rw [plc_lo (by omega), plc_lo h2]
      exact ⟨by omega, nan_no (by omega)⟩
    · rename_i h1 h2
      rw [plc_hi (by omega) (by omega), plc_hi (x := a) (by omega) la]
      exact ⟨by omega, nan_no (by omega)⟩

theorem up_place32 {a : Nat} (ha : nan FloatKind.f32.format a = false) (la : a < 4294967296) (hi : a ≠ 2139095040) :
    place FloatKind.f32.format (upBits32 a) = place FloatKind.f32.format a + 1 ∧ nan FloatKind.f32.format (upBits32 a) = false := by
  have hle := nan32_le ha
  unfold upBits32
  split
  · rename_i h
    rcases h with rfl | rfl <;> decide
  · split
    · rename_i h1 h2
      rw [plc32_lo (by omega), plc32_lo h2]
      exact ⟨by omega, nan32_no (by omega)⟩
    · rename_i h1 h2
      rw [plc32_hi (by omega) (by omega), plc32_hi (x := a) (by omega) la]
      exact ⟨by omega, nan32_no (by omega)⟩

/-- The other sign, as the model writes it. -/
theorem negF_lt {a : Nat} (h : a < 18446744073709551616) : Op.negFloat .f64 a < 18446744073709551616 := neg64_lt h
theorem negF_place {a : Nat} (h : a < 18446744073709551616) : place FloatKind.f64.format (Op.negFloat .f64 a) = -place FloatKind.f64.format a := place_neg64 h
theorem negF_nan {a : Nat} (h : a < 18446744073709551616) : nan FloatKind.f64.format (Op.negFloat .f64 a) = nan FloatKind.f64.format a := nan_neg64 h
theorem negF32_lt {a : Nat} (h : a < 4294967296) : Op.negFloat .f32 a < 4294967296 := neg32_lt h
theorem negF32_place {a : Nat} (h : a < 4294967296) : place FloatKind.f32.format (Op.negFloat .f32 a) = -place FloatKind.f32.format a := place_neg32 h
theorem negF32_nan {a : Nat} (h : a < 4294967296) : nan FloatKind.f32.format (Op.negFloat .f32 a) = nan FloatKind.f32.format a := nan_neg32 h

theorem sub_self64 {a : Nat} (h : a % 9223372036854775808 < 9218868437227405312) : floatBits .sub .f64 a a = some 0 :=
  sub_self_fin Ieee.double (by rw [sw64, ir64]; exact h)
theorem sub_self64_none {a : Nat} (h : ¬ a % 9223372036854775808 < 9218868437227405312) : floatBits .sub .f64 a a = none :=
  sub_self_none Ieee.double hbi64 (by rw [sw64, ir64]; exact h)
theorem sub_self32 {a : Nat} (h : a % 2147483648 < 2139095040) : floatBits .sub .f32 a a = some 0 :=
  sub_self_fin Ieee.single (by rw [sw32, ir32]; exact h)
theorem sub_self32_none {a : Nat} (h : ¬ a % 2147483648 < 2139095040) : floatBits .sub .f32 a a = none :=
  sub_self_none Ieee.single hbi32 (by rw [sw32, ir32]; exact h)

theorem unitsOf_nonneg (p q : Int) : 0 ≤ unitsOf p q := by unfold unitsOf; split <;> omega
theorem unitsOf_zero {p q : Int} : unitsOf p q = 0 ↔ p = q := by unfold unitsOf; split <;> omega
theorem unitsOf_one {p q : Int} (h : q = p + 1) : unitsOf p q = 1 := by unfold unitsOf; split <;> omega

set_option maxRecDepth 100000 in
set_option maxHeartbeats 4000000 in
theorem fnUnits_law (a0 : Option Addr) (len0 cap0 : Nat) (z0 : List Int) (a1 : Option Addr) (len1 cap1 : Nat) (z1 : List Int) (w : World) (h0 : IsRow .u8 w a0 len0 cap0 z0) (h1 : IsRow .u8 w a1 len1 cap1 z1) :
    Calls Try.prog 3 #[.slice a0 len0 cap0, .slice a1 len1 cap1] w fun e w' => e = .returned (.bool true) ∧ Below w.heap.size w w' := by
  by_cases hl0 : len0 ≤ 3000
  · by_cases hl1 : len1 ≤ 3000
    · go_enter Try.func3, Try.ntmps3
      go_wp2_with (first | (go_at_call 14; go_in))
      refine (a2Float_any a0 len0 cap0 z0 w h0).mono ?_
      rintro e w1 ⟨⟨a, la, rfl⟩, hb1⟩
      go_wp2_with fail
      refine (a2Float_any a1 len1 cap1 z1 w1 (isRow_below h1 hb1)).mono ?_
      rintro e w2 ⟨⟨b, lb, rfl⟩, hb2⟩
      have hb : Below w.heap.size w w2 := hb1.trans (hb2.mono hb1.size)
      clear hb1 hb2 h0 h1 hl0 hl1
      go_wp2_with fail
      by_cases hn : nan FloatKind.f64.format a = true ∨ nan FloatKind.f64.format b = true
      · refine (unitsApart_impl_nan a b hn _).mono ?_
        rintro e w3 ⟨rfl, rfl⟩
        go_wp2_with fail
        refine (unitsApart_impl_nan b a hn.symm _).mono ?_
        rintro e w4 ⟨rfl, rfl⟩
        by_cases ha : nan FloatKind.f64.format a = true
        · have haa : FloatKind.f64.format.order a a = none := ord_nan_l _ ha
          clear hn ha
          go_wp2
          go_ret
          exact ⟨rfl, hb⟩
        · have hb' : nan FloatKind.f64.format b = true := hn.resolve_left ha
          have ha : nan FloatKind.f64.format a = false := by simpa using ha
          have haa : FloatKind.f64.format.order a a = some .eq := ord_eq ha ha rfl
          have hbb : FloatKind.f64.format.order b b = none := ord_nan_l _ hb'
          clear hn ha hb'
          go_wp2
          go_ret
          exact ⟨rfl, hb⟩
      · have ha : nan FloatKind.f64.format a = false := by simpa using fun x => hn (.inl x)
        have hb' : nan FloatKind.f64.format b = false := by simpa using fun x => hn (.inr x)
        clear hn
        have haa : FloatKind.f64.format.order a a = some .eq := ord_eq ha ha rfl
        have hbb : FloatKind.f64.format.order b b = some .eq := ord_eq hb' hb' rfl
        refine (unitsApart_impl a b ha hb' la lb _).mono ?_
        rintro e w3 ⟨rfl, rfl⟩
        go_wp2_with fail
        refine (unitsApart_impl b a hb' ha lb la _).mono ?_
        rintro e w4 ⟨rfl, rfl⟩
        rw [unitsOf_comm (place FloatKind.f64.format b)]
        obtain ⟨n, hn, hn0, hnab⟩ : ∃ n, unitsOf (place FloatKind.f64.format a) (place FloatKind.f64.format b) = n ∧ 0 ≤ n ∧ (n == 0) = (FloatKind.f64.format.order a b == some .eq) := by
          refine ⟨_, rfl, unitsOf_nonneg _ _, ?_⟩
          rw [Bool.eq_iff_iff, beq_iff_eq, unitsOf_zero, ord_num ha hb']
          simp only [beq_iff_eq, Option.some.injEq, Int.compare_eq_eq]
        rw [hn]
        clear hn
        go_wp2_with fail
        refine (nextUp_impl a ha la _).mono ?_
        rintro e w5 ⟨rfl, rfl⟩
        go_wp2_with fail
        refine (nextUp_impl _ (by rw [negF_nan la]; exact ha) (negF_lt la) _).mono ?_
        rintro e w6 ⟨rfl, rfl⟩
        clear haa hbb hnab
        by_cases hf : a % 9223372036854775808 < 9218868437227405312
        · have hs := sub_self64 hf
          have hai : a ≠ 9218868437227405312 := by rintro rfl; omega
          have hni : Op.negFloat .f64 a ≠ 9218868437227405312 := by
            intro e
            by_cases h : a < 9223372036854775808
            · rw [show Op.negFloat .f64 a = a + 9223372036854775808 from neg64_lo h] at e; omega
            · rw [negF_hi (by omega) la] at e; omega
          obtain ⟨p1, q1⟩ := up_place ha la hai
          obtain ⟨p2, q2⟩ := up_place (by rw [negF_nan la]; exact ha) (negF_lt la) hni
          have l2 := upBits_lt (negF_lt la)
          have l1 := upBits_lt la
          rw [negF_place la] at p2
          generalize hU : upBits a = U at *
          generalize hV : upBits (Op.negFloat .f64 a) = V at *
          have pD : place FloatKind.f64.format (Op.negFloat .f64 V) = place FloatKind.f64.format a - 1 := by rw [negF_place l2, p2]; omega
          have nD : nan FloatKind.f64.format (Op.negFloat .f64 V) = false := by rw [negF_nan l2]; exact q2
          have lD : Op.negFloat .f64 V < 18446744073709551616 := negF_lt l2
          generalize hW : Op.negFloat .f64 V = D at *
          have hDi : D ≠ 9218868437227405312 := by
            rintro rfl
            rw [plc_lo (by omega)] at pD
            by_cases h : a < 9223372036854775808
            · rw [plc_lo h] at pD; omega
            · rw [plc_hi (by omega) la] at pD; omega
          obtain ⟨p3, q3⟩ := up_place nD lD hDi
          have u1 : unitsOf (place FloatKind.f64.format a) (place FloatKind.f64.format U) = 1 := unitsOf_one p1
          have u2 : unitsOf (place FloatKind.f64.format D) (place FloatKind.f64.format a) = 1 := unitsOf_one (by omega)
          have o1 : FloatKind.f64.format.order U a = some .gt := ord_gt q1 ha (by omega)
          have o2 : FloatKind.f64.format.order D a = some .lt := ord_lt nD ha (by omega)
          have o3 : FloatKind.f64.format.order (upBits D) a = some .eq := ord_eq q3 ha (by omega)
          have o4 : FloatKind.f64.format.order 0 0 = some .eq := by decide
          clear hU hV p1 p2 p3 l2 hni hai hf hDi
          go_wp2_with (refine wpList_farith _ rfl .sub (by decide) _ _ _ _ rfl .f64 _ _ rfl rfl ?_; intro r m hr hrl; obtain ⟨-, rfl⟩ := num_of_cn (hr.trans hs); clear hr hrl)
          refine (unitsApart_impl a U ha q1 la l1 _).mono ?_
          rintro e w7 ⟨rfl, rfl⟩
          rw [u1]
          go_wp2_with fail
          refine (unitsApart_impl D a nD ha lD la _).mono ?_
          rintro e w8 ⟨rfl, rfl⟩
          rw [u2]
          go_wp2_with fail
          refine (nextUp_impl D nD lD _).mono ?_
          rintro e w9 ⟨rfl, rfl⟩
          clear u1 u2 q1 l1 pD q3 nD lD
          go_wp2_with (refine wpList_narrow _ rfl 24 29 _ rfl a rfl (by kernel_rfl) Try.underlying29 ?_; intro c m2 hc; have lc := hc.lt; clear hc)
          clear o1 o2 o3 hs ha la q2 lb hb'
          have oz : FloatKind.f32.format.order 0 0 = some .eq := by decide
          by_cases hcn : nan FloatKind.f32.format c = true
          · refine (nextUp32_impl_nan c hcn _).mono ?_
            rintro e w10 ⟨q, m3, hq, rfl, rfl⟩
            have hs := sub_self32_none (a := c) (fun h => by have := nan32_no (x := c) (by omega); rw [this] at hcn; cases hcn)
            clear hcn hq
            go_wp2_with (refine wpList_farith _ rfl .sub (by decide) _ _ _ _ rfl .f32 _ _ rfl rfl ?_; intro r m4 hr hrl; have hr' : FloatKind.f32.format.order r 0 = none := ord_nan_l _ (nan_of_cn (hr.trans hs)); clear hr hrl)
            go_ret
            exact ⟨rfl, below_draws hb _⟩
          · have hc0 : nan FloatKind.f32.format c = false := by simpa using hcn
            clear hcn
            refine (nextUp32_impl c hc0 lc _).mono ?_
            rintro e w10 ⟨rfl, rfl⟩
            by_cases hcf : c % 2147483648 < 2139095040
            · have hs := sub_self32 hcf
              have hci : c ≠ 2139095040 := by rintro rfl; omega
              have hni : Op.negFloat .f32 (upBits32 c) ≠ 2139095040 := by
                intro e
                have hl := upBits32_lt lc
                have hle := nan32_le hc0
                by_cases h : upBits32 c < 2147483648
                · rw [show Op.negFloat .f32 (upBits32 c) = upBits32 c + 2147483648 from neg32_lo h] at e; omega
                · rw [negF32_hi (by omega) hl] at e
                  have e2 : upBits32 c = 4286578688 := by omega
                  have := (up_place32 hc0 lc hci).1
                  rw [e2, plc32_hi (by omega) (by omega)] at this
                  by_cases h2 : c < 2147483648
                  · rw [plc32_lo h2] at this; omega
                  · rw [plc32_hi (by omega) lc] at this; omega
              obtain ⟨p1, q1⟩ := up_place32 hc0 lc hci
              have l1 := upBits32_lt lc
              generalize hU : upBits32 c = X at *
              have hNn : nan FloatKind.f32.format (Op.negFloat .f32 X) = false := by rw [negF32_nan l1]; exact q1
              have lN : Op.negFloat .f32 X < 4294967296 := negF32_lt l1
              obtain ⟨p2, q2⟩ := up_place32 hNn lN hni
              have l2 := upBits32_lt lN
              rw [negF32_place l1, p1] at p2
              generalize hV : Op.negFloat .f32 X = Y at *
              have pZ : place FloatKind.f32.format (Op.negFloat .f32 (upBits32 Y)) = place FloatKind.f32.format c := by rw [negF32_place l2, p2]; omega
              have nZ : nan FloatKind.f32.format (Op.negFloat .f32 (upBits32 Y)) = false := by rw [negF32_nan l2]; exact q2
              have u1 : unitsOf (place FloatKind.f32.format c) (place FloatKind.f32.format X) = 1 := unitsOf_one p1
              have o1 : FloatKind.f32.format.order X c = some .gt := ord_gt q1 hc0 (by omega)
              have o2 : FloatKind.f32.format.order (Op.negFloat .f32 (upBits32 Y)) c = some .eq := ord_eq nZ hc0 (by omega)
              clear hU p1 p2 l2 pZ nZ hcf hci
              go_wp2_with (refine wpList_farith _ rfl .sub (by decide) _ _ _ _ rfl .f32 _ _ rfl rfl ?_; intro r m4 hr hrl; obtain ⟨-, rfl⟩ := num_of_cn (hr.trans hs); clear hr hrl)
              refine (units32_impl c X hc0 q1 lc l1 _).mono ?_
              rintro e w11 ⟨rfl, rfl⟩
              rw [u1]
              go_wp2_with fail
              refine (nextUp32_impl Y hNn lN _).mono ?_
              rintro e w12 ⟨rfl, rfl⟩
              go_wp2
              go_ret
              exact ⟨rfl, below_draws hb _⟩
            · have hs := sub_self32_none hcf
              clear hcf
              go_wp2_with (refine wpList_farith _ rfl .sub (by decide) _ _ _ _ rfl .f32 _ _ rfl rfl ?_; intro r m4 hr hrl; have hr' : FloatKind.f32.format.order r 0 = none := ord_nan_l _ (nan_of_cn (hr.trans hs)); clear hr hrl)
              go_ret
              exact ⟨rfl, below_draws hb _⟩
        · have hs := sub_self64_none hf
          clear hf
          go_wp2_with (refine wpList_farith _ rfl .sub (by decide) _ _ _ _ rfl .f64 _ _ rfl rfl ?_; intro r m hr hrl; have hr' : FloatKind.f64.format.order r 0 = none := ord_nan_l _ (nan_of_cn (hr.trans hs)); clear hr hrl)
          go_ret
          exact ⟨rfl, below_draws hb _⟩
    · have hg : 3000 < len1 := by omega
      clear hl1
      go_enter Try.func3, Try.ntmps3
      go_wp2
      go_ret
      exact ⟨rfl, Below.refl _ _⟩
  · have hg : 3000 < len0 := by omega
    clear hl0
    go_enter Try.func3, Try.ntmps3
    go_wp2
    go_ret
    exact ⟨rfl, Below.refl _ _⟩
end Go.Proofs.Ytjlgfflpkgmnlaa
