import Derived.Test.YtjlgfflpkgmnlaaWalkSame
/-
  The walk of the law FnSameAndEqual.
-/
set_option linter.unusedVariables false
set_option linter.unusedSimpArgs false
namespace Go.Proofs.Ytjlgfflpkgmnlaa
open Go.RowKit Flt
attribute [local go_sem ↓] run_eqlC run_neqC

set_option maxRecDepth 100000 in
set_option maxHeartbeats 8000000 in
theorem fnSame_law (a0 : Option Addr) (len0 cap0 : Nat) (z0 : List Int) (a1 : Option Addr) (len1 cap1 : Nat) (z1 : List Int) (w : World) (h0 : IsRow .u8 w a0 len0 cap0 z0) (h1 : IsRow .u8 w a1 len1 cap1 z1) :
    Calls Try.prog 11 #[.slice a0 len0 cap0, .slice a1 len1 cap1] w fun e w' => e = .returned (.bool true) ∧ Below w.heap.size w w' := by
  by_cases hl0 : len0 ≤ 3000
  · by_cases hl1 : len1 ≤ 3000
    · go_enter Try.func11, Try.ntmps11
      go_wp2_with (first | (go_at_call 14; go_in))
      refine (a2Any_any a0 len0 cap0 z0 0 (by omega) w h0).mono ?_
      rintro e w1 ⟨a, b, la, lb, rfl, hb1⟩
      go_wp2_with fail
      refine (a2Any_any a1 len1 cap1 z1 0 (by omega) w1 (isRow_below h1 hb1)).mono ?_
      rintro e w2 ⟨c, d, lc, ld, rfl, hb2⟩
      have hb : Below w.heap.size w w2 := hb1.trans (hb2.mono hb1.size)
      have h1' := isRow_below h1 hb
      clear hb1 hb2 h0 h1
      go_wp2_with fail
      refine (a2At_any a1 len1 cap1 z1 0 (by omega) 3 (by omega) (by omega) w2 h1').mono ?_
      rintro e w3 ⟨r, r0, r1, rfl, rfl⟩
      clear h1' hl0 hl1
      have HB := Lib.hid hb
      clear hb
      have key : ∀ c d, c < 18446744073709551616 → d < 18446744073709551616 → True := fun _ _ _ _ => trivial
      by_cases hr : r = 0
      · have hr' : (r == 0) = true := by simp [hr]
        clear hr r0 r1 lc ld
        obtain ⟨W, hW⟩ : ∃ W, eqC .f64 a b a b = W := ⟨_, rfl⟩
        obtain ⟨F, hF⟩ : ∃ F, (finO (cn .f64 a) && finO (cn .f64 b)) = F := ⟨_, rfl⟩
        have cX := same_of (a := a) (b := b) (c := a) (d := b) (show (sameB a a && sameB b b) = true by rw [sameB_self, sameB_self]; rfl)
        have cS := cX
        have cT := cX
        have cW := equal_of hW
        have cE := cW
        have cH := whole_of hW
        have cF : ∀ w, Calls Try.prog 37 #[.complex .f64 a b] w (Rets (.bool F) w) := fun w => by rw [← hF]; exact isFinite_any a b la lb w
        have HF := Lib.hid hF
        clear key la lb
        cases W <;> (obtain ⟨za, hza⟩ : ∃ z, (FloatKind.f64.format.order a 0 != some .eq) = z := ⟨_, rfl⟩) <;> (obtain ⟨zb, hzb⟩ : ∃ z, (FloatKind.f64.format.order b 0 != some .eq) = z := ⟨_, rfl⟩) <;> cases za <;> cases zb
        all_goals
          go_wp2_with (first
          | (go_at_call 34; (first | ((with_reducible refine (cX _).mono ?_); rintro e w' ⟨rfl, hk⟩; replace HB := Lib.hid (below_step HB.out hk HB.out.size); clear hk) | ((with_reducible refine (cS _).mono ?_); rintro e w' ⟨rfl, hk⟩; replace HB := Lib.hid (below_step HB.out hk HB.out.size); clear hk) | ((with_reducible refine (cT _).mono ?_); rintro e w' ⟨rfl, hk⟩; replace HB := Lib.hid (below_step HB.out hk HB.out.size); clear hk)))
          | (go_at_call 35; (first | ((with_reducible refine (cW _).mono ?_); rintro e w' ⟨rfl, hk⟩; replace HB := Lib.hid (below_step HB.out hk HB.out.size); clear hk) | ((with_reducible refine (cE _).mono ?_); rintro e w' ⟨rfl, hk⟩; replace HB := Lib.hid (below_step HB.out hk HB.out.size); clear hk)))
          | (go_at_call 36; refine (cH _).mono ?_; rintro e w' ⟨rfl, rfl⟩)
          | (refine wpList_csum _ rfl .sub (by decide) _ _ _ _ rfl .f64 a b a b rfl rfl ?_; intro r q n hr hq hr1 hq1; have hd := diffC_zero hr hq; rw [hF] at hd; clear hr hq hr1 hq1; replace HB := Lib.hid (below_draws HB.out n))
          | (go_at_call 37; refine (cF _).mono ?_; rintro e w' ⟨rfl, hk⟩; replace HB := Lib.hid (below_step HB.out hk HB.out.size); clear hk))
          clear cX cS cT cW cE cH cF hd
          refine (narrowOf_any a b _).mono ?_
          rintro e w' ⟨u, v, hu, hv, rfl, hk⟩
          replace HB := Lib.hid (below_step HB.out hk HB.out.size)
          clear hk hu hv
          go_wp2_with fail
          refine (narrowOf_any a b _).mono ?_
          rintro e w' ⟨u', v', hu, hv, rfl, hk⟩
          replace HB := Lib.hid (below_step HB.out hk HB.out.size)
          clear hk hu hv
          go_wp2_with fail
          refine (sameNarrow_any u v u v _).mono ?_
          rintro e w' ⟨rfl, hk⟩
          replace HB := Lib.hid (below_step HB.out hk HB.out.size)
          clear hk
          rw [show (sameN u u && sameN v v) = true by unfold sameN; simp]
          go_wp2_with fail
          refine (isEqual32_any u v u' v' _).mono ?_
          rintro e w' ⟨rfl, hk⟩
          replace HB := Lib.hid (below_step HB.out hk HB.out.size)
          clear hk
          obtain ⟨T, hT⟩ : ∃ T, (sameN u u' && sameN v v') = T := ⟨_, rfl⟩
          obtain ⟨Q, hQ⟩ : ∃ Q, eqC .f32 u v u' v' = Q := ⟨_, rfl⟩
          rw [hQ]
          have HT := Lib.hid hT
          clear hT
          go_wp2_with fail
          refine (sameNarrow_any u v u' v' _).mono ?_
          rintro e w' ⟨rfl, hk⟩
          replace HB := Lib.hid (below_step HB.out hk HB.out.size)
          clear hk
          rw [HT.out]
          go_wp2_with fail
          refine (wideOf_any u v _).mono ?_
          rintro e w' ⟨p1, p2, hp1, hp2, rfl, hk⟩
          replace HB := Lib.hid (below_step HB.out hk HB.out.size)
          have HP1 := Lib.hid hp1
          have HP2 := Lib.hid hp2
          clear hk hp1 hp2
          go_wp2_with fail
          refine (wideOf_any u' v' _).mono ?_
          rintro e w' ⟨p3, p4, hp3, hp4, rfl, hk⟩
          replace HB := Lib.hid (below_step HB.out hk HB.out.size)
          have HP3 := Lib.hid (show (sameB p1 p3 && sameB p2 p4) = T by rw [sameB_wide HP1.out hp3, sameB_wide HP2.out hp4]; exact HT.out)
          clear hk hp3 hp4 HP1 HP2
          go_wp2_with fail
          refine (same_of HP3.out _).mono ?_
          rintro e w' ⟨rfl, hk⟩
          replace HB := Lib.hid (below_step HB.out hk HB.out.size)
          clear hk
          go_wp2_with fail
          refine (isFinite32_any u v _).mono ?_
          rintro e w' ⟨rfl, hk⟩
          replace HB := Lib.hid (below_step HB.out hk HB.out.size)
          clear hk
          obtain ⟨G, hG⟩ : ∃ G, (finN u && finN v) = G := ⟨_, rfl⟩
          rw [hG]
          have HG := Lib.hid hG
          clear hG
          go_wp2_with fail
          refine (wideOf_any u v _).mono ?_
          rintro e w' ⟨p5, p6, hp5, hp6, rfl, hk⟩
          replace HB := Lib.hid (below_step HB.out hk HB.out.size)
          have HP5 := Lib.hid hp5
          have HP6 := Lib.hid hp6
          clear hk hp5 hp6
          go_wp2_with fail
          refine (isFinite_any p5 p6 HP5.out.2 HP6.out.2 _).mono ?_
          rintro e w' ⟨rfl, hk⟩
          replace HB := Lib.hid (below_step HB.out hk HB.out.size)
          clear hk
          rw [HP5.out.1, HP6.out.1, show (finO (floatToFloatBits .f32 u .f64) && finO (floatToFloatBits .f32 v .f64)) = G from HG.out]
          clear HP5 HP6 HG HT HP3
          go_wp2
          go_ret
          exact ⟨rfl, HB.out⟩
      · have hr' : (r == 0) = false := by simp [hr]
        clear hr r0 r1
        obtain ⟨E, W, S, hE, hW, hS, hways⟩ := ways la lb lc ld
        obtain ⟨F, hF⟩ : ∃ F, (finO (cn .f64 a) && finO (cn .f64 b)) = F := ⟨_, rfl⟩
        have cX := same_of (a := a) (b := b) (c := a) (d := b) (show (sameB a a && sameB b b) = true by rw [sameB_self, sameB_self]; rfl)
        have cS := same_of hS
        have cT := same_of (a := c) (b := d) (c := a) (d := b) (show (sameB c a && sameB d b) = S by rw [sameB_comm c a, sameB_comm d b]; exact hS)
        have cW := equal_of hW
        have cE := equal_of hE
        have cH := whole_of hW
        have cF : ∀ w, Calls Try.prog 37 #[.complex .f64 a b] w (Rets (.bool F) w) := fun w => by rw [← hF]; exact isFinite_any a b la lb w
        have HF := Lib.hid hF
        clear key la lb lc ld hS
        cases S <;> rcases hways with ⟨rfl, rfl⟩ | ⟨rfl, rfl, hs0⟩ | ⟨rfl, rfl, hza⟩ | ⟨rfl, rfl, hza, hzb⟩ | ⟨rfl, rfl, hza, hzb, hs0⟩
        all_goals first | (cases hs0; done) | skip
        all_goals
          go_wp2_with (first
          | (go_at_call 34; (first | ((with_reducible refine (cX _).mono ?_); rintro e w' ⟨rfl, hk⟩; replace HB := Lib.hid (below_step HB.out hk HB.out.size); clear hk) | ((with_reducible refine (cS _).mono ?_); rintro e w' ⟨rfl, hk⟩; replace HB := Lib.hid (below_step HB.out hk HB.out.size); clear hk) | ((with_reducible refine (cT _).mono ?_); rintro e w' ⟨rfl, hk⟩; replace HB := Lib.hid (below_step HB.out hk HB.out.size); clear hk)))
          | (go_at_call 35; (first | ((with_reducible refine (cW _).mono ?_); rintro e w' ⟨rfl, hk⟩; replace HB := Lib.hid (below_step HB.out hk HB.out.size); clear hk) | ((with_reducible refine (cE _).mono ?_); rintro e w' ⟨rfl, hk⟩; replace HB := Lib.hid (below_step HB.out hk HB.out.size); clear hk)))
          | (go_at_call 36; refine (cH _).mono ?_; rintro e w' ⟨rfl, rfl⟩)
          | (refine wpList_csum _ rfl .sub (by decide) _ _ _ _ rfl .f64 a b a b rfl rfl ?_; intro r q n hr hq hr1 hq1; have hd := diffC_zero hr hq; rw [hF] at hd; clear hr hq hr1 hq1; replace HB := Lib.hid (below_draws HB.out n))
          | (go_at_call 37; refine (cF _).mono ?_; rintro e w' ⟨rfl, hk⟩; replace HB := Lib.hid (below_step HB.out hk HB.out.size); clear hk))
          clear cX cS cT cW cE cH cF hd
          refine (narrowOf_any a b _).mono ?_
          rintro e w' ⟨u, v, hu, hv, rfl, hk⟩
          replace HB := Lib.hid (below_step HB.out hk HB.out.size)
          clear hk hu hv
          go_wp2_with fail
          refine (narrowOf_any c d _).mono ?_
          rintro e w' ⟨u', v', hu, hv, rfl, hk⟩
          replace HB := Lib.hid (below_step HB.out hk HB.out.size)
          clear hk hu hv
          go_wp2_with fail
          refine (sameNarrow_any u v u v _).mono ?_
          rintro e w' ⟨rfl, hk⟩
          replace HB := Lib.hid (below_step HB.out hk HB.out.size)
          clear hk
          rw [show (sameN u u && sameN v v) = true by unfold sameN; simp]
          go_wp2_with fail
          refine (isEqual32_any u v u' v' _).mono ?_
          rintro e w' ⟨rfl, hk⟩
          replace HB := Lib.hid (below_step HB.out hk HB.out.size)
          clear hk
          obtain ⟨T, hT⟩ : ∃ T, (sameN u u' && sameN v v') = T := ⟨_, rfl⟩
          obtain ⟨Q, hQ⟩ : ∃ Q, eqC .f32 u v u' v' = Q := ⟨_, rfl⟩
          rw [hQ]
          have HT := Lib.hid hT
          clear hT
          go_wp2_with fail
          refine (sameNarrow_any u v u' v' _).mono ?_
          rintro e w' ⟨rfl, hk⟩
          replace HB := Lib.hid (below_step HB.out hk HB.out.size)
          clear hk
          rw [HT.out]
          go_wp2_with fail
          refine (wideOf_any u v _).mono ?_
          rintro e w' ⟨p1, p2, hp1, hp2, rfl, hk⟩
          replace HB := Lib.hid (below_step HB.out hk HB.out.size)
          have HP1 := Lib.hid hp1
          have HP2 := Lib.hid hp2
          clear hk hp1 hp2
          go_wp2_with fail
          refine (wideOf_any u' v' _).mono ?_
          rintro e w' ⟨p3, p4, hp3, hp4, rfl, hk⟩
          replace HB := Lib.hid (below_step HB.out hk HB.out.size)
          have HP3 := Lib.hid (show (sameB p1 p3 && sameB p2 p4) = T by rw [sameB_wide HP1.out hp3, sameB_wide HP2.out hp4]; exact HT.out)
          clear hk hp3 hp4 HP1 HP2
          go_wp2_with fail
          refine (same_of HP3.out _).mono ?_
          rintro e w' ⟨rfl, hk⟩
          replace HB := Lib.hid (below_step HB.out hk HB.out.size)
          clear hk
          go_wp2_with fail
          refine (isFinite32_any u v _).mono ?_
          rintro e w' ⟨rfl, hk⟩
          replace HB := Lib.hid (below_step HB.out hk HB.out.size)
          clear hk
          obtain ⟨G, hG⟩ : ∃ G, (finN u && finN v) = G := ⟨_, rfl⟩
          rw [hG]
          have HG := Lib.hid hG
          clear hG
          go_wp2_with fail
          refine (wideOf_any u v _).mono ?_
          rintro e w' ⟨p5, p6, hp5, hp6, rfl, hk⟩
          replace HB := Lib.hid (below_step HB.out hk HB.out.size)
          have HP5 := Lib.hid hp5
          have HP6 := Lib.hid hp6
          clear hk hp5 hp6
          go_wp2_with fail
          refine (isFinite_any p5 p6 HP5.out.2 HP6.out.2 _).mono ?_
          rintro e w' ⟨rfl, hk⟩
          replace HB := Lib.hid (below_step HB.out hk HB.out.size)
          clear hk
          rw [HP5.out.1, HP6.out.1, show (finO (floatToFloatBits .f32 u .f64) && finO (floatToFloatBits .f32 v .f64)) = G from HG.out]
          clear HP5 HP6 HG HT HP3
          go_wp2
          go_ret
          exact ⟨rfl, HB.out⟩
    · have hg : 3000 < len1 := by omega
      clear hl1
      go_enter Try.func11, Try.ntmps11
      go_wp2
      go_ret
      exact ⟨rfl, Below.refl _ _⟩
  · have hg : 3000 < len0 := by omega
    clear hl0
    go_enter Try.func11, Try.ntmps11
    go_wp2
    go_ret
    exact ⟨rfl, Below.refl _ _⟩
end Go.Proofs.Ytjlgfflpkgmnlaa
