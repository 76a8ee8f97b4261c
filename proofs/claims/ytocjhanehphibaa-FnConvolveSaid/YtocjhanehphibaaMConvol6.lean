/-
  Several texts of this claim, one behind the other; each says what it holds.
-/
import Derived.Test.YtocjhanehphibaaMConvol5
import Derived.IntWalk
/-
  The iterator over the terms of a convolution: its walk.
-/
set_option linter.unusedVariables false
set_option linter.unusedSimpArgs false
namespace Go.Proofs.Ytocjhanehphibaa
open Go.RowKit Go.Shelf Flt Fast
attribute [local go_sem] Oper.semAt_some wide_fn wide_depth wide_fnR wide_depthR
attribute [local go_sem ↓] run_max_word

/-- The terms, from the place f on: the state is the place and how many terms of it have come. -/
def cvTold (x h : List Z) (f : Nat) : Told (Nat × Nat) (Nat × C) where
  encs := fun p => #[.int .i64 (p.1 : Int), .complex .f64 p.2.1 p.2.2]
  step := fun s p s' => s.1 < cvLen x.length h.length ∧ s.2 < cvCnt x.length h.length s.1 ∧ p.1 = s.1 ∧ IsC p.2 (cvTerm x h s.1 s.2) ∧ s' = (s.1, s.2 + 1)
  silent := fun s s' => s.1 < cvLen x.length h.length ∧ s.2 = cvCnt x.length h.length s.1 ∧ s' = (s.1 + 1, 0)
  start := (f, 0)
  last := (max f (cvLen x.length h.length), 0)

/-- What many orders come to is walked once. -/
theorem by_leaf {C : World → Prop} {G : Prop} {PLF : World → Prop} (main : (∀ w2, C w2 → PLF w2) → G) (leaf : ∀ w2, C w2 → PLF w2) : G := main leaf

theorem RdO.at {B : Nat} {w : World} {a : Option Addr} {L cap : Nat} {xs : List C} (h : RdO B w (.slice a L cap) xs) {j : Nat} (hj : j < L) :
    ∃ g o, a = some ⟨g, o, none⟩ ∧ g < B ∧ L ≤ cap ∧ cap ≤ maxLen ∧ w.cell? ⟨g, o + j, none⟩ = some (.complex .f64 (xs.getD j (0, 0)).1 (xs.getD j (0, 0)).2) := by
  cases h with
  | nil a cap hm => omega
  | row g o cap L xs hL h0 hc hm hg h => exact ⟨g, o, rfl, hg, hc, hm, h j hj⟩

set_option maxRecDepth 100000 in
set_option maxHeartbeats 8000000 in
theorem cvTerms_in (n l Bf Bc n₀ n₁ B : Nat) (x h : List C) (f : Nat) (v1 v2 : Value) (hx : x.length ≤ 1000000) (hh : h.length ≤ 1000000) (hf : f ≤ 2000000) (hwx : WfC x) (hwh : WfC h)
    (h01 : n₀ ≤ n₁) (h0B : n₀ ≤ B) (hBc : Bc < n₁) (hBcB : Bc ≠ B)
    (J Jx : Nat × Nat → World → Prop) (W : World) (hn₁ : n₁ ≤ W.heap.size) (hJ : ∀ s A A', J s A → Below A.heap.size A A' → J s A')
    (hS : ∀ s s' W1, J s W1 → (cvTold (zsOf x) (zsOf h) f).silent s s' → J s' W1)
    (hY : ∀ s p s' W1, J s W1 → (cvTold (zsOf x) (zsOf h) f).step s p s' → YieldAt Fence.wide (n - 1) Try.prog l ((cvTold (zsOf x) (zsOf h) f).encs p) W1 fun e W' =>
      (e = .returned (.bool true) ∧ J s' W' ∧ KeptBut n₁ B W1 W') ∨ (e = .returned (.bool false) ∧ Jx s' W'))
    (hrx : RdO n₀ W v1 x) (hrh : RdO n₀ W v2 h) (hcf : W.cell? ⟨Bf, 0, none⟩ = some (.int .i64 (f : Int))) (hc0 : W.cell? ⟨Bc, 0, none⟩ = some v1) (hc1 : W.cell? ⟨Bc, 1, none⟩ = some v2) (h0 : J (f, 0) W) :
    CallsIn Fence.wide n Try.prog 87 #[.func (.yield l) #[] #[], .pointer (some ⟨Bf, 0, none⟩), .pointer (some ⟨Bc, 0, none⟩)] W fun e W' => (∃ v, e = .returned v) ∧
      (J (cvTold (zsOf x) (zsOf h) f).last W' ∨ ∃ s, Jx s W') := by
  obtain ⟨a1, c1, rfl, -, -, hr1⟩ := hrx.find
  obtain ⟨a2, c2, rfl, -, -, hr2⟩ := hrh.find
  obtain ⟨L, hL⟩ : ∃ L, cvLen x.length h.length = L := ⟨_, rfl⟩
  have hLle : L ≤ 2000000 := by rw [← hL]; have := cvLen_le x.length h.length; omega
  obtain ⟨na, hna⟩ : ∃ k, x.length = k := ⟨_, rfl⟩
  obtain ⟨nb, hnb⟩ : ∃ k, h.length = k := ⟨_, rfl⟩
  rw [hna] at hx hc0 hL hrx
  rw [hnb] at hh hc1 hL hrh
  have HLen := Lib.hid (fun w => cvLength_any a1 a2 na c1 nb c2 hx hh w)
  have HL := Lib.hid hL
  have HNA := Lib.hid hna
  have HNB := Lib.hid hnb
  have HRX := Lib.hid hrx
  have HRH := Lib.hid hrh
  have H0 := Lib.hid h0
  clear hr1 hr2 hL hna hnb hrx hrh h0
  refine callsIn_of_wp Try.func87 rfl trivial ?_ rfl
  simp only [Try.ntmps87, List.size_toArray, List.length_cons, List.length_nil, Nat.reduceAdd, Nat.reduceSub, Array.replicate_succ, Array.replicate_zero, List.push_toArray, List.append_toArray, List.nil_append, List.cons_append]
  gi_wp2
  gi_loopw [4] (fun i wr => ∃ m : Nat, i = .int .i64 (m : Int) ∧ f ≤ m ∧ m ≤ max f L ∧ J (m, 0) wr ∧ KeptBut n₁ B W wr)
    (fun i _ => max f L - (intOf i).toNat)
  case atStart => exact ⟨f, rfl, Nat.le_refl _, by omega, H0.out, KeptBut.refl _ _ _⟩
  case round =>
    obtain ⟨m, rfl, hfm, hmL, hJm, hk⟩ := hrel
    have hm2 : m ≤ 2000000 := by omega
    have d0 : wr.cell? ⟨Bc, 0, none⟩ = some (.slice a1 na c1) := by rw [hk.cell hBc hBcB]; exact hc0
    have d1 : wr.cell? ⟨Bc, 1, none⟩ = some (.slice a2 nb c2) := by rw [hk.cell hBc hBcB]; exact hc1
    have hszr : n₁ ≤ wr.heap.size := Nat.le_trans hn₁ hk.size
    have HK := Lib.hid hk
    have HJm := Lib.hid hJm
    clear hk hJm
    by_cases hmlt : m < L
    · obtain ⟨lo, hlo⟩ : ∃ k, cvLo na m = k := ⟨_, rfl⟩
      obtain ⟨ct, hct⟩ : ∃ k, cvCnt na nb m = k := ⟨_, rfl⟩
      have hmax : maxI 0 ((m : Int) - na + 1) = (lo : Int) := by rw [← hlo]; unfold cvLo maxI; split <;> omega
      have hlc : lo + ct = min (m + 1) nb := by rw [← hlo, ← hct]; exact cvLo_cnt (by rw [HL.out]; exact hmlt)
      gi_wp2_with (gi_at_call 57; refine (callsIn_wide.2 (HLen.out _)).mono ?_; rw [HL.out]; rintro e w1 ⟨rfl, hb1⟩; have e0 : w1.cell? ⟨Bc, 0, none⟩ = some (.slice a1 na c1) := (by rw [hb1.cell (show Bc < wr.heap.size by omega)]; exact d0); have e1 : w1.cell? ⟨Bc, 1, none⟩ = some (.slice a2 nb c2) := (by rw [hb1.cell (show Bc < wr.heap.size by omega)]; exact d1); have HB1 := Lib.hid hb1; clear hb1)
      have HK1 := Lib.hid (HK.out.trans (KeptBut.of_below (B := B) HB1.out hszr))
      have HJ1 := Lib.hid (hJ _ _ _ HJm.out HB1.out)
      clear HB1 HK HJm hmax e0 e1 d0 d1 hszr
      have HCT := Lib.hid hct
      have HLO := Lib.hid hlo
      clear hct hlo
      gi_loopw [5] (fun i wr => ∃ K : Nat, i = .int .i64 (K : Int) ∧ lo ≤ K ∧ K ≤ lo + ct ∧ J (m, K - lo) wr ∧ KeptBut n₁ B W wr)
        (fun i _ => lo + ct - (intOf i).toNat)
      case atStart => exact ⟨lo, rfl, Nat.le_refl _, by omega, by rw [Nat.sub_self]; exact HJ1.out, HK1.out⟩
      case round =>
        clear HJ1 HK1
        obtain ⟨K, rfl, hK0, hK1, hJK, hk⟩ := hrel
        have e0 : wr.cell? ⟨Bc, 0, none⟩ = some (.slice a1 na c1) := by rw [hk.cell hBc hBcB]; exact hc0
        have e1 : wr.cell? ⟨Bc, 1, none⟩ = some (.slice a2 nb c2) := by rw [hk.cell hBc hBcB]; exact hc1
        have hszr : n₁ ≤ wr.heap.size := Nat.le_trans hn₁ hk.size
        by_cases hlt : K < lo + ct
        · have hKm : K ≤ m := by omega
          have hKb : K < nb := by omega
          have hin := cvIn (a := na) (b := nb) (n := m) (j := K - lo) (by rw [HCT.out]; omega)
          rw [HLO.out, show lo + (K - lo) = K by omega] at hin
          have hKa : m - K < na := hin.2.2
          obtain ⟨g1, o1, rfl, hg1, hca1, hcm1, k1⟩ := (HRX.out.keptBut hk h01 h0B).at hKa
          obtain ⟨g2, o2, rfl, hg2, hca2, hcm2, k2⟩ := (HRH.out.keptBut hk h01 h0B).at hKb
          obtain ⟨⟨p, q⟩, hp⟩ : ∃ p, x.getD (m - K) (0, 0) = p := ⟨_, rfl⟩
          obtain ⟨⟨r, s⟩, hq⟩ : ∃ p, h.getD K (0, 0) = p := ⟨_, rfl⟩
          rw [hp] at k1
          rw [hq] at k2
          have g1' : decide (K ≤ m) = true := decide_eq_true hKm
          have g2' : decide (K < nb) = true := decide_eq_true hKb
          have HC := Lib.hid (fun w2 (hb : Below wr.heap.size wr w2) => (show w2.cell? ⟨Bc, 0, none⟩ = some (.slice (some ⟨g1, o1, none⟩) na c1) ∧ w2.cell? ⟨Bc, 1, none⟩ = some (.slice (some ⟨g2, o2, none⟩) nb c2) ∧ w2.cell? ⟨g1, o1 + (m - K), none⟩ = some (.complex .f64 p q) ∧ w2.cell? ⟨g2, o2 + K, none⟩ = some (.complex .f64 r s) from
            ⟨by rw [hb.cell (show Bc < wr.heap.size by omega)]; exact e0, by rw [hb.cell (show Bc < wr.heap.size by omega)]; exact e1, by rw [hb.cell (show g1 < wr.heap.size by omega)]; exact k1, by rw [hb.cell (show g2 < wr.heap.size by omega)]; exact k2⟩))
          obtain ⟨D, hD⟩ : ∃ D, m - K = D := ⟨_, rfl⟩
          rw [hD] at hKa HC hp k1
          have hwD : IntKind.i64.wrap (D : Int) = (D : Int) := IntWalk.i64_in _ (by omega)
          have hsub : (m : Int) - K = (D : Int) := by omega
          have HP := Lib.hid hp
          have HQ := Lib.hid hq
          have HD := Lib.hid hD
          clear hin hp hq hD
          gi_wp2
          refine wpIn_region_any (by kernel_rfl) ?_
          change wpAnyIn _ _ _ _ _ _ _ _ _ (World.drew _)
          apply by_leaf (C := fun w2 => Below wr.heap.size wr w2)
          case main =>
            intro LEAF
            have HB0 : Hid (Below wr.heap.size wr wr.drew) := below_draws (Below.refl _ _) 1
            refine wpAnyIn_take (i := 0) (v := _) rfl rfl (by kernel_rfl) (by kernel_rfl) (by kernel_rfl) (fun _ _ _ h => h) ⟨Or.inl ⟨by rfl, (by intro w; go_simp; try with_reducible rfl)⟩, fun _ => rfl⟩ ?_
            refine wpAnyIn_take (i := 1) (v := _) rfl rfl (by kernel_rfl) (by kernel_rfl) (by kernel_rfl) (fun _ _ _ h => h) ⟨Or.inl ⟨by rfl, (by intro w; go_simp; try with_reducible rfl)⟩, fun _ => rfl⟩ ?_
            refine wpAnyIn_take (i := 2) (v := _) rfl rfl (by kernel_rfl) (by kernel_rfl) (by kernel_rfl) (fun _ _ _ h => h) ⟨Or.inl ⟨by rfl, (by intro w; go_simp; try with_reducible rfl)⟩, fun _ => rfl⟩ ?_
            refine wpAnyIn_take (i := 4) (v := _) rfl rfl (by kernel_rfl) (by kernel_rfl) (by kernel_rfl) (fun _ _ _ h => h) ⟨Or.inl ⟨by rfl, (by intro w; go_simp; try with_reducible rfl)⟩, fun _ => rfl⟩ ?_
            refine wpAnyIn_take (i := 8) (v := _) rfl rfl (by kernel_rfl) (by kernel_rfl) (by kernel_rfl) (fun _ _ _ h => h) ⟨Or.inl ⟨by rfl, (by intro w; go_simp; try with_reducible rfl)⟩, fun _ => rfl⟩ ?_
            refine wpAnyIn_take (i := 10) (v := _) rfl rfl (by kernel_rfl) (by kernel_rfl) (by kernel_rfl) (fun _ _ _ h => h) ⟨Or.inl ⟨by rfl, (by intro w; go_simp; try with_reducible rfl)⟩, fun _ => rfl⟩ ?_
            refine wpAnyIn_take (i := 11) (v := _) rfl rfl (by kernel_rfl) (by kernel_rfl) (by kernel_rfl) (fun _ _ _ h => h) ⟨Or.inl ⟨by rfl, (by intro w; go_simp; try with_reducible rfl)⟩, fun _ => rfl⟩ ?_
            refine wpAnyIn_take (i := 12) (v := _) rfl rfl (by kernel_rfl) (by kernel_rfl) (by kernel_rfl) (fun _ _ _ h => h) ⟨Or.inl ⟨by rfl, (by intro w; go_simp; try with_reducible rfl)⟩, fun _ => rfl⟩ ?_
            refine wpAnyIn_ready (rs := [3, 9]) (by kernel_rfl) (by simp) ?_
            refine AllReadyIn.cons rfl (fun K hK => ?_) ?_
            · obtain ⟨c0, c1, c2, c3⟩ := HC.out _ HB0.out
              go_simp
              refine hK _ _ ?_
              clear hK K c0 c1 c2 c3
              refine wpAnyIn_take (i := 5) (v := _) rfl rfl (by kernel_rfl) (by kernel_rfl) (by kernel_rfl) (fun _ _ _ h => h) ⟨Or.inl ⟨by rfl, (by intro w; go_simp; try with_reducible rfl)⟩, fun _ => rfl⟩ ?_
              refine wpAnyIn_ready (rs := [6, 9]) (by kernel_rfl) (by simp) ?_
              refine AllReadyIn.cons rfl (fun K hK => ?_) ?_
              · obtain ⟨c0, c1, c2, c3⟩ := HC.out _ HB0.out
                go_simp
                refine hK _ _ ?_
                clear hK K c0 c1 c2 c3
                refine wpAnyIn_ready (rs := [7, 9]) (by kernel_rfl) (by simp) ?_
                refine AllReadyIn.cons rfl (fun K hK => ?_) ?_
                · go_simp
                  refine (callsIn_wide.2 (numberOf_any _ _ _)).mono ?_
                  rintro e w1 ⟨rfl, hb⟩
                  have HB1 := Lib.hid (below_step HB0.out hb HB0.out.size)
                  clear hb
                  refine hK _ _ ?_
                  clear hK K
                  refine wpAnyIn_ready (rs := [9]) (by kernel_rfl) (by simp) ?_
                  refine AllReadyIn.cons rfl (fun K hK => ?_) ?_
                  · obtain ⟨c0, c1, c2, c3⟩ := HC.out _ HB1.out
                    go_simp
                    refine hK _ _ ?_
                    clear hK K c0 c1 c2 c3
                    refine wpAnyIn_take (i := 13) (v := _) rfl rfl (by kernel_rfl) (by kernel_rfl) (by kernel_rfl) (fun _ _ _ h => h) ⟨Or.inl ⟨by rfl, (by intro w; go_simp; try with_reducible rfl)⟩, fun _ => rfl⟩ ?_
                    refine wpAnyIn_ready (rs := [14]) (by kernel_rfl) (by simp) ?_
                    refine AllReadyIn.cons rfl (fun K hK => ?_) ?_
                    · obtain ⟨c0, c1, c2, c3⟩ := HC.out _ HB1.out
                      go_simp
                      refine hK _ _ ?_
                      clear hK K c0 c1 c2 c3
                      refine wpAnyIn_ready (rs := [15]) (by kernel_rfl) (by simp) ?_
                      refine AllReadyIn.cons rfl (fun K hK => ?_) ?_
                      · go_simp
                        refine (callsIn_wide.2 (numberOf_any _ _ _)).mono ?_
                        rintro e w2 ⟨rfl, hb⟩
                        have HB2 := Lib.hid (below_step HB1.out hb HB1.out.size)
                        clear hb
                        refine hK _ _ ?_
                        clear hK K
                        exact LEAF _ HB2.out
                      exact AllReadyIn.nil
                    exact AllReadyIn.nil
                  exact AllReadyIn.nil
                refine AllReadyIn.cons rfl (fun K hK => ?_) ?_
                · obtain ⟨c0, c1, c2, c3⟩ := HC.out _ HB0.out
                  go_simp
                  refine hK _ _ ?_
                  clear hK K c0 c1 c2 c3
                  refine wpAnyIn_take (i := 13) (v := _) rfl rfl (by kernel_rfl) (by kernel_rfl) (by kernel_rfl) (fun _ _ _ h => h) ⟨Or.inl ⟨by rfl, (by intro w; go_simp; try with_reducible rfl)⟩, fun _ => rfl⟩ ?_
                  refine wpAnyIn_ready (rs := [7, 14]) (by kernel_rfl) (by simp) ?_
                  refine AllReadyIn.cons rfl (fun K hK => ?_) ?_
                  · go_simp
                    refine (callsIn_wide.2 (numberOf_any _ _ _)).mono ?_
                    rintro e w1 ⟨rfl, hb⟩
                    have HB1 := Lib.hid (below_step HB0.out hb HB0.out.size)
                    clear hb
                    refine hK _ _ ?_
                    clear hK K
                    refine wpAnyIn_ready (rs := [14]) (by kernel_rfl) (by simp) ?_
                    refine AllReadyIn.cons rfl (fun K hK => ?_) ?_
                    · obtain ⟨c0, c1, c2, c3⟩ := HC.out _ HB1.out
                      go_simp
                      refine hK _ _ ?_
                      clear hK K c0 c1 c2 c3
                      refine wpAnyIn_ready (rs := [15]) (by kernel_rfl) (by simp) ?_
                      refine AllReadyIn.cons rfl (fun K hK => ?_) ?_
                      · go_simp
                        refine (callsIn_wide.2 (numberOf_any _ _ _)).mono ?_
                        rintro e w2 ⟨rfl, hb⟩
                        have HB2 := Lib.hid (below_step HB1.out hb HB1.out.size)
                        clear hb
                        refine hK _ _ ?_
                        clear hK K
                        exact LEAF _ HB2.out
                      exact AllReadyIn.nil
                    exact AllReadyIn.nil
                  refine AllReadyIn.cons rfl (fun K hK => ?_) ?_
                  · obtain ⟨c0, c1, c2, c3⟩ := HC.out _ HB0.out
                    go_simp
                    refine hK _ _ ?_
                    clear hK K c0 c1 c2 c3
                    refine wpAnyIn_ready (rs := [7]) (by kernel_rfl) (by simp) ?_
                    refine AllReadyIn.cons rfl (fun K hK => ?_) ?_
                    · go_simp
                      refine (callsIn_wide.2 (numberOf_any _ _ _)).mono ?_
                      rintro e w1 ⟨rfl, hb⟩
                      have HB1 := Lib.hid (below_step HB0.out hb HB0.out.size)
                      clear hb
                      refine hK _ _ ?_
                      clear hK K
                      refine wpAnyIn_ready (rs := [15]) (by kernel_rfl) (by simp) ?_
                      refine AllReadyIn.cons rfl (fun K hK => ?_) ?_
                      · go_simp
                        refine (callsIn_wide.2 (numberOf_any _ _ _)).mono ?_
                        rintro e w2 ⟨rfl, hb⟩
                        have HB2 := Lib.hid (below_step HB1.out hb HB1.out.size)
                        clear hb
                        refine hK _ _ ?_
                        clear hK K
                        exact LEAF _ HB2.out
                      exact AllReadyIn.nil
                    exact AllReadyIn.nil
                  exact AllReadyIn.nil
                exact AllReadyIn.nil
              refine AllReadyIn.cons rfl (fun K hK => ?_) ?_
              · obtain ⟨c0, c1, c2, c3⟩ := HC.out _ HB0.out
                go_simp
                refine hK _ _ ?_
                clear hK K c0 c1 c2 c3
                refine wpAnyIn_take (i := 13) (v := _) rfl rfl (by kernel_rfl) (by kernel_rfl) (by kernel_rfl) (fun _ _ _ h => h) ⟨Or.inl ⟨by rfl, (by intro w; go_simp; try with_reducible rfl)⟩, fun _ => rfl⟩ ?_
                refine wpAnyIn_ready (rs := [6, 14]) (by kernel_rfl) (by simp) ?_
                refine AllReadyIn.cons rfl (fun K hK => ?_) ?_
                · obtain ⟨c0, c1, c2, c3⟩ := HC.out _ HB0.out
                  go_simp
                  refine hK _ _ ?_
                  clear hK K c0 c1 c2 c3
                  refine wpAnyIn_ready (rs := [7, 14]) (by kernel_rfl) (by simp) ?_
                  refine AllReadyIn.cons rfl (fun K hK => ?_) ?_
                  · go_simp
                    refine (callsIn_wide.2 (numberOf_any _ _ _)).mono ?_
                    rintro e w1 ⟨rfl, hb⟩
                    have HB1 := Lib.hid (below_step HB0.out hb HB0.out.size)
                    clear hb
                    refine hK _ _ ?_
                    clear hK K
                    refine wpAnyIn_ready (rs := [14]) (by kernel_rfl) (by simp) ?_
                    refine AllReadyIn.cons rfl (fun K hK => ?_) ?_
                    · obtain ⟨c0, c1, c2, c3⟩ := HC.out _ HB1.out
                      go_simp
                      refine hK _ _ ?_
                      clear hK K c0 c1 c2 c3
                      refine wpAnyIn_ready (rs := [15]) (by kernel_rfl) (by simp) ?_
                      refine AllReadyIn.cons rfl (fun K hK => ?_) ?_
                      · go_simp
                        refine (callsIn_wide.2 (numberOf_any _ _ _)).mono ?_
                        rintro e w2 ⟨rfl, hb⟩
                        have HB2 := Lib.hid (below_step HB1.out hb HB1.out.size)
                        clear hb
                        refine hK _ _ ?_
                        clear hK K
                        exact LEAF _ HB2.out
                      exact AllReadyIn.nil
                    exact AllReadyIn.nil
                  refine AllReadyIn.cons rfl (fun K hK => ?_) ?_
                  · obtain ⟨c0, c1, c2, c3⟩ := HC.out _ HB0.out
                    go_simp
                    refine hK _ _ ?_
                    clear hK K c0 c1 c2 c3
                    refine wpAnyIn_ready (rs := [7]) (by kernel_rfl) (by simp) ?_
                    refine AllReadyIn.cons rfl (fun K hK => ?_) ?_
                    · go_simp
                      refine (callsIn_wide.2 (numberOf_any _ _ _)).mono ?_
                      rintro e w1 ⟨rfl, hb⟩
                      have HB1 := Lib.hid (below_step HB0.out hb HB0.out.size)
                      clear hb
                      refine hK _ _ ?_
                      clear hK K
                      refine wpAnyIn_ready (rs := [15]) (by kernel_rfl) (by simp) ?_
                      refine AllReadyIn.cons rfl (fun K hK => ?_) ?_
                      · go_simp
                        refine (callsIn_wide.2 (numberOf_any _ _ _)).mono ?_
                        rintro e w2 ⟨rfl, hb⟩
                        have HB2 := Lib.hid (below_step HB1.out hb HB1.out.size)
                        clear hb
                        refine hK _ _ ?_
                        clear hK K
                        exact LEAF _ HB2.out
                      exact AllReadyIn.nil
                    exact AllReadyIn.nil
                  exact AllReadyIn.nil
                refine AllReadyIn.cons rfl (fun K hK => ?_) ?_
                · obtain ⟨c0, c1, c2, c3⟩ := HC.out _ HB0.out
                  go_simp
                  refine hK _ _ ?_
                  clear hK K c0 c1 c2 c3
                  refine wpAnyIn_ready (rs := [6]) (by kernel_rfl) (by simp) ?_
                  refine AllReadyIn.cons rfl (fun K hK => ?_) ?_
                  · obtain ⟨c0, c1, c2, c3⟩ := HC.out _ HB0.out
                    go_simp
                    refine hK _ _ ?_
                    clear hK K c0 c1 c2 c3
                    refine wpAnyIn_ready (rs := [7]) (by kernel_rfl) (by simp) ?_
                    refine AllReadyIn.cons rfl (fun K hK => ?_) ?_
                    · go_simp
                      refine (callsIn_wide.2 (numberOf_any _ _ _)).mono ?_
                      rintro e w1 ⟨rfl, hb⟩
                      have HB1 := Lib.hid (below_step HB0.out hb HB0.out.size)
                      clear hb
                      refine hK _ _ ?_
                      clear hK K
                      refine wpAnyIn_ready (rs := [15]) (by kernel_rfl) (by simp) ?_
                      refine AllReadyIn.cons rfl (fun K hK => ?_) ?_
                      · go_simp
                        refine (callsIn_wide.2 (numberOf_any _ _ _)).mono ?_
                        rintro e w2 ⟨rfl, hb⟩
                        have HB2 := Lib.hid (below_step HB1.out hb HB1.out.size)
                        clear hb
                        refine hK _ _ ?_
                        clear hK K
                        exact LEAF _ HB2.out
                      exact AllReadyIn.nil
                    exact AllReadyIn.nil
                  exact AllReadyIn.nil
                exact AllReadyIn.nil
              exact AllReadyIn.nil
            refine AllReadyIn.cons rfl (fun K hK => ?_) ?_
            · obtain ⟨c0, c1, c2, c3⟩ := HC.out _ HB0.out
              go_simp
              refine hK _ _ ?_
              clear hK K c0 c1 c2 c3
              refine wpAnyIn_take (i := 13) (v := _) rfl rfl (by kernel_rfl) (by kernel_rfl) (by kernel_rfl) (fun _ _ _ h => h) ⟨Or.inl ⟨by rfl, (by intro w; go_simp; try with_reducible rfl)⟩, fun _ => rfl⟩ ?_
              refine wpAnyIn_ready (rs := [3, 14]) (by kernel_rfl) (by simp) ?_
              refine AllReadyIn.cons rfl (fun K hK => ?_) ?_
              · obtain ⟨c0, c1, c2, c3⟩ := HC.out _ HB0.out
                go_simp
                refine hK _ _ ?_
                clear hK K c0 c1 c2 c3
                refine wpAnyIn_take (i := 5) (v := _) rfl rfl (by kernel_rfl) (by kernel_rfl) (by kernel_rfl) (fun _ _ _ h => h) ⟨Or.inl ⟨by rfl, (by intro w; go_simp; try with_reducible rfl)⟩, fun _ => rfl⟩ ?_
                refine wpAnyIn_ready (rs := [6, 14]) (by kernel_rfl) (by simp) ?_
                refine AllReadyIn.cons rfl (fun K hK => ?_) ?_
                · obtain ⟨c0, c1, c2, c3⟩ := HC.out _ HB0.out
                  go_simp
                  refine hK _ _ ?_
                  clear hK K c0 c1 c2 c3
                  refine wpAnyIn_ready (rs := [7, 14]) (by kernel_rfl) (by simp) ?_
                  refine AllReadyIn.cons rfl (fun K hK => ?_) ?_
                  · go_simp
                    refine (callsIn_wide.2 (numberOf_any _ _ _)).mono ?_
                    rintro e w1 ⟨rfl, hb⟩
                    have HB1 := Lib.hid (below_step HB0.out hb HB0.out.size)
                    clear hb
                    refine hK _ _ ?_
                    clear hK K
                    refine wpAnyIn_ready (rs := [14]) (by kernel_rfl) (by simp) ?_
                    refine AllReadyIn.cons rfl (fun K hK => ?_) ?_
                    · obtain ⟨c0, c1, c2, c3⟩ := HC.out _ HB1.out
                      go_simp
                      refine hK _ _ ?_
                      clear hK K c0 c1 c2 c3
                      refine wpAnyIn_ready (rs := [15]) (by kernel_rfl) (by simp) ?_
                      refine AllReadyIn.cons rfl (fun K hK => ?_) ?_
                      · go_simp
                        refine (callsIn_wide.2 (numberOf_any _ _ _)).mono ?_
                        rintro e w2 ⟨rfl, hb⟩
                        have HB2 := Lib.hid (below_step HB1.out hb HB1.out.size)
                        clear hb
                        refine hK _ _ ?_
                        clear hK K
                        exact LEAF _ HB2.out
                      exact AllReadyIn.nil
                    exact AllReadyIn.nil
                  refine AllReadyIn.cons rfl (fun K hK => ?_) ?_
                  · obtain ⟨c0, c1, c2, c3⟩ := HC.out _ HB0.out
                    go_simp
                    refine hK _ _ ?_
                    clear hK K c0 c1 c2 c3
                    refine wpAnyIn_ready (rs := [7]) (by kernel_rfl) (by simp) ?_
                    refine AllReadyIn.cons rfl (fun K hK => ?_) ?_
                    · go_simp
                      refine (callsIn_wide.2 (numberOf_any _ _ _)).mono ?_
                      rintro e w1 ⟨rfl, hb⟩
                      have HB1 := Lib.hid (below_step HB0.out hb HB0.out.size)
                      clear hb
                      refine hK _ _ ?_
                      clear hK K
                      refine wpAnyIn_ready (rs := [15]) (by kernel_rfl) (by simp) ?_
                      refine AllReadyIn.cons rfl (fun K hK => ?_) ?_
                      · go_simp
                        refine (callsIn_wide.2 (numberOf_any _ _ _)).mono ?_
                        rintro e w2 ⟨rfl, hb⟩
                        have HB2 := Lib.hid (below_step HB1.out hb HB1.out.size)
                        clear hb
                        refine hK _ _ ?_
                        clear hK K
                        exact LEAF _ HB2.out
                      exact AllReadyIn.nil
                    exact AllReadyIn.nil
                  exact AllReadyIn.nil
                refine AllReadyIn.cons rfl (fun K hK => ?_) ?_
                · obtain ⟨c0, c1, c2, c3⟩ := HC.out _ HB0.out
                  go_simp
                  refine hK _ _ ?_
                  clear hK K c0 c1 c2 c3
                  refine wpAnyIn_ready (rs := [6]) (by kernel_rfl) (by simp) ?_
                  refine AllReadyIn.cons rfl (fun K hK => ?_) ?_
                  · obtain ⟨c0, c1, c2, c3⟩ := HC.out _ HB0.out
                    go_simp
                    refine hK _ _ ?_
                    clear hK K c0 c1 c2 c3
                    refine wpAnyIn_ready (rs := [7]) (by kernel_rfl) (by simp) ?_
                    refine AllReadyIn.cons rfl (fun K hK => ?_) ?_
                    · go_simp
                      refine (callsIn_wide.2 (numberOf_any _ _ _)).mono ?_
                      rintro e w1 ⟨rfl, hb⟩
                      have HB1 := Lib.hid (below_step HB0.out hb HB0.out.size)
                      clear hb
                      refine hK _ _ ?_
                      clear hK K
                      refine wpAnyIn_ready (rs := [15]) (by kernel_rfl) (by simp) ?_
                      refine AllReadyIn.cons rfl (fun K hK => ?_) ?_
                      · go_simp
                        refine (callsIn_wide.2 (numberOf_any _ _ _)).mono ?_
                        rintro e w2 ⟨rfl, hb⟩
                        have HB2 := Lib.hid (below_step HB1.out hb HB1.out.size)
                        clear hb
                        refine hK _ _ ?_
                        clear hK K
                        exact LEAF _ HB2.out
                      exact AllReadyIn.nil
                    exact AllReadyIn.nil
                  exact AllReadyIn.nil
                exact AllReadyIn.nil
              refine AllReadyIn.cons rfl (fun K hK => ?_) ?_
              · obtain ⟨c0, c1, c2, c3⟩ := HC.out _ HB0.out
                go_simp
                refine hK _ _ ?_
                clear hK K c0 c1 c2 c3
                refine wpAnyIn_ready (rs := [3]) (by kernel_rfl) (by simp) ?_
                refine AllReadyIn.cons rfl (fun K hK => ?_) ?_
                · obtain ⟨c0, c1, c2, c3⟩ := HC.out _ HB0.out
                  go_simp
                  refine hK _ _ ?_
                  clear hK K c0 c1 c2 c3
                  refine wpAnyIn_take (i := 5) (v := _) rfl rfl (by kernel_rfl) (by kernel_rfl) (by kernel_rfl) (fun _ _ _ h => h) ⟨Or.inl ⟨by rfl, (by intro w; go_simp; try with_reducible rfl)⟩, fun _ => rfl⟩ ?_
                  refine wpAnyIn_ready (rs := [6]) (by kernel_rfl) (by simp) ?_
                  refine AllReadyIn.cons rfl (fun K hK => ?_) ?_
                  · obtain ⟨c0, c1, c2, c3⟩ := HC.out _ HB0.out
                    go_simp
                    refine hK _ _ ?_
                    clear hK K c0 c1 c2 c3
                    refine wpAnyIn_ready (rs := [7]) (by kernel_rfl) (by simp) ?_
                    refine AllReadyIn.cons rfl (fun K hK => ?_) ?_
                    · go_simp
                      refine (callsIn_wide.2 (numberOf_any _ _ _)).mono ?_
                      rintro e w1 ⟨rfl, hb⟩
                      have HB1 := Lib.hid (below_step HB0.out hb HB0.out.size)
                      clear hb
                      refine hK _ _ ?_
                      clear hK K
                      refine wpAnyIn_ready (rs := [15]) (by kernel_rfl) (by simp) ?_
                      refine AllReadyIn.cons rfl (fun K hK => ?_) ?_
                      · go_simp
                        refine (callsIn_wide.2 (numberOf_any _ _ _)).mono ?_
                        rintro e w2 ⟨rfl, hb⟩
                        have HB2 := Lib.hid (below_step HB1.out hb HB1.out.size)
                        clear hb
                        refine hK _ _ ?_
                        clear hK K
                        exact LEAF _ HB2.out
                      exact AllReadyIn.nil
                    exact AllReadyIn.nil
                  exact AllReadyIn.nil
                exact AllReadyIn.nil
              exact AllReadyIn.nil
            exact AllReadyIn.nil
          case leaf =>
            intro w2 hb2
            have hzx : IsC (p, q) ((zsOf x).getD D z0) := by rw [← HP.out]; exact isC_getD hwx (by rw [HNA.out]; exact hKa)
            have hzh : IsC (r, s) ((zsOf h).getD K z0) := by rw [← HQ.out]; exact isC_getD hwh (by rw [HNB.out]; exact hKb)
            have hstep : ∀ t1 t2, IsC (t1, t2) (mulZ ((zsOf h).getD K z0) ((zsOf x).getD D z0)) → (cvTold (zsOf x) (zsOf h) f).step (m, K - lo) (m, (t1, t2)) (m, K - lo + 1) := fun t1 t2 ht => by
              refine ⟨?_, ?_, rfl, ?_, rfl⟩
              · rw [zsOf_length, zsOf_length, HNA.out, HNB.out, HL.out]; exact hmlt
              · rw [zsOf_length, zsOf_length, HNA.out, HNB.out, HCT.out]; show K - lo < ct; omega
              · show IsC (t1, t2) (cvTerm (zsOf x) (zsOf h) m (K - lo))
                unfold cvTerm
                rw [zsOf_length, HNA.out, HLO.out, show lo + (K - lo) = K by omega, HD.out]
                exact ht
            have HT := Lib.hid (fun w => times_any r s p q _ _ hzh hzx w)
            clear hzx hzh
            refine wpAnyIn_ready (rs := [16]) (by kernel_rfl) (by simp) ?_
            refine AllReadyIn.cons rfl (fun K' hK' => ?_) AllReadyIn.nil
            go_simp
            refine (callsIn_wide.2 (HT.out _)).mono ?_
            rintro e w3 ⟨t1, t2, rfl, ht, hb3⟩
            refine hK' _ _ ?_
            clear hK' K'
            have HB3 := Lib.hid (below_step hb2 hb3 hb2.size)
            obtain ⟨fn, tmps, assign, body, hy, hR⟩ := hY (m, K - lo) (m, (t1, t2)) (m, K - lo + 1) w3 (hJ _ _ _ hJK HB3.out) (hstep t1 t2 ht)
            dsimp only [cvTold] at hy
            clear hb2 hb3 ht hstep
            refine wpAnyIn_ready (rs := [17]) (by kernel_rfl) (by simp) ?_
            refine AllReadyIn.cons rfl (fun K' hK' => ?_) AllReadyIn.nil
            go_simp
            refine hR.mono ?_
            rintro e W3 (⟨rfl, hJ3, hk3⟩ | ⟨rfl, hJx3⟩)
            · refine hK' _ _ ?_
              clear hK' K'
              refine wpAnyIn_ready (rs := [18]) (by kernel_rfl) (by simp) ?_
              refine AllReadyIn.cons rfl (fun K' hK' => ?_) AllReadyIn.nil
              go_simp
              refine hK' _ _ ?_
              clear hK' K'
              refine wpAnyIn_done (by kernel_rfl) ?_ _
              have HJ3 := Lib.hid hJ3
              have HK3 := Lib.hid ((hk.trans (KeptBut.of_below (B := B) HB3.out hszr)).trans hk3)
              clear hJ3 hk3 hy hR hk hJK e0 e1 k1 k2
              gi_wp2
              go_roundw
              case rel => exact ⟨K + 1, by go_num, by omega, by omega, by rw [show K + 1 - lo = K - lo + 1 by omega]; exact HJ3.out, HK3.out⟩
              case measure => simp [intOf]; omega
            · refine hK' _ _ ?_
              clear hK' K'
              refine wpAnyIn_ready (rs := [18]) (by kernel_rfl) (by simp) ?_
              refine AllReadyIn.cons rfl (fun K' hK' => ?_) AllReadyIn.nil
              go_simp
              refine hK' _ _ ?_
              clear hK' K'
              refine wpAnyIn_done (by kernel_rfl) ?_ _
              have HJ3 := Lib.hid hJx3
              clear hJx3 hy hR hk hJK e0 e1 k1 k2
              gi_wp2
              refine bodyPost_ret (results_none rfl _ _ _) rfl ?_
              exact ⟨⟨_, rfl⟩, .inr ⟨_, HJ3.out⟩⟩
        · obtain rfl : K = lo + ct := by omega
          have hJ2 := hS (m, lo + ct - lo) (m + 1, 0) wr hJK ⟨by rw [zsOf_length, zsOf_length, HNA.out, HNB.out, HL.out]; exact hmlt, by rw [zsOf_length, zsOf_length, HNA.out, HNB.out, HCT.out]; show lo + ct - lo = ct; omega, rfl⟩
          have HJ2 := Lib.hid hJ2
          have HK2 := Lib.hid hk
          clear hJ2 hk hJK
          by_cases hb : lo + ct ≤ m
          · have g1' : decide (lo + ct ≤ m) = true := decide_eq_true hb
            have g2' : decide (lo + ct < nb) = false := decide_eq_false (by omega)
            gi_wp2
            go_roundw
            case rel => exact ⟨m + 1, by go_num, by omega, by omega, HJ2.out, HK2.out⟩
            case measure => simp [intOf]; omega
          · have g1' : decide (lo + ct ≤ m) = false := decide_eq_false hb
            gi_wp2
            go_roundw
            case rel => exact ⟨m + 1, by go_num, by omega, by omega, HJ2.out, HK2.out⟩
            case measure => simp [intOf]; omega
    · obtain rfl : m = max f L := by omega
      gi_wp2_with (gi_at_call 57; refine (callsIn_wide.2 (HLen.out _)).mono ?_; rw [HL.out]; rintro e w1 ⟨rfl, hb1⟩; have HB1 := Lib.hid hb1; clear hb1)
      go_end0
      refine ⟨⟨_, rfl⟩, .inl ?_⟩
      show J (max f (cvLen (zsOf x).length (zsOf h).length), 0) _
      rw [zsOf_length, zsOf_length, HNA.out, HNB.out, HL.out]
      exact hJ _ _ _ HJm.out HB1.out

end Go.Proofs.Ytocjhanehphibaa
