import Derived.Test.YtnbmbegjpkebmaaFcA
import Derived.Test.YtnbmbegjpkebmaaPart
import Derived.Test.YtnbmbegjpkebmaaBig
import Derived.Test.YtnbmbegjpkebmaaSameL
import Derived.Deep.CutRange
/-
  FnFilterCuts: the law.
-/
set_option linter.unusedVariables false
set_option linter.unusedSimpArgs false
namespace Go.Proofs.Ytnbmbegjpkebmaa
open Go.RowKit Flt Fast

theorem IsCs.same {xs ys : List C} {zs : List Z} (h : IsCs xs zs) (k : IsCs ys zs) : xs.length = ys.length ∧ ∀ j, j < xs.length → ∃ z, IsC (xs.getD j (0, 0)) z ∧ IsC (ys.getD j (0, 0)) z :=
  ⟨by rw [h.1, k.1], fun j hj => ⟨_, h.2 j (by rw [← h.1]; exact hj), k.2 j (by rw [← h.1]; exact hj)⟩⟩
theorem IsCs.take {ps : List C} {zs : List Z} (h : IsCs ps zs) (n : Nat) : IsCs (ps.take n) (zs.take n) := by
  refine ⟨by simp [h.1], fun i hi => ?_⟩
  have hi' : i < n ∧ i < zs.length := by simp at hi; omega
  have h2 := h.2 i hi'.2
  have e1 : (ps.take n).getD i (0, 0) = ps.getD i (0, 0) := by simp [List.getD, List.getElem?_take, hi'.1]
  have e2 : (zs.take n).getD i z0 = zs.getD i z0 := by simp [List.getD, List.getElem?_take, hi'.1]
  rw [e1, e2]; exact h2
theorem zsOf_take (xs : List C) (n : Nat) : zsOf (xs.take n) = (zsOf xs).take n := by simp [zsOf]
theorem WfC.take {xs : List C} (h : WfC xs) (n : Nat) : WfC (xs.take n) := fun p hp => h p (List.mem_of_mem_take hp)
theorem RdO.self {w : World} {B e : Nat} {v : Value} {xs : List C} (h : Row w B e v (cvals xs)) : RdO w.heap.size w v xs := RdO.of_row h (fun k e => (h.lt k e).2)


theorem half_c : IsC (4602678819172646912, 0) (some 4602678819172646912, some 0) := ⟨IsF.lit (by decide) (by omega), IsF.lit (by decide) (by omega)⟩

/-- What one push has left: the next filter in a block of its own, and what is told. -/
def FcMid (X T : List C) (w8 : World) (n tt b : Nat) (v13 v14 v15 : Value) (wx : World) : Prop :=
  ∃ G a1 c1 a2 c2 oa oc qs, v13 = .pointer (some ⟨G, 0, none⟩) ∧ v14 = .slice oa (tt - n) oc ∧ v15 = .int .i64 0 ∧ Pair wx G 34 (.slice a1 b c1) (.slice a2 (min tt (b - 1)) c2) ∧ w8.heap.size ≤ G ∧
    RdO wx.heap.size wx (.slice a1 b c1) T ∧ RdO wx.heap.size wx (.slice a2 (min tt (b - 1)) c2) (pastAt X b tt) ∧ (∀ j, (Value.slice a1 b c1).ownBlock = some j → w8.heap.size ≤ j) ∧ (∀ j, (Value.slice a2 (min tt (b - 1)) c2).ownBlock = some j → w8.heap.size ≤ j) ∧
    Row wx w8.heap.size 32 (.slice oa (tt - n) oc) (cvals qs) ∧ IsCs qs ((List.range (tt - n)).map (fun i => cvAt (zsOf X) (zsOf T) (n + i))) ∧ Below w8.heap.size w8 wx

/-- A push, as the law makes it. -/
theorem push_law {X T : List C} {n tt b : Nat} {tv pv v : Value} (hT : T.length = b) (hb1 : 1 ≤ b) (hb5 : b ≤ 5) (hX : X.length ≤ 14) (h1 : n ≤ tt) (h2 : tt ≤ X.length) (hwx : WfC X) (hwt : WfC T) (w : World)
    (hrt : RdO w.heap.size w tv T) (hrp : RdO w.heap.size w pv (pastAt X b n)) (hrx : RdO w.heap.size w v ((X.drop n).take (tt - n))) :
    Calls Try.prog 15 #[.agg #[tv, pv], v] w fun e w' => ∃ a1 c1 a2 c2 oa oc qs, e = .returned (.tuple #[.agg #[.slice a1 b c1, .slice a2 (min tt (b - 1)) c2], .slice oa (tt - n) oc, .int .i64 0]) ∧
      RdO w'.heap.size w' (.slice a1 b c1) T ∧ RdO w'.heap.size w' (.slice a2 (min tt (b - 1)) c2) (pastAt X b tt) ∧ (∀ j, (Value.slice a1 b c1).ownBlock = some j → w.heap.size ≤ j) ∧ (∀ j, (Value.slice a2 (min tt (b - 1)) c2).ownBlock = some j → w.heap.size ≤ j) ∧
      Row w' w.heap.size 32 (.slice oa (tt - n) oc) (cvals qs) ∧ IsCs qs ((List.range (tt - n)).map (fun i => cvAt (zsOf X) (zsOf T) (n + i))) ∧ Below w.heap.size w w' := by
  subst hT
  have hpl := pastAt_length (X := X) (b := T.length) (at' := n) (by omega)
  have hxl : ((X.drop n).take (tt - n)).length = tt - n := by rw [List.length_take, List.length_drop]; omega
  refine (push_any T (pastAt X T.length n) ((X.drop n).take (tt - n)) tv pv v (by omega) (by omega) (by omega) hwt (fun p hp => ?_) (fun p hp => hwx p (List.mem_of_mem_drop (List.mem_of_mem_take hp))) w hrt hrp hrx).mono ?_
  · rw [pastAt_eq (by omega)] at hp
    exact hwx p (List.mem_of_mem_take (List.mem_of_mem_drop hp))
  · rintro e w' ⟨a1, c1, a2, c2, ov, qs, rfl, r1, r2, r3, r4, r5, r6⟩
    rw [hxl, hpl] at r2 r3
    rw [show min (min n (T.length - 1) + (tt - n)) (T.length - 1) = min tt (T.length - 1) by omega] at r2 r3
    rw [past_next h1 h2] at r2
    rw [hxl] at r5
    rw [told_piece hb1 h1 h2] at r5
    obtain ⟨oa, oc, rfl⟩ := r4.written (n := tt - n) (by rw [cvals_length, r5.1]; simp)
    refine ⟨a1, c1, a2, c2, oa, oc, qs, ?_, RdO.self r1, r2, fun j hj => (r1.lt j hj).1, r3, r4, r5, r6⟩
    rw [hxl, hpl, show min (min n (T.length - 1) + (tt - n)) (T.length - 1) = min tt (T.length - 1) by omega]

theorem fc_mid {X T : List C} {w8 Wq : World} {n tt b G : Nat} {a1 a2 oa : Option Addr} {c1 c2 oc : Nat} {z1 z2 : Value} {qs : List C} (hG : Pair Wq G 34 z1 z2) (hGW : w8.heap.size ≤ G)
    (ht : RdO Wq.heap.size Wq (.slice a1 b c1) T) (hp : RdO Wq.heap.size Wq (.slice a2 (min tt (b - 1)) c2) (pastAt X b tt))
    (bt : ∀ j, (Value.slice a1 b c1).ownBlock = some j → w8.heap.size ≤ j) (bp : ∀ j, (Value.slice a2 (min tt (b - 1)) c2).ownBlock = some j → w8.heap.size ≤ j)
    (bt' : T ≠ [] → ∀ j, (Value.slice a1 b c1).ownBlock = some j → j ≠ G) (bp' : pastAt X b tt ≠ [] → ∀ j, (Value.slice a2 (min tt (b - 1)) c2).ownBlock = some j → j ≠ G)
    (hr : Row Wq w8.heap.size 32 (.slice oa (tt - n) oc) (cvals qs)) (br : ∀ j, (Value.slice oa (tt - n) oc).ownBlock = some j → j ≠ G)
    (hq : IsCs qs ((List.range (tt - n)).map (fun i => cvAt (zsOf X) (zsOf T) (n + i)))) (hb : Below w8.heap.size w8 Wq) :
    FcMid X T w8 n tt b (.pointer (some ⟨G, 0, none⟩)) (.slice oa (tt - n) oc) (.int .i64 0) ((Wq.setCell ⟨G, 0, none⟩ (.slice a1 b c1)).setCell ⟨G, 1, none⟩ (.slice a2 (min tt (b - 1)) c2)) := by
  have g1 := grown_set Wq G 0 (.slice a1 b c1)
  have g2 := grown_set (Wq.setCell ⟨G, 0, none⟩ (.slice a1 b c1)) G 1 (.slice a2 (min tt (b - 1)) c2)
  have hsz : ((Wq.setCell ⟨G, 0, none⟩ (.slice a1 b c1)).setCell ⟨G, 1, none⟩ (.slice a2 (min tt (b - 1)) c2)).heap.size = Wq.heap.size := by simp
  refine ⟨G, a1, c1, a2, c2, oa, oc, qs, rfl, rfl, rfl, (hG.set0 _).set1 _, hGW, ?_, ?_, bt, bp, ?_, hq, ?_⟩
  · rw [hsz]; exact (ht.grown g1 (fun h j hj e => by cases e; exact bt' h _ hj rfl) (Nat.le_refl _)).grown g2 (fun h j hj e => by cases e; exact bt' h _ hj rfl) (by simp)
  · rw [hsz]; exact (hp.grown g1 (fun h j hj e => by cases e; exact bp' h _ hj rfl) (Nat.le_refl _)).grown g2 (fun h j hj e => by cases e; exact bp' h _ hj rfl) (by simp)
  · exact (hr.grownNe g1 (fun j hj e => by cases e; exact br _ hj rfl)).grownNe g2 (fun j hj e => by cases e; exact br _ hj rfl)
  · exact (hb.setCell (p := ⟨G, 0, none⟩) hGW _).setCell (p := ⟨G, 1, none⟩) hGW _

/-- What is told by the pushes and by the end, together. -/
theorem fc_all {X T : List C} {ps qs : List C} (hb : 1 ≤ T.length) (h1 : IsCs ps (cvFirst (zsOf X) (zsOf T) X.length))
    (h2 : IsCs qs (cvPart (zsOf (pastAt X T.length X.length)) (zsOf T) (pastAt X T.length X.length).length (cvLen (pastAt X T.length X.length).length T.length))) :
    IsCs (ps ++ qs) (cvAll (zsOf X) (zsOf T)) ∧ ps.length + qs.length ≤ X.length + T.length := by
  rw [told_end hb] at h2
  have hle := cvLen_le X.length T.length
  have hge : X.length ≤ cvLen X.length T.length := by
    by_cases h : X.length = 0
    · omega
    · rw [cvLen_pos h (by omega)]; omega
  have h := h1.append h2
  rw [cvFirst_add, show X.length + (cvLen X.length T.length - X.length) = cvLen X.length T.length by omega] at h
  refine ⟨?_, ?_⟩
  · rwa [← cvFirst_all, zsOf_length, zsOf_length]
  · have := h.1
    rw [List.length_append, cvFirst_length] at this
    omega

set_option maxRecDepth 100000 in
set_option maxHeartbeats 20000000 in
theorem fnFilterCuts_law (a0 : Option Addr) (len0 cap0 : Nat) (z0 : List Int) (a1 : Option Addr) (len1 cap1 : Nat) (z1 : List Int) (w : World) (h0 : IsRow .u8 w a0 len0 cap0 z0) (h1 : IsRow .u8 w a1 len1 cap1 z1) :
    Calls Try.prog 4 #[.slice a0 len0 cap0, .slice a1 len1 cap1] w fun e w' => e = .returned (.bool true) ∧ Below w.heap.size w w' := by
  have hm0 := isRow_len h0
  have hm1 := isRow_len h1
  by_cases hl0 : len0 ≤ 4096
  · have F0 := Lib.hid (f6big_f a0 len0 cap0 hl0)
    by_cases hl1 : len1 ≤ 4096
    · have F1 := Lib.hid (f6big_f a1 len1 cap1 hl1)
      obtain ⟨i0, hi, hz0, hz1, hz2⟩ := info_parts info_c128
      obtain ⟨i1, hi1, hy0, hy1, hy2⟩ := info_parts info_u8
      have R1 := Lib.hid (fun w1 (hb : Below w.heap.size w w1) => (⟨z1, isRow_below h1 hb⟩ : ∃ zs, IsRow .u8 w1 a1 len1 cap1 zs))
      have P0 : Hid (Calls Try.prog 7 #[.slice a0 len0 cap0, .int .i64 14] w (Wild 14 w)) := p6Any_any a0 len0 cap0 14 (by omega) (by omega) w ⟨z0, h0⟩
      have P1 : Hid (∀ w1, Below w.heap.size w w1 → Calls Try.prog 7 #[.slice a1 len1 cap1, .int .i64 4] w1 (Wild 4 w1)) := fun w1 hb => p6Any_any a1 len1 cap1 4 (by omega) (by omega) w1 ⟨z1, isRow_below h1 hb⟩
      clear h0 h1 hl0
      go_enter Try.func4, Try.ntmps4
      go_wp2_with fail
      with_reducible refine (F0.out _).mono ?_
      rintro e w' ⟨rfl, rfl⟩
      go_wp2_with fail
      with_reducible refine (F1.out _).mono ?_
      rintro e w' ⟨rfl, rfl⟩
      obtain ⟨w, rfl⟩ : ∃ z, z = w' := ⟨_, rfl⟩
      go_wp2_with fail
      with_reducible refine P0.out.mono ?_
      rintro e w1 ⟨v, xs, rfl, hr, hlx, hwx, hb⟩
      obtain ⟨va, vc, rfl⟩ := hr.written (cvals_length xs)
      have HX := Lib.hid hr
      have HWX := Lib.hid hwx
      have HB1 := Lib.hid hb
      clear hr hwx hb
      go_wp2_with fail
      with_reducible refine (P1.out _ HB1.out).mono ?_
      rintro e w2 ⟨v, cs, rfl, hr, hlc, hwc, hb⟩
      obtain ⟨ua, uc, rfl⟩ := hr.written (cvals_length cs)
      have HX2 := Lib.hid (HX.out.up hb)
      have HB2 := Lib.hid (below_step HB1.out hb HB1.out.size)
      have HC2 := Lib.hid (show w2.ownsRow w1.heap.size 32 1 (.slice ua cs.length uc) cs.length (cvals cs) by have := hr; unfold Row at this; rwa [cvals_length] at this)
      have hwt : WfC (cs ++ [(4602678819172646912, 0)]) := wfC_snoc hwc (by omega) (by omega)
      have hs12 : w1.heap.size ≤ w2.heap.size := hb.size
      have HXB : Hid (∀ j, (Value.slice va xs.length vc).ownBlock = some j → j < w1.heap.size) := fun j e => (HX.out.lt j e).2
      have HWT := Lib.hid hwt
      clear hr hwc hb HX P0 P1 F0 F1 hwt
      go_wp2_with (at_builtin; refine wpList_append_own _ rfl _ _ 24 rfl w1.heap.size 32 i0 (.complex .f64 0 0) 1 16 Try.underlying24 hi hz0 hz1 hz2 rfl (by decide) _ _ _ rfl (HC2.out.alloc _) ⟨w2.heap.size, 0, none⟩ 1 1 [.complex .f64 4602678819172646912 0] rfl rfl (cell_one_new _ _ _) (by simp [Value.oneCell']) (by simp only [maxLen]; omega) (by omega) (by simp; omega) ?_; intro v' w3 hown' hgrow _; obtain ⟨ta, tc, rfl⟩ := ownsRow_succ hown'; have HO := Lib.hid (And.intro hown' hgrow); clear hown' hgrow)
      obtain ⟨T, hT⟩ : ∃ T, cs ++ [(4602678819172646912, 0)] = T := ⟨_, rfl⟩
      have hTl : T.length = cs.length + 1 := by rw [← hT]; simp
      have hrt : Row w3 w1.heap.size 32 (.slice (some ⟨ta, 0, none⟩) (cs.length + 1) tc) (cvals T) := by
        unfold Row
        rw [cvals_length, hTl, ← hT, cvals_snoc]
        exact HO.out.1
      have hx3 : Row w3 w.heap.size 32 (.slice va xs.length vc) (cvals xs) := (HX2.out.alloc _).grownNe HO.out.2 (fun j hj e => by have := (HC2.out.lt j e).1; have := HXB.out j hj; omega)
      have hB3 : Below w.heap.size w w3 := (HB2.out.alloc HB2.out.size _).grown HO.out.2 (by have := HB2.out.size; simp; omega) (fun j e => by have := (HC2.out.lt j e).1; have := HB1.out.size; omega)
      rw [hT] at HWT
      have hT0 : T ≠ [] := fun e => by rw [e] at hTl; simp at hTl
      obtain ⟨b, hb⟩ : ∃ b, cs.length + 1 = b := ⟨_, rfl⟩
      have hbT : T.length = b := by rw [hTl, hb]
      have hb5 : b ≤ 5 := by omega
      have hb1 : 1 ≤ b := by omega
      obtain ⟨L, hL⟩ : ∃ L, xs.length = L := ⟨_, rfl⟩
      rw [hL] at hlx hx3 HXB ⊢
      rw [hb] at hrt ⊢
      have hs03 : w.heap.size ≤ w1.heap.size := HB1.out.size
      have hs23 : w1.heap.size ≤ w3.heap.size := by have := HO.out.2.size; simp at this; omega
      have KN : Hid (Calls Try.prog 13 #[.slice (some ⟨ta, 0, none⟩) b tc] w3 fun e w' => ∃ a cap, e = .returned (.tuple #[.agg #[.slice a b cap, .slice none 0 0], .int .i64 0]) ∧ Row w' w3.heap.size 32 (.slice a b cap) (cvals T) ∧ Below w3.heap.size w3 w') := by
        have := newFilter_any T (.slice (some ⟨ta, 0, none⟩) b tc) (by omega) (by omega) w3 (RdO.self hrt)
        rw [hbT] at this; exact this
      have HX3 := Lib.hid hx3
      have HT3 := Lib.hid hrt
      have HB3 := Lib.hid hB3
      have HTB := Lib.hid hbT
      have HXL := Lib.hid hL
      have HTN := Lib.hid hT0
      clear HO hrt hx3 hB3 hT hTl hbT hL hT0 HX2 HB2 HC2 HB1 hb HXB
      go_wp2_with fail
      with_reducible refine KN.out.mono ?_
      rintro e w4 ⟨fa, fc, rfl, hr, hb⟩
      clear KN
      have HF4 := Lib.hid hr
      have HX4 := Lib.hid (HX3.out.up hb)
      have HT4 := Lib.hid (HT3.out.up hb)
      have HB4 := Lib.hid (below_step HB3.out hb HB3.out.size)
      have hs34 : w3.heap.size ≤ w4.heap.size := hb.size
      have hs04 : w.heap.size ≤ w4.heap.size := HB4.out.size
      clear hr hb HX3 HT3 HB3
      go_wp2_with fail
      obtain ⟨wF, hwF⟩ : ∃ z, w4.alloc (.cells #[.slice fa b fc, .slice none 0 0] 34) = z := ⟨_, rfl⟩
      obtain ⟨F, hF⟩ : ∃ F, w4.heap.size = F := ⟨_, rfl⟩
      have hpF : Pair wF F 34 (.slice fa b fc) (.slice none 0 0) := by rw [← hwF, ← hF]; exact World.alloc_heap_new w4 _
      have hbF : Below w4.heap.size w4 wF := by rw [← hwF]; exact (Below.refl _ _).alloc (Nat.le_refl _) _
      rw [hwF]
      have HFF := Lib.hid hF
      have HPF := Lib.hid hpF
      have HF5 := Lib.hid (HF4.out.up hbF)
      have HX5 := Lib.hid (HX4.out.up hbF)
      have HT5 := Lib.hid (HT4.out.up hbF)
      have HB5 := Lib.hid (below_step HB4.out hbF HB4.out.size)
      have HXL4 : Hid (∀ j, (Value.slice va L vc).ownBlock = some j → j < F) := fun j e => by have := (HX4.out.lt j e).2; omega
      have HTL4 : Hid (∀ j, (Value.slice (some ⟨ta, 0, none⟩) b tc).ownBlock = some j → j < F) := fun j e => by have := (HT4.out.lt j e).2; omega
      have HFL4 : Hid (∀ j, (Value.slice fa b fc).ownBlock = some j → j < F) := fun j e => by have := (HF4.out.lt j e).2; omega
      have hwFs : wF.heap.size = F + 1 := by rw [← hwF, ← hF]; simp
      clear hwF hbF hpF hF HF4 HX4 HT4 HB4
      with_reducible refine (validFilter_spec fa none b fc 0 0 hb1 (by omega) (by omega) wF).mono ?_
      rintro e w5 ⟨rfl, hb⟩
      have HPF5 := Lib.hid (HPF.out.below hb (by omega))
      have HF6 := Lib.hid (HF5.out.up hb)
      have HX6 := Lib.hid (HX5.out.up hb)
      have HT6 := Lib.hid (HT5.out.up hb)
      have HB6 := Lib.hid (below_step HB5.out hb HB5.out.size)
      have hw5s : F + 1 ≤ w5.heap.size := by have := hb.size; omega
      have p0 : w5.cell? ⟨w4.heap.size, 0, none⟩ = some (.slice fa b fc) := by rw [HFF.out]; exact HPF5.out.c0
      clear hb HPF HF5 HX5 HT5 HB5 hwFs
      have S1 := (IsCs.of_wf HWT.out).same (IsCs.of_wf HWT.out)
      have K := Lib.hid (sameSignals_spec HF6.out.reads HT6.out.reads S1.1 S1.2)
      clear S1
      go_wp2_with fail
      with_reducible refine K.out.mono ?_
      rintro e w6 ⟨rfl, n6, rfl⟩
      clear K p0
      obtain ⟨w6, hw6⟩ : ∃ z, w5.drewN n6 = z := ⟨_, rfl⟩
      have hb : Below w5.heap.size w5 w6 := by rw [← hw6]; exact below_draws (Below.refl _ _) n6
      rw [hw6]
      clear hw6
      obtain ⟨BA, hBA⟩ : ∃ z, w6.heap.size = z := ⟨_, rfl⟩
      have hlit : Row (w6.alloc (.cells #[] 32)) BA 32 (.slice (some ⟨w6.heap.size, 0, none⟩) 0 0) (cvals []) := by rw [← hBA]; exact World.ownsRow_lit w6 #[] 0 (Nat.le_refl _) (by unfold maxLen; omega) rfl
      have hb7 : Below w6.heap.size w6 (w6.alloc (.cells #[] 32)) := (Below.refl _ _).alloc (Nat.le_refl _) _
      have hb57 : Below w5.heap.size w5 (w6.alloc (.cells #[] 32)) := below_step hb hb7 hb.size
      have hs6 : w5.heap.size ≤ w6.heap.size := hb.size
      have HI : Hid (FcInv xs T w F BA (.slice va L vc) (.slice (some ⟨ta, 0, none⟩) b tc) 0 (.slice (some ⟨w6.heap.size, 0, none⟩) 0 0) (.slice fa b fc) (.slice none 0 0) [] (w6.alloc (.cells #[] 32))) :=
        { pair := HPF5.out.below hb57 (by omega)
          taps := RdO.self (HF6.out.up hb57)
          past := by rw [show pastAt xs T.length 0 = [] by simp [pastAt, pastOf]]; exact .nil _ _ (by simp)
          tapsNe := fun j hj => ⟨by have := HFL4.out j hj; omega, by have := HFL4.out j hj; simp [Value.ownBlock]; omega⟩
          pastNe := fun h => absurd (show pastAt xs T.length 0 = [] by simp [pastAt, pastOf]) h
          row := hlit
          fits := by simpa [cvFirst] using IsCs.nil
          xs := HX6.out.up hb57
          ts := (HT6.out.up hb57).base hs03
          xLow := HXL4.out
          tLow := HTL4.out
          below := below_step HB6.out hb57 HB6.out.size
          base := by omega
          low := by have := HFF.out; omega
          size := by simp; omega
          len := Nat.zero_le _ }
      clear hlit hb7 hb57 hb HPF5 HF6 HX6 HT6 HB6 HXL4 HTL4 HFL4 hBA
      go_wp2
      go_loopw [9, 10, 11] (fun all at' k wr => ∃ (kk n : Nat) (tv pv : Value) (ps : List C), k = .int .i64 (kk : Int) ∧ kk ≤ 4 ∧ at' = .int .i64 (n : Int) ∧ (kk = 4 → n = L) ∧ FcInv xs T w F BA (.slice va L vc) (.slice (some ⟨ta, 0, none⟩) b tc) n all tv pv ps wr) (fun _ _ k _ => 4 - (intOf k).toNat)
      case atStart => exact ⟨0, 0, _, _, [], rfl, by omega, rfl, fun h => by omega, HI.out⟩
      case round =>
        clear HI
        obtain ⟨kk, n, tv, pv, ps, rfl, hk4, rfl, hkn, hinv⟩ := hrel
        obtain ⟨aa, ac, rfl⟩ := hinv.row.written rfl
        obtain ⟨tva, tvc, rfl, -, -, -⟩ := hinv.taps.find
        obtain ⟨pva, pvc, rfl, -, -, -⟩ := hinv.past.find
        have hnL : n ≤ L := by have := hinv.len; rw [HXL.out] at this; exact this
        have hplen : (pastAt xs T.length n).length = min n (b - 1) := by rw [pastAt_length (by rw [HXL.out]; exact hnL), HTB.out]
        obtain ⟨pl, hpl⟩ : ∃ z, (pastAt xs T.length n).length = z := ⟨_, rfl⟩
        rw [hpl] at hinv hplen
        rw [HTB.out] at hinv
        obtain ⟨ql, hql⟩ : ∃ z, (cvals ps).length = z := ⟨_, rfl⟩
        rw [hql] at hinv ⊢
        have HINV := Lib.hid hinv
        have HPL := Lib.hid hpl
        have HQL := Lib.hid hql
        have hBr := hinv.below
        have hrs : w.heap.size ≤ wr.heap.size := hBr.size
        obtain ⟨zz, hz⟩ := R1.out _ hBr
        have HZ := Lib.hid hz
        have HBR := Lib.hid hBr
        clear hinv hpl hql hBr hz hplen
        by_cases hlt : kk < 4
        · have g1 : decide ((kk : Int) < 4) = true := decide_eq_true (by omega)
          have hwk : IntKind.u8.wrap (kk : Int) = (kk : Int) := by
            have h : kk = 0 ∨ kk = 1 ∨ kk = 2 ∨ kk = 3 := by omega
            rcases h with rfl | rfl | rfl | rfl <;> decide
          have hlk : (Lit.int .u8 (kk : Int)).wf = true := by
            have h : kk = 0 ∨ kk = 1 ∨ kk = 2 ∨ kk = 3 := by omega
            rcases h with rfl | rfl | rfl | rfl <;> decide
          have HG8 : Hid ((wr.alloc (.cells #[.int .u8 (kk : Int)] 5)).heap[wr.heap.size]? = some (.cells #[.int .u8 (kk : Int)] 5 (0, 0))) := World.alloc_heap_new wr _
          have HZ8 := Lib.hid (isRow_below HZ.out ((Below.refl wr.heap.size wr).alloc (Nat.le_refl _) (.cells #[.int .u8 (kk : Int)] 5)))
          go_wp2_with (at_builtin; refine wpList_bytes rfl _ _ rfl i1 hi1 hy0 hy1 hy2 (kk : Int) hlk HG8.out rfl rfl HZ8.out hl1 ?_; intro a' len' cap' w7 hz' hg7; have HZ7 := Lib.hid hz'; have HB7 : Hid (Below wr.heap.size wr w7) := ((Below.refl wr.heap.size wr).alloc (Nat.le_refl _) _).grown hg7 (by simp) (fun j e => by cases e; exact Nat.le_refl _); clear hz' hg7)
          with_reducible refine (p6Pick_any w7 a' len' cap' HZ7.out ((L : Int) - (n : Int) + 1) (by omega) (by omega)).mono ?_
          rintro e w8 ⟨r, rfl, hr, hb8⟩
          have HB8 := Lib.hid (below_step HB7.out hb8 HB7.out.size)
          have hinv8 : Below wr.heap.size wr w8 := HB8.out
          have p0 : w8.cell? ⟨w4.heap.size, 0, none⟩ = some (.slice tva b tvc) := by rw [HFF.out]; exact (HINV.out.pair.below hinv8 (Nat.lt_of_lt_of_le HINV.out.base HINV.out.size)).c0
          have p1 : w8.cell? ⟨w4.heap.size, 1, none⟩ = some (.slice pva pl pvc) := by rw [HFF.out]; exact (HINV.out.pair.below hinv8 (Nat.lt_of_lt_of_le HINV.out.base HINV.out.size)).c1
          have HKEEP : Hid (∀ W, Below w8.heap.size w8 W → Below w8.heap.size w8 W ∧ W.cell? ⟨w4.heap.size, 0, none⟩ = some (.slice tva b tvc) ∧ W.cell? ⟨w4.heap.size, 1, none⟩ = some (.slice pva pl pvc)) := fun W hW => by
            have hF8 : w4.heap.size < w8.heap.size := Nat.lt_of_lt_of_le (by have := Nat.lt_of_lt_of_le HINV.out.base HINV.out.size; have := HFF.out; omega) hinv8.size
            exact ⟨hW, by rw [hW.cell (p := ⟨w4.heap.size, 0, none⟩) hF8]; exact p0, by rw [hW.cell (p := ⟨w4.heap.size, 1, none⟩) hF8]; exact p1⟩
          have HPART : Hid (∀ (tt : Nat), n ≤ tt → tt ≤ L → ∀ W, Below w8.heap.size w8 W → Calls Try.prog 11 #[.slice va L vc, .int .i64 n, .int .i64 tt] W fun e w' => ∃ v, e = .returned v ∧ Row w' W.heap.size 32 v (cvals ((xs.drop n).take (tt - n))) ∧ Below W.heap.size W w') := fun tt h1 h2 W hW =>
            part_any va L vc n tt xs W (RdO.self ((HINV.out.xs.up hinv8).up hW)) h1 h2 (by omega)
          have HPUSH : Hid (∀ (tt : Nat), n ≤ tt → tt ≤ L → ∀ W v, Below w8.heap.size w8 W → RdO W.heap.size W v ((xs.drop n).take (tt - n)) → Calls Try.prog 15 #[.agg #[.slice tva b tvc, .slice pva pl pvc], v] W fun e w' => ∃ a1 c1 a2 c2 oa oc qs, e = .returned (.tuple #[.agg #[.slice a1 b c1, .slice a2 (min tt (b - 1)) c2], .slice oa (tt - n) oc, .int .i64 0]) ∧
              RdO w'.heap.size w' (.slice a1 b c1) T ∧ RdO w'.heap.size w' (.slice a2 (min tt (b - 1)) c2) (pastAt xs b tt) ∧ (∀ j, (Value.slice a1 b c1).ownBlock = some j → W.heap.size ≤ j) ∧ (∀ j, (Value.slice a2 (min tt (b - 1)) c2).ownBlock = some j → W.heap.size ≤ j) ∧
              Row w' W.heap.size 32 (.slice oa (tt - n) oc) (cvals qs) ∧ IsCs qs ((List.range (tt - n)).map (fun i => cvAt (zsOf xs) (zsOf T) (n + i))) ∧ Below W.heap.size W w') := fun tt h1 h2 W v hW hv =>
            push_law HTB.out hb1 hb5 (by rw [HXL.out]; omega) h1 (by rw [HXL.out]; exact h2) HWX.out HWT.out W ((HINV.out.taps.below (hinv8.trans (hW.mono hinv8.size))).base (Nat.le_trans hinv8.size hW.size))
              (by have := (HINV.out.past.below (hinv8.trans (hW.mono hinv8.size))).base (Nat.le_trans hinv8.size hW.size); rwa [HTB.out] at this) hv
          clear hb8 hinv8 HZ7 HB7 HG8 HZ8
          by_cases hk3 : kk = 3
          · have hnt : n ≤ L := by omega
            have htL : L ≤ L := Nat.le_refl _
            have hend : kk + 1 = 4 → L = L := fun _ => rfl
            have g3 : ((kk : Int) == 3) = true := by simp; omega
            go_wp2_with fail
            go_cut [13, 14, 15] from 75 to 84 (fun v13 v14 v15 wx => FcMid xs T w8 n L b v13 v14 v15 wx)
            case first =>
              have d := (HKEEP.out w8.drew (below_draws (Below.refl _ _) 1)).2
              have HPT := Lib.hid (HPART.out L hnt htL)
              have HPS := Lib.hid (HPUSH.out L hnt htL)
              clear HPART HPUSH
              have HD0 : Hid (Below w8.heap.size w8 w8.drew) := below_draws (Below.refl _ _) 1
              have HD1 : Hid (∀ o, Below w8.heap.size w8 (w8.alloc o).drew) := fun o => below_draws ((Below.refl w8.heap.size w8).alloc (Nat.le_refl _) o) 1
              go_region_held3 (fun w' => w'.cell? ⟨w4.heap.size, 0, none⟩ = some (.slice tva b tvc) ∧ w'.cell? ⟨w4.heap.size, 1, none⟩ = some (.slice pva pl pvc))
                (first
                  | exact d
                  | exact (HKEEP.out _ HB10.out).2
                  | exact (HKEEP.out _ HB9.out).2
                  | exact (HKEEP.out _ (HD1.out _)).2
                  | exact (HKEEP.out _ (HB9.out.alloc hs9 _)).2
                  | exact (HKEEP.out _ (HB10.out.alloc hs10 _)).2
                  | exact (HKEEP.out _ ((HB10.out.setCell (p := ⟨w9.heap.size, 0, none⟩) hs9 _).setCell (p := ⟨w9.heap.size, 1, none⟩) hs9 _)).2
                  | exact (HKEEP.out _ ((HB10.out.setCell (p := ⟨w8.heap.size, 0, none⟩) (Nat.le_refl _) _).setCell (p := ⟨w8.heap.size, 1, none⟩) (Nat.le_refl _) _)).2
                  | go_keep)
                (first
                  | (go_at_call 11; first
                      | ((with_reducible refine (HPT.out _ HD0.out).mono ?_); rintro e w9 ⟨v9, rfl, hr9, hb9⟩; have HB9 : Hid (Below w8.heap.size w8 w9) := HD0.out.trans (hb9.mono (Nat.le_refl _)); have HR9 := Lib.hid hr9; have hs9 : w8.heap.size ≤ w9.heap.size := HB9.out.size; clear hr9 hb9)
                      | ((with_reducible refine (HPT.out _ (HD1.out _)).mono ?_); rintro e w9 ⟨v9, rfl, hr9, hb9⟩; have HB9 : Hid (Below w8.heap.size w8 w9) := (HD1.out _).trans (hb9.mono (HD1.out _).size); have HR9 := Lib.hid hr9; have hs9 : w8.heap.size ≤ w9.heap.size := HB9.out.size; have hs91 : w8.heap.size + 1 ≤ w9.heap.size := (by have := hb9.size; change (w8.alloc _).heap.size ≤ _ at this; simpa using this); have PG9 : Hid (Pair w9 w8.heap.size 34 (.slice none 0 0) (.slice none 0 0)) := (hb9.block w8.heap.size (by show w8.heap.size < (w8.alloc _).heap.size; simp)).trans (World.alloc_heap_new w8 _); clear hr9 hb9))
                  | (go_at_call 15; first
                      | ((with_reducible refine (HPS.out _ _ HB9.out (RdO.self HR9.out)).mono ?_); rintro e w10 ⟨a1, c1, a2, c2, oa, oc, qs, rfl, r1, r2, r3, r4, r5, r6, r7⟩; have HB10 : Hid (Below w8.heap.size w8 w10) := HB9.out.trans (r7.mono hs9); have hs10 : w8.heap.size ≤ w10.heap.size := HB10.out.size; have hs910 : w9.heap.size ≤ w10.heap.size := r7.size; (try (have pg : Pair w10 w8.heap.size 34 (.slice none 0 0) (.slice none 0 0) := PG9.out.below r7 (by omega); have k0 := pg.c0; have k1 := pg.c1; have k2 := pg.fr 0; have k3 := pg.fr 1; have PG := Lib.hid pg; clear pg)); have HR10 := Lib.hid (And.intro r1 (And.intro r2 (And.intro r3 (And.intro r4 (And.intro r5 r6))))); clear r1 r2 r3 r4 r5 r6 r7)
                      | ((with_reducible refine (HPS.out _ _ (HB9.out.alloc hs9 _) (RdO.self (HR9.out.alloc _))).mono ?_); rintro e w10 ⟨a1, c1, a2, c2, oa, oc, qs, rfl, r1, r2, r3, r4, r5, r6, r7⟩; have HB10 : Hid (Below w8.heap.size w8 w10) := (HB9.out.alloc hs9 _).trans (r7.mono (HB9.out.alloc hs9 _).size); have hs10 : w8.heap.size ≤ w10.heap.size := HB10.out.size; have hs910 : w9.heap.size + 1 ≤ w10.heap.size := (by have := r7.size; simpa using this); have pg : Pair w10 w9.heap.size 34 (.slice none 0 0) (.slice none 0 0) := (r7.block w9.heap.size (by simp)).trans (World.alloc_heap_new w9 _); have k0 := pg.c0; have k1 := pg.c1; have k2 := pg.fr 0; have k3 := pg.fr 1; have PG := Lib.hid pg; have r3' : ∀ j, (Value.slice a1 b c1).ownBlock = some j → w9.heap.size + 1 ≤ j := (fun j hj => by have := r3 j hj; simpa using this); have r4' : ∀ j, (Value.slice a2 (min L (b - 1)) c2).ownBlock = some j → w9.heap.size + 1 ≤ j := (fun j hj => by have := r4 j hj; simpa using this); have r5' : Row w10 (w9.heap.size + 1) 32 (.slice oa (L - n) oc) (cvals qs) := (by simpa using r5); have HR10 := Lib.hid (And.intro r1 (And.intro r2 (And.intro r3' (And.intro r4' (And.intro r5' r6))))); clear r1 r2 r3 r4 r5 r6 r7 pg r3' r4' r5')))
              all_goals
                go_wp2
                go_meet
                first
                  | exact fc_mid PG.out (by omega) HR10.out.1 HR10.out.2.1 (fun j hj => by have := HR10.out.2.2.1 j hj; omega) (fun j hj => by have := HR10.out.2.2.2.1 j hj; omega) (fun hT j hj e => by have := HR10.out.2.2.1 j hj; omega) (fun hP j hj e => by have := HR10.out.2.2.2.1 j hj; omega) (HR10.out.2.2.2.2.1.base (by omega)) (fun j hj e => by have := (HR10.out.2.2.2.2.1.lt j hj).1; omega) HR10.out.2.2.2.2.2 HB10.out
                  | exact ⟨w10.heap.size, a1, c1, a2, c2, oa, oc, qs, rfl, rfl, rfl, World.alloc_heap_new w10 _, hs10, (HR10.out.1.below ((Below.refl _ w10).alloc (Nat.le_refl _) _)).base (by simp), (HR10.out.2.1.below ((Below.refl _ w10).alloc (Nat.le_refl _) _)).base (by simp), (fun j hj => by have := HR10.out.2.2.1 j hj; omega), (fun j hj => by have := HR10.out.2.2.2.1 j hj; omega), (HR10.out.2.2.2.2.1.base (by omega)).alloc _, HR10.out.2.2.2.2.2, HB10.out.alloc hs10 _⟩
            case rest =>
              obtain ⟨G, ta1, tc1, ta2, tc2, oa, oc, qs, rfl, rfl, rfl, hG, hGW, hrt, hrp, hbt, hbp, hrow, hqs, hbel⟩ := hcut
              clear HKEEP HPART HPUSH p0 p1
              have k0 := hG.c0
              have k1 := hG.c1
              have HG := Lib.hid hG
              have HGW : Hid (w8.heap.size ≤ G) := Lib.hid hGW
              have HRT := Lib.hid hrt
              have HRP := Lib.hid hrp
              have HBT := Lib.hid hbt
              have HBP := Lib.hid hbp
              have HRO := Lib.hid hrow
              have HQS := Lib.hid hqs
              have HBC : Hid (Below wr.heap.size wr wc) := below_step HB8.out hbel HB8.out.size
              have g4 : ((((L - n : Nat) : Int)) != (L : Int) - (n : Int)) = false := by simp; omega
              have hGc : G < wc.heap.size := hG.lt
              have hs8 : wr.heap.size ≤ w8.heap.size := HB8.out.size
              clear hG hGW hrt hrp hbt hbp hrow hqs hbel
              go_wp2_with fail
              with_reducible refine (validFilter_spec ta1 ta2 b tc1 (min L (b - 1)) tc2 hb1 (by omega) (by omega) wc).mono ?_
              rintro e w11 ⟨rfl, hb11⟩
              clear k0 k1
              have HB11 := Lib.hid (below_step HBC.out hb11 HBC.out.size)
              have hs11 : wc.heap.size ≤ w11.heap.size := hb11.size
              have HG11 := Lib.hid (HG.out.below hb11 hGc)
              have HRT11 := Lib.hid ((HRT.out.below hb11).base hs11)
              have HRP11 := Lib.hid ((HRP.out.below hb11).base hs11)
              have HRO11 := Lib.hid (HRO.out.up hb11)
              have HAL : Hid (Row w11 BA 32 (.slice aa ql ac) (cvals ps)) := Lib.hid (HINV.out.row.up HB11.out)
              have HBA : Hid (BA ≤ w11.heap.size) := by have h1 := HINV.out.size; have h2 := HB11.out.size; exact Nat.le_trans h1 h2
              have HLE : Hid (ps.length + qs.length ≤ 1000000) := by have h1 := HINV.out.fits.1; have h2 := HQS.out.1; rw [cvFirst_length] at h1; simp at h2; exact (by omega : ps.length + qs.length ≤ 1000000)
              have HGW2 : Hid (wr.heap.size ≤ G) := Nat.le_trans hs8 HGW.out
              clear hb11 HG HRT HRP HRO HBC HGW
              go_wp2_with (at_builtin; refine wpList_app_at rfl _ _ rfl Try.underlying24 i0 hi hz0 hz1 hz2 BA _ _ ps qs rfl rfl HAL.out (RdC.of_row HRO11.out) HBA.out HLE.out ?_; intro v' w12 hr12 hg12 ho12; have HN := Lib.hid (fc_next HTN.out HINV.out HB11.out HRT11.out (by rw [HTB.out]; exact HRP11.out) (fun j hj => Nat.le_trans hs8 (HBT.out j hj)) (fun j hj => Nat.le_trans hs8 (HBP.out j hj)) HG11.out HGW2.out HQS.out hnt (by rw [HXL.out]; exact htL) hr12 hg12 ho12); clear hr12 hg12 ho12; have k0 := HN.out.1.c0; have k1 := HN.out.1.c1; have f0 : w12.cell? ⟨w4.heap.size, 0, none⟩ = some (.slice tva b tvc) := (by rw [HFF.out]; exact HN.out.2.1.c0); have f1 : w12.cell? ⟨w4.heap.size, 1, none⟩ = some (.slice pva pl pvc) := (by rw [HFF.out]; exact HN.out.2.1.c1); have f2 : w12.frozen? ⟨w4.heap.size, 0, none⟩ = false := (by rw [HFF.out]; exact HN.out.2.1.fr 0); have f3 : w12.frozen? ⟨w4.heap.size, 1, none⟩ = false := (by rw [HFF.out]; exact HN.out.2.1.fr 1))
              have HFIN : Hid (FcInv xs T w F BA (.slice va L vc) (.slice (some ⟨ta, 0, none⟩) b tc) L v' (.slice ta1 b tc1) (.slice ta2 (min L (b - 1)) tc2) (ps ++ qs) ((w12.setCell ⟨w4.heap.size, 0, none⟩ (.slice ta1 b tc1)).setCell ⟨w4.heap.size, 1, none⟩ (.slice ta2 (min L (b - 1)) tc2))) := by rw [HFF.out]; exact HN.out.2.2
              go_roundw
              case rel => exact ⟨kk + 1, L, _, _, ps ++ qs, by go_num, by omega, rfl, (fun e => by first | rfl | exact hend e), HFIN.out⟩
              case measure => simp [intOf]; omega
          · obtain ⟨tt, htt⟩ : ∃ z, n + r = z := ⟨_, rfl⟩
            have hnt : n ≤ tt := by omega
            have htL : tt ≤ L := by omega
            have hend : kk + 1 = 4 → tt = L := fun _ => by omega
            have hsum : (n : Int) + (r : Int) = (tt : Int) := by omega
            have g3 : ((kk : Int) == 3) = false := by simp; omega
            clear htt
            go_wp2_with fail
            go_cut [13, 14, 15] from 75 to 84 (fun v13 v14 v15 wx => FcMid xs T w8 n tt b v13 v14 v15 wx)
            case first =>
              have d := (HKEEP.out w8.drew (below_draws (Below.refl _ _) 1)).2
              have HPT := Lib.hid (HPART.out tt hnt htL)
              have HPS := Lib.hid (HPUSH.out tt hnt htL)
              clear HPART HPUSH
              have HD0 : Hid (Below w8.heap.size w8 w8.drew) := below_draws (Below.refl _ _) 1
              have HD1 : Hid (∀ o, Below w8.heap.size w8 (w8.alloc o).drew) := fun o => below_draws ((Below.refl w8.heap.size w8).alloc (Nat.le_refl _) o) 1
              go_region_held3 (fun w' => w'.cell? ⟨w4.heap.size, 0, none⟩ = some (.slice tva b tvc) ∧ w'.cell? ⟨w4.heap.size, 1, none⟩ = some (.slice pva pl pvc))
                (first
                  | exact d
                  | exact (HKEEP.out _ HB10.out).2
                  | exact (HKEEP.out _ HB9.out).2
                  | exact (HKEEP.out _ (HD1.out _)).2
                  | exact (HKEEP.out _ (HB9.out.alloc hs9 _)).2
                  | exact (HKEEP.out _ (HB10.out.alloc hs10 _)).2
                  | exact (HKEEP.out _ ((HB10.out.setCell (p := ⟨w9.heap.size, 0, none⟩) hs9 _).setCell (p := ⟨w9.heap.size, 1, none⟩) hs9 _)).2
                  | exact (HKEEP.out _ ((HB10.out.setCell (p := ⟨w8.heap.size, 0, none⟩) (Nat.le_refl _) _).setCell (p := ⟨w8.heap.size, 1, none⟩) (Nat.le_refl _) _)).2
                  | go_keep)
                (first
                  | (go_at_call 11; first
                      | ((with_reducible refine (HPT.out _ HD0.out).mono ?_); rintro e w9 ⟨v9, rfl, hr9, hb9⟩; have HB9 : Hid (Below w8.heap.size w8 w9) := HD0.out.trans (hb9.mono (Nat.le_refl _)); have HR9 := Lib.hid hr9; have hs9 : w8.heap.size ≤ w9.heap.size := HB9.out.size; clear hr9 hb9)
                      | ((with_reducible refine (HPT.out _ (HD1.out _)).mono ?_); rintro e w9 ⟨v9, rfl, hr9, hb9⟩; have HB9 : Hid (Below w8.heap.size w8 w9) := (HD1.out _).trans (hb9.mono (HD1.out _).size); have HR9 := Lib.hid hr9; have hs9 : w8.heap.size ≤ w9.heap.size := HB9.out.size; have hs91 : w8.heap.size + 1 ≤ w9.heap.size := (by have := hb9.size; change (w8.alloc _).heap.size ≤ _ at this; simpa using this); have PG9 : Hid (Pair w9 w8.heap.size 34 (.slice none 0 0) (.slice none 0 0)) := (hb9.block w8.heap.size (by show w8.heap.size < (w8.alloc _).heap.size; simp)).trans (World.alloc_heap_new w8 _); clear hr9 hb9))
                  | (go_at_call 15; first
                      | ((with_reducible refine (HPS.out _ _ HB9.out (RdO.self HR9.out)).mono ?_); rintro e w10 ⟨a1, c1, a2, c2, oa, oc, qs, rfl, r1, r2, r3, r4, r5, r6, r7⟩; have HB10 : Hid (Below w8.heap.size w8 w10) := HB9.out.trans (r7.mono hs9); have hs10 : w8.heap.size ≤ w10.heap.size := HB10.out.size; have hs910 : w9.heap.size ≤ w10.heap.size := r7.size; (try (have pg : Pair w10 w8.heap.size 34 (.slice none 0 0) (.slice none 0 0) := PG9.out.below r7 (by omega); have k0 := pg.c0; have k1 := pg.c1; have k2 := pg.fr 0; have k3 := pg.fr 1; have PG := Lib.hid pg; clear pg)); have HR10 := Lib.hid (And.intro r1 (And.intro r2 (And.intro r3 (And.intro r4 (And.intro r5 r6))))); clear r1 r2 r3 r4 r5 r6 r7)
                      | ((with_reducible refine (HPS.out _ _ (HB9.out.alloc hs9 _) (RdO.self (HR9.out.alloc _))).mono ?_); rintro e w10 ⟨a1, c1, a2, c2, oa, oc, qs, rfl, r1, r2, r3, r4, r5, r6, r7⟩; have HB10 : Hid (Below w8.heap.size w8 w10) := (HB9.out.alloc hs9 _).trans (r7.mono (HB9.out.alloc hs9 _).size); have hs10 : w8.heap.size ≤ w10.heap.size := HB10.out.size; have hs910 : w9.heap.size + 1 ≤ w10.heap.size := (by have := r7.size; simpa using this); have pg : Pair w10 w9.heap.size 34 (.slice none 0 0) (.slice none 0 0) := (r7.block w9.heap.size (by simp)).trans (World.alloc_heap_new w9 _); have k0 := pg.c0; have k1 := pg.c1; have k2 := pg.fr 0; have k3 := pg.fr 1; have PG := Lib.hid pg; have r3' : ∀ j, (Value.slice a1 b c1).ownBlock = some j → w9.heap.size + 1 ≤ j := (fun j hj => by have := r3 j hj; simpa using this); have r4' : ∀ j, (Value.slice a2 (min tt (b - 1)) c2).ownBlock = some j → w9.heap.size + 1 ≤ j := (fun j hj => by have := r4 j hj; simpa using this); have r5' : Row w10 (w9.heap.size + 1) 32 (.slice oa (tt - n) oc) (cvals qs) := (by simpa using r5); have HR10 := Lib.hid (And.intro r1 (And.intro r2 (And.intro r3' (And.intro r4' (And.intro r5' r6))))); clear r1 r2 r3 r4 r5 r6 r7 pg r3' r4' r5')))
              all_goals
                go_wp2
                go_meet
                first
                  | exact fc_mid PG.out (by omega) HR10.out.1 HR10.out.2.1 (fun j hj => by have := HR10.out.2.2.1 j hj; omega) (fun j hj => by have := HR10.out.2.2.2.1 j hj; omega) (fun hT j hj e => by have := HR10.out.2.2.1 j hj; omega) (fun hP j hj e => by have := HR10.out.2.2.2.1 j hj; omega) (HR10.out.2.2.2.2.1.base (by omega)) (fun j hj e => by have := (HR10.out.2.2.2.2.1.lt j hj).1; omega) HR10.out.2.2.2.2.2 HB10.out
                  | exact ⟨w10.heap.size, a1, c1, a2, c2, oa, oc, qs, rfl, rfl, rfl, World.alloc_heap_new w10 _, hs10, (HR10.out.1.below ((Below.refl _ w10).alloc (Nat.le_refl _) _)).base (by simp), (HR10.out.2.1.below ((Below.refl _ w10).alloc (Nat.le_refl _) _)).base (by simp), (fun j hj => by have := HR10.out.2.2.1 j hj; omega), (fun j hj => by have := HR10.out.2.2.2.1 j hj; omega), (HR10.out.2.2.2.2.1.base (by omega)).alloc _, HR10.out.2.2.2.2.2, HB10.out.alloc hs10 _⟩
            case rest =>
              obtain ⟨G, ta1, tc1, ta2, tc2, oa, oc, qs, rfl, rfl, rfl, hG, hGW, hrt, hrp, hbt, hbp, hrow, hqs, hbel⟩ := hcut
              clear HKEEP HPART HPUSH p0 p1
              have k0 := hG.c0
              have k1 := hG.c1
              have HG := Lib.hid hG
              have HGW : Hid (w8.heap.size ≤ G) := Lib.hid hGW
              have HRT := Lib.hid hrt
              have HRP := Lib.hid hrp
              have HBT := Lib.hid hbt
              have HBP := Lib.hid hbp
              have HRO := Lib.hid hrow
              have HQS := Lib.hid hqs
              have HBC : Hid (Below wr.heap.size wr wc) := below_step HB8.out hbel HB8.out.size
              have g4 : ((((tt - n : Nat) : Int)) != (tt : Int) - (n : Int)) = false := by simp; omega
              have hGc : G < wc.heap.size := hG.lt
              have hs8 : wr.heap.size ≤ w8.heap.size := HB8.out.size
              clear hG hGW hrt hrp hbt hbp hrow hqs hbel
              go_wp2_with fail
              with_reducible refine (validFilter_spec ta1 ta2 b tc1 (min tt (b - 1)) tc2 hb1 (by omega) (by omega) wc).mono ?_
              rintro e w11 ⟨rfl, hb11⟩
              clear k0 k1
              have HB11 := Lib.hid (below_step HBC.out hb11 HBC.out.size)
              have hs11 : wc.heap.size ≤ w11.heap.size := hb11.size
              have HG11 := Lib.hid (HG.out.below hb11 hGc)
              have HRT11 := Lib.hid ((HRT.out.below hb11).base hs11)
              have HRP11 := Lib.hid ((HRP.out.below hb11).base hs11)
              have HRO11 := Lib.hid (HRO.out.up hb11)
              have HAL : Hid (Row w11 BA 32 (.slice aa ql ac) (cvals ps)) := Lib.hid (HINV.out.row.up HB11.out)
              have HBA : Hid (BA ≤ w11.heap.size) := by have h1 := HINV.out.size; have h2 := HB11.out.size; exact Nat.le_trans h1 h2
              have HLE : Hid (ps.length + qs.length ≤ 1000000) := by have h1 := HINV.out.fits.1; have h2 := HQS.out.1; rw [cvFirst_length] at h1; simp at h2; exact (by omega : ps.length + qs.length ≤ 1000000)
              have HGW2 : Hid (wr.heap.size ≤ G) := Nat.le_trans hs8 HGW.out
              clear hb11 HG HRT HRP HRO HBC HGW
              go_wp2_with (at_builtin; refine wpList_app_at rfl _ _ rfl Try.underlying24 i0 hi hz0 hz1 hz2 BA _ _ ps qs rfl rfl HAL.out (RdC.of_row HRO11.out) HBA.out HLE.out ?_; intro v' w12 hr12 hg12 ho12; have HN := Lib.hid (fc_next HTN.out HINV.out HB11.out HRT11.out (by rw [HTB.out]; exact HRP11.out) (fun j hj => Nat.le_trans hs8 (HBT.out j hj)) (fun j hj => Nat.le_trans hs8 (HBP.out j hj)) HG11.out HGW2.out HQS.out hnt (by rw [HXL.out]; exact htL) hr12 hg12 ho12); clear hr12 hg12 ho12; have k0 := HN.out.1.c0; have k1 := HN.out.1.c1; have f0 : w12.cell? ⟨w4.heap.size, 0, none⟩ = some (.slice tva b tvc) := (by rw [HFF.out]; exact HN.out.2.1.c0); have f1 : w12.cell? ⟨w4.heap.size, 1, none⟩ = some (.slice pva pl pvc) := (by rw [HFF.out]; exact HN.out.2.1.c1); have f2 : w12.frozen? ⟨w4.heap.size, 0, none⟩ = false := (by rw [HFF.out]; exact HN.out.2.1.fr 0); have f3 : w12.frozen? ⟨w4.heap.size, 1, none⟩ = false := (by rw [HFF.out]; exact HN.out.2.1.fr 1))
              have HFIN : Hid (FcInv xs T w F BA (.slice va L vc) (.slice (some ⟨ta, 0, none⟩) b tc) tt v' (.slice ta1 b tc1) (.slice ta2 (min tt (b - 1)) tc2) (ps ++ qs) ((w12.setCell ⟨w4.heap.size, 0, none⟩ (.slice ta1 b tc1)).setCell ⟨w4.heap.size, 1, none⟩ (.slice ta2 (min tt (b - 1)) tc2))) := by rw [HFF.out]; exact HN.out.2.2
              go_roundw
              case rel => exact ⟨kk + 1, tt, _, _, ps ++ qs, by go_num, by omega, rfl, (fun e => by first | rfl | exact hend e), HFIN.out⟩
              case measure => simp [intOf]; omega
        · have g1 : decide ((kk : Int) < 4) = false := decide_eq_false (by omega)
          obtain rfl : n = L := hkn (by omega)
          have p0 : wr.cell? ⟨w4.heap.size, 0, none⟩ = some (.slice tva b tvc) := by rw [HFF.out]; exact HINV.out.pair.c0
          have p1 : wr.cell? ⟨w4.heap.size, 1, none⟩ = some (.slice pva pl pvc) := by rw [HFF.out]; exact HINV.out.pair.c1
          have hple : pl ≤ b - 1 := by have := HPL.out; rw [pastAt_length (by rw [HXL.out]; exact hnL), HTB.out] at this; omega
          have KF := Lib.hid (finish_any T (pastAt xs T.length n) (.slice tva b tvc) (.slice pva pl pvc) (by rw [HTB.out]; omega) (by rw [HPL.out, HTB.out]; omega) HWT.out (fun p hp => by rw [pastAt_eq (by rw [HXL.out]; exact hnL)] at hp; exact HWX.out p (List.mem_of_mem_take (List.mem_of_mem_drop hp))) wr HINV.out.taps HINV.out.past)
          have HXr := Lib.hid HINV.out.xs
          have HTr := Lib.hid HINV.out.ts
          have HAr := Lib.hid HINV.out.row
          have HFr := Lib.hid HINV.out.fits
          have HAW : Hid (∀ j, (Value.slice aa ql ac).ownBlock = some j → j < wr.heap.size) := fun j e => (HINV.out.row.lt j e).2
          have HSz : Hid (BA ≤ wr.heap.size) := Lib.hid HINV.out.size
          have HLB : Hid (w.heap.size ≤ BA) := by have h1 := HINV.out.low; have h2 := HINV.out.base; exact (by omega : w.heap.size ≤ BA)
          have hcl : cvLen xs.length T.length ≤ 256 := by have := cvLen_le xs.length T.length; have := HXL.out; have := HTB.out; omega
          clear HINV R1 HZ hkn hk4
          go_wp2_with fail
          with_reducible refine KF.out.mono ?_
          rintro e w11 ⟨ov, fs, rfl, hro, hfs, hb⟩
          clear KF p0 p1
          have HB11 := Lib.hid (below_step HBR.out hb HBR.out.size)
          have HX11 := Lib.hid (HXr.out.up hb)
          have HT11 := Lib.hid (HTr.out.up hb)
          have HA11 := Lib.hid (HAr.out.up hb)
          have HO11 := Lib.hid hro
          have hs11 : wr.heap.size ≤ w11.heap.size := hb.size
          have HALL := Lib.hid (fc_all (X := xs) (T := T) (by rw [HTB.out]; exact hb1) (by rw [HXL.out]; exact HFr.out) (by rw [HXL.out]; exact hfs))
          clear hro hfs hb HXr HTr HAr HFr
          have K1 := Lib.hid (convolve_impl xs T (.slice va n vc) (.slice (some ⟨ta, 0, none⟩) b tc) (by rw [HXL.out]; omega) (by rw [HTB.out]; omega) hcl HWX.out HWT.out w11 (RdO.self HX11.out) (RdO.self HT11.out))
          go_wp2_with fail
          with_reducible refine K1.out.mono ?_
          rintro e w12 ⟨wv, ws, rfl, hro, hws, hb⟩
          clear K1
          have HB12 := Lib.hid (below_step HB11.out hb HB11.out.size)
          have HX12 := Lib.hid (HX11.out.up hb)
          have HT12 := Lib.hid (HT11.out.up hb)
          have HA12 := Lib.hid (HA11.out.up hb)
          have HO12 := Lib.hid (HO11.out.up hb)
          have HW12 := Lib.hid hro
          have HWS := Lib.hid hws
          have hs12 : w11.heap.size ≤ w12.heap.size := hb.size
          clear hro hws hb HX11 HT11 HA11 HO11
          have K2 := Lib.hid (convolve_spec xs T (.slice va n vc) (.slice (some ⟨ta, 0, none⟩) b tc) (by rw [HXL.out]; omega) (by rw [HTB.out]; omega) hcl HWX.out HWT.out w12 (RdO.self HX12.out) (RdO.self HT12.out))
          clear hcl
          go_wp2_with fail
          with_reducible refine K2.out.mono ?_
          rintro e w13 ⟨dv, ds, rfl, hro, hds, hb⟩
          clear K2
          have HB13 := Lib.hid (below_step HB12.out hb HB12.out.size)
          have HA13 := Lib.hid (HA12.out.up hb)
          have HO13 := Lib.hid (HO12.out.up hb)
          have HW13 := Lib.hid (HW12.out.up hb)
          have HD13 := Lib.hid hro
          have HDS := Lib.hid hds
          have hs13 : w12.heap.size ≤ w13.heap.size := hb.size
          clear hro hds hb HX12 HT12 HA12 HO12 HW12
          have S1 := HWS.out.same HDS.out
          have K3 := Lib.hid (sameSignals_spec HW13.out.reads HD13.out.reads S1.1 S1.2)
          have S2 := Lib.hid (HALL.out.1.same HDS.out)
          clear S1
          go_wp2_with fail
          with_reducible refine K3.out.mono ?_
          rintro e w14 ⟨rfl, n14, rfl⟩
          clear K3
          obtain ⟨w14, hw14⟩ : ∃ z, w13.drewN n14 = z := ⟨_, rfl⟩
          have hb : Below w13.heap.size w13 w14 := by rw [← hw14]; exact below_draws (Below.refl _ _) n14
          rw [hw14]
          clear hw14
          have HB14 := Lib.hid (below_step HB13.out hb HB13.out.size)
          have HA14 := Lib.hid (HA13.out.up hb)
          have HO14 := Lib.hid (HO13.out.up hb)
          have HD14 := Lib.hid (HD13.out.up hb)
          have hs14 : w13.heap.size ≤ w14.heap.size := hb.size
          have HBA14 : Hid (BA ≤ w14.heap.size) := by have h1 := HSz.out; exact (by omega : BA ≤ w14.heap.size)
          have HL14 : Hid (ps.length + fs.length ≤ 1000000) := by have h1 := HALL.out.2; have h2 := HXL.out; have h3 := HTB.out; exact (by omega : ps.length + fs.length ≤ 1000000)
          have HDW : Hid (∀ j, dv.ownBlock = some j → w12.heap.size ≤ j) := fun j e => (HD13.out.lt j e).1
          clear hb HA13 HO13 HW13 HD13
          go_wp2_with (at_builtin; refine wpList_app_at rfl _ _ rfl Try.underlying24 i0 hi hz0 hz1 hz2 BA _ _ ps fs rfl rfl HA14.out (RdC.of_row HO14.out) HBA14.out HL14.out ?_; intro v' w15 hr15 hg15 ho15; have HR15 := Lib.hid hr15; have HD15 : Hid (Row w15 w12.heap.size 32 dv (cvals ds)) := Lib.hid (HD14.out.grownNe hg15 (fun j hj e => by have h1 := HDW.out j hj; have h2 := HAW.out j e; omega)); have HB15 : Hid (Below w.heap.size w w15) := Lib.hid (HB14.out.grown hg15 HB14.out.size (fun j e => Nat.le_trans HLB.out (HA14.out.lt j e).1)); clear hr15 hg15 ho15)
          have K4 := Lib.hid (sameSignals_spec HR15.out.reads HD15.out.reads S2.out.1 S2.out.2)
          clear S2
          go_wp2_with fail
          with_reducible refine K4.out.mono ?_
          rintro e w16 ⟨rfl, n16, rfl⟩
          clear K4
          go_wp2
          go_ret
          exact ⟨rfl, below_draws HB15.out n16⟩
    · have F1 := Lib.hid (f6big_t a1 len1 cap1 (by omega) (by omega))
      clear h0 h1
      go_enter Try.func4, Try.ntmps4
      go_wp2_with fail
      with_reducible refine (F0.out _).mono ?_
      rintro e w' ⟨rfl, rfl⟩
      go_wp2_with fail
      with_reducible refine (F1.out _).mono ?_
      rintro e w' ⟨rfl, rfl⟩
      go_wp2
      go_ret
      exact ⟨rfl, Below.refl _ _⟩
  · have F0 := Lib.hid (f6big_t a0 len0 cap0 (by omega) (by omega))
    clear h0 h1
    go_enter Try.func4, Try.ntmps4
    go_wp2_with fail
    with_reducible refine (F0.out _).mono ?_
    rintro e w' ⟨rfl, rfl⟩
    go_wp2
    go_ret
    exact ⟨rfl, Below.refl _ _⟩

end Go.Proofs.Ytnbmbegjpkebmaa
