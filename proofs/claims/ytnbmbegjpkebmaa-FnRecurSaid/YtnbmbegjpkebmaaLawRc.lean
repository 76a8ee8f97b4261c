import Derived.Test.YtnbmbegjpkebmaaRcS
import Derived.Test.YtnbmbegjpkebmaaPart
import Derived.Test.YtnbmbegjpkebmaaBig
import Derived.Test.YtnbmbegjpkebmaaSameL
/-
  FnRecur: the law.
-/
set_option linter.unusedVariables false
set_option linter.unusedSimpArgs false
namespace Go.Proofs.Ytnbmbegjpkebmaa
open Go.RowKit Flt Fast

theorem IsCs.same {xs ys : List C} {zs : List Z} (h : IsCs xs zs) (k : IsCs ys zs) : xs.length = ys.length ∧ ∀ j, j < xs.length → ∃ z, IsC (xs.getD j (0, 0)) z ∧ IsC (ys.getD j (0, 0)) z :=
  ⟨by rw [h.1, k.1], fun j hj => ⟨_, h.2 j (by rw [← h.1]; exact hj), k.2 j (by rw [← h.1]; exact hj)⟩⟩
theorem IsCs.take {ps : List C} {zs : List Z} (h : IsCs ps zs) (n : Nat) : IsCs (ps.take n) (zs.take n) := by
  refine ⟨by simp [h.1], fun i hi => ?_⟩
  have hi' : i < n ∧ i < zs.length := by simp at hi; omega
  have h2 := h.2 i hi'.2
  have e1 : (ps.take n).getD i (0, 0) = ps.getD i (0, 0) := by simp [List.getD, List.getElem?_take, hi'.1]
  have e2 : (zs.take n).getD i z0 = zs.getD i z0 := by simp [List.getD, List.getElem?_take, hi'.1]
  rw [e1, e2]; exact h2
theorem zsOf_take (xs : List C) (n : Nat) : zsOf (xs.take n) = (zsOf xs).take n := by simp [zsOf]
theorem WfC.take {xs : List C} (h : WfC xs) (n : Nat) : WfC (xs.take n) := fun p hp => h p (List.mem_of_mem_take hp)
theorem RdO.self {w : World} {B e : Nat} {v : Value} {xs : List C} (h : Row w B e v (cvals xs)) : RdO w.heap.size w v xs := RdO.of_row h (fun k e => (h.lt k e).2)

set_option maxRecDepth 100000 in
set_option maxHeartbeats 8000000 in
theorem fnRecur_law (a0 : Option Addr) (len0 cap0 : Nat) (z0 : List Int) (a1 : Option Addr) (len1 cap1 : Nat) (z1 : List Int) (w : World) (h0 : IsRow .u8 w a0 len0 cap0 z0) (h1 : IsRow .u8 w a1 len1 cap1 z1) :
    Calls Try.prog 3 #[.slice a0 len0 cap0, .slice a1 len1 cap1] w fun e w' => e = .returned (.bool true) ∧ Below w.heap.size w w' := by
  have hm0 := isRow_len h0
  have hm1 := isRow_len h1
  by_cases hl0 : len0 ≤ 4096
  · have F0 := Lib.hid (f6big_f a0 len0 cap0 hl0)
    by_cases hl1 : len1 ≤ 4096
    · have F1 := Lib.hid (f6big_f a1 len1 cap1 hl1)
      have R1 := Lib.hid (fun w1 (hb : Below w.heap.size w w1) => (⟨z1, isRow_below h1 hb⟩ : ∃ zs, IsRow .u8 w1 a1 len1 cap1 zs))
      have P0 : Hid (Calls Try.prog 7 #[.slice a0 len0 cap0, .int .i64 12] w (Wild 12 w)) := p6Any_any a0 len0 cap0 12 (by omega) (by omega) w ⟨z0, h0⟩
      have P1 : Hid (∀ w1, Below w.heap.size w w1 → Calls Try.prog 7 #[.slice a1 len1 cap1, .int .i64 4] w1 (Wild 4 w1)) := fun w1 hb => p6Any_any a1 len1 cap1 4 (by omega) (by omega) w1 ⟨z1, isRow_below h1 hb⟩
      clear h0 h1 hl0 hl1
      go_enter Try.func3, Try.ntmps3
      go_wp2_with fail
      with_reducible refine (F0.out _).mono ?_
      rintro e w' ⟨rfl, rfl⟩
      go_wp2_with fail
      with_reducible refine (F1.out _).mono ?_
      rintro e w' ⟨rfl, rfl⟩
      go_wp2_with fail
      with_reducible refine P0.out.mono ?_
      rintro e w1 ⟨v, xs, rfl, hr, hlx, hwx, hb⟩
      obtain ⟨va, vc, rfl⟩ := hr.written (cvals_length xs)
      have HX := Lib.hid hr
      have HWX := Lib.hid hwx
      have HB1 := Lib.hid hb
      clear hr hwx hb
      go_wp2_with fail
      with_reducible refine (P1.out _ HB1.out).mono ?_
      rintro e w2 ⟨v, cs, rfl, hr, hla, hwa, hb⟩
      obtain ⟨ua, uc, rfl⟩ := hr.written (cvals_length cs)
      have HX2 := Lib.hid (HX.out.up hb)
      have HA2 := Lib.hid hr
      have HWA := Lib.hid hwa
      have HB2 := Lib.hid (below_step HB1.out hb HB1.out.size)
      clear hr hwa hb HX P0 P1 F0 F1
      obtain ⟨L, hL⟩ : ∃ L, xs.length = L := ⟨_, rfl⟩
      obtain ⟨M, hM⟩ : ∃ M, cs.length = M := ⟨_, rfl⟩
      rw [hL] at hlx HX2 ⊢
      rw [hM] at hla HA2 ⊢
      have HLX := Lib.hid hL
      have HLA := Lib.hid hM
      clear hL hM
      have K := Lib.hid (recur_impl xs cs _ _ (by rw [HLX.out]; omega) (by rw [HLA.out]; omega) HWX.out HWA.out w2 (RdO.self HX2.out) (RdO.self HA2.out))
      go_wp2_with fail
      with_reducible refine K.out.mono ?_
      rintro e w3 ⟨y, ys, rfl, hr, hf, hb⟩
      clear K
      obtain ⟨ya, yc, rfl⟩ := hr.written (n := L) (by rw [cvals_length, hf.1, rcAll_length, HLX.out])
      have HY3 := Lib.hid (hr)
      have HYF := Lib.hid hf
      have HX3 := Lib.hid (HX2.out.up hb)
      have HA3 := Lib.hid (HA2.out.up hb)
      have HB3 := Lib.hid (below_step HB2.out hb HB2.out.size)
      clear hr hf hb HX2 HA2 HB2
      have K := Lib.hid (recur_spec xs cs _ _ (by rw [HLX.out]; omega) (by rw [HLA.out]; omega) HWX.out HWA.out w3 (RdO.self HX3.out) (RdO.self HA3.out))
      go_wp2_with fail
      with_reducible refine K.out.mono ?_
      rintro e w4 ⟨d, ds, rfl, hr, hf, hb⟩
      clear K
      obtain ⟨da, dc, rfl⟩ := hr.written (n := L) (by rw [cvals_length, hf.1, rcAll_length, HLX.out])
      have HD4 := Lib.hid hr
      have HDF := Lib.hid hf
      have HY4 := Lib.hid (HY3.out.up hb)
      have HX4 := Lib.hid (HX3.out.up hb)
      have HA4 := Lib.hid (HA3.out.up hb)
      have HB4 := Lib.hid (below_step HB3.out hb HB3.out.size)
      clear hr hf hb HX3 HA3 HB3 HY3
      go_wp2_with fail
      with_reducible refine (p6Pick_any _ a1 len1 cap1 (R1.out _ HB4.out) ((L : Int) + 1) (by omega) (by omega)).mono ?_
      rintro e w5 ⟨n, rfl, hn, hb⟩
      have hnL : n ≤ L := by omega
      have HD5 := Lib.hid (HD4.out.up hb)
      have HY5 := Lib.hid (HY4.out.up hb)
      have HX5 := Lib.hid (HX4.out.up hb)
      have HA5 := Lib.hid (HA4.out.up hb)
      have HB5 := Lib.hid (below_step HB4.out hb HB4.out.size)
      clear hb HD4 HY4 HX4 HA4 HB4 R1 hn
      have K : Hid (Calls Try.prog 11 #[.slice va L vc, .int .i64 0, .int .i64 n] w5 fun e w' => ∃ v, e = .returned v ∧ Row w' w5.heap.size 32 v (cvals (xs.take n)) ∧ Below w5.heap.size w5 w') := by
        have := part_any va L vc 0 n xs w5 (RdO.self HX5.out) (by omega) hnL (by omega)
        rw [List.drop_zero, Nat.sub_zero] at this
        exact this
      go_wp2_with fail
      with_reducible refine K.out.mono ?_
      rintro e w6 ⟨p, rfl, hr, hb⟩
      clear K
      have hlen : (xs.take n).length = n := by rw [List.length_take, HLX.out]; omega
      obtain ⟨pa, pc, rfl⟩ := hr.written (n := n) (by rw [cvals_length]; exact hlen)
      have HLP := Lib.hid hlen
      have HP6 := Lib.hid hr
      have HD6 := Lib.hid (HD5.out.up hb)
      have HY6 := Lib.hid (HY5.out.up hb)
      have HX6 := Lib.hid (HX5.out.up hb)
      have HA6 := Lib.hid (HA5.out.up hb)
      have HB6 := Lib.hid (below_step HB5.out hb HB5.out.size)
      clear hr hb hlen HD5 HY5 HX5 HA5 HB5
      have K := Lib.hid (recur_impl (xs.take n) cs _ _ (by rw [HLP.out]; omega) (by rw [HLA.out]; omega) (HWX.out.take n) HWA.out w6 (RdO.self HP6.out) (RdO.self HA6.out))
      go_wp2_with fail
      with_reducible refine K.out.mono ?_
      rintro e w7 ⟨q, qs, rfl, hr, hf, hb⟩
      clear K
      rw [HLP.out, zsOf_take, rcAll_take _ _ _ _ (Nat.le_refl n)] at hf
      obtain ⟨qa, qc, rfl⟩ := hr.written (n := n) (by rw [cvals_length, hf.1, rcAll_length])
      have HQ7 := Lib.hid hr
      have HQF := Lib.hid hf
      have HD7 := Lib.hid (HD6.out.up hb)
      have HY7 := Lib.hid (HY6.out.up hb)
      have HX7 := Lib.hid (HX6.out.up hb)
      have HB7 := Lib.hid (below_step HB6.out hb HB6.out.size)
      clear hr hf hb HP6 HD6 HY6 HX6 HA6 HB6 HLP
      have hE : Row (w7.alloc (.cells #[] 32)) w7.heap.size 32 (.slice (some ⟨w7.heap.size, 0, none⟩) 0 0) (cvals []) := World.ownsRow_lit w7 #[] 0 (Nat.le_refl _) (by unfold maxLen; omega) rfl
      have hbE : Below w7.heap.size w7 (w7.alloc (.cells #[] 32)) := (Below.refl _ _).alloc (Nat.le_refl _) _
      have K := Lib.hid (recur_impl xs [] _ _ (by rw [HLX.out]; omega) (by simp) HWX.out (by intro p hp; cases hp) _ (RdO.self (HX7.out.up hbE)) (RdO.self hE))
      have HBE := Lib.hid hbE
      clear hE hbE
      go_wp2_with fail
      with_reducible refine K.out.mono ?_
      rintro e w8 ⟨s, ss, rfl, hr, hf, hb⟩
      clear K
      have hb' := below_step HBE.out hb (by simp)
      rw [show zsOf ([] : List C) = [] from rfl, rcAll_nil _ _ (by rw [zsOf_length]; exact Nat.le_refl _), List.take_of_length_le (by rw [zsOf_length]; exact Nat.le_refl _)] at hf
      obtain ⟨sa, sc, rfl⟩ := hr.written (n := L) (by rw [cvals_length, hf.1, zsOf_length, HLX.out])
      have HS8 := Lib.hid hr
      have HSF := Lib.hid hf
      have HQ8 := Lib.hid (HQ7.out.up hb')
      have HD8 := Lib.hid (HD7.out.up hb')
      have HY8 := Lib.hid (HY7.out.up hb')
      have HX8 := Lib.hid (HX7.out.up hb')
      have HB8 := Lib.hid (below_step HB7.out hb' HB7.out.size)
      clear hr hf hb hb' HQ7 HD7 HY7 HX7 HB7 HBE
      have S1 := HYF.out.same HDF.out
      have K := Lib.hid (sameSignals_spec HY8.out.reads HD8.out.reads S1.1 S1.2)
      clear S1
      go_wp2_with fail
      with_reducible refine K.out.mono ?_
      rintro e w9 ⟨rfl, n9, rfl⟩
      clear K
      have hb : Below w8.heap.size w8 (w8.drewN n9) := below_draws (Below.refl _ _) n9
      have HS9 := Lib.hid (HS8.out.up hb)
      have HQ9 := Lib.hid (HQ8.out.up hb)
      have HD9 := Lib.hid (HD8.out.up hb)
      have HX9 := Lib.hid (HX8.out.up hb)
      have HB9 := Lib.hid (below_step HB8.out hb HB8.out.size)
      clear hb HS8 HQ8 HD8 HX8 HB8 HY8
      obtain ⟨w9, hw9⟩ : ∃ z, w8.drewN n9 = z := ⟨_, rfl⟩
      rw [hw9] at HS9 HQ9 HD9 HX9 HB9 ⊢
      clear hw9
      have K : Hid (Calls Try.prog 11 #[.slice da L dc, .int .i64 0, .int .i64 n] w9 fun e w' => ∃ v, e = .returned v ∧ Row w' w9.heap.size 32 v (cvals (ds.take n)) ∧ Below w9.heap.size w9 w') := by
        have := part_any da L dc 0 n ds w9 (RdO.self HD9.out) (by omega) hnL (by omega)
        rw [List.drop_zero, Nat.sub_zero] at this
        exact this
      go_wp2_with fail
      with_reducible refine K.out.mono ?_
      rintro e w10 ⟨t, rfl, hr, hb⟩
      clear K
      have hft : IsCs (ds.take n) (rcAll (zsOf xs) (zsOf cs) n) := by
        have := HDF.out.take n
        rwa [rcAll_prefix _ _ _ _ (by rw [HLX.out]; exact hnL)] at this
      obtain ⟨ta, tc, rfl⟩ := hr.written (n := n) (by rw [cvals_length, hft.1, rcAll_length])
      have S1 := HQF.out.same hft
      have HS10 := Lib.hid (HS9.out.up hb)
      have HX10 := Lib.hid (HX9.out.up hb)
      have HB10 := Lib.hid (below_step HB9.out hb HB9.out.size)
      have K := Lib.hid (sameSignals_spec (HQ9.out.up hb).reads hr.reads S1.1 S1.2)
      clear S1 hr hb hft HS9 HQ9 HD9 HX9 HB9
      go_wp2_with fail
      with_reducible refine K.out.mono ?_
      rintro e w11 ⟨rfl, n11, rfl⟩
      clear K
      have hb : Below w10.heap.size w10 (w10.drewN n11) := below_draws (Below.refl _ _) n11
      have S1 := HSF.out.same (IsCs.of_wf HWX.out)
      have HB11 := Lib.hid (below_step HB10.out hb HB10.out.size)
      have K := Lib.hid (sameSignals_spec (HS10.out.up hb).reads (HX10.out.up hb).reads S1.1 S1.2)
      clear S1 hb HS10 HX10 HB10
      go_wp2_with fail
      with_reducible refine K.out.mono ?_
      rintro e w12 ⟨rfl, n12, rfl⟩
      clear K
      have HB12 := Lib.hid (below_draws HB11.out n12)
      go_wp2
      go_ret
      exact ⟨rfl, by have := HB12.out; rwa [World.drewN_drewN] at this⟩
    · have F1 := Lib.hid (f6big_t a1 len1 cap1 (by omega) (by omega))
      clear h0 h1
      go_enter Try.func3, Try.ntmps3
      go_wp2_with fail
      with_reducible refine (F0.out _).mono ?_
      rintro e w' ⟨rfl, rfl⟩
      go_wp2_with fail
      with_reducible refine (F1.out _).mono ?_
      rintro e w' ⟨rfl, rfl⟩
      go_wp2
      go_ret
      exact ⟨rfl, Below.refl _ _⟩
  · have F0 := Lib.hid (f6big_t a0 len0 cap0 (by omega) (by omega))
    clear h0 h1
    go_enter Try.func3, Try.ntmps3
    go_wp2_with fail
    with_reducible refine (F0.out _).mono ?_
    rintro e w' ⟨rfl, rfl⟩
    go_wp2
    go_ret
    exact ⟨rfl, Below.refl _ _⟩

end Go.Proofs.Ytnbmbegjpkebmaa
