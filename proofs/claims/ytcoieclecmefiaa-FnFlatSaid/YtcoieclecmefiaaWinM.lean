import Derived.Test.YtcoieclecmefiaaWinL
/-
  WindowWeights of the program.
-/
set_option linter.unusedVariables false
set_option linter.unusedSimpArgs false
namespace Go.Proofs.Ytcoieclecmefiaa
open Go.RowKit Flt Fast

set_option maxRecDepth 100000 in
set_option maxHeartbeats 4000000 in
theorem ww_impl (xs : List Nat) (hz : ∀ z ∈ xs, z < 18446744073709551616) (c h1 : Int) (v : Value) (w : World) (h : Reads w v (flts xs)) :
    Calls Try.prog 30 #[v, .int .i64 c, .int .i64 h1] w (FloatsTo (wwN xs c h1) (wwZ xs c h1) (wwK xs.length c h1) w) := by
  have hcap := fl_cap h
  by_cases hk0 : hopK xs.length h1 = 0
  · have hh := hopK_zero hk0
    obtain ⟨p, rfl⟩ : ∃ p : Nat, h1 = p := ⟨h1.toNat, by omega⟩
    by_cases hc : 0 ≤ c ∧ c ≤ 64
    · obtain ⟨m, rfl⟩ : ∃ m : Nat, c = m := ⟨c.toNat, by omega⟩
      have hm64 : m ≤ 64 := by omega
      by_cases ht : ((m : Int) - 1) * p + xs.length > 256
      · have e3 : wwK xs.length m p = 3 := by unfold wwK; rw [if_pos hk0, if_pos hc, if_pos ht]
        have hN : wwN xs m p = 0 := if_neg (by rw [e3]; omega)
        have T := fun w => tooLong_any m xs.length p (by omega) (by omega) (by omega) w
        rw [decide_eq_true ht] at T
        have T := Lib.hid T
        rw [e3, hN]
        obtain ⟨a, cap, rfl⟩ := fl_form h
        rw [flts_length] at *
        replace hcap := hcap _ _ _ rfl
        have D := Lib.hid (hop_impl a xs.length cap p hcap w)
        rw [hk0] at D
        obtain ⟨Zf, hZ⟩ : ∃ Zf, wwZ xs m p = Zf := ⟨_, rfl⟩
        rw [hZ]
        obtain ⟨n, hn⟩ : ∃ n, xs.length = n := ⟨_, rfl⟩
        rw [hn] at T D hcap ⊢
        clear hh hc hk0 h hz hN e3 hZ ht hn
        go_enter Try.func30, Try.ntmps30
        go_wp2_with fail
        with_reducible refine D.out.mono ?_
        rintro e w1 ⟨rfl, hb1⟩
        have HB1 : Hid (Below w.heap.size w (w1.alloc (.cells #[.int .i64 n, .int .i64 p] 90))) := hb1.alloc hb1.size _
        clear hb1
        go_wp2_with fail
        with_reducible refine (T.out _).mono ?_
        rintro e w2 ⟨rfl, hb2⟩
        have HB2 := Lib.hid (below_step HB1.out hb2 HB1.out.size)
        clear hb2
        go_wp2
        go_ret2
        exact ⟨_, [], rfl, World.ownsRow_nil _ _ _ _, rfl, fun i hi => by omega, HB2.out⟩
      · have e3 : wwK xs.length m p = 0 := by unfold wwK; rw [if_pos hk0, if_pos hc, if_neg ht]
        have T := fun w => tooLong_any m xs.length p (by omega) (by omega) (by omega) w
        rw [decide_eq_false (show ¬ 256 < ((m : Int) - 1) * p + xs.length from ht)] at T
        have T := Lib.hid T
        have FT := Lib.hid (fun (w' : World) (u : Value) (fs : List Nat) => fits_to (w := w) (w' := w') (u := u) (fs := fs) e3)
        have C := Lib.hid (fun w1 (hb : Below w.heap.size w w1) => weightsAt_any xs hz p m (by omega) (by omega) hm64 v w1 (h.below hb))
        obtain ⟨N, hN⟩ : ∃ N, wwN xs m p = N := ⟨_, rfl⟩
        obtain ⟨Zf, hZ⟩ : ∃ Zf, wwZ xs m p = Zf := ⟨_, rfl⟩
        rw [e3]
        rw [hN, hZ] at FT ⊢
        rw [show ((p : Int)).toNat = p from rfl, show ((m : Int)).toNat = m from rfl] at FT
        obtain ⟨a, cap, rfl⟩ := fl_form h
        rw [flts_length] at *
        replace hcap := hcap _ _ _ rfl
        have D := Lib.hid (hop_impl a xs.length cap p hcap w)
        rw [hk0] at D
        obtain ⟨n, hn⟩ : ∃ n, xs.length = n := ⟨_, rfl⟩
        rw [hn] at T D C hcap ⊢
        clear hh hc hk0 h hz hN e3 hZ ht hn
        go_enter Try.func30, Try.ntmps30
        go_wp2_with fail
        with_reducible refine D.out.mono ?_
        rintro e w1 ⟨rfl, hb1⟩
        have HB1 : Hid (Below w.heap.size w (w1.alloc (.cells #[.int .i64 n, .int .i64 p] 90))) := hb1.alloc hb1.size _
        clear hb1
        go_wp2_with fail
        with_reducible refine (T.out _).mono ?_
        rintro e w2 ⟨rfl, hb2⟩
        have HB2 := Lib.hid (below_step HB1.out hb2 HB1.out.size)
        clear hb2
        go_wp2_with fail
        with_reducible refine (C.out _ HB2.out).mono ?_
        rintro e w3 ⟨u, fs, rfl, hr, hf, hb3⟩
        have HX := Lib.hid (FT.out _ _ _ (hr.base HB2.out.size) hf (below_step HB2.out hb3 HB2.out.size))
        clear hr hf hb3
        go_wp2
        go_ret2
        exact ⟨u, fs, rfl, HX.out⟩
    · have e3 : wwK xs.length c p = 2 := by unfold wwK; rw [if_pos hk0, if_neg hc]
      have hN : wwN xs c p = 0 := if_neg (by rw [e3]; omega)
      rw [e3, hN]
      obtain ⟨a, cap, rfl⟩ := fl_form h
      rw [flts_length] at *
      replace hcap := hcap _ _ _ rfl
      have D := Lib.hid (hop_impl a xs.length cap p hcap w)
      rw [hk0] at D
      obtain ⟨Zf, hZ⟩ : ∃ Zf, wwZ xs c p = Zf := ⟨_, rfl⟩
      rw [hZ]
      obtain ⟨n, hn⟩ : ∃ n, xs.length = n := ⟨_, rfl⟩
      rw [hn] at D hcap ⊢
      clear hh hk0 h hz hN e3 hZ hn
      by_cases hc1 : c < 0
      · clear hc
        go_enter Try.func30, Try.ntmps30
        go_wp2_with fail
        with_reducible refine D.out.mono ?_
        rintro e w1 ⟨rfl, hb1⟩
        have HB1 : Hid (Below w.heap.size w (w1.alloc (.cells #[.int .i64 n, .int .i64 p] 90))) := hb1.alloc hb1.size _
        clear hb1
        go_wp2
        go_ret2
        exact ⟨_, [], rfl, World.ownsRow_nil _ _ _ _, rfl, fun i hi => by omega, HB1.out⟩
      · have hc2 : 64 < c := by omega
        clear hc
        go_enter Try.func30, Try.ntmps30
        go_wp2_with fail
        with_reducible refine D.out.mono ?_
        rintro e w1 ⟨rfl, hb1⟩
        have HB1 : Hid (Below w.heap.size w (w1.alloc (.cells #[.int .i64 n, .int .i64 p] 90))) := hb1.alloc hb1.size _
        clear hb1
        go_wp2
        go_ret2
        exact ⟨_, [], rfl, World.ownsRow_nil _ _ _ _, rfl, fun i hi => by omega, HB1.out⟩
  · have e3 : wwK xs.length c h1 = hopK xs.length h1 := by unfold wwK; rw [if_neg hk0]
    have hN : wwN xs c h1 = 0 := if_neg (by rw [e3]; exact hk0)
    rw [e3, hN]
    obtain ⟨a, cap, rfl⟩ := fl_form h
    rw [flts_length] at *
    have D := Lib.hid (hop_impl a xs.length cap h1 (hcap _ _ _ rfl) w)
    obtain ⟨k, hkk⟩ : ∃ k, hopK xs.length h1 = k := ⟨_, rfl⟩
    rw [hkk] at D hk0 ⊢
    obtain ⟨Zf, hZ⟩ : ∃ Zf, wwZ xs c h1 = Zf := ⟨_, rfl⟩
    rw [hZ]
    clear h hcap hz hN e3 hZ hkk
    go_enter Try.func30, Try.ntmps30
    go_wp2_with fail
    with_reducible refine D.out.mono ?_
    rintro e w1 ⟨rfl, hb1⟩
    have HB1 := Lib.hid hb1
    clear hb1
    go_wp2
    go_ret2
    exact ⟨_, [], rfl, World.ownsRow_nil _ _ _ _, rfl, fun i hi => by omega, HB1.out⟩

end Go.Proofs.Ytcoieclecmefiaa
