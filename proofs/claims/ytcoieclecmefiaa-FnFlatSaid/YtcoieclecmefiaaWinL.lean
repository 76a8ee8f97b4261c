import Derived.Test.YtcoieclecmefiaaWinK
/-
  WindowWeights of both: the codes and the whole.
-/
set_option linter.unusedVariables false
set_option linter.unusedSimpArgs false
namespace Go.Proofs.Ytcoieclecmefiaa
open Go.RowKit Flt Fast

/-- What WindowWeights answers. -/
def wwK (n : Nat) (c h : Int) : Int := if hopK n h = 0 then (if 0 ≤ c ∧ c ≤ 64 then (if (c - 1) * h + n > 256 then 3 else 0) else 2) else hopK n h
def wwN (xs : List Nat) (c h : Int) : Nat := if wwK xs.length c h = 0 then (wgtL xs h.toNat c.toNat).length else 0
def wwZ (xs : List Nat) (c h : Int) (i : Nat) : Option Nat := (wgtL xs h.toNat c.toNat).getD i none

theorem wwK_zero {n : Nat} {c h : Int} (hk : wwK n c h = 0) : (1 ≤ h ∧ h ≤ n ∧ n ≤ 256) ∧ (0 ≤ c ∧ c ≤ 64) ∧ (c - 1) * h + n ≤ 256 := by
  unfold wwK at hk
  split at hk
  · rename_i h0
    split at hk
    · rename_i h1
      split at hk
      · omega
      · rename_i h2
        exact ⟨hopK_zero h0, h1, by omega⟩
    · omega
  · rename_i h0
    exact absurd hk h0
theorem wwN_le (xs : List Nat) (c h : Int) : wwN xs c h ≤ 100000000 := by
  unfold wwN
  split
  · rename_i hk
    obtain ⟨h1, h2, h3⟩ := wwK_zero hk
    have := addAll_len_le addO none (fun _ => sqO xs) (fun _ => xs.length) h.toNat 256 (fun _ => by omega) c.toNat
    show (addAll addO none (fun _ => sqO xs) (fun _ => xs.length) h.toNat c.toNat).length ≤ _
    omega
  · omega

theorem fits_to {w w' : World} {xs : List Nat} {c h : Int} {u : Value} {fs : List Nat} (hk : wwK xs.length c h = 0) (hr : Row w' w.heap.size 29 u (flts fs)) (hf : FitsF fs (wgtL xs h.toNat c.toNat)) (hb : Below w.heap.size w w') :
    Row w' w.heap.size 29 u (flts fs) ∧ fs.length = wwN xs c h ∧ (∀ i, i < wwN xs c h → IsF (fs.getD i 0) (wwZ xs c h i)) ∧ Below w.heap.size w w' := by
  have e : wwN xs c h = fs.length := by unfold wwN; rw [if_pos hk, hf.len]
  rw [e]
  exact ⟨hr, rfl, hf.good, hb⟩

set_option maxRecDepth 100000 in
set_option maxHeartbeats 4000000 in
theorem ww_spec (xs : List Nat) (hz : ∀ z ∈ xs, z < 18446744073709551616) (c h1 : Int) (v : Value) (w : World) (h : Reads w v (flts xs)) :
    Calls Try.prog 31 #[v, .int .i64 c, .int .i64 h1] w (FloatsTo (wwN xs c h1) (wwZ xs c h1) (wwK xs.length c h1) w) := by
  have hcap := fl_cap h
  by_cases hk : wwK xs.length c h1 = 0
  · obtain ⟨hh, hc, ht⟩ := wwK_zero hk
    have hk0 : hopK xs.length h1 = 0 := by unfold hopK; rw [if_neg (by omega), if_pos (by omega)]
    have FT := Lib.hid (fun (w' : World) (u : Value) (fs : List Nat) => fits_to (w := w) (w' := w') (u := u) (fs := fs) hk)
    obtain ⟨p, rfl⟩ : ∃ p : Nat, h1 = p := ⟨h1.toNat, by omega⟩
    obtain ⟨m, rfl⟩ : ∃ m : Nat, c = m := ⟨c.toNat, by omega⟩
    have C := Lib.hid (weights_spec xs hz p m (by omega) (by omega) (by omega) (by omega) v w h)
    have I := Lib.hid (in_t m 0 64 hc)
    have T := total_any m xs.length p (by omega) (by omega) (by omega)
    obtain ⟨N, hN⟩ : ∃ N, wwN xs m p = N := ⟨_, rfl⟩
    obtain ⟨Zf, hZ⟩ : ∃ Zf, wwZ xs m p = Zf := ⟨_, rfl⟩
    have ht2 : (if m = 0 then 0 else ((m : Int) - 1) * p + xs.length) ≤ 256 := by split <;> omega
    obtain ⟨t, htt⟩ : ∃ t : Int, (if m = 0 then 0 else ((m : Int) - 1) * p + xs.length) = t := ⟨_, rfl⟩
    rw [htt] at ht2
    rw [htt] at T
    have T := Lib.hid T
    rw [hk]
    rw [hN, hZ] at FT ⊢
    rw [show ((p : Int)).toNat = p from rfl, show ((m : Int)).toNat = m from rfl] at FT
    obtain ⟨a, cap, rfl⟩ := fl_form h
    rw [flts_length] at *
    have D := Lib.hid (hop_spec a xs.length cap p (hcap _ _ _ rfl) w)
    rw [hk0] at D
    clear hh hc ht hk hk0 h hcap hz hN hZ htt
    go_enter Try.func31, Try.ntmps31
    go_wp2_with fail
    refine D.out.mono ?_
    rintro e w' ⟨rfl, rfl⟩
    go_wp2_with fail
    with_reducible refine (I.out _).mono ?_
    rintro e w2 ⟨rfl, rfl⟩
    go_wp2_with fail
    with_reducible refine (T.out _).mono ?_
    rintro e w2 ⟨rfl, rfl⟩
    go_wp2_with fail
    with_reducible refine C.out.mono ?_
    rintro e w3 ⟨u, fs, rfl, hS⟩
    have HX := Lib.hid (FT.out _ _ _ hS.row hS.fits hS.below)
    clear hS
    go_wp2
    go_ret2
    exact ⟨u, fs, rfl, HX.out⟩
  · have hN : wwN xs c h1 = 0 := if_neg hk
    rw [hN]
    by_cases hk0 : hopK xs.length h1 = 0
    · have hh := hopK_zero hk0
      by_cases hc : 0 ≤ c ∧ c ≤ 64
      · have ht : (c - 1) * h1 + xs.length > 256 := by
          apply Int.not_le.1
          intro hle
          apply hk
          unfold wwK
          rw [if_pos hk0, if_pos hc, if_neg (by omega)]
        have e3 : wwK xs.length c h1 = 3 := by unfold wwK; rw [if_pos hk0, if_pos hc, if_pos ht]
        rw [e3]
        obtain ⟨p, rfl⟩ : ∃ p : Nat, h1 = p := ⟨h1.toNat, by omega⟩
        obtain ⟨m, rfl⟩ : ∃ m : Nat, c = m := ⟨c.toNat, by omega⟩
        have I := Lib.hid (in_t m 0 64 hc)
        have T := total_any m xs.length p (by omega) (by omega) (by omega)
        have hm0 : m ≠ 0 := by rintro rfl; simp at ht; omega
        rw [if_neg hm0] at T
        obtain ⟨t, htt⟩ : ∃ t : Int, ((m : Int) - 1) * p + xs.length = t := ⟨_, rfl⟩
        rw [htt] at T ht
        have T := Lib.hid T
        obtain ⟨a, cap, rfl⟩ := fl_form h
        rw [flts_length] at *
        have D := Lib.hid (hop_spec a xs.length cap p (hcap _ _ _ rfl) w)
        rw [hk0] at D
        obtain ⟨Zf, hZ⟩ : ∃ Zf, wwZ xs m p = Zf := ⟨_, rfl⟩
        rw [hZ]
        clear hh hc hk hk0 h hcap hz hN htt e3 hZ hm0
        go_enter Try.func31, Try.ntmps31
        go_wp2_with fail
        refine D.out.mono ?_
        rintro e w' ⟨rfl, rfl⟩
        go_wp2_with fail
        with_reducible refine (I.out _).mono ?_
        rintro e w2 ⟨rfl, rfl⟩
        go_wp2_with fail
        with_reducible refine (T.out _).mono ?_
        rintro e w2 ⟨rfl, rfl⟩
        go_wp2
        go_ret2
        exact ⟨_, [], rfl, World.ownsRow_lit w2 #[] 0 (Nat.le_refl _) (by unfold maxLen; omega) rfl, rfl, fun i hi => by omega, (Below.refl _ _).alloc (Nat.le_refl _) _⟩
      · have e3 : wwK xs.length c h1 = 2 := by unfold wwK; rw [if_pos hk0, if_neg hc]
        rw [e3]
        have I := Lib.hid (in_f c 0 64 hc)
        obtain ⟨a, cap, rfl⟩ := fl_form h
        rw [flts_length] at *
        have D := Lib.hid (hop_spec a xs.length cap h1 (hcap _ _ _ rfl) w)
        rw [hk0] at D
        obtain ⟨Zf, hZ⟩ : ∃ Zf, wwZ xs c h1 = Zf := ⟨_, rfl⟩
        rw [hZ]
        clear hh hc hk hk0 h hcap hz hN e3 hZ
        go_enter Try.func31, Try.ntmps31
        go_wp2_with fail
        refine D.out.mono ?_
        rintro e w' ⟨rfl, rfl⟩
        go_wp2_with fail
        with_reducible refine (I.out _).mono ?_
        rintro e w2 ⟨rfl, rfl⟩
        go_wp2
        go_ret2
        exact ⟨_, [], rfl, World.ownsRow_lit w2 #[] 0 (Nat.le_refl _) (by unfold maxLen; omega) rfl, rfl, fun i hi => by omega, (Below.refl _ _).alloc (Nat.le_refl _) _⟩
    · have e3 : wwK xs.length c h1 = hopK xs.length h1 := by unfold wwK; rw [if_neg hk0]
      rw [e3]
      obtain ⟨a, cap, rfl⟩ := fl_form h
      rw [flts_length] at *
      have D := Lib.hid (hop_spec a xs.length cap h1 (hcap _ _ _ rfl) w)
      obtain ⟨k, hkk⟩ : ∃ k, hopK xs.length h1 = k := ⟨_, rfl⟩
      rw [hkk] at D hk0 ⊢
      obtain ⟨Zf, hZ⟩ : ∃ Zf, wwZ xs c h1 = Zf := ⟨_, rfl⟩
      rw [hZ]
      clear hk h hcap hz hN e3 hZ hkk
      go_enter Try.func31, Try.ntmps31
      go_wp2_with fail
      refine D.out.mono ?_
      rintro e w' ⟨rfl, rfl⟩
      go_wp2
      go_ret2
      exact ⟨_, [], rfl, World.ownsRow_lit w' #[] 0 (Nat.le_refl _) (by unfold maxLen; omega) rfl, rfl, fun i hi => by omega, (Below.refl _ _).alloc (Nat.le_refl _) _⟩

end Go.Proofs.Ytcoieclecmefiaa
