import Derived.Test.YtnhhmgnceicpkaaWinQ
/-
  WindowOf of the model.
-/
set_option linter.unusedVariables false
set_option linter.unusedSimpArgs false
namespace Go.Proofs.Ytnhhmgnceicpkaa
open Go.RowKit Flt Turn

set_option maxRecDepth 100000 in
set_option maxHeartbeats 4000000 in
theorem window_spec (kind n : Nat) (h1 : 1 ≤ kind) (h6 : kind ≤ 6) (hn : 1 ≤ n) (hn2 : n ≤ 256) (w : World) :
    Calls Try.prog 69 #[.int .i64 kind, .int .i64 n] w fun e w' => ∃ u fs, e = .returned u ∧ Row w' w.heap.size 26 u (flts fs) ∧ fs.length = n ∧ (∀ i, i < n → IsF (fs.getD i 0) (winO kind n i)) ∧ Below w.heap.size w w' := by
  obtain ⟨i0, hi, hz0, hz1, hz2⟩ := info_parts info_f64'
  have V := Lib.hid (fun i hi w => value_spec kind n i h1 h6 hn hn2 hi w)
  clear h1 h6
  go_enter Try.func69, Try.ntmps69
  go_wp2
  go_loopw [5, 6] (fun v5 i wr => ∃ (k : Nat) (fs : List Nat), i = .int .i64 k ∧ k ≤ n ∧ Row wr w.heap.size 26 v5 (flts fs) ∧ fs.length = k ∧ (∀ j, j < k → IsF (fs.getD j 0) (winO kind n j)) ∧ Below w.heap.size w wr) (fun _ i _ => n - (intOf i).toNat)
  case atStart => exact ⟨0, [], rfl, Nat.zero_le _, World.ownsRow_lit w #[] 0 (Nat.le_refl _) (by unfold maxLen; omega) rfl, rfl, fun j hj => by omega, (Below.refl _ _).alloc (Nat.le_refl _) _⟩
  case round =>
    obtain ⟨k, fs, rfl, hk, hrw, hfs, hgd, hbw⟩ := hrel
    have HRW := Lib.hid hrw
    have HFS := Lib.hid hfs
    have HGD := Lib.hid hgd
    have HBW := Lib.hid hbw
    clear hrw hfs hgd hbw
    by_cases hlt : k < n
    · go_wp2_with fail
      refine (V.out k hlt _).mono ?_
      rintro e w2 ⟨a, n2, rfl, ha, rfl⟩
      have HF := Lib.hid (snocGood (d := (0 : Nat)) (G := fun i p' => IsF p' (winO kind n i)) HFS.out HGD.out ha)
      clear ha
      have hl : (flts fs).length = k := by rw [flts_length, HFS.out]
      go_wp2_with (at_builtin; refine wpList_append_own _ rfl _ _ 25 rfl w.heap.size 26 i0 (.float .f64 0) 1 8 Try.underlying25 hi hz0 hz1 hz2 rfl (by decide) _ _ _ rfl ((HRW.out.drewN n2).alloc _) ⟨_, 0, none⟩ 1 1 [.float .f64 a] rfl rfl (cell_one_new _ _ _) (by intro u hu; simp at hu; subst hu; rfl) (by rw [hl]; simp only [maxLen]; omega) (by rw [hl]; omega) (by have := HBW.out.size; simp; omega) ?_)
      intro v' w1 hown' hgrow _
      have hlt' := ((HRW.out.drewN n2).alloc (.cells #[.float .f64 a] 26)).lt
      have hb' : Below w.heap.size w w1 := ((below_draws HBW.out n2).alloc HBW.out.size _).grown hgrow (by have := HBW.out.size; simp; omega) (fun b e => (hlt' b e).1)
      have HO' : Hid (Row w1 w.heap.size 26 v' (flts (fs ++ [a]))) := by
        show w1.ownsRow _ _ _ _ _ _
        rw [flts_snoc, List.length_append, hl]
        (try rw [hl] at hown')
        exact hown'
      have HB' := Lib.hid hb'
      clear hown' hgrow hlt' hb' HRW HBW hl
      go_wp2
      go_roundw
      case rel => first | exact ⟨k + 1, fs ++ [a], by go_num, by omega, HO'.out, HF.out.1, HF.out.2, HB'.out⟩ | ((repeat apply Exists.intro); refine ⟨?_, rfl⟩; exact ⟨k + 1, fs ++ [a], by go_num, by omega, HO'.out, HF.out.1, HF.out.2, HB'.out⟩)
      case measure => simp [intOf]; omega
    · have e : k = n := by omega
      subst e
      go_wp2
      go_ret
      exact ⟨_, fs, rfl, HRW.out, HFS.out, HGD.out, HBW.out⟩

/-- What WindowOf tells. -/
def winB (k n : Int) : Prop := (1 ≤ k ∧ k ≤ 6) ∧ (1 ≤ n ∧ n ≤ 256)
instance (k n : Int) : Decidable (winB k n) := by unfold winB; infer_instance
def winN (k n : Int) : Nat := if winB k n then n.toNat else 0
def winK (k n : Int) : Int := if winB k n then 0 else 2
theorem winN_le (k n : Int) : winN k n ≤ 100000000 := by
  by_cases h : winB k n
  · have e : winN k n = n.toNat := if_pos h
    obtain ⟨-, h3, h4⟩ := h
    rw [e]; omega
  · have e : winN k n = 0 := if_neg h
    rw [e]; omega

set_option maxRecDepth 100000 in
set_option maxHeartbeats 4000000 in
theorem windowOf_spec (kd n : Int) (w : World) :
    Calls Try.prog 42 #[.int .i64 kd, .int .i64 n] w (FloatsTo (winN kd n) (winO kd.toNat n.toNat) (winK kd n) w) := by
  by_cases h : winB kd n
  · have e1 : winN kd n = n.toNat := if_pos h
    have e2 : winK kd n = 0 := if_pos h
    have C1 := Lib.hid (fun w => in_t kd 1 6 h.1 w)
    have C2 := Lib.hid (fun w => in_t n 1 256 h.2 w)
    obtain ⟨⟨a1, a2⟩, a3, a4⟩ := h
    obtain ⟨k, rfl⟩ : ∃ k : Nat, kd = k := ⟨kd.toNat, by omega⟩
    obtain ⟨m, rfl⟩ : ∃ m : Nat, n = m := ⟨n.toNat, by omega⟩
    have V := Lib.hid (fun w => window_spec k m (by omega) (by omega) (by omega) (by omega) w)
    rw [e1, e2, show ((m : Int)).toNat = m from rfl, show ((k : Int)).toNat = k from rfl]
    clear e1 e2 a1 a2 a3 a4
    go_enter Try.func42, Try.ntmps42
    go_wp2_with fail
    refine (C1.out _).mono ?_
    rintro e w' ⟨rfl, rfl⟩
    go_wp2_with fail
    refine (C2.out _).mono ?_
    rintro e w' ⟨rfl, rfl⟩
    go_wp2_with fail
    refine (V.out _).mono ?_
    rintro e w2 ⟨u, fs, rfl, hx⟩
    have HX := Lib.hid hx
    clear hx
    go_wp2
    go_ret2
    exact ⟨_, fs, rfl, HX.out⟩
  · have e1 : winN kd n = 0 := if_neg h
    have e2 : winK kd n = 2 := if_neg h
    rw [e1, e2]
    by_cases h1 : 1 ≤ kd ∧ kd ≤ 6
    · have h2 : ¬ (1 ≤ n ∧ n ≤ 256) := fun h2 => h ⟨h1, h2⟩
      have C1 := Lib.hid (fun w => in_t kd 1 6 h1 w)
      have C2 := Lib.hid (fun w => in_f n 1 256 h2 w)
      clear h e1 e2 h1 h2
      go_enter Try.func42, Try.ntmps42
      go_wp2_with fail
      refine (C1.out _).mono ?_
      rintro e w' ⟨rfl, rfl⟩
      go_wp2_with fail
      refine (C2.out _).mono ?_
      rintro e w' ⟨rfl, rfl⟩
      go_wp2
      go_ret2
      exact ⟨_, [], rfl, World.ownsRow_lit w' #[] 0 (Nat.le_refl _) (by unfold maxLen; omega) rfl, rfl, fun i hi => by omega, (Below.refl _ _).alloc (Nat.le_refl _) _⟩
    · have C1 := Lib.hid (fun w => in_f kd 1 6 h1 w)
      clear h e1 e2 h1
      go_enter Try.func42, Try.ntmps42
      go_wp2_with fail
      refine (C1.out _).mono ?_
      rintro e w' ⟨rfl, rfl⟩
      go_wp2
      go_ret2
      exact ⟨_, [], rfl, World.ownsRow_lit w' #[] 0 (Nat.le_refl _) (by unfold maxLen; omega) rfl, rfl, fun i hi => by omega, (Below.refl _ _).alloc (Nat.le_refl _) _⟩

end Go.Proofs.Ytnhhmgnceicpkaa
