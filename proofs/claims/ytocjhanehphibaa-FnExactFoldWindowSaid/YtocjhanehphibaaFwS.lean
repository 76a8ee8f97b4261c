import Derived.Test.YtocjhanehphibaaTurnG
import Derived.Test.YtocjhanehphibaaListF
import Derived.Test.YtocjhanehphibaaWinC
/-
  FoldWindow of the model and of the program.
-/
set_option linter.unusedVariables false
set_option linter.unusedSimpArgs false
namespace Go.Proofs.Ytocjhanehphibaa
open Go.RowKit Flt Turn

/-- Which numbers can be folded. -/
def Even (n : Int) : Prop := (2 ≤ n ∧ n ≤ 128) ∧ n % 2 = 0
instance (n : Int) : Decidable (Even n) := by unfold Even; infer_instance
def foN (n : Int) : Nat := if Even n then 2 * n.toNat else 0
def foK (n : Int) : Int := if Even n then 0 else 2
/-- The window's numbers. -/
def foO (n : Nat) (i : Nat) : Option Nat := (turn (8 * n) (2 * i + 1)).2
theorem row_base {w : World} {B B' : Nat} {e : TypeId} {v : Value} {cs : List Value} (h : Row w B' e v cs) (hB : B ≤ B') : Row w B e v cs := by
  refine ⟨h.1, ?_⟩
  rcases h.2 with hn | ⟨g, cap, cur, rfl, hb, r⟩
  · exact .inl hn
  · exact .inr ⟨g, cap, cur, rfl, Nat.le_trans hB hb, r⟩
theorem foN_le (n : Int) : foN n ≤ 100000000 := by
  unfold foN
  by_cases h : Even n
  · rw [if_pos h]; obtain ⟨⟨a, b⟩, -⟩ := h; omega
  · rw [if_neg h]; omega

set_option maxRecDepth 100000 in
theorem even_t (n : Int) (h : Even n) (w : World) :
    Calls Try.prog 60 #[.int .i64 n] w fun e w' => e = .returned (.bool true) ∧ w' = w := by
  have C := Lib.hid (fun w => in_t n 2 128 h.1 w)
  have e1 : n.tmod 2 = 0 := by obtain ⟨⟨a, b⟩, c⟩ := h; rw [Int.tmod_eq_emod_of_nonneg (by omega)]; exact c
  have e2 : n % 2 = 0 := h.2
  clear h
  go_enter Try.func60, Try.ntmps60
  go_wp2_with fail
  refine (C.out _).mono ?_
  rintro e w' ⟨rfl, rfl⟩
  go_wp2
  go_ret
  exact ⟨rfl, rfl⟩

set_option maxRecDepth 100000 in
theorem even_f (n : Int) (h : ¬ Even n) (w : World) :
    Calls Try.prog 60 #[.int .i64 n] w fun e w' => e = .returned (.bool false) ∧ w' = w := by
  by_cases h1 : 2 ≤ n ∧ n ≤ 128
  · have C := Lib.hid (fun w => in_t n 2 128 h1 w)
    have e2 : n % 2 = 1 := by
      have : n % 2 ≠ 0 := fun c => h ⟨h1, c⟩
      omega
    have e1 : n.tmod 2 = 1 := by rw [Int.tmod_eq_emod_of_nonneg (by omega)]; exact e2
    clear h h1
    go_enter Try.func60, Try.ntmps60
    go_wp2_with fail
    refine (C.out _).mono ?_
    rintro e w' ⟨rfl, rfl⟩
    go_wp2
    go_ret
    exact ⟨rfl, rfl⟩
  · have C := Lib.hid (fun w => in_f n 2 128 h1 w)
    clear h h1
    go_enter Try.func60, Try.ntmps60
    go_wp2_with fail
    refine (C.out _).mono ?_
    rintro e w' ⟨rfl, rfl⟩
    go_wp2
    go_ret
    exact ⟨rfl, rfl⟩

set_option maxRecDepth 100000 in
theorem isFold_t (n : Int) (h : Even n) (w : World) :
    Calls Try.prog 62 #[.int .i64 n] w fun e w' => e = .returned (.bool true) ∧ w' = w := by
  have g1 : decide (2 ≤ n) = true := by simp; exact h.1.1
  have g2 : decide (n ≤ 128) = true := by simp; exact h.1.2
  have e1 : n.tmod 2 = 0 := by obtain ⟨⟨a, b⟩, c⟩ := h; rw [Int.tmod_eq_emod_of_nonneg (by omega)]; exact c
  have e2 : n % 2 = 0 := h.2
  clear h
  go_enter Try.func62, Try.ntmps62
  go_wp2
  go_ret
  exact ⟨rfl, rfl⟩

set_option maxRecDepth 100000 in
theorem isFold_f (n : Int) (h : ¬ Even n) (w : World) :
    Calls Try.prog 62 #[.int .i64 n] w fun e w' => e = .returned (.bool false) ∧ w' = w := by
  by_cases h1 : 2 ≤ n
  · have g1 : decide (2 ≤ n) = true := by simp; exact h1
    by_cases h2 : n ≤ 128
    · have g2 : decide (n ≤ 128) = true := by simp; exact h2
      have e2 : n % 2 = 1 := by
        have : n % 2 ≠ 0 := fun c => h ⟨⟨h1, h2⟩, c⟩
        omega
      have e1 : n.tmod 2 = 1 := by rw [Int.tmod_eq_emod_of_nonneg (by omega)]; exact e2
      clear h h1 h2
      go_enter Try.func62, Try.ntmps62
      go_wp2
      go_ret
      exact ⟨rfl, rfl⟩
    · have g2 : decide (n ≤ 128) = false := by simp; omega
      clear h h1 h2
      go_enter Try.func62, Try.ntmps62
      go_wp2
      go_ret
      exact ⟨rfl, rfl⟩
  · have g1 : decide (2 ≤ n) = false := by simp; omega
    clear h h1
    go_enter Try.func62, Try.ntmps62
    go_wp2
    go_ret
    exact ⟨rfl, rfl⟩

set_option maxRecDepth 100000 in
set_option maxHeartbeats 4000000 in
theorem foldWindow_model (n : Nat) (h1 : 2 ≤ n) (h2 : n ≤ 128) (w : World) :
    Calls Try.prog 61 #[.int .i64 n] w fun e w' => ∃ u fs, e = .returned u ∧ Row w' w.heap.size 55 u (flts fs) ∧ fs.length = 2 * n ∧ (∀ i, i < 2 * n → IsF (fs.getD i 0) (foO n i)) ∧ Below w.heap.size w w' := by
  obtain ⟨i0, hi, hz0, hz1, hz2⟩ := info_parts info_f64'
  have V := Lib.hid (fun (i : Nat) (hi : i < 2 * n) (w : World) => turn_spec4 (8 * n) (2 * i + 1) (by omega) (by omega) (by omega) w)
  obtain ⟨m, hm⟩ : ∃ m, 2 * n = m := ⟨_, rfl⟩
  obtain ⟨e8, he8⟩ : ∃ e8, 8 * n = e8 := ⟨_, rfl⟩
  have he8' : 8 * (n : Int) = (e8 : Int) := by omega
  have hm' : 2 * (n : Int) = (m : Int) := by omega
  have hf : ∀ i, foO n i = (turn e8 (2 * i + 1)).2 := fun i => by rw [← he8]; rfl
  have HF0 := Lib.hid hf
  have hmb : m ≤ 256 := by omega
  rw [hm, he8] at V
  rw [hm]
  clear hm he8 h1 h2 hf
  go_enter Try.func61, Try.ntmps61
  go_wp2
  go_loopw [3, 4] (fun v5 i wr => ∃ (k : Nat) (fs : List Nat), i = .int .i64 k ∧ k ≤ m ∧ Row wr w.heap.size 55 v5 (flts fs) ∧ fs.length = k ∧ (∀ j, j < k → IsF (fs.getD j 0) (foO n j)) ∧ Below w.heap.size w wr) (fun _ i _ => m - (intOf i).toNat)
  case atStart => exact ⟨0, [], rfl, Nat.zero_le _, World.ownsRow_lit w #[] 0 (Nat.le_refl _) (by unfold maxLen; omega) rfl, rfl, fun j hj => by omega, (Below.refl _ _).alloc (Nat.le_refl _) _⟩
  case round =>
    obtain ⟨k, fs, rfl, hk, hrw, hfs, hgd, hbw⟩ := hrel
    have HRW := Lib.hid hrw
    have HFS := Lib.hid hfs
    have HGD := Lib.hid hgd
    have HBW := Lib.hid hbw
    clear hrw hfs hgd hbw
    by_cases hlt : k < m
    · have T := Lib.hid (fun w => V.out k hlt w)
      obtain ⟨j, hj⟩ : ∃ j, 2 * k + 1 = j := ⟨_, rfl⟩
      have hj' : 2 * (k : Int) + 1 = (j : Int) := by omega
      have hzf := HF0.out k
      rw [hj] at T hzf
      have HZF := Lib.hid hzf
      clear hj hzf
      go_wp2_with fail
      refine (T.out _).mono ?_
      rintro e w2 ⟨a0, a, rfl, -, ha, n2, rfl⟩
      have HF := Lib.hid (snocGood (d := (0 : Nat)) (G := fun i p' => IsF p' (foO n i)) HFS.out HGD.out (p := a) (by rw [HZF.out]; exact ha))
      clear ha
      have hl : (flts fs).length = k := by rw [flts_length, HFS.out]
      go_wp2_with (at_builtin; refine wpList_append_own _ rfl _ _ 47 rfl w.heap.size 55 i0 (.float .f64 0) 1 8 Try.underlying47 hi hz0 hz1 hz2 rfl (by decide) _ _ _ rfl ((HRW.out.drewN n2).alloc _) ⟨_, 0, none⟩ 1 1 [.float .f64 a] rfl rfl (cell_one_new _ _ _) (by intro u hu; simp at hu; subst hu; rfl) (by rw [hl]; simp only [maxLen]; omega) (by rw [hl]; omega) (by have := HBW.out.size; simp; omega) ?_)
      intro v' w1 hown' hgrow _
      have hlt' := ((HRW.out.drewN n2).alloc (.cells #[.float .f64 a] 55)).lt
      have hb' : Below w.heap.size w w1 := ((below_draws HBW.out n2).alloc HBW.out.size _).grown hgrow (by have := HBW.out.size; simp; omega) (fun b e => (hlt' b e).1)
      have HO' : Hid (Row w1 w.heap.size 55 v' (flts (fs ++ [a]))) := by
        show w1.ownsRow _ _ _ _ _ _
        rw [flts_snoc, List.length_append, hl]
        (try rw [hl] at hown')
        exact hown'
      have HB' := Lib.hid hb'
      clear hown' hgrow hlt' hb' HRW HBW hl
      go_wp2
      go_roundw
      case rel => first | exact ⟨k + 1, fs ++ [a], by go_num, by omega, HO'.out, HF.out.1, HF.out.2, HB'.out⟩ | ((repeat apply Exists.intro); refine ⟨?_, rfl⟩; exact ⟨k + 1, fs ++ [a], by go_num, by omega, HO'.out, HF.out.1, HF.out.2, HB'.out⟩)
      case measure => simp [intOf]; omega
    · have e : k = m := by omega
      subst e
      go_wp2
      go_ret
      exact ⟨_, fs, rfl, HRW.out, HFS.out, HGD.out, HBW.out⟩

set_option maxRecDepth 100000 in
theorem foldWindow_spec (n : Int) (w : World) :
    Calls Try.prog 28 #[.int .i64 n] w (FloatsTo (foN n) (foO n.toNat) (foK n) w) := by
  by_cases h : Even n
  · have e1 : foN n = 2 * n.toNat := if_pos h
    have e2 : foK n = 0 := if_pos h
    have C := Lib.hid (fun w => even_t n h w)
    obtain ⟨⟨a1, a2⟩, a3⟩ := h
    obtain ⟨m, rfl⟩ : ∃ m : Nat, n = m := ⟨n.toNat, by omega⟩
    have V := Lib.hid (fun w => foldWindow_model m (by omega) (by omega) w)
    rw [e1, e2, show ((m : Int)).toNat = m from rfl]
    clear e1 e2 a1 a2 a3
    go_enter Try.func28, Try.ntmps28
    go_wp2_with fail
    refine (C.out _).mono ?_
    rintro e w' ⟨rfl, rfl⟩
    go_wp2_with fail
    refine (V.out _).mono ?_
    rintro e w2 ⟨u, fs, rfl, hx⟩
    have HX := Lib.hid hx
    clear hx
    go_wp2
    go_ret2
    exact ⟨_, fs, rfl, HX.out⟩
  · have e1 : foN n = 0 := if_neg h
    have e2 : foK n = 2 := if_neg h
    have C := Lib.hid (fun w => even_f n h w)
    rw [e1, e2]
    clear e1 e2 h
    go_enter Try.func28, Try.ntmps28
    go_wp2_with fail
    refine (C.out _).mono ?_
    rintro e w' ⟨rfl, rfl⟩
    go_wp2
    go_ret2
    exact ⟨_, [], rfl, World.ownsRow_lit w' #[] 0 (Nat.le_refl _) (by unfold maxLen; omega) rfl, rfl, fun i hi => by omega, (Below.refl _ _).alloc (Nat.le_refl _) _⟩

theorem enter_foldWindow1 (args : Array Value) (w : World) : (callFunc 82 args).run Try.prog w = .ok (.enter 82 args) w := by kernel_rfl

/-- What the closure finds: its cache and the number. -/
def HasFold (B0 B1 B2 n c : Nat) (w : World) : Prop := Cache w B1 c ∧ w.cell? ⟨B2, 0, none⟩ = some (.map (some B1)) ∧ w.cell? ⟨B0, 0, none⟩ = some (.int .i64 n)
theorem HasFold.kept {B0 B1 B2 n c : Nat} {w w' : World} {row : Option Nat} (h : HasFold B0 B1 B2 n c w) (hg : w.grownBy w' row) (h0 : some B0 ≠ row) (h1 : some B1 ≠ row) (h2 : some B2 ≠ row) : HasFold B0 B1 B2 n c w' :=
  ⟨h.1.kept hg h1, hg.cell h.2.1 h2, hg.cell h.2.2 h0⟩

set_option maxRecDepth 100000 in
theorem foldWindow1_any (B0 B1 B2 n k c : Nat) (w : World) (hn : 2 ≤ n) (hn2 : n ≤ 128) (hk : k < 2 * n) (hc : c ≤ 4000000000000000000) (h02 : B0 ≠ B1) (h12 : B2 ≠ B1) (h : HasFold B0 B1 B2 n c w) :
    Calls Try.prog 82 #[.int .i64 k, .pointer (some ⟨B2, 0, none⟩), .pointer (some ⟨B0, 0, none⟩)] w fun e w2 => ∃ p : Nat, e = .returned (fval p) ∧ IsF p (foO n k) ∧ HasFold B0 B1 B2 n (c + 8) w2 ∧ w.grownBy w2 (some B1) := by
  obtain ⟨h1, h2, h3⟩ := h
  have T := Lib.hid (turn_cache (8 * n) (2 * k + 1) B1 c w (by omega) (by omega) (by omega) h1 hc)
  obtain ⟨e8, he8⟩ : ∃ e8, 8 * n = e8 := ⟨_, rfl⟩
  have he8' : 8 * (n : Int) = (e8 : Int) := by omega
  obtain ⟨j, hj⟩ : ∃ j, 2 * k + 1 = j := ⟨_, rfl⟩
  have hj' : 2 * (k : Int) + 1 = (j : Int) := by omega
  have hf : foO n k = (turn e8 j).2 := by rw [← he8, ← hj]; rfl
  rw [hf]
  rw [he8, hj] at T
  have H2 := Lib.hid h2
  have H3 := Lib.hid h3
  clear h1 he8 hj hf
  have hn3 : e8 ≤ 1024 := by omega
  have hj3 : j ≤ 512 := by omega
  clear hk hn2 hn
  go_enter Try.func82, Try.ntmps82
  go_wp2_with fail
  refine T.out.mono ?_
  rintro e w2 ⟨a, b, rfl, ha, hb, hc2, hg2⟩
  have HR := Lib.hid hb
  have HH : Hid (HasFold B0 B1 B2 n (c + 8) w2) := ⟨hc2, hg2.cell H2.out (by simpa using h12), hg2.cell H3.out (by simpa using h02)⟩
  have HG := Lib.hid hg2
  clear ha hb hc2 hg2 T h2 h3
  go_wp2
  go_ret
  exact ⟨b, rfl, HR.out, HH.out, HG.out⟩

set_option maxRecDepth 100000 in
set_option maxHeartbeats 4000000 in
theorem foldWindow_any (n : Nat) (b1 : 2 ≤ n) (b2 : n ≤ 128) (w : World) :
    Calls Try.prog 63 #[.int .i64 n] w fun e w' => ∃ u fs, e = .returned u ∧ Row w' w.heap.size 55 u (flts fs) ∧ fs.length = 2 * n ∧ (∀ i, i < 2 * n → IsF (fs.getD i 0) (foO n i)) ∧ Below w.heap.size w w' := by
  have hmm := @run_makeMap Try.prog
  obtain ⟨m, hm⟩ : ∃ m, 2 * n = m := ⟨_, rfl⟩
  have hm' : 2 * (n : Int) = (m : Int) := by omega
  have HM := Lib.hid hm
  have hmb : m ≤ 256 := by omega
  rw [hm]
  clear hm
  go_enter Try.func63, Try.ntmps63
  go_wp2_with fail
  have hH : HasFold w.heap.size (w.heap.size + 1) (w.heap.size + 1 + 1) n 0 (((w.alloc (.cells #[.int .i64 n] 2)).alloc (.map #[] 0)).alloc (.cells #[.map (some (w.heap.size + 1))] 99)) := by
    refine ⟨?_, by go_simp, by go_simp⟩
    have := (Cache.made (w.alloc (.cells #[.int .i64 n] 2))).alloc (.cells #[.map (some (w.heap.size + 1))] 99)
    simpa using this
  have hG : Below w.heap.size w (((w.alloc (.cells #[.int .i64 n] 2)).alloc (.map #[] 0)).alloc (.cells #[.map (some (w.heap.size + 1))] 99)) :=
    (((Below.refl _ _).alloc (Nat.le_refl _) _).alloc (by simp) _).alloc (by simp; omega) _
  have hsz : (((w.alloc (.cells #[.int .i64 n] 2)).alloc (.map #[] 0)).alloc (.cells #[.map (some (w.heap.size + 1))] 99)).heap.size = w.heap.size + 3 := by simp
  generalize (((w.alloc (.cells #[.int .i64 n] 2)).alloc (.map #[] 0)).alloc (.cells #[.map (some (w.heap.size + 1))] 99)) = W at hH hG hsz ⊢
  refine (listOf_f64 82 _ m (by omega) (foO n) (fun i w' => HasFold w.heap.size (w.heap.size + 1) (w.heap.size + 1 + 1) n (8 * i) w') (some (w.heap.size + 1)) W enter_foldWindow1
    (fun k hk => by cases hk; omega) (fun w' hg => hH.kept hg (by simp) (by simp) (by simp)) (fun i w1 w2 hs h hg => h.kept hg (by simp; omega) (by simp; omega) (by simp; omega)) ?_).mono ?_
  · intro i w1 hi hs hI
    exact (foldWindow1_any _ _ _ n i (8 * i) w1 (by omega) (by omega) (by have := HM.out; omega) (by omega) (by omega) (by omega) hI).mono (fun e w2 ⟨p, he, hp, hh, hg⟩ => ⟨p, he, hp, by rw [show 8 * (i + 1) = 8 * i + 8 by omega]; exact hh, hg⟩)
  · rintro e w2 ⟨v, xs, rfl, hr, hx, hgd, -, hg⟩
    have HR : Hid (Row w2 w.heap.size 55 v (flts xs)) := row_base hr (by omega)
    have HX := Lib.hid hx
    have HGD := Lib.hid hgd
    have HB := Lib.hid (hG.grown hg (by omega) (fun b e => by cases e; omega))
    clear hr hx hgd hg hH hG hsz hmm
    go_wp2
    go_ret
    exact ⟨_, xs, rfl, HR.out, HX.out, HGD.out, HB.out⟩

set_option maxRecDepth 100000 in
theorem foldWindow_impl (n : Int) (w : World) :
    Calls Try.prog 29 #[.int .i64 n] w (FloatsTo (foN n) (foO n.toNat) (foK n) w) := by
  by_cases h : Even n
  · have e1 : foN n = 2 * n.toNat := if_pos h
    have e2 : foK n = 0 := if_pos h
    have C := Lib.hid (fun w => isFold_t n h w)
    obtain ⟨⟨a1, a2⟩, a3⟩ := h
    obtain ⟨m, rfl⟩ : ∃ m : Nat, n = m := ⟨n.toNat, by omega⟩
    have V := Lib.hid (fun w => foldWindow_any m (by omega) (by omega) w)
    rw [e1, e2, show ((m : Int)).toNat = m from rfl]
    clear e1 e2 a1 a2 a3
    go_enter Try.func29, Try.ntmps29
    go_wp2_with fail
    refine (C.out _).mono ?_
    rintro e w' ⟨rfl, rfl⟩
    go_wp2_with fail
    refine (V.out _).mono ?_
    rintro e w2 ⟨u, fs, rfl, hx⟩
    have HX := Lib.hid hx
    clear hx
    go_wp2
    go_ret2
    exact ⟨_, fs, rfl, HX.out⟩
  · have e1 : foN n = 0 := if_neg h
    have e2 : foK n = 2 := if_neg h
    have C := Lib.hid (fun w => isFold_f n h w)
    rw [e1, e2]
    clear e1 e2 h
    go_enter Try.func29, Try.ntmps29
    go_wp2_with fail
    refine (C.out _).mono ?_
    rintro e w' ⟨rfl, rfl⟩
    go_wp2
    go_ret2
    exact ⟨_, [], rfl, World.ownsRow_nil _ _ _ _, rfl, fun i hi => by omega, Below.refl _ _⟩

end Go.Proofs.Ytocjhanehphibaa
