import Derived.Test.YtnhhmgnceicpkaaWinR
import Derived.Laws.EntriesVeiled
/-
  WindowOf of the program.
-/
set_option linter.unusedVariables false
set_option linter.unusedSimpArgs false
namespace Go.Proofs.Ytnhhmgnceicpkaa
open Go.RowKit Flt Turn

set_option maxRecDepth 100000 in
theorem numbers_any (w : World) :
    Calls Try.prog 70 #[] w fun e w' => e = .returned (.agg #[.nilFunc, .func (.func 79) #[] #[], .func (.func 80) #[] #[], .func (.func 81) #[] #[], .func (.func 82) #[] #[], .func (.func 83) #[] #[], .func (.func 84) #[] #[]]) ∧ Below w.heap.size w w' := by
  go_enter Try.func70, Try.ntmps70
  go_wp2
  refine bodyPost_ret (results_cell_row rfl _ _ _ _ _ _ _ rfl (heap_alloc_new _ _) Try.underlying82 rfl (by kernel_rfl)) rfl ?_
  exact ⟨rfl, (Below.refl _ _).alloc (Nat.le_refl _) _⟩

theorem gb_below {w w' : World} {B : Nat} (h : Below B w w') (hb : w.heap.size ≤ B) : w.grownBy w' none := ⟨h.os, h.tape, h.output, h.size, fun k hk _ => h.block k (by omega)⟩

/-- What the closure finds: the function, the circle and its cache. -/
def HasWin (B4 B5 F b n c : Nat) (w : World) : Prop := Cache w b c ∧ w.cell? ⟨B5, 0, none⟩ = some (.func (.func F) #[] #[]) ∧ w.cell? ⟨B4, 0, none⟩ = some (.map (some b)) ∧ w.cell? ⟨B4, 1, none⟩ = some (.int .i64 n)

theorem HasWin.kept {B4 B5 F b n c : Nat} {w w' : World} {row : Option Nat} (h : HasWin B4 B5 F b n c w) (hg : w.grownBy w' row) (h0 : some b ≠ row) (h4 : some B4 ≠ row) (h5 : some B5 ≠ row) : HasWin B4 B5 F b n c w' :=
  ⟨h.1.kept hg h0, hg.cell h.2.1 h5, hg.cell h.2.2.1 h4, hg.cell h.2.2.2 h4⟩

set_option maxRecDepth 100000 in
theorem win1_any (kind F n b c i B4 B5 : Nat) (w : World) (hi : i < n) (hn : n ≤ 256) (hfn : ∀ (args : Array Value) (w : World), (callFunc F args).run Try.prog w = .ok (.enter F args) w)
    (hcall : ∀ w', Cache w' b c → Calls Try.prog F #[.agg #[.map (some b), .int .i64 n], .int .i64 i] w' (RetW (winO kind n i) b (c + 16) w')) (h4 : B4 ≠ b) (h5 : B5 ≠ b) (h : HasWin B4 B5 F b n c w) :
    Calls Try.prog 71 #[.int .i64 i, .pointer (some ⟨B5, 0, none⟩), .pointer (some ⟨B4, 0, none⟩)] w fun e w2 => ∃ p : Nat, e = .returned (fval p) ∧ IsF p (winO kind n i) ∧ HasWin B4 B5 F b n (c + 16) w2 ∧ w.grownBy w2 (some b) := by
  obtain ⟨h1, h2, h3, h3'⟩ := h
  have T := Lib.hid hcall
  have HC := Lib.hid h1
  have HK := Lib.hid (show ∀ w2, w.grownBy w2 (some b) → Cache w2 b (c + 16) → HasWin B4 B5 F b n (c + 16) w2 from fun w2 hg hc => ⟨hc, hg.cell h2 (by simpa using h5), hg.cell h3 (by simpa using h4), hg.cell h3' (by simpa using h4)⟩)
  clear h1 hcall
  go_enter Try.func71, Try.ntmps71
  go_wp2_with fail
  refine (T.out _ HC.out).mono ?_
  rintro e w2 ⟨x, rfl, hx, hc2, hg2⟩
  have HX := Lib.hid hx
  have HW := Lib.hid (HK.out _ hg2 hc2)
  have HG := Lib.hid hg2
  clear hx hc2 hg2 T HC HK h2 h3 h3'
  go_wp2
  go_ret
  exact ⟨x, rfl, HX.out, HW.out, HG.out⟩

/-- The functions of the numbers. -/
def numF : Nat → Nat
  | 1 => 79
  | 2 => 80
  | 3 => 81
  | 4 => 82
  | 5 => 83
  | _ => 84
def numsV : Value := .agg #[.nilFunc, .func (.func 79) #[] #[], .func (.func 80) #[] #[], .func (.func 81) #[] #[], .func (.func 82) #[] #[], .func (.func 83) #[] #[], .func (.func 84) #[] #[]]

theorem num_index (k : Nat) (h1 : 1 ≤ k) (h6 : k ≤ 6) (w : World) : (Instr.index 82 numsV (.int .i64 (k : Int))).run Try.prog w = .ok (.func (.func (numF k)) #[] #[]) w := by
  have hk : k = 1 ∨ k = 2 ∨ k = 3 ∨ k = 4 ∨ k = 5 ∨ k = 6 := by omega
  rcases hk with rfl | rfl | rfl | rfl | rfl | rfl <;> (show _ = _; kernel_rfl)
theorem num_enter (k : Nat) (h1 : 1 ≤ k) (h6 : k ≤ 6) (args : Array Value) (w : World) : (callFunc (numF k) args).run Try.prog w = .ok (.enter (numF k) args) w := by
  have hk : k = 1 ∨ k = 2 ∨ k = 3 ∨ k = 4 ∨ k = 5 ∨ k = 6 := by omega
  rcases hk with rfl | rfl | rfl | rfl | rfl | rfl <;> (show _ = _; kernel_rfl)
theorem num_any (k n i b c : Nat) (h1 : 1 ≤ k) (h6 : k ≤ 6) (hn : 0 < n) (hn2 : n ≤ 256) (hi : i < n) (hcf : c ≤ 3000000000000000000) (w : World) (hc : Cache w b c) :
    Calls Try.prog (numF k) #[.agg #[.map (some b), .int .i64 n], .int .i64 i] w (RetW (winO k n i) b (c + 16) w) := by
  have hk : k = 1 ∨ k = 2 ∨ k = 3 ∨ k = 4 ∨ k = 5 ∨ k = 6 := by omega
  rcases hk with rfl | rfl | rfl | rfl | rfl | rfl
  · exact rectW_any n i b c w hc
  · exact triangleW_any n i b c w hn2 hi hc
  · exact hannW_any n i b c w hn hn2 hi hc (by omega)
  · exact hammingW_any n i b c w hn hn2 hi hc (by omega)
  · exact sineW_any n i b c w hn hn2 hi hc (by omega)
  · exact blackmanW_any n i b c w hn hn2 hi hc hcf

theorem enter_WindowOf1 (args : Array Value) (w : World) : (callFunc 71 args).run Try.prog w = .ok (.enter 71 args) w := by kernel_rfl

set_option maxRecDepth 100000 in
set_option maxHeartbeats 4000000 in
theorem window_impl (k n : Nat) (w : World) (hk1 : 1 ≤ k) (hk6 : k ≤ 6) (h1 : 1 ≤ n) (h2 : n ≤ 256) :
    Calls Try.prog 43 #[.int .i64 k, .int .i64 n] w (FloatsTo n (winO k n) 0 w) := by
  have N := Lib.hid (fun w => show Calls Try.prog 70 #[] w fun e w' => e = .returned numsV ∧ Below w.heap.size w w' from numbers_any w)
  have hmm := @run_makeMap Try.prog
  have hix := num_index k hk1 hk6
  have HE := Lib.hid (num_enter k hk1 hk6)
  have HN := Lib.hid (fun i b c hi hcf w hc => num_any k n i b c hk1 hk6 h1 h2 hi hcf w hc)
  obtain ⟨F, hF⟩ : ∃ F, numF k = F := ⟨_, rfl⟩
  rw [hF] at hix HE HN
  have HC0 := Lib.hid (show Cache ((w.alloc (.map #[] 0)).alloc (.cells #[.map (some w.heap.size), .int .i64 n] 80)) w.heap.size 0 from (Cache.made w).alloc _)
  have HB0 := Lib.hid (show Below w.heap.size w ((w.alloc (.map #[] 0)).alloc (.cells #[.map (some w.heap.size), .int .i64 n] 80)) from ((Below.refl _ _).alloc (Nat.le_refl _) _).alloc (by simp) _)
  have HS0 := Lib.hid (show ((w.alloc (.map #[] 0)).alloc (.cells #[.map (some w.heap.size), .int .i64 n] 80)).heap.size = w.heap.size + 2 by simp)
  have g1 : decide ((k : Int) < 1) = false := by simp <;> omega
  have g2 : decide (6 < (k : Int)) = false := by simp <;> omega
  have g3 : decide ((n : Int) < 1) = false := by simp <;> omega
  have g4 : decide (256 < (n : Int)) = false := by simp <;> omega
  have g1' : decide (k < 1) = false := by simp <;> omega
  have g2' : decide (6 < k) = false := by simp <;> omega
  have g3' : decide (n < 1) = false := by simp <;> omega
  have g4' : decide (256 < n) = false := by simp <;> omega
  clear hF
  go_enter Try.func43, Try.ntmps43
  go_wp2_with fail
  refine (N.out _).mono ?_
  rintro e w2 ⟨rfl, hb⟩
  have HB := Lib.hid hb
  have HS2 := Lib.hid hb.size
  clear hb
  have hs2 : w.heap.size + 2 ≤ w2.heap.size := by have := HS2.out; rw [HS0.out] at this; exact this
  have hsz : (w2.alloc (.cells #[.func (.func F) #[] #[]] 81)).heap.size = w2.heap.size + 1 := by simp
  have hH : HasWin (w.heap.size + 1) w2.heap.size F w.heap.size n 0 (w2.alloc (.cells #[.func (.func F) #[] #[]] 81)) := by
    have hb2 := HB.out
    rw [HS0.out] at hb2
    have hc2 : Cache w2 w.heap.size 0 := HC0.out.kept (row := none) (gb_below hb2 (Nat.le_of_eq HS0.out)) (by simp)
    refine ⟨hc2.alloc _, by go_simp, ?_, ?_⟩
    · rw [((Below.refl w2.heap.size w2).alloc (Nat.le_refl _) _).cell (by show w.heap.size + 1 < _; omega), hb2.cell (by show w.heap.size + 1 < _; omega)]; go_simp
    · rw [((Below.refl w2.heap.size w2).alloc (Nat.le_refl _) _).cell (by show w.heap.size + 1 < _; omega), hb2.cell (by show w.heap.size + 1 < _; omega)]; go_simp
  have hG : Below w.heap.size w (w2.alloc (.cells #[.func (.func F) #[] #[]] 81)) := (below_step HB0.out HB.out HB0.out.size).alloc (by omega) _
  have HL : Hid (Calls Try.prog 61 #[.int .i64 n, .func (.func 71) #[] #[.pointer (some ⟨w2.heap.size, 0, none⟩), .pointer (some ⟨w.heap.size + 1, 0, none⟩)]] (w2.alloc (.cells #[.func (.func F) #[] #[]] 81)) fun e w3 => ∃ v fs, e = .returned v ∧ (Row w3 w.heap.size 26 v (flts fs) ∧ fs.length = n ∧ (∀ i, i < n → IsF (fs.getD i 0) (winO k n i)) ∧ Below w.heap.size w w3)) := by
    refine (listOf_f64 71 _ n (by omega) (winO k n) (fun i w' => HasWin (w.heap.size + 1) w2.heap.size F w.heap.size n (16 * i) w') (some w.heap.size) _ enter_WindowOf1
      (fun j hj => by cases hj; rw [hsz]; omega) (fun w' hg => hH.kept hg (by simp) (by simp) (by simp)) (fun i w1 w3 hs h hg => h.kept hg (by rw [hsz]; simp; omega) (by rw [hsz]; simp; omega) (by rw [hsz]; simp)) ?_).mono ?_
    · intro i w1 hi hs hI
      exact (win1_any k F n w.heap.size (16 * i) i (w.heap.size + 1) w2.heap.size w1 hi h2 HE.out (fun w' hc => HN.out i _ _ hi (by omega) w' hc) (by omega) (by omega) hI).mono (fun e w3 ⟨p, he, hp, hh, hg⟩ => ⟨p, he, hp, by rw [show 16 * (i + 1) = 16 * i + 16 by omega]; exact hh, hg⟩)
    · rintro e w3 ⟨v, fs, rfl, hr, hx, hgd, -, hg⟩
      exact ⟨v, fs, rfl, hr.base (by rw [hsz]; omega), hx, hgd, hG.grown hg (by rw [hsz]; omega) (fun b e => by cases e; omega)⟩
  clear hH hG HB0 HB HC0 HS0 HS2 HE HN hsz hs2
  go_wp2_with fail
  refine HL.out.mono ?_
  rintro e w3 ⟨v, fs, rfl, hx⟩
  have HX := Lib.hid hx
  clear hx
  go_wp2
  go_ret2
  exact ⟨v, fs, rfl, HX.out⟩

set_option maxRecDepth 100000 in
set_option maxHeartbeats 4000000 in
theorem windowOf_impl (kd n : Int) (w : World) :
    Calls Try.prog 43 #[.int .i64 kd, .int .i64 n] w (FloatsTo (winN kd n) (winO kd.toNat n.toNat) (winK kd n) w) := by
  by_cases h : winB kd n
  · have e1 : winN kd n = n.toNat := if_pos h
    have e2 : winK kd n = 0 := if_pos h
    obtain ⟨⟨a1, a2⟩, a3, a4⟩ := h
    obtain ⟨k, rfl⟩ : ∃ k : Nat, kd = k := ⟨kd.toNat, by omega⟩
    obtain ⟨m, rfl⟩ : ∃ m : Nat, n = m := ⟨n.toNat, by omega⟩
    rw [e1, e2, show ((m : Int)).toNat = m from rfl, show ((k : Int)).toNat = k from rfl]
    exact window_impl k m w (by omega) (by omega) (by omega) (by omega)
  · have e1 : winN kd n = 0 := if_neg h
    have e2 : winK kd n = 2 := if_neg h
    rw [e1, e2]
    clear e1 e2
    have nil : ∀ w, FloatsTo 0 (winO kd.toNat n.toNat) 2 w (.returned (.tuple #[.slice none 0 0, .int .i64 2])) w := fun w => ⟨_, [], rfl, World.ownsRow_nil _ _ _ _, rfl, fun i hi => by omega, Below.refl _ _⟩
    have NIL := Lib.hid nil
    clear nil
    by_cases b1 : kd < 1
    · have g1 : decide (kd < 1) = true := by simp <;> omega
      clear h b1
      go_enter Try.func43, Try.ntmps43
      go_wp2
      go_ret2
      exact NIL.out _
    · by_cases b2 : 6 < kd
      · have g1 : decide (kd < 1) = false := by simp <;> omega
        have g2 : decide (6 < kd) = true := by simp <;> omega
        clear h b1 b2
        go_enter Try.func43, Try.ntmps43
        go_wp2
        go_ret2
        exact NIL.out _
      · have g1 : decide (kd < 1) = false := by simp <;> omega
        have g2 : decide (6 < kd) = false := by simp <;> omega
        by_cases b3 : n < 1
        · have g3 : decide (n < 1) = true := by simp <;> omega
          clear h b1 b2 b3
          go_enter Try.func43, Try.ntmps43
          go_wp2
          go_ret2
          exact NIL.out _
        · have b4 : 256 < n := by
            have : ¬ ((1 ≤ kd ∧ kd ≤ 6) ∧ (1 ≤ n ∧ n ≤ 256)) := h
            omega
          have g3 : decide (n < 1) = false := by simp <;> omega
          have g4 : decide (256 < n) = true := by simp <;> omega
          clear h b1 b2 b3 b4
          go_enter Try.func43, Try.ntmps43
          go_wp2
          go_ret2
          exact NIL.out _

end Go.Proofs.Ytnhhmgnceicpkaa
