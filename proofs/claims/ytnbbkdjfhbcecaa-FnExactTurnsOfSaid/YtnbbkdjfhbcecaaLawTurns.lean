import Derived.Test.YtnbbkdjfhbcecaaListC
/-
  The walk of the law on TurnsOf.
-/
set_option linter.unusedVariables false
set_option linter.unusedSimpArgs false
namespace Go.Proofs.Ytnbbkdjfhbcecaa
open Go.RowKit Flt Turn

theorem World.ownsRow_base {w : World} {B B' : Nat} {e : TypeId} {v : Value} {cs : List Value} (h : Row w B' e v cs) (hB : B ≤ B') : Row w B e v cs := by
  refine ⟨h.1, ?_⟩
  rcases h.2 with hn | ⟨g, cap, cur, rfl, hb, r⟩
  · exact .inl hn
  · exact .inr ⟨g, cap, cur, rfl, Nat.le_trans hB hb, r⟩

/-- What TurnsOf returns. -/
def TurnsR (n : Int) (w : World) (e : Ending) (w' : World) : Prop :=
  ∃ v xs c, e = .returned (.tuple #[v, .int .i64 c]) ∧ Row w' w.heap.size 31 v (cvals xs) ∧ Below w.heap.size w w' ∧
    ((∃ m : Nat, n = m ∧ 1 ≤ m ∧ m ≤ 1024 ∧ c = 0 ∧ xs.length = m ∧ ∀ i, i < m → IsC (xs.getD i (0, 0)) (turn m i)) ∨ (¬ (1 ≤ n ∧ n ≤ 1024) ∧ xs = [] ∧ c = 2))

set_option maxRecDepth 100000 in
set_option maxHeartbeats 4000000 in
theorem turnsOf_spec (n : Int) (h1 : -9223372036854775808 ≤ n) (w : World) :
    Calls Try.prog 26 #[.int .i64 n] w (TurnsR n w) := by
  obtain ⟨i0, hi, hz0, hz1, hz2⟩ := info_parts info_c128
  go_enter Try.func26, Try.ntmps26
  go_wp2_with fail
  refine (turnCode_any _ _ h1 w).mono ?_
  rintro e w' ⟨c, rfl, rfl, ⟨hc, rfl⟩ | ⟨hc, rfl⟩⟩
  · obtain ⟨a1, a2, -, -⟩ := hc
    obtain ⟨m, rfl⟩ : ∃ m : Nat, n = m := ⟨n.toNat, by omega⟩
    have b1 : 1 ≤ m := by omega
    have b2 : m ≤ 1024 := by omega
    clear a1 a2 h1
    go_wp2
    go_loopw [5, 6] (fun v i wr => ∃ (k : Nat) (xs : List C), i = .int .i64 k ∧ k ≤ m ∧ xs.length = k ∧ Row wr w'.heap.size 31 v (cvals xs) ∧ (∀ j, j < k → IsC (xs.getD j (0, 0)) (turn m j)) ∧ Below w'.heap.size w' wr) (fun _ i _ => m - (intOf i).toNat)
    case atStart => exact ⟨0, [], rfl, Nat.zero_le _, rfl, World.ownsRow_lit w' #[] 0 (Nat.le_refl _) (by unfold maxLen; omega) rfl, fun j hj => by omega, (Below.refl _ _).alloc (Nat.le_refl _) _⟩
    case round =>
      obtain ⟨k, xs, rfl, hk, hx, hrw, hgd, hb⟩ := hrel
      have HX := Lib.hid hx
      have HRW := Lib.hid hrw
      have HGD := Lib.hid hgd
      have HB := Lib.hid hb
      clear hx hrw hgd hb
      by_cases hlt : k < m
      · go_wp2_with fail
        refine (turn_spec4 m k (by omega) (by omega) (by omega) _).mono ?_
        rintro e w2 ⟨a, b, rfl, ha, hb, n2, rfl⟩
        have HF := Lib.hid (fill_good (p := (a, b)) HX.out HGD.out ⟨ha, hb⟩)
        clear ha hb
        have hl : (cvals xs).length = k := by rw [cvals_length, HX.out]
        go_wp2_with (at_builtin; refine wpList_append_own _ rfl _ _ 39 rfl w'.heap.size 31 i0 (.complex .f64 0 0) 1 16 Try.underlying39 hi hz0 hz1 hz2 rfl (by decide) _ _ _ rfl ((HRW.out.drewN n2).alloc _) ⟨_, 0, none⟩ 1 1 [.complex .f64 a b] rfl rfl (cell_one_new _ _ _) (by intro u hu; simp at hu; subst hu; rfl) (by rw [hl]; simp only [maxLen]; omega) (by rw [hl]; omega) (by have := HB.out.size; simp; omega) ?_)
        intro v' w1 hown' hgrow _
        have hlt' := ((HRW.out.drewN n2).alloc (.cells #[.complex .f64 a b] 31)).lt
        have hb' : Below w'.heap.size w' w1 := ((below_draws HB.out n2).alloc HB.out.size _).grown hgrow (by have := HB.out.size; simp; omega) (fun b e => (hlt' b e).1)
        have HO' : Hid (Row w1 w'.heap.size 31 v' (cvals (xs ++ [(a, b)]))) := by
          show w1.ownsRow _ _ _ _ _ _
          rw [cvals_snoc, List.length_append, hl]
          (try rw [hl] at hown')
          exact hown'
        have HB' := Lib.hid hb'
        clear hown' hgrow hlt' hb' HRW HB hl
        go_wp2
        go_roundw
        case rel => first | exact ⟨k + 1, xs ++ [(a, b)], by go_num, by omega, HF.out.1, HO'.out, HF.out.2, HB'.out⟩ | ((repeat apply Exists.intro); refine ⟨?_, rfl⟩; exact ⟨k + 1, xs ++ [(a, b)], by go_num, by omega, HF.out.1, HO'.out, HF.out.2, HB'.out⟩)
        case measure => simp [intOf]; omega
      · have e : k = m := by omega
        subst e
        go_wp2
        go_ret2
        exact ⟨_, xs, 0, rfl, HRW.out, HB.out, .inl ⟨k, rfl, b1, b2, rfl, HX.out, HGD.out⟩⟩
  · have hn : ¬ (1 ≤ n ∧ n ≤ 1024) := fun h => hc ⟨h.1, h.2, Int.le_refl _, by omega⟩
    have HN := Lib.hid hn
    clear hn hc
    go_wp2
    go_ret2
    exact ⟨_, [], 2, rfl, World.ownsRow_lit w' #[] 0 (Nat.le_refl _) (by unfold maxLen; omega) rfl, (Below.refl _ _).alloc (Nat.le_refl _) _, .inr ⟨HN.out, rfl, rfl⟩⟩

theorem enter_TurnsOf1 (args : Array Value) (w : World) : (callFunc 80 args).run Try.prog w = .ok (.enter 80 args) w := by kernel_rfl

/-- What the closure finds: its cache and the number. -/
def HasTurns (B0 B1 B2 n c : Nat) (w : World) : Prop := Cache w B1 c ∧ w.cell? ⟨B2, 0, none⟩ = some (.map (some B1)) ∧ w.cell? ⟨B0, 0, none⟩ = some (.int .i64 n)

theorem HasTurns.kept {B0 B1 B2 n c : Nat} {w w' : World} {row : Option Nat} (h : HasTurns B0 B1 B2 n c w) (hg : w.grownBy w' row) (h0 : some B0 ≠ row) (h1 : some B1 ≠ row) (h2 : some B2 ≠ row) : HasTurns B0 B1 B2 n c w' :=
  ⟨h.1.kept hg h1, hg.cell h.2.1 h2, hg.cell h.2.2 h0⟩

set_option maxRecDepth 100000 in
theorem turnsOf1_any (B0 B1 B2 n k c : Nat) (w : World) (hn : 0 < n) (hn2 : n ≤ 100000) (hk : k ≤ n) (hc : c ≤ 4000000000000000000) (h02 : B0 ≠ B1) (h12 : B2 ≠ B1) (h : HasTurns B0 B1 B2 n c w) :
    Calls Try.prog 80 #[.int .i64 k, .pointer (some ⟨B2, 0, none⟩), .pointer (some ⟨B0, 0, none⟩)] w fun e w2 => ∃ p : C, e = .returned (cval p) ∧ IsC p (turn n k) ∧ HasTurns B0 B1 B2 n (c + 8) w2 ∧ w.grownBy w2 (some B1) := by
  obtain ⟨h1, h2, h3⟩ := h
  have T := turn_cache n k B1 c w hn hn2 hk h1 hc
  have H2 := Lib.hid h2
  have H3 := Lib.hid h3
  clear h1
  go_enter Try.func80, Try.ntmps80
  go_wp2_with fail
  refine T.mono ?_
  rintro e w2 ⟨a, b, rfl, ha, hb, hc2, hg2⟩
  have HR : Hid (IsC (a, b) (turn n k)) := ⟨ha, hb⟩
  have HH : Hid (HasTurns B0 B1 B2 n (c + 8) w2) := ⟨hc2, hg2.cell H2.out (by simpa using h12), hg2.cell H3.out (by simpa using h02)⟩
  have HG := Lib.hid hg2
  clear ha hb hc2 hg2 T h2 h3
  go_wp2
  go_ret
  exact ⟨(a, b), rfl, HR.out, HH.out, HG.out⟩

set_option maxRecDepth 100000 in
set_option maxHeartbeats 4000000 in
theorem turnsOf_impl (n : Int) (w : World) :
    Calls Try.prog 27 #[.int .i64 n] w (TurnsR n w) := by
  by_cases a1 : 1 ≤ n
  · by_cases a2 : n ≤ 1024
    · obtain ⟨m, rfl⟩ : ∃ m : Nat, n = m := ⟨n.toNat, by omega⟩
      have b1 : 1 ≤ m := by omega
      have b2 : m ≤ 1024 := by omega
      have g1 : decide (1 ≤ (m : Int)) = true := by simp <;> omega
      have g2 : decide ((m : Int) ≤ 1024) = true := by simp <;> omega
      have hmm := @run_makeMap Try.prog
      clear a1 a2
      go_enter Try.func27, Try.ntmps27
      go_wp2_with (go_at_call 70; go_in)
      have hH : HasTurns w.heap.size (w.heap.size + 1) (w.heap.size + 1 + 1) m 0 (((w.alloc (.cells #[.int .i64 m] 2)).alloc (.map #[] 0)).alloc (.cells #[.map (some (w.heap.size + 1))] 83)) := by
        refine ⟨?_, by go_simp, by go_simp⟩
        have := (Cache.made (w.alloc (.cells #[.int .i64 m] 2))).alloc (.cells #[.map (some (w.heap.size + 1))] 83)
        simpa using this
      have hG : Below w.heap.size w (((w.alloc (.cells #[.int .i64 m] 2)).alloc (.map #[] 0)).alloc (.cells #[.map (some (w.heap.size + 1))] 83)) :=
        (((Below.refl _ _).alloc (Nat.le_refl _) _).alloc (by simp) _).alloc (by simp; omega) _
      have hsz : (((w.alloc (.cells #[.int .i64 m] 2)).alloc (.map #[] 0)).alloc (.cells #[.map (some (w.heap.size + 1))] 83)).heap.size = w.heap.size + 3 := by simp
      generalize (((w.alloc (.cells #[.int .i64 m] 2)).alloc (.map #[] 0)).alloc (.cells #[.map (some (w.heap.size + 1))] 83)) = W at hH hG hsz ⊢
      refine (listOf_c128 80 _ m (by omega) (turn m) (fun i w' => HasTurns w.heap.size (w.heap.size + 1) (w.heap.size + 1 + 1) m (8 * i) w') (some (w.heap.size + 1)) W enter_TurnsOf1
        (fun k hk => by cases hk; omega) (fun w' hg => hH.kept hg (by simp) (by simp) (by simp)) (fun i w1 w2 hs h hg => h.kept hg (by simp; omega) (by simp; omega) (by simp; omega)) ?_).mono ?_
      · intro i w1 hi hs hI
        exact (turnsOf1_any _ _ _ m i (8 * i) w1 (by omega) (by omega) (by omega) (by omega) (by omega) (by omega) hI).mono (fun e w2 ⟨p, he, hp, hh, hg⟩ => ⟨p, he, hp, by rw [show 8 * (i + 1) = 8 * i + 8 by omega]; exact hh, hg⟩)
      · rintro e w2 ⟨v, xs, rfl, hr, hx, hgd, -, hg⟩
        have HR : Hid (Row w2 w.heap.size 31 v (cvals xs)) := World.ownsRow_base hr (by omega)
        have HX := Lib.hid hx
        have HGD := Lib.hid hgd
        have HB := Lib.hid (hG.grown hg (by omega) (fun b e => by cases e; omega))
        clear hr hx hgd hg hH hG hsz hmm
        go_wp2
        go_ret2
        exact ⟨_, xs, 0, rfl, HR.out, HB.out, .inl ⟨m, rfl, b1, b2, rfl, HX.out, HGD.out⟩⟩
    · have hn : ¬ (1 ≤ n ∧ n ≤ 1024) := by omega
      have HN := Lib.hid hn
      have g1 : decide (1 ≤ n) = true := by simp <;> omega
      have g2 : decide (n ≤ 1024) = false := by simp <;> omega
      clear hn a1 a2
      go_enter Try.func27, Try.ntmps27
      go_wp2_with (go_at_call 70; go_in)
      go_ret2
      exact ⟨_, [], 2, rfl, World.ownsRow_nil _ _ _ _, (Below.refl _ _).alloc (Nat.le_refl _) _, .inr ⟨HN.out, rfl, rfl⟩⟩
  · have hn : ¬ (1 ≤ n ∧ n ≤ 1024) := by omega
    have HN := Lib.hid hn
    have g1 : decide (1 ≤ n) = false := by simp <;> omega
    clear hn a1
    go_enter Try.func27, Try.ntmps27
    go_wp2_with (go_at_call 70; go_in)
    go_ret2
    exact ⟨_, [], 2, rfl, World.ownsRow_nil _ _ _ _, (Below.refl _ _).alloc (Nat.le_refl _) _, .inr ⟨HN.out, rfl, rfl⟩⟩

/-- TurnsOf of both is one, up to NaNs. -/
theorem turnsR_same {n c c' : Int} {xs ys : List C}
    (h : (∃ m : Nat, n = m ∧ 1 ≤ m ∧ m ≤ 1024 ∧ c = 0 ∧ xs.length = m ∧ ∀ i, i < m → IsC (xs.getD i (0, 0)) (turn m i)) ∨ (¬ (1 ≤ n ∧ n ≤ 1024) ∧ xs = [] ∧ c = 2))
    (h' : (∃ m : Nat, n = m ∧ 1 ≤ m ∧ m ≤ 1024 ∧ c' = 0 ∧ ys.length = m ∧ ∀ i, i < m → IsC (ys.getD i (0, 0)) (turn m i)) ∨ (¬ (1 ≤ n ∧ n ≤ 1024) ∧ ys = [] ∧ c' = 2)) :
    c = c' ∧ xs.length = ys.length ∧ (∀ j, j < ys.length → ∃ z, IsC (ys.getD j (0, 0)) z ∧ IsC (xs.getD j (0, 0)) z) ∧ ys.length ≤ 1024 := by
  rcases h with ⟨m, rfl, h1, h2, rfl, hl, hg⟩ | ⟨hn, rfl, rfl⟩
  · rcases h' with ⟨m', e, _, _, rfl, hl', hg'⟩ | ⟨hn', _⟩
    · obtain rfl : m = m' := by omega
      exact ⟨rfl, by omega, fun j hj => ⟨turn m j, hg' j (by omega), hg j (by omega)⟩, by omega⟩
    · omega
  · rcases h' with ⟨m', e, _, _, _⟩ | ⟨_, rfl, rfl⟩
    · omega
    · exact ⟨rfl, rfl, fun j hj => by simp at hj, by simp⟩

set_option maxRecDepth 100000 in
set_option maxHeartbeats 4000000 in
theorem exactTurns_law (n : Int) (w : World) (hn : (Lit.int .i64 n).wf = true) :
    Calls Try.prog 7 #[.int .i64 n] w fun e w' => e = .returned (.bool true) ∧ Below w.heap.size w w' := by
  have h1 : -9223372036854775808 ≤ n := by
    have := hn
    simp only [Lit.wf, Bool.and_eq_true, decide_eq_true_eq] at this
    have e : IntKind.i64.min = -9223372036854775808 := by decide
    rw [e] at this
    exact this.1
  clear hn
  go_enter Try.func7, Try.ntmps7
  go_wp2_with fail
  refine (turnsOf_spec n h1 w).mono ?_
  rintro e w1 ⟨v0, xs, c, rfl, hr0, hb0, hd0⟩
  go_wp2_with fail
  refine (turnsOf_impl n w1).mono ?_
  rintro e w2 ⟨v1, ys, c', rfl, hr1, hb1, hd1⟩
  obtain ⟨rfl, hl, hsame, hlen⟩ := turnsR_same hd0 hd1
  have hs1 := hb0.size
  have hne : v0.ownBlock = none ∨ v0.ownBlock ≠ v1.ownBlock := by
    cases h0 : v0.ownBlock with
    | none => exact .inl rfl
    | some b =>
      refine .inr fun e => ?_
      have a := (hr0.lt b h0).2
      have b' := (hr1.lt b e.symm).1
      omega
  have R0 := Lib.hid (hr0.below hb1 (fun k hk => (hr0.lt k hk).2))
  have R1 := Lib.hid hr1
  have HB := Lib.hid (hb0.trans (hb1.mono hb0.size))
  have HN := Lib.hid hne
  have HD := Lib.hid hd0
  have HL := Lib.hid hl
  have HS := Lib.hid hsame
  clear hr0 hr1 hb0 hb1 hd0 hd1 hl hsame hne
  go_wp2_with fail
  refine (eqC128_any R1.out.reads R0.out.reads HL.out.symm HS.out).mono ?_
  rintro e w' ⟨rfl, n1, rfl⟩
  go_wp2_with fail
  refine (markC128_any (m := 1) (R1.out.drewN n1) (by omega) (by rw [cvals_length]; omega)).mono ?_
  rintro e w3 ⟨rfl, hr3, hg3⟩
  rw [cvals_length] at hr3
  obtain ⟨L, hL⟩ : ∃ L, ys.length = L := ⟨_, rfl⟩
  simp only [cvals_length]
  rw [hL] at hr3 hlen ⊢
  have R3 := Lib.hid hr3
  have hr0 : Row w3 w.heap.size 31 v0 (cvals xs) := (R0.out.drewN n1).kept hg3 HN.out
  have hb3 : Below w.heap.size w w3 := (below_draws HB.out n1).grown hg3 HB.out.size (fun b e => by have := (R1.out.lt b e).1; omega)
  clear hg3 hr3
  go_wp2_with fail
  refine (heldC128_any (m := 1) (n := L) R3.out.reads (by omega) (by omega)).mono ?_
  rintro e w' ⟨rfl, rfl⟩
  obtain ⟨M, hM⟩ : ∃ M, (1 + L : Nat) = M := ⟨_, rfl⟩
  rw [hM]
  have hMp : 0 < M := by omega
  go_wp2_with fail
  refine (turnsOf_impl n w').mono ?_
  rintro e w4 ⟨v2, zs, c', rfl, hr2, hb4, hd2⟩
  obtain ⟨rfl, hl2, hsame2, hlen2⟩ := turnsR_same HD.out hd2
  have hr0' : Row w4 w.heap.size 31 v0 (cvals xs) := hr0.below hb4 (fun k hk => (hr0.lt k hk).2)
  have hr1' : Row w4 w1.heap.size 31 v1 (cmarks 1 L) := R3.out.below hb4 (fun k hk => (R3.out.lt k hk).2)
  have HB4 := Lib.hid (hb3.trans (hb4.mono hb3.size))
  have R0' := Lib.hid hr0'
  have R1' := Lib.hid hr1'
  have R2 := Lib.hid hr2
  have HL2 := Lib.hid hl2
  have HS2 := Lib.hid hsame2
  clear hr0 hr0' hr1' hr2 hb3 hb4 hd2 hl2 hsame2 R0 R1 R3 HB HN HD HL HS
  go_wp2_with fail
  refine (eqC128_any R2.out.reads R0'.out.reads HL2.out.symm HS2.out).mono ?_
  rintro e w' ⟨rfl, n2, rfl⟩
  go_wp2_with fail
  refine (heldC128_any (m := 1) (n := L) (R1'.out.drewN n2).reads (by omega) (by omega)).mono ?_
  rintro e w' ⟨rfl, rfl⟩
  rw [hM]
  go_wp2
  go_ret
  exact ⟨rfl, below_draws HB4.out n2⟩

end Go.Proofs.Ytnbbkdjfhbcecaa
