import Derived.Test.YtnhhmgnceicpkaaListF
/-
  BlockCount, GainOf, PowerOf of both.
-/
set_option linter.unusedVariables false
set_option linter.unusedSimpArgs false
namespace Go.Proofs.Ytnhhmgnceicpkaa
open Go.RowKit Flt Fast
attribute [local go_sem] run_fadd run_fsub run_fmul run_fquo run_cadd run_csub

theorem in_t (n lo hi : Int) (h : lo ≤ n ∧ n ≤ hi) (w : World) :
    Calls Try.prog 44 #[.int .i64 n, .int .i64 lo, .int .i64 hi] w fun e w' => e = .returned (.bool true) ∧ w' = w := by
  obtain ⟨h1, h2⟩ := h
  go_enter Try.func44, Try.ntmps44
  go_wp2
  go_ret
  exact ⟨rfl, rfl⟩
theorem in_f (n lo hi : Int) (h : ¬ (lo ≤ n ∧ n ≤ hi)) (w : World) :
    Calls Try.prog 44 #[.int .i64 n, .int .i64 lo, .int .i64 hi] w fun e w' => e = .returned (.bool false) ∧ w' = w := by
  by_cases h1 : lo ≤ n
  · have h2 : ¬ n ≤ hi := fun h' => h ⟨h1, h'⟩
    have g : decide (n ≤ hi) = false := decide_eq_false h2
    clear h
    go_enter Try.func44, Try.ntmps44
    go_wp2
    go_ret
    exact ⟨rfl, rfl⟩
  · have h2 : n < lo := by omega
    clear h h1
    go_enter Try.func44, Try.ntmps44
    go_wp2
    go_ret
    exact ⟨rfl, rfl⟩

/-- The number of blocks. -/
def cntR (a b c : Int) : Int := if a = 0 then 0 else if a ≤ b then 1 else 1 + (a - b + c - 1).tdiv c

theorem count_spec (a b c : Int) (ha : 0 ≤ a ∧ a ≤ 1000000) (hb : 1 ≤ b ∧ b ≤ 1000000) (hc : 1 ≤ c ∧ c ≤ b) (w : World) :
    Calls Try.prog 45 #[.int .i64 a, .int .i64 b, .int .i64 c] w fun e w' => e = .returned (.int .i64 (cntR a b c)) ∧ w' = w := by
  by_cases h0 : a = 0
  · subst h0
    unfold cntR
    simp only [if_true]
    go_enter Try.func45, Try.ntmps45
    go_wp2
    go_ret
    exact ⟨rfl, rfl⟩
  · by_cases h1 : a ≤ b
    · have e : cntR a b c = 1 := by unfold cntR; rw [if_neg h0, if_pos h1]
      rw [e]
      clear e
      go_enter Try.func45, Try.ntmps45
      go_wp2
      go_ret
      exact ⟨rfl, rfl⟩
    · have e : cntR a b c = 1 + (a - b + c - 1).tdiv c := by unfold cntR; rw [if_neg h0, if_neg h1]
      have hq0 : 0 ≤ (a - b + c - 1).tdiv c := Int.tdiv_nonneg (by omega) (by omega)
      have hq1 : (a - b + c - 1).tdiv c ≤ a - b + c - 1 := by rw [Int.tdiv_eq_ediv_of_nonneg (by omega)]; exact Int.ediv_le_self _ (by omega)
      obtain ⟨q, hq⟩ : ∃ q, (a - b + c - 1).tdiv c = q := ⟨_, rfl⟩
      have hq' : (a - b + c - 1) / c = q := by rw [← hq, Int.tdiv_eq_ediv_of_nonneg (by omega)]
      rw [e, hq]
      rw [hq] at hq0 hq1
      have hcz : ¬ c = 0 := by omega
      clear e
      go_enter Try.func45, Try.ntmps45
      go_wp2
      go_ret
      exact ⟨rfl, rfl⟩

/-- What BlockCount answers. -/
def bcK (a b c : Int) : Int := if (0 ≤ a ∧ a ≤ 256) ∧ (1 ≤ b ∧ b ≤ 256) ∧ (1 ≤ c ∧ c ≤ b) then 0 else 2
def bcR (a b c : Int) : Int := if (0 ≤ a ∧ a ≤ 256) ∧ (1 ≤ b ∧ b ≤ 256) ∧ (1 ≤ c ∧ c ≤ b) then cntR a b c else 0

theorem bc_spec (a b c : Int) (w : World) :
    Calls Try.prog 13 #[.int .i64 a, .int .i64 b, .int .i64 c] w fun e w' => e = .returned (.tuple #[.int .i64 (bcR a b c), .int .i64 (bcK a b c)]) ∧ w' = w := by
  by_cases h1 : 0 ≤ a ∧ a ≤ 256
  · by_cases h2 : 1 ≤ b ∧ b ≤ 256
    · by_cases h3 : 1 ≤ c ∧ c ≤ b
      · have e1 : bcR a b c = cntR a b c := by unfold bcR; rw [if_pos ⟨h1, h2, h3⟩]
        have e2 : bcK a b c = 0 := by unfold bcK; rw [if_pos ⟨h1, h2, h3⟩]
        rw [e1, e2]
        clear e1 e2
        have H1 := Lib.hid h1
        have H2 := Lib.hid h2
        have H3 := Lib.hid h3
        clear h1 h2 h3
        go_enter Try.func13, Try.ntmps13
        go_wp2_with fail
        refine (in_t a 0 256 H1.out w).mono ?_
        rintro e w' ⟨rfl, rfl⟩
        go_wp2_with fail
        refine (in_t b 1 256 H2.out _).mono ?_
        rintro e w' ⟨rfl, rfl⟩
        go_wp2_with fail
        refine (in_t c 1 b H3.out _).mono ?_
        rintro e w' ⟨rfl, rfl⟩
        go_wp2_with fail
        refine (count_spec a b c ⟨H1.out.1, by have := H1.out.2; omega⟩ ⟨H2.out.1, by have := H2.out.2; omega⟩ H3.out _).mono ?_
        rintro e w' ⟨rfl, rfl⟩
        go_wp2
        go_ret2
        exact ⟨rfl, rfl⟩
      · have e1 : bcR a b c = 0 := by unfold bcR; rw [if_neg (fun h => h3 h.2.2)]
        have e2 : bcK a b c = 2 := by unfold bcK; rw [if_neg (fun h => h3 h.2.2)]
        rw [e1, e2]
        clear e1 e2
        have H1 := Lib.hid h1
        have H2 := Lib.hid h2
        have H3 := Lib.hid h3
        clear h1 h2 h3
        go_enter Try.func13, Try.ntmps13
        go_wp2_with fail
        refine (in_t a 0 256 H1.out w).mono ?_
        rintro e w' ⟨rfl, rfl⟩
        go_wp2_with fail
        refine (in_t b 1 256 H2.out _).mono ?_
        rintro e w' ⟨rfl, rfl⟩
        go_wp2_with fail
        refine (in_f c 1 b H3.out _).mono ?_
        rintro e w' ⟨rfl, rfl⟩
        go_wp2
        go_ret2
        exact ⟨rfl, rfl⟩
    · have e1 : bcR a b c = 0 := by unfold bcR; rw [if_neg (fun h => h2 h.2.1)]
      have e2 : bcK a b c = 2 := by unfold bcK; rw [if_neg (fun h => h2 h.2.1)]
      rw [e1, e2]
      clear e1 e2
      have H1 := Lib.hid h1
      have H2 := Lib.hid h2
      clear h1 h2
      go_enter Try.func13, Try.ntmps13
      go_wp2_with fail
      refine (in_t a 0 256 H1.out w).mono ?_
      rintro e w' ⟨rfl, rfl⟩
      go_wp2_with fail
      refine (in_f b 1 256 H2.out _).mono ?_
      rintro e w' ⟨rfl, rfl⟩
      go_wp2
      go_ret2
      exact ⟨rfl, rfl⟩
  · have e1 : bcR a b c = 0 := by unfold bcR; rw [if_neg (fun h => h1 h.1)]
    have e2 : bcK a b c = 2 := by unfold bcK; rw [if_neg (fun h => h1 h.1)]
    rw [e1, e2]
    clear e1 e2
    have H1 := Lib.hid h1
    clear h1
    go_enter Try.func13, Try.ntmps13
    go_wp2_with fail
    refine (in_f a 0 256 H1.out w).mono ?_
    rintro e w' ⟨rfl, rfl⟩
    go_wp2
    go_ret2
    exact ⟨rfl, rfl⟩

/-- A cut as the program holds it. -/
def rightB (b c : Int) : Bool := decide ((1 ≤ c ∧ c ≤ b) ∧ b ≤ 256)

theorem right_impl (b c : Int) (w : World) :
    Calls Try.prog 46 #[.agg #[.int .i64 b, .int .i64 c]] w fun e w' => e = .returned (.bool (rightB b c)) ∧ Below w.heap.size w w' := by
  by_cases h1 : 1 ≤ c
  · by_cases h2 : c ≤ b
    · by_cases h3 : b ≤ 256
      · have e : rightB b c = true := decide_eq_true ⟨⟨h1, h2⟩, h3⟩
        rw [e]; clear e
        go_enter Try.func46, Try.ntmps46
        go_wp2
        go_ret
        exact ⟨rfl, (Below.refl _ _).alloc (Nat.le_refl _) _⟩
      · have e : rightB b c = false := decide_eq_false (fun h => h3 h.2)
        rw [e]; clear e
        go_enter Try.func46, Try.ntmps46
        go_wp2
        go_ret
        exact ⟨rfl, (Below.refl _ _).alloc (Nat.le_refl _) _⟩
    · have e : rightB b c = false := decide_eq_false (fun h => h2 h.1.2)
      rw [e]; clear e
      go_enter Try.func46, Try.ntmps46
      go_wp2
      go_ret
      exact ⟨rfl, (Below.refl _ _).alloc (Nat.le_refl _) _⟩
  · have e : rightB b c = false := decide_eq_false (fun h => h1 h.1.1)
    rw [e]; clear e
    go_enter Try.func46, Try.ntmps46
    go_wp2
    go_ret
    exact ⟨rfl, (Below.refl _ _).alloc (Nat.le_refl _) _⟩

theorem cntR_max {a b c : Int} (ha : 0 ≤ a ∧ a ≤ 1000000) (hb : 1 ≤ b ∧ b ≤ 1000000) (hc : 1 ≤ c ∧ c ≤ b) (h0 : a ≠ 0) : cntR a b c = ((if a - b ≥ 0 then a - b else 0) + c - 1).tdiv c + 1 := by
  unfold cntR
  rw [if_neg h0]
  by_cases h1 : a ≤ b
  · rw [if_pos h1]
    have : (if a - b ≥ 0 then a - b else 0) + c - 1 = c - 1 := by split <;> omega
    rw [this, Int.tdiv_eq_ediv_of_nonneg (by omega), Int.ediv_eq_zero_of_lt (by omega) (by omega)]; rfl
  · rw [if_neg h1, if_pos (by omega)]; omega

theorem count_impl (a b c : Int) (ha : 0 ≤ a ∧ a ≤ 1000000) (hb : 1 ≤ b ∧ b ≤ 1000000) (hc : 1 ≤ c ∧ c ≤ b) (w : World) :
    Calls Try.prog 47 #[.agg #[.int .i64 b, .int .i64 c], .int .i64 a] w fun e w' => e = .returned (.int .i64 (cntR a b c)) ∧ Below w.heap.size w w' := by
  by_cases h0 : a = 0
  · subst h0
    unfold cntR
    simp only [if_true]
    go_enter Try.func47, Try.ntmps47
    go_wp2
    go_ret
    exact ⟨rfl, (Below.refl _ _).alloc (Nat.le_refl _) _⟩
  · by_cases h1 : a ≤ b
    · have e : cntR a b c = 1 := by unfold cntR; rw [if_neg h0, if_pos h1]
      have hz1 : (c - 1) / c = 0 := Int.ediv_eq_zero_of_lt (by omega) (by omega)
      have hcz : ¬ c = 0 := by omega
      have w1 : IntKind.i64.wrap 1 = 1 := by decide
      have w2 : wrap64 1 = 1 := by unfold wrap64; omega
      rw [e]
      clear e
      by_cases hlt : a < b
      · go_enter Try.func47, Try.ntmps47
        go_wp2
        all_goals first | (exfalso; omega) | (go_ret; exact ⟨by rfl, (Below.refl _ _).alloc (Nat.le_refl _) _⟩)
      · have hz2 : (a - b + c - 1) / c = 0 := by rw [show a - b + c - 1 = c - 1 by omega]; exact hz1
        go_enter Try.func47, Try.ntmps47
        go_wp2
        all_goals first | (exfalso; omega) | (go_ret; exact ⟨by rfl, (Below.refl _ _).alloc (Nat.le_refl _) _⟩)
    · have e : cntR a b c = (a - b + c - 1).tdiv c + 1 := by unfold cntR; rw [if_neg h0, if_neg h1]; omega
      have hq0 : 0 ≤ (a - b + c - 1).tdiv c := Int.tdiv_nonneg (by omega) (by omega)
      have hq1 : (a - b + c - 1).tdiv c ≤ a - b + c - 1 := by rw [Int.tdiv_eq_ediv_of_nonneg (by omega)]; exact Int.ediv_le_self _ (by omega)
      obtain ⟨q, hq⟩ : ∃ q, (a - b + c - 1).tdiv c = q := ⟨_, rfl⟩
      have hq' : (a - b + c - 1) / c = q := by rw [← hq, Int.tdiv_eq_ediv_of_nonneg (by omega)]
      rw [e, hq]
      rw [hq] at hq0 hq1
      have hcz : ¬ c = 0 := by omega
      clear e
      go_enter Try.func47, Try.ntmps47
      go_wp2
      all_goals first | (exfalso; omega) | (go_ret; exact ⟨rfl, (Below.refl _ _).alloc (Nat.le_refl _) _⟩)

set_option maxRecDepth 100000 in
theorem bc_impl (a b c : Int) (w : World) :
    Calls Try.prog 14 #[.int .i64 a, .int .i64 b, .int .i64 c] w fun e w' => e = .returned (.tuple #[.int .i64 (bcR a b c), .int .i64 (bcK a b c)]) ∧ Below w.heap.size w w' := by
  have ha1 : Below w.heap.size w (w.alloc (.cells #[.int .i64 b, .int .i64 c] 56)) := (Below.refl _ _).alloc (Nat.le_refl _) _
  by_cases h1 : 0 ≤ a ∧ a ≤ 256
  · by_cases h23 : (1 ≤ b ∧ b ≤ 256) ∧ (1 ≤ c ∧ c ≤ b)
    · have e1 : bcR a b c = cntR a b c := by unfold bcR; rw [if_pos ⟨h1, h23⟩]
      have e2 : bcK a b c = 0 := by unfold bcK; rw [if_pos ⟨h1, h23⟩]
      have R : ∀ w, Calls Try.prog 46 #[.agg #[.int .i64 b, .int .i64 c]] w fun e w' => e = .returned (.bool true) ∧ Below w.heap.size w w' := fun w => by
        have := right_impl b c w
        rwa [show rightB b c = true from decide_eq_true ⟨h23.2, h23.1.2⟩] at this
      have C1 := Lib.hid (fun w => count_impl a b c ⟨h1.1, by omega⟩ ⟨h23.1.1, by omega⟩ h23.2 w)
      rw [e1, e2]
      obtain ⟨l1, l2⟩ := h1
      have R := Lib.hid R
      have HA := Lib.hid ha1
      clear e1 e2 h23 ha1
      go_enter Try.func14, Try.ntmps14
      go_wp2_with fail
      refine (R.out _).mono ?_
      rintro e w2 ⟨rfl, hb2⟩
      have c0 : w2.cell? ⟨w.heap.size, 0, none⟩ = some (.int .i64 b) := by rw [hb2.cell (by simp)]; go_simp
      have c1 : w2.cell? ⟨w.heap.size, 1, none⟩ = some (.int .i64 c) := by rw [hb2.cell (by simp)]; go_simp
      have HB2 := Lib.hid hb2
      clear hb2
      go_wp2_with fail
      refine (C1.out _).mono ?_
      rintro e w3 ⟨rfl, hb3⟩
      go_wp2
      go_ret2
      exact ⟨rfl, below_step (below_step HA.out HB2.out HA.out.size) hb3 (by have := HA.out.size; have := HB2.out.size; omega)⟩
    · have e1 : bcR a b c = 0 := by unfold bcR; rw [if_neg (fun h => h23 h.2)]
      have e2 : bcK a b c = 2 := by unfold bcK; rw [if_neg (fun h => h23 h.2)]
      have R : ∀ w, Calls Try.prog 46 #[.agg #[.int .i64 b, .int .i64 c]] w fun e w' => e = .returned (.bool false) ∧ Below w.heap.size w w' := fun w => by
        have := right_impl b c w
        rwa [show rightB b c = false from decide_eq_false (fun h => h23 ⟨⟨by omega, h.2⟩, h.1⟩)] at this
      rw [e1, e2]
      obtain ⟨l1, l2⟩ := h1
      have R := Lib.hid R
      have HA := Lib.hid ha1
      clear e1 e2 h23 ha1
      go_enter Try.func14, Try.ntmps14
      go_wp2_with fail
      refine (R.out _).mono ?_
      rintro e w2 ⟨rfl, hb2⟩
      go_wp2
      go_ret2
      exact ⟨rfl, below_step HA.out hb2 HA.out.size⟩
  · have e1 : bcR a b c = 0 := by unfold bcR; rw [if_neg (fun h => h1 h.1)]
    have e2 : bcK a b c = 2 := by unfold bcK; rw [if_neg (fun h => h1 h.1)]
    rw [e1, e2]
    have HA := Lib.hid ha1
    clear e1 e2 ha1
    by_cases h2 : a < 0
    · clear h1
      go_enter Try.func14, Try.ntmps14
      go_wp2
      go_ret2
      exact ⟨rfl, HA.out⟩
    · have h3 : 256 < a := by omega
      clear h1
      go_enter Try.func14, Try.ntmps14
      go_wp2
      go_ret2
      exact ⟨rfl, HA.out⟩

theorem total_any (c n h : Nat) (hc : c ≤ 64) (hn : n ≤ 256) (hh : h ≤ 256) (w : World) :
    Calls Try.prog 65 #[.int .i64 c, .int .i64 n, .int .i64 h] w fun e w' => e = .returned (.int .i64 (if c = 0 then 0 else ((c : Int) - 1) * h + n)) ∧ w' = w := by
  by_cases h0 : c = 0
  · subst h0
    simp only [if_true]
    go_enter Try.func65, Try.ntmps65
    go_wp2
    go_ret
    exact ⟨rfl, rfl⟩
  · rw [if_neg h0]
    obtain ⟨m, hm⟩ : ∃ m, (c - 1) * h = m := ⟨_, rfl⟩
    have hm2 : m ≤ 64 * 256 := by rw [← hm]; exact Nat.mul_le_mul (by omega) hh
    have e : ((c : Int) - 1) * (h : Int) = (m : Int) := by rw [← hm, show ((c : Int) - 1) = ((c - 1 : Nat) : Int) by omega]; simp
    rw [e]
    have hcI : ¬ (c : Int) = 0 := by omega
    go_enter Try.func65, Try.ntmps65
    go_wp2
    go_ret
    exact ⟨rfl, rfl⟩

theorem tooLong_any (c n h : Nat) (hc : c ≤ 64) (hn : n ≤ 256) (hh : h ≤ 256) (w : World) :
    Calls Try.prog 67 #[.agg #[.int .i64 n, .int .i64 h], .int .i64 c] w fun e w' => e = .returned (.bool (decide (256 < ((c : Int) - 1) * h + n))) ∧ Below w.heap.size w w' := by
  obtain ⟨m, hm⟩ : ∃ m : Int, ((c : Int) - 1) * h = m := ⟨_, rfl⟩
  have hm2 : -256 ≤ m ∧ m ≤ 64 * 256 := by
    rw [← hm]
    by_cases h0 : c = 0
    · subst h0; constructor <;> simp <;> omega
    · have e : ((c : Int) - 1) * (h : Int) = (((c - 1) * h : Nat) : Int) := by rw [show ((c : Int) - 1) = ((c - 1 : Nat) : Int) by omega]; simp
      have : (c - 1) * h ≤ 64 * 256 := Nat.mul_le_mul (by omega) hh
      rw [e]; omega
  obtain ⟨hm3, hm4⟩ := hm2
  rw [hm]
  have hcomm : (n : Int) + m = m + n := Int.add_comm _ _
  have hdec : decide (256 < m + (n : Int)) = decide (256 < (n : Int) + m) := by rw [hcomm]
  rw [hdec]
  clear hdec hcomm
  go_enter Try.func67, Try.ntmps67
  go_wp2
  go_ret
  exact ⟨rfl, (Below.refl _ _).alloc (Nat.le_refl _) _⟩

theorem exactBlockCount_law (a b c : Int) (w : World) (ha : (Lit.int .i64 a).wf = true) (hb : (Lit.int .i64 b).wf = true) (hc : (Lit.int .i64 c).wf = true) :
    Calls Try.prog 3 #[.int .i64 a, .int .i64 b, .int .i64 c] w fun e w' => e = .returned (.bool true) ∧ Below w.heap.size w w' := by
  have S := Lib.hid (bc_spec a b c)
  have I := Lib.hid (bc_impl a b c)
  obtain ⟨r, hr⟩ : ∃ r, bcR a b c = r := ⟨_, rfl⟩
  obtain ⟨k, hk⟩ : ∃ k, bcK a b c = k := ⟨_, rfl⟩
  rw [hr, hk] at S I
  clear hr hk ha hb hc
  go_enter Try.func3, Try.ntmps3
  go_wp2_with fail
  refine (S.out w).mono ?_
  rintro e w' ⟨rfl, rfl⟩
  go_wp2_with fail
  refine (I.out _).mono ?_
  rintro e w2 ⟨rfl, hb2⟩
  have HB := Lib.hid hb2
  clear hb2
  go_wp2
  go_ret
  exact ⟨rfl, HB.out⟩

end Go.Proofs.Ytnhhmgnceicpkaa
