import Derived.Test.YtcoieclecmefiaaListF
/-
  BlockCount, GainOf, PowerOf of both.
-/
set_option linter.unusedVariables false
set_option linter.unusedSimpArgs false
namespace Go.Proofs.Ytcoieclecmefiaa
open Go.RowKit Flt Fast
attribute [local go_sem] run_fadd run_fsub run_fmul run_fquo run_cadd run_csub

theorem in_t (n lo hi : Int) (h : lo ≤ n ∧ n ≤ hi) (w : World) :
    Calls Try.prog 74 #[.int .i64 n, .int .i64 lo, .int .i64 hi] w fun e w' => e = .returned (.bool true) ∧ w' = w := by
  obtain ⟨h1, h2⟩ := h
  go_enter Try.func74, Try.ntmps74
  go_wp2
  go_ret
  exact ⟨rfl, rfl⟩
theorem in_f (n lo hi : Int) (h : ¬ (lo ≤ n ∧ n ≤ hi)) (w : World) :
    Calls Try.prog 74 #[.int .i64 n, .int .i64 lo, .int .i64 hi] w fun e w' => e = .returned (.bool false) ∧ w' = w := by
  by_cases h1 : lo ≤ n
  · have h2 : ¬ n ≤ hi := fun h' => h ⟨h1, h'⟩
    have g : decide (n ≤ hi) = false := decide_eq_false h2
    clear h
    go_enter Try.func74, Try.ntmps74
    go_wp2
    go_ret
    exact ⟨rfl, rfl⟩
  · have h2 : n < lo := by omega
    clear h h1
    go_enter Try.func74, Try.ntmps74
    go_wp2
    go_ret
    exact ⟨rfl, rfl⟩

/-- The number of blocks. -/
def cntR (a b c : Int) : Int := if a = 0 then 0 else if a ≤ b then 1 else 1 + (a - b + c - 1).tdiv c

theorem count_spec (a b c : Int) (ha : 0 ≤ a ∧ a ≤ 1000000) (hb : 1 ≤ b ∧ b ≤ 1000000) (hc : 1 ≤ c ∧ c ≤ b) (w : World) :
    Calls Try.prog 107 #[.int .i64 a, .int .i64 b, .int .i64 c] w fun e w' => e = .returned (.int .i64 (cntR a b c)) ∧ w' = w := by
  by_cases h0 : a = 0
  · subst h0
    unfold cntR
    simp only [if_true]
    go_enter Try.func107, Try.ntmps107
    go_wp2
    go_ret
    exact ⟨rfl, rfl⟩
  · by_cases h1 : a ≤ b
    · have e : cntR a b c = 1 := by unfold cntR; rw [if_neg h0, if_pos h1]
      rw [e]
      clear e
      go_enter Try.func107, Try.ntmps107
      go_wp2
      go_ret
      exact ⟨rfl, rfl⟩
    · have e : cntR a b c = 1 + (a - b + c - 1).tdiv c := by unfold cntR; rw [if_neg h0, if_neg h1]
      have hq0 : 0 ≤ (a - b + c - 1).tdiv c := Int.tdiv_nonneg (by omega) (by omega)
      have hq1 : (a - b + c - 1).tdiv c ≤ a - b + c - 1 := by rw [Int.tdiv_eq_ediv_of_nonneg (by omega)]; exact Int.ediv_le_self _ (by omega)
      obtain ⟨q, hq⟩ : ∃ q, (a - b + c - 1).tdiv c = q := ⟨_, rfl⟩
      have hq' : (a - b + c - 1) / c = q := by rw [← hq, Int.tdiv_eq_ediv_of_nonneg (by omega)]
      rw [e, hq]
      rw [hq] at hq0 hq1
      have hcz : ¬ c = 0 := by omega
      clear e
      go_enter Try.func107, Try.ntmps107
      go_wp2
      go_ret
      exact ⟨rfl, rfl⟩

/-- What BlockCount answers. -/
def bcK (a b c : Int) : Int := if (0 ≤ a ∧ a ≤ 256) ∧ (1 ≤ b ∧ b ≤ 256) ∧ (1 ≤ c ∧ c ≤ b) then 0 else 2
def bcR (a b c : Int) : Int := if (0 ≤ a ∧ a ≤ 256) ∧ (1 ≤ b ∧ b ≤ 256) ∧ (1 ≤ c ∧ c ≤ b) then cntR a b c else 0

/-- A cut as the program holds it. -/
def rightB (b c : Int) : Bool := decide ((1 ≤ c ∧ c ≤ b) ∧ b ≤ 256)

theorem right_impl (b c : Int) (w : World) :
    Calls Try.prog 79 #[.agg #[.int .i64 b, .int .i64 c]] w fun e w' => e = .returned (.bool (rightB b c)) ∧ Below w.heap.size w w' := by
  by_cases h1 : 1 ≤ c
  · by_cases h2 : c ≤ b
    · by_cases h3 : b ≤ 256
      · have e : rightB b c = true := decide_eq_true ⟨⟨h1, h2⟩, h3⟩
        rw [e]; clear e
        go_enter Try.func79, Try.ntmps79
        go_wp2
        go_ret
        exact ⟨rfl, (Below.refl _ _).alloc (Nat.le_refl _) _⟩
      · have e : rightB b c = false := decide_eq_false (fun h => h3 h.2)
        rw [e]; clear e
        go_enter Try.func79, Try.ntmps79
        go_wp2
        go_ret
        exact ⟨rfl, (Below.refl _ _).alloc (Nat.le_refl _) _⟩
    · have e : rightB b c = false := decide_eq_false (fun h => h2 h.1.2)
      rw [e]; clear e
      go_enter Try.func79, Try.ntmps79
      go_wp2
      go_ret
      exact ⟨rfl, (Below.refl _ _).alloc (Nat.le_refl _) _⟩
  · have e : rightB b c = false := decide_eq_false (fun h => h1 h.1.1)
    rw [e]; clear e
    go_enter Try.func79, Try.ntmps79
    go_wp2
    go_ret
    exact ⟨rfl, (Below.refl _ _).alloc (Nat.le_refl _) _⟩

theorem cntR_max {a b c : Int} (ha : 0 ≤ a ∧ a ≤ 1000000) (hb : 1 ≤ b ∧ b ≤ 1000000) (hc : 1 ≤ c ∧ c ≤ b) (h0 : a ≠ 0) : cntR a b c = ((if a - b ≥ 0 then a - b else 0) + c - 1).tdiv c + 1 := by
  unfold cntR
  rw [if_neg h0]
  by_cases h1 : a ≤ b
  · rw [if_pos h1]
    have : (if a - b ≥ 0 then a - b else 0) + c - 1 = c - 1 := by split <;> omega
    rw [this, Int.tdiv_eq_ediv_of_nonneg (by omega), Int.ediv_eq_zero_of_lt (by omega) (by omega)]; rfl
  · rw [if_neg h1, if_pos (by omega)]; omega

theorem count_impl (a b c : Int) (ha : 0 ≤ a ∧ a ≤ 1000000) (hb : 1 ≤ b ∧ b ≤ 1000000) (hc : 1 ≤ c ∧ c ≤ b) (w : World) :
    Calls Try.prog 80 #[.agg #[.int .i64 b, .int .i64 c], .int .i64 a] w fun e w' => e = .returned (.int .i64 (cntR a b c)) ∧ Below w.heap.size w w' := by
  by_cases h0 : a = 0
  · subst h0
    unfold cntR
    simp only [if_true]
    go_enter Try.func80, Try.ntmps80
    go_wp2
    go_ret
    exact ⟨rfl, (Below.refl _ _).alloc (Nat.le_refl _) _⟩
  · by_cases h1 : a ≤ b
    · have e : cntR a b c = 1 := by unfold cntR; rw [if_neg h0, if_pos h1]
      have hz1 : (c - 1) / c = 0 := Int.ediv_eq_zero_of_lt (by omega) (by omega)
      have hcz : ¬ c = 0 := by omega
      have w1 : IntKind.i64.wrap 1 = 1 := by decide
      have w2 : wrap64 1 = 1 := by unfold wrap64; omega
      rw [e]
      clear e
      by_cases hlt : a < b
      · go_enter Try.func80, Try.ntmps80
        go_wp2
        all_goals first | (exfalso; omega) | (go_ret; exact ⟨by rfl, (Below.refl _ _).alloc (Nat.le_refl _) _⟩)
      · have hz2 : (a - b + c - 1) / c = 0 := by rw [show a - b + c - 1 = c - 1 by omega]; exact hz1
        go_enter Try.func80, Try.ntmps80
        go_wp2
        all_goals first | (exfalso; omega) | (go_ret; exact ⟨by rfl, (Below.refl _ _).alloc (Nat.le_refl _) _⟩)
    · have e : cntR a b c = (a - b + c - 1).tdiv c + 1 := by unfold cntR; rw [if_neg h0, if_neg h1]; omega
      have hq0 : 0 ≤ (a - b + c - 1).tdiv c := Int.tdiv_nonneg (by omega) (by omega)
      have hq1 : (a - b + c - 1).tdiv c ≤ a - b + c - 1 := by rw [Int.tdiv_eq_ediv_of_nonneg (by omega)]; exact Int.ediv_le_self _ (by omega)
      obtain ⟨q, hq⟩ : ∃ q, (a - b + c - 1).tdiv c = q := ⟨_, rfl⟩
      have hq' : (a - b + c - 1) / c = q := by rw [← hq, Int.tdiv_eq_ediv_of_nonneg (by omega)]
      rw [e, hq]
      rw [hq] at hq0 hq1
      have hcz : ¬ c = 0 := by omega
      clear e
      go_enter Try.func80, Try.ntmps80
      go_wp2
      all_goals first | (exfalso; omega) | (go_ret; exact ⟨rfl, (Below.refl _ _).alloc (Nat.le_refl _) _⟩)

set_option maxRecDepth 100000 in
theorem bc_impl (a b c : Int) (w : World) :
    Calls Try.prog 35 #[.int .i64 a, .int .i64 b, .int .i64 c] w fun e w' => e = .returned (.tuple #[.int .i64 (bcR a b c), .int .i64 (bcK a b c)]) ∧ Below w.heap.size w w' := by
  have ha1 : Below w.heap.size w (w.alloc (.cells #[.int .i64 b, .int .i64 c] 90)) := (Below.refl _ _).alloc (Nat.le_refl _) _
  by_cases h1 : 0 ≤ a ∧ a ≤ 256
  · by_cases h23 : (1 ≤ b ∧ b ≤ 256) ∧ (1 ≤ c ∧ c ≤ b)
    · have e1 : bcR a b c = cntR a b c := by unfold bcR; rw [if_pos ⟨h1, h23⟩]
      have e2 : bcK a b c = 0 := by unfold bcK; rw [if_pos ⟨h1, h23⟩]
      have R : ∀ w, Calls Try.prog 79 #[.agg #[.int .i64 b, .int .i64 c]] w fun e w' => e = .returned (.bool true) ∧ Below w.heap.size w w' := fun w => by
        have := right_impl b c w
        rwa [show rightB b c = true from decide_eq_true ⟨h23.2, h23.1.2⟩] at this
      have C1 := Lib.hid (fun w => count_impl a b c ⟨h1.1, by omega⟩ ⟨h23.1.1, by omega⟩ h23.2 w)
      rw [e1, e2]
      obtain ⟨l1, l2⟩ := h1
      have R := Lib.hid R
      have HA := Lib.hid ha1
      clear e1 e2 h23 ha1
      go_enter Try.func35, Try.ntmps35
      go_wp2_with fail
      refine (R.out _).mono ?_
      rintro e w2 ⟨rfl, hb2⟩
      have c0 : w2.cell? ⟨w.heap.size, 0, none⟩ = some (.int .i64 b) := by rw [hb2.cell (by simp)]; go_simp
      have c1 : w2.cell? ⟨w.heap.size, 1, none⟩ = some (.int .i64 c) := by rw [hb2.cell (by simp)]; go_simp
      have HB2 := Lib.hid hb2
      clear hb2
      go_wp2_with fail
      refine (C1.out _).mono ?_
      rintro e w3 ⟨rfl, hb3⟩
      go_wp2
      go_ret2
      exact ⟨rfl, below_step (below_step HA.out HB2.out HA.out.size) hb3 (by have := HA.out.size; have := HB2.out.size; omega)⟩
    · have e1 : bcR a b c = 0 := by unfold bcR; rw [if_neg (fun h => h23 h.2)]
      have e2 : bcK a b c = 2 := by unfold bcK; rw [if_neg (fun h => h23 h.2)]
      have R : ∀ w, Calls Try.prog 79 #[.agg #[.int .i64 b, .int .i64 c]] w fun e w' => e = .returned (.bool false) ∧ Below w.heap.size w w' := fun w => by
        have := right_impl b c w
        rwa [show rightB b c = false from decide_eq_false (fun h => h23 ⟨⟨by omega, h.2⟩, h.1⟩)] at this
      rw [e1, e2]
      obtain ⟨l1, l2⟩ := h1
      have R := Lib.hid R
      have HA := Lib.hid ha1
      clear e1 e2 h23 ha1
      go_enter Try.func35, Try.ntmps35
      go_wp2_with fail
      refine (R.out _).mono ?_
      rintro e w2 ⟨rfl, hb2⟩
      go_wp2
      go_ret2
      exact ⟨rfl, below_step HA.out hb2 HA.out.size⟩
  · have e1 : bcR a b c = 0 := by unfold bcR; rw [if_neg (fun h => h1 h.1)]
    have e2 : bcK a b c = 2 := by unfold bcK; rw [if_neg (fun h => h1 h.1)]
    rw [e1, e2]
    have HA := Lib.hid ha1
    clear e1 e2 ha1
    by_cases h2 : a < 0
    · clear h1
      go_enter Try.func35, Try.ntmps35
      go_wp2
      go_ret2
      exact ⟨rfl, HA.out⟩
    · have h3 : 256 < a := by omega
      clear h1
      go_enter Try.func35, Try.ntmps35
      go_wp2
      go_ret2
      exact ⟨rfl, HA.out⟩

theorem total_any (c n h : Nat) (hc : c ≤ 64) (hn : n ≤ 256) (hh : h ≤ 256) (w : World) :
    Calls Try.prog 75 #[.int .i64 c, .int .i64 n, .int .i64 h] w fun e w' => e = .returned (.int .i64 (if c = 0 then 0 else ((c : Int) - 1) * h + n)) ∧ w' = w := by
  by_cases h0 : c = 0
  · subst h0
    simp only [if_true]
    go_enter Try.func75, Try.ntmps75
    go_wp2
    go_ret
    exact ⟨rfl, rfl⟩
  · rw [if_neg h0]
    obtain ⟨m, hm⟩ : ∃ m, (c - 1) * h = m := ⟨_, rfl⟩
    have hm2 : m ≤ 64 * 256 := by rw [← hm]; exact Nat.mul_le_mul (by omega) hh
    have e : ((c : Int) - 1) * (h : Int) = (m : Int) := by rw [← hm, show ((c : Int) - 1) = ((c - 1 : Nat) : Int) by omega]; simp
    rw [e]
    have hcI : ¬ (c : Int) = 0 := by omega
    go_enter Try.func75, Try.ntmps75
    go_wp2
    go_ret
    exact ⟨rfl, rfl⟩

theorem tooLong_any (c n h : Nat) (hc : c ≤ 64) (hn : n ≤ 256) (hh : h ≤ 256) (w : World) :
    Calls Try.prog 72 #[.agg #[.int .i64 n, .int .i64 h], .int .i64 c] w fun e w' => e = .returned (.bool (decide (256 < ((c : Int) - 1) * h + n))) ∧ Below w.heap.size w w' := by
  obtain ⟨m, hm⟩ : ∃ m : Int, ((c : Int) - 1) * h = m := ⟨_, rfl⟩
  have hm2 : -256 ≤ m ∧ m ≤ 64 * 256 := by
    rw [← hm]
    by_cases h0 : c = 0
    · subst h0; constructor <;> simp <;> omega
    · have e : ((c : Int) - 1) * (h : Int) = (((c - 1) * h : Nat) : Int) := by rw [show ((c : Int) - 1) = ((c - 1 : Nat) : Int) by omega]; simp
      have : (c - 1) * h ≤ 64 * 256 := Nat.mul_le_mul (by omega) hh
      rw [e]; omega
  obtain ⟨hm3, hm4⟩ := hm2
  rw [hm]
  have hcomm : (n : Int) + m = m + n := Int.add_comm _ _
  have hdec : decide (256 < m + (n : Int)) = decide (256 < (n : Int) + m) := by rw [hcomm]
  rw [hdec]
  clear hdec hcomm
  go_enter Try.func72, Try.ntmps72
  go_wp2
  go_ret
  exact ⟨rfl, (Below.refl _ _).alloc (Nat.le_refl _) _⟩

end Go.Proofs.Ytcoieclecmefiaa
