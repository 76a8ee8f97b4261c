import Derived.Test.YtdefhmpmgcahpaaDoorImpDZ
/-
  ValidStep of the program asks what the model asks.
-/
set_option linter.unusedVariables false
set_option linter.unusedSimpArgs false
namespace Go.Proofs.YtdefhmpmgcahpaaDoor
open Go.RowKit

theorem sameSt_iff {s r : St} : sameSt s r = true ↔ s = r := by
  obtain ⟨a, b, c, d⟩ := s
  obtain ⟨a', b', c', d'⟩ := r
  simp [sameSt, and_assoc]

/-- What the program asks is what the model asks. -/
theorem ask_valid {q : Nat} (h1 : 1 ≤ q) (h13 : q ≤ 13) (n k : Int) (taps : List Int) : askB q n k taps = validSt ⟨q, n, k, taps⟩ := by
  have hc : q = 1 ∨ q = 2 ∨ q = 3 ∨ q = 4 ∨ q = 5 ∨ q = 6 ∨ q = 7 ∨ q = 8 ∨ q = 9 ∨ q = 10 ∨ q = 11 ∨ q = 12 ∨ q = 13 := by omega
  have hl : taps.isEmpty = decide (taps = []) := by cases taps <;> simp
  have hl2 : decide (taps = []) = decide (taps.length = 0) := by cases taps <;> simp
  clear h1 h13
  rcases hc with rfl | rfl | rfl | rfl | rfl | rfl | rfl | rfl | rfl | rfl | rfl | rfl | rfl
  all_goals
    simp only [askB, validSt, acceptB, cntOf, loOf, hiOf, numsOf, withSt, sameSt, inZ, partsB, hl]
    simp
    try rw [hl2]
    generalize taps.length = L
    first
      | (rw [Bool.eq_iff_iff]; simp; omega)
      | (generalize (taps.all fun z => decide (-256 ≤ z) && decide (z ≤ 256)) = A
         rw [Bool.eq_iff_iff]
         cases A
         · simp
         · simp; omega)

set_option maxRecDepth 100000 in
set_option maxHeartbeats 4000000 in
theorem validStep_none (kd n k : Int) (a : Option Addr) (L c : Nat) (w : World) (hk : inZ kd 1 13 = false) :
    Calls Tryd.prog 16 #[.agg #[.int .i64 kd, .int .i64 n, .int .i64 k, .slice a L c]] w fun e w' => e = .returned (.bool false) ∧ Below w.heap.size w w' := by
  have h' : ¬ (1 ≤ kd ∧ kd ≤ 13) := fun h => by rw [inZ_t h] at hk; cases hk
  clear hk
  by_cases h1 : kd < 1
  · have g1 : decide (kd < 1) = true := decide_eq_true h1
    clear h' h1
    go_enter Tryd.func16, Tryd.ntmps16
    go_wp2
    go_ret
    exact ⟨rfl, (Below.refl _ _).alloc (Nat.le_refl _) _⟩
  · have g1 : decide (kd < 1) = false := decide_eq_false h1
    have g2 : decide (13 < kd) = true := decide_eq_true (by omega)
    clear h' h1
    go_enter Tryd.func16, Tryd.ntmps16
    go_wp2
    go_ret
    exact ⟨rfl, (Below.refl _ _).alloc (Nat.le_refl _) _⟩

theorem validStep_impl (s : St) (a : Option Addr) (c : Nat) (w : World) (ht : Tab w) (hs : Reads w (.slice a s.taps.length c) (ints s.taps)) :
    Calls Tryd.prog 16 #[.agg #[.int .i64 s.kind, .int .i64 s.n, .int .i64 s.k, .slice a s.taps.length c]] w fun e w' => e = .returned (.bool (validSt s)) ∧ Below w.heap.size w w' := by
  obtain ⟨kd, n, k, taps⟩ := s
  simp only at hs ⊢
  by_cases hk : inZ kd 1 13 = false
  · have e : validSt ⟨kd, n, k, taps⟩ = false := by
      have : ¬ (1 ≤ kd ∧ kd ≤ 13) := fun h => by rw [inZ_t h] at hk; cases hk
      simp only [validSt]
      repeat (rw [if_neg (by omega)])
    rw [e]
    exact validStep_none kd n k a _ c w hk
  · have h := inZ_iff.1 (by simpa using hk : inZ kd 1 13 = true)
    obtain ⟨q, rfl⟩ : ∃ q : Nat, kd = q := ⟨kd.toNat, by omega⟩
    rw [← ask_valid (by omega) (by omega)]
    exact validStep_q q (by omega) (by omega) n k taps a c w ht hs

end Go.Proofs.YtdefhmpmgcahpaaDoor
