import Derived.Test.YtfdmohnmilecnaaSm0
/-
  SamePlan of both.
-/
set_option linter.unusedVariables false
set_option linter.unusedSimpArgs false
namespace Go.Proofs.Ytfdmohnmilecnaa
open Go.RowKit

set_option maxRecDepth 100000 in
set_option maxHeartbeats 4000000 in
theorem l00Same_any {v v' : Value} {xs ys : List Int} {w : World} (h : Reads w v (ints xs)) (h' : Reads w v' (ints ys)) :
    Calls Try.prog 16 #[v, v'] w fun e w' => e = .returned (.bool (decide (xs = ys))) ∧ ∃ n, w' = w.drewN n := by
  obtain ⟨a, cap, rfl, hmax, hrd⟩ := ints_find h
  obtain ⟨a', cap', rfl, hmax', hrd'⟩ := ints_find h'
  by_cases hl : xs.length = ys.length
  · have HRD := Lib.hid hrd
    have HRD' := Lib.hid hrd'
    have HA : Hid (∀ j, j < xs.length → xs.getD j 0 ≠ ys.getD j 0 → decide (xs = ys) = false) := fun j hj hne => decide_eq_false (fun e => hne (by rw [e]))
    have HZ : Hid ((∀ j, j < xs.length → xs.getD j 0 = ys.getD j 0) → decide (xs = ys) = true) := fun hall => decide_eq_true (getD_eq hl hall)
    obtain ⟨b, hb⟩ : ∃ b, decide (xs = ys) = b := ⟨_, rfl⟩
    rw [hb] at HA HZ ⊢
    rw [← hl] at HRD' ⊢
    obtain ⟨c, hc⟩ : ∃ c, xs.length = c := ⟨_, rfl⟩
    rw [hc] at HA HZ HRD HRD' hmax ⊢
    have hmx : (c : Int) ≤ 9223372036854775807 := by omega
    clear h h' hrd hrd' hb hc hmax hmax' hl
    go_enter Try.func16, Try.ntmps16
    go_wp2
    go_loopw [5] (fun i wr => ∃ k m : Nat, i = .int .i64 k ∧ k ≤ c ∧ (∀ j, j < k → xs.getD j 0 = ys.getD j 0) ∧ wr = w.drewN m) (fun i _ => c - (intOf i).toNat)
    case atStart => exact ⟨0, 0, rfl, Nat.zero_le _, fun j hj => by omega, rfl⟩
    case round =>
      obtain ⟨k, m, rfl, hk, hj, hw⟩ := hrel
      have HW := Lib.hid hw
      have HJ := Lib.hid hj
      clear hj hw
      by_cases hkc : k < c
      · obtain ⟨g, rfl, hcb⟩ := HRD.out k hkc
        obtain ⟨g', rfl, hcb'⟩ := HRD'.out k hkc
        obtain ⟨z, hz⟩ : ∃ z, xs.getD k 0 = z := ⟨_, rfl⟩
        obtain ⟨y, hy⟩ : ∃ y, ys.getD k 0 = y := ⟨_, rfl⟩
        rw [hz] at hcb
        rw [hy] at hcb'
        have c1 : wr.cell? ⟨g, k, none⟩ = some (.int .i64 z) := by rw [HW.out]; exact hcb
        have c2 : wr.cell? ⟨g', k, none⟩ = some (.int .i64 y) := by rw [HW.out]; exact hcb'
        have hk3 : (k : Int) < (c : Int) := by omega
        by_cases hzy : z = y
        · have HK : Hid (∀ j, j < k + 1 → xs.getD j 0 = ys.getD j 0) := fun j hj => by
            by_cases e : j = k
            · rw [e, hz, hy, hzy]
            · exact HJ.out j (by omega)
          subst hzy
          clear hz hy hcb hcb'
          go_wp2
          go_quiet (fail)
          go_wp2
          go_roundw
          case rel => exact ⟨k + 1, m + nq, by go_num, by omega, HK.out, by rw [HW.out, World.drewN_drewN]⟩
          case measure => simp [intOf]; omega
        · have e : b = false := HA.out k hkc (by rw [hz, hy]; exact hzy)
          subst e
          clear hz hy hcb hcb'
          go_wp2
          go_quiet (fail)
          go_wp2
          go_ret
          exact ⟨rfl, m + nq, by rw [HW.out, World.drewN_drewN]⟩
      · have e : k = c := by omega
        subst e
        have e : b = true := HZ.out HJ.out
        subst e
        go_wp2
        go_ret
        exact ⟨rfl, m, HW.out⟩
  · have e : decide (xs = ys) = false := decide_eq_false (fun e => hl (by rw [e]))
    rw [e]
    obtain ⟨p, hp⟩ : ∃ p, xs.length = p := ⟨_, rfl⟩
    obtain ⟨q, hq⟩ : ∃ q, ys.length = q := ⟨_, rfl⟩
    rw [hp] at hl hmax ⊢
    rw [hq] at hl hmax' ⊢
    have hi : ¬ (p : Int) = (q : Int) := by omega
    clear h h' hrd hrd' hp hq e
    go_enter Try.func16, Try.ntmps16
    go_wp2
    go_ret
    exact ⟨rfl, 0, rfl⟩

set_option maxRecDepth 100000 in
set_option maxHeartbeats 4000000 in
theorem l07Same_any (s r : St) (a a' : Option Addr) (c c' g o g' o' : Nat) (w : World) (h : StepAt w g o s.kind s.n s.k a s.taps.length c) (h' : StepAt w g' o' r.kind r.n r.k a' r.taps.length c')
    (hr : Reads w (.slice a s.taps.length c) (ints s.taps)) (hr' : Reads w (.slice a' r.taps.length c') (ints r.taps)) :
    Calls Try.prog 10 #[.pointer (some ⟨g, o, none⟩), .pointer (some ⟨g', o', none⟩)] w fun e w' => e = .returned (.bool (sameSt s r)) ∧ Below w.heap.size w w' := by
  obtain ⟨kd, n, k, taps⟩ := s
  obtain ⟨kd', n', k', taps'⟩ := r
  obtain ⟨c0, c1, c2, c3⟩ := h
  obtain ⟨d0, d1, d2, d3⟩ := h'
  simp only [sameSt] at c0 c1 c2 c3 d0 d1 d2 d3 hr hr' ⊢
  have E := Lib.hid (fun m => l00Same_any (hr.drewN m) (hr'.drewN m))
  obtain ⟨b, hb⟩ : ∃ b, decide (taps = taps') = b := ⟨_, rfl⟩
  rw [hb] at E ⊢
  obtain ⟨L, hL⟩ : ∃ L, taps.length = L := ⟨_, rfl⟩
  obtain ⟨L', hL'⟩ : ∃ L, taps'.length = L := ⟨_, rfl⟩
  rw [hL] at c3 E
  rw [hL'] at d3 E
  clear hr hr' hb hL hL'
  by_cases h1 : kd = kd'
  · subst h1
    by_cases h2 : n = n'
    · subst h2
      by_cases h3 : k = k'
      · subst h3
        go_enter Try.func10, Try.ntmps10
        go_wp2
        go_quiet ((go_at_call 16; exact Calls.quiet_of (E.out _)))
        go_wp2
        go_ret
        exact ⟨by simp, below_draws (Below.refl _ _) _⟩
      · rw [decide_eq_false h3]
        have hb3 : (k == k') = false := by simpa using h3
        go_enter Try.func10, Try.ntmps10
        go_wp2
        go_quiet (fail)
        go_wp2
        go_ret
        exact ⟨by simp, below_draws (Below.refl _ _) _⟩
    · rw [decide_eq_false h2]
      have hb2 : (n == n') = false := by simpa using h2
      go_enter Try.func10, Try.ntmps10
      go_wp2
      go_quiet (fail)
      go_wp2
      go_ret
      exact ⟨by simp, below_draws (Below.refl _ _) _⟩
  · rw [decide_eq_false h1]
    have hb1 : (kd == kd') = false := by simpa using h1
    go_enter Try.func10, Try.ntmps10
    go_wp2
    go_quiet (fail)
    go_wp2
    go_ret
    exact ⟨by simp, below_draws (Below.refl _ _) _⟩

end Go.Proofs.Ytfdmohnmilecnaa
