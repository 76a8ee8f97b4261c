import Derived.Test.YtdefhmpmgcahpaaDoorImpZ
import Derived.Laws.CopyOwn
/-
  ValidStep of the program: equal steps, a step with numbers.
-/
set_option linter.unusedVariables false
set_option linter.unusedSimpArgs false
namespace Go.Proofs.YtdefhmpmgcahpaaDoor
open Go.RowKit

theorem getD_eq {xs ys : List Int} (hl : xs.length = ys.length) (h : ∀ j, j < xs.length → xs.getD j 0 = ys.getD j 0) : xs = ys := by
  apply List.ext_getElem hl
  intro i h1 h2
  have := h i h1
  rw [List.getD_eq_getElem?_getD, List.getD_eq_getElem?_getD, List.getElem?_eq_getElem h1, List.getElem?_eq_getElem h2] at this
  exact this

set_option maxRecDepth 100000 in
set_option maxHeartbeats 4000000 in
theorem equalI_any {v v' : Value} {xs ys : List Int} {w : World} (h : Reads w v (ints xs)) (h' : Reads w v' (ints ys)) :
    Calls Tryd.prog 72 #[v, v'] w fun e w' => e = .returned (.bool (decide (xs = ys))) ∧ ∃ n, w' = w.drewN n := by
  obtain ⟨a, cap, rfl, hmax, hrd⟩ := ints_find h
  obtain ⟨a', cap', rfl, hmax', hrd'⟩ := ints_find h'
  by_cases hl : xs.length = ys.length
  · have HRD := Lib.hid hrd
    have HRD' := Lib.hid hrd'
    have HA : Hid (∀ j, j < xs.length → xs.getD j 0 ≠ ys.getD j 0 → decide (xs = ys) = false) := fun j hj hne => decide_eq_false (fun e => hne (by rw [e]))
    have HZ : Hid ((∀ j, j < xs.length → xs.getD j 0 = ys.getD j 0) → decide (xs = ys) = true) := fun hall => decide_eq_true (getD_eq hl hall)
    obtain ⟨b, hb⟩ : ∃ b, decide (xs = ys) = b := ⟨_, rfl⟩
    rw [hb] at HA HZ ⊢
    rw [← hl] at HRD' ⊢
    obtain ⟨c, hc⟩ : ∃ c, xs.length = c := ⟨_, rfl⟩
    rw [hc] at HA HZ HRD HRD' hmax ⊢
    have hmx : (c : Int) ≤ 9223372036854775807 := by omega
    clear h h' hrd hrd' hb hc hmax hmax' hl
    go_enter Tryd.func72, Tryd.ntmps72
    go_wp2
    go_loopw [13] (fun i wr => ∃ k m : Nat, i = .int .i64 k ∧ k ≤ c ∧ (∀ j, j < k → xs.getD j 0 = ys.getD j 0) ∧ wr = w.drewN m) (fun i _ => c - (intOf i).toNat)
    case atStart => exact ⟨0, 0, rfl, Nat.zero_le _, fun j hj => by omega, rfl⟩
    case round =>
      obtain ⟨k, m, rfl, hk, hj, hw⟩ := hrel
      have HW := Lib.hid hw
      have HJ := Lib.hid hj
      clear hj hw
      by_cases hkc : k < c
      · obtain ⟨g, rfl, hcb⟩ := HRD.out k hkc
        obtain ⟨g', rfl, hcb'⟩ := HRD'.out k hkc
        obtain ⟨z, hz⟩ : ∃ z, xs.getD k 0 = z := ⟨_, rfl⟩
        obtain ⟨y, hy⟩ : ∃ y, ys.getD k 0 = y := ⟨_, rfl⟩
        rw [hz] at hcb
        rw [hy] at hcb'
        have c1 : wr.cell? ⟨g, k, none⟩ = some (.int .i64 z) := by rw [HW.out]; exact hcb
        have c2 : wr.cell? ⟨g', k, none⟩ = some (.int .i64 y) := by rw [HW.out]; exact hcb'
        have hk3 : (k : Int) < (c : Int) := by omega
        by_cases hzy : z = y
        · have HK : Hid (∀ j, j < k + 1 → xs.getD j 0 = ys.getD j 0) := fun j hj => by
            by_cases e : j = k
            · rw [e, hz, hy, hzy]
            · exact HJ.out j (by omega)
          subst hzy
          clear hz hy hcb hcb'
          go_wp2
          go_quiet (fail)
          go_wp2
          go_roundw
          case rel => exact ⟨k + 1, m + nq, by go_num, by omega, HK.out, by rw [HW.out, World.drewN_drewN]⟩
          case measure => simp [intOf]; omega
        · have e : b = false := HA.out k hkc (by rw [hz, hy]; exact hzy)
          subst e
          clear hz hy hcb hcb'
          go_wp2
          go_quiet (fail)
          go_wp2
          go_ret
          exact ⟨rfl, m + nq, by rw [HW.out, World.drewN_drewN]⟩
      · have e : k = c := by omega
        subst e
        have e : b = true := HZ.out HJ.out
        subst e
        go_wp2
        go_ret
        exact ⟨rfl, m, HW.out⟩
  · have e : decide (xs = ys) = false := decide_eq_false (fun e => hl (by rw [e]))
    rw [e]
    obtain ⟨p, hp⟩ : ∃ p, xs.length = p := ⟨_, rfl⟩
    obtain ⟨q, hq⟩ : ∃ q, ys.length = q := ⟨_, rfl⟩
    rw [hp] at hl hmax ⊢
    rw [hq] at hl hmax' ⊢
    have hi : ¬ (p : Int) = (q : Int) := by omega
    clear h h' hrd hrd' hp hq e
    go_enter Tryd.func72, Tryd.ntmps72
    go_wp2
    go_ret
    exact ⟨rfl, 0, rfl⟩

/-- Whether two steps are the same. -/
def sameSt (s r : St) : Bool := decide (s.kind = r.kind) && decide (s.n = r.n) && decide (s.k = r.k) && decide (s.taps = r.taps)

set_option maxRecDepth 100000 in
set_option maxHeartbeats 4000000 in
theorem isSame_any (s r : St) (a a' : Option Addr) (c c' : Nat) (w : World) (h : ∀ w1, Below w.heap.size w w1 → Reads w1 (.slice a s.taps.length c) (ints s.taps)) (h' : ∀ w1, Below w.heap.size w w1 → Reads w1 (.slice a' r.taps.length c') (ints r.taps)) :
    Calls Tryd.prog 37 #[.agg #[.int .i64 s.kind, .int .i64 s.n, .int .i64 s.k, .slice a s.taps.length c], .agg #[.int .i64 r.kind, .int .i64 r.n, .int .i64 r.k, .slice a' r.taps.length c']] w fun e w' => e = .returned (.bool (sameSt s r)) ∧ Below w.heap.size w w' := by
  obtain ⟨kd, n, k, taps⟩ := s
  obtain ⟨kd', n', k', taps'⟩ := r
  simp only [sameSt] at h h' ⊢
  have HB : Hid (Below w.heap.size w ((w.alloc (.cells #[.int .i64 kd, .int .i64 n, .int .i64 k, .slice a taps.length c] 36)).alloc (.cells #[.int .i64 kd', .int .i64 n', .int .i64 k', .slice a' taps'.length c'] 36))) := ((Below.refl _ _).alloc (Nat.le_refl _) _).alloc (by simp) _
  have E := Lib.hid (equalI_any (h _ HB.out) (h' _ HB.out))
  obtain ⟨b, hb⟩ : ∃ b, decide (taps = taps') = b := ⟨_, rfl⟩
  rw [hb] at E ⊢
  obtain ⟨L, hL⟩ : ∃ L, taps.length = L := ⟨_, rfl⟩
  obtain ⟨L', hL'⟩ : ∃ L, taps'.length = L := ⟨_, rfl⟩
  rw [hL, hL'] at E HB ⊢
  clear h h' hb hL hL'
  by_cases h1 : kd = kd'
  · subst h1
    by_cases h2 : n = n'
    · subst h2
      by_cases h3 : k = k'
      · subst h3
        go_enter Tryd.func37, Tryd.ntmps37
        go_wp2_with fail
        refine E.out.mono ?_
        rintro e w1 ⟨rfl, m, rfl⟩
        go_wp2
        go_ret
        exact ⟨by simp, below_draws HB.out _⟩
      · rw [decide_eq_false h3]
        go_enter Tryd.func37, Tryd.ntmps37
        go_wp2
        go_ret
        exact ⟨by simp, HB.out⟩
    · rw [decide_eq_false h2]
      go_enter Tryd.func37, Tryd.ntmps37
      go_wp2
      go_ret
      exact ⟨by simp, HB.out⟩
  · rw [decide_eq_false h1]
    go_enter Tryd.func37, Tryd.ntmps37
    go_wp2
    go_ret
    exact ⟨by simp, HB.out⟩

end Go.Proofs.YtdefhmpmgcahpaaDoor
