import Derived.Test.YtpphmolfhogepaaDoorDd
import Derived.Deep.RegionHeld3
/-
  ValidDeed of the program.
-/
set_option linter.unusedVariables false
set_option linter.unusedSimpArgs false
namespace Go.Proofs.YtpphmolfhogepaaDoor
open Go.RowKit

/-- The table of deeds lies where the program laid it. -/
structure Tab9 (w : World) : Prop where
  word : ∀ q, q < 9 → w.cell? ⟨0, q * 2, none⟩ = some (.string (ddWord q))
  cnt : ∀ q, q < 9 → w.cell? ⟨0, q * 2 + 1, none⟩ = some (.int .i64 (ddCnt q))
theorem Tab9.below {w w' : World} (h : Tab9 w) (hb : Below w.heap.size w w') : Tab9 w' := by
  have hg : 0 < w.heap.size := World.block_lt_of_cell? _ _ (h.word 0 (by decide))
  exact ⟨fun q hq => by rw [hb.cell hg]; exact h.word q hq, fun q hq => by rw [hb.cell hg]; exact h.cnt q hq⟩

theorem isIndex_any (n : Int) (w : World) :
    Calls Tryd.prog 16 #[.int .i64 n] w fun e w' => e = .returned (.bool (inZ n 0 999)) ∧ w' = w := by
  by_cases h1 : 0 ≤ n
  · by_cases h2 : n ≤ 999
    · rw [inZ_t ⟨h1, h2⟩]
      go_enter Tryd.func16, Tryd.ntmps16
      go_wp2
      go_ret
      exact ⟨rfl, rfl⟩
    · rw [inZ_f (fun h => h2 h.2)]
      have g : decide (n ≤ 999) = false := decide_eq_false h2
      clear h2
      go_enter Tryd.func16, Tryd.ntmps16
      go_wp2
      go_ret
      exact ⟨rfl, rfl⟩
  · rw [inZ_f (fun h => h1 h.1)]
    have g : decide (0 ≤ n) = false := decide_eq_false h1
    clear h1
    go_enter Tryd.func16, Tryd.ntmps16
    go_wp2
    go_ret
    exact ⟨rfl, rfl⟩

/-- Whether a deed's number is right. -/
def dOk (m : Nat) (n : Int) (j : Nat) : Bool := inZ n 0 999 && (decide (n = 0) || decide (j < m))
theorem validDd_split {q : Nat} (h1 : 1 ≤ q) (h8 : q ≤ 8) (a b c : Int) : validDd ⟨q, a, b, c⟩ = (dOk (ddCnt q) a 0 && dOk (ddCnt q) b 1 && dOk (ddCnt q) c 2) := by
  unfold validDd dOk
  simp only [Int.toNat_natCast]
  rw [inZ_t (show (1 : Int) ≤ q ∧ (q : Int) ≤ 8 by omega)]
  generalize inZ a 0 999 = A
  generalize inZ b 0 999 = B
  generalize inZ c 0 999 = C
  generalize decide (a = 0) = da
  generalize decide (b = 0) = db
  generalize decide (c = 0) = dc
  rcases kinds8 h1 h8 with rfl | rfl | rfl | rfl | rfl | rfl | rfl | rfl
  all_goals
    cases A <;> cases B <;> cases C <;> cases db <;> cases dc <;> cases da <;> rfl

theorem idx3 (x y z : Int) (w : World) : (Instr.index 35 (.agg #[.int .i64 x, .int .i64 y, .int .i64 z]) (.int .i64 0)).run Tryd.prog w = .ok (.int .i64 x) w ∧ (Instr.index 35 (.agg #[.int .i64 x, .int .i64 y, .int .i64 z]) (.int .i64 1)).run Tryd.prog w = .ok (.int .i64 y) w ∧ (Instr.index 35 (.agg #[.int .i64 x, .int .i64 y, .int .i64 z]) (.int .i64 2)).run Tryd.prog w = .ok (.int .i64 z) w := by
  refine ⟨?_, ?_, ?_⟩ <;> (show _ = _; kernel_rfl)

theorem validDeed_out (kd a b c : Int) (w : World) (h : ¬ (1 ≤ kd ∧ kd ≤ 8)) :
    Calls Tryd.prog 8 #[ddV ⟨kd, a, b, c⟩] w fun e w' => e = .returned (.bool false) ∧ Below w.heap.size w w' := by
  unfold ddV
  simp only
  by_cases h1 : kd < 1
  · have g1 : decide (kd < 1) = true := decide_eq_true h1
    clear h h1
    go_enter Tryd.func8, Tryd.ntmps8
    go_wp2
    go_ret
    exact ⟨rfl, (Below.refl _ _).alloc (Nat.le_refl _) _⟩
  · have g1 : decide (kd < 1) = false := decide_eq_false h1
    have g2 : decide (8 < kd) = true := decide_eq_true (by omega)
    clear h h1
    go_enter Tryd.func8, Tryd.ntmps8
    go_wp2
    go_ret
    exact ⟨rfl, (Below.refl _ _).alloc (Nat.le_refl _) _⟩

set_option maxRecDepth 100000 in
set_option maxHeartbeats 4000000 in
theorem validDeed_impl (d : Dd) (w : World) (ht : Tab9 w) :
    Calls Tryd.prog 8 #[ddV d] w fun e w' => e = .returned (.bool (validDd d)) ∧ Below w.heap.size w w' := by
  obtain ⟨kd, a, b, c⟩ := d
  by_cases hk : 1 ≤ kd ∧ kd ≤ 8
  case neg =>
    have e : validDd ⟨kd, a, b, c⟩ = false := by
      unfold validDd
      simp only
      rw [inZ_f hk]
      simp
    rw [e]
    exact validDeed_out kd a b c w hk
  obtain ⟨q, rfl⟩ : ∃ q : Nat, kd = q := ⟨kd.toNat, by omega⟩
  have h1 : 1 ≤ q := by omega
  have h8 : q ≤ 8 := by omega
  rw [validDd_split h1 h8]
  have hq9 : (q : Int) < 9 := by omega
  have g1 : decide ((q : Int) < 1) = false := decide_eq_false (by omega)
  have g2 : decide ((8 : Int) < q) = false := decide_eq_false (by omega)
  unfold ddV
  simp only
  have hb0 : Below w.heap.size w (w.alloc (.cells #[.int .i64 q, .int .i64 a, .int .i64 b, .int .i64 c] 25)) := (Below.refl _ _).alloc (Nat.le_refl _) _
  obtain ⟨W, hW⟩ : ∃ W, W = w.alloc (.cells #[.int .i64 q, .int .i64 a, .int .i64 b, .int .i64 c] 25) := ⟨_, rfl⟩
  have c0 : W.cell? ⟨w.heap.size, 0, none⟩ = some (.int .i64 q) := by rw [hW]; go_simp
  have c1 : W.cell? ⟨w.heap.size, 1, none⟩ = some (.int .i64 a) := by rw [hW]; go_simp
  have c2 : W.cell? ⟨w.heap.size, 2, none⟩ = some (.int .i64 b) := by rw [hW]; go_simp
  have c3 : W.cell? ⟨w.heap.size, 3, none⟩ = some (.int .i64 c) := by rw [hW]; go_simp
  rw [← hW] at hb0
  have t1 := (ht.below hb0).cnt q (by omega)
  obtain ⟨m, hm⟩ : ∃ m, ddCnt q = m := ⟨_, rfl⟩
  rw [hm] at t1 ⊢
  have HW := Lib.hid hW.symm
  have HB0 := Lib.hid hb0
  have IX := idx3 a b c
  have II := Lib.hid isIndex_any
  have D0 : ∀ p, dOk m a 0 = p → Hid (dOk m a 0 = p) := fun _ h => h
  obtain ⟨p0, hp0⟩ : ∃ p, dOk m a 0 = p := ⟨_, rfl⟩
  obtain ⟨p1, hp1⟩ : ∃ p, dOk m b 1 = p := ⟨_, rfl⟩
  obtain ⟨p2, hp2⟩ : ∃ p, dOk m c 2 = p := ⟨_, rfl⟩
  rw [hp0, hp1, hp2]
  have HP : Hid (dOk m a 0 = p0 ∧ dOk m b 1 = p1 ∧ dOk m c 2 = p2) := ⟨hp0, hp1, hp2⟩
  clear ht hb0 hW hk hm hp0 hp1 hp2 D0
  go_enter Tryd.func8, Tryd.ntmps8
  go_wp2_with fail
  rw [HW.out]
  go_wp2_with fail
  go_loopw [21] (fun i wr => ∃ k : Nat, i = .int .i64 k ∧ k ≤ 3 ∧ (0 < k → p0 = true) ∧ (1 < k → p1 = true) ∧ (2 < k → p2 = true) ∧ wr = W) (fun i _ => 3 - (intOf i).toNat)
  case atStart => exact ⟨0, rfl, by decide, fun h => by omega, fun h => by omega, fun h => by omega, rfl⟩
  case round =>
    obtain ⟨k, rfl, hk3, e0, e1, e2, rfl⟩ := hrel
    by_cases hk : k < 3
    · have hk' : (k : Int) < 3 := by omega
      obtain ⟨n, hn⟩ : ∃ n, [a, b, c].getD k 0 = n := ⟨_, rfl⟩
      obtain ⟨pk, hpk⟩ : ∃ p, [p0, p1, p2].getD k false = p := ⟨_, rfl⟩
      have hix : ∀ w, (Instr.index 35 (.agg #[.int .i64 a, .int .i64 b, .int .i64 c]) (.int .i64 (k : Int))).run Tryd.prog w = .ok (.int .i64 n) w := fun w => by
        have : k = 0 ∨ k = 1 ∨ k = 2 := by omega
        subst hn
        rcases this with rfl | rfl | rfl
        · exact (IX w).1
        · exact (IX w).2.1
        · exact (IX w).2.2
      have hd : dOk m n k = pk := by
        have : k = 0 ∨ k = 1 ∨ k = 2 := by omega
        subst hn; subst hpk
        rcases this with rfl | rfl | rfl
        · exact HP.out.1
        · exact HP.out.2.1
        · exact HP.out.2.2
      have HF : pk = false → Hid ((p0 && p1 && p2) = false) := fun e => by
        show _ = _
        have : k = 0 ∨ k = 1 ∨ k = 2 := by omega
        rcases this with rfl | rfl | rfl
        · have : p0 = false := by simpa [← hpk] using e
          simp [this]
        · have : p1 = false := by simpa [← hpk] using e
          simp [this]
        · have : p2 = false := by simpa [← hpk] using e
          simp [this]
      have HT : pk = true → Hid ((0 < k + 1 → p0 = true) ∧ (1 < k + 1 → p1 = true) ∧ (2 < k + 1 → p2 = true)) := fun e => by
        show _ ∧ _
        have : k = 0 ∨ k = 1 ∨ k = 2 := by omega
        rcases this with rfl | rfl | rfl
        · have : p0 = true := by simpa [← hpk] using e
          exact ⟨fun _ => this, fun h => by omega, fun h => by omega⟩
        · have : p1 = true := by simpa [← hpk] using e
          exact ⟨fun _ => e0 (by omega), fun _ => this, fun h => by omega⟩
        · have : p2 = true := by simpa [← hpk] using e
          exact ⟨fun _ => e0 (by omega), fun _ => e1 (by omega), fun _ => this⟩
      have gm : decide ((k : Int) < (m : Int)) = decide (k < m) := by rw [decide_eq_decide]; omega
      have II := II.out n
      unfold dOk at hd
      obtain ⟨pi, hpi⟩ : ∃ p, inZ n 0 999 = p := ⟨_, rfl⟩
      obtain ⟨u, hu⟩ : ∃ p, decide (k < m) = p := ⟨_, rfl⟩
      obtain ⟨z, hz⟩ : ∃ p, (n == 0) = p := ⟨_, rfl⟩
      have hz1 : decide (n = 0) = z := hz
      have hz2 : (n != 0) = !z := by unfold bne; rw [hz]
      rw [hpi] at II hd
      rw [hu] at gm hd
      rw [hz1] at hd
      have II := Lib.hid II
      have HK3 := Lib.hid hk
      clear hn hpk hpi hz1 IX e0 e1 e2 hk hk3
      cases pi
      · have HF := HF (by rw [← hd]; rfl); clear HT
        go_wp2_with (go_at_call 16; with_reducible refine (II.out _).mono ?_; rintro e w1 ⟨rfl, rfl⟩)
        go_ret
        exact ⟨congrArg (fun b => Ending.returned (.bool b)) HF.out.symm, HB0.out⟩
      cases z
      · cases u
        · have HF := HF (by rw [← hd]; rfl); clear HT
          go_wp2_with (go_at_call 16; with_reducible refine (II.out _).mono ?_; rintro e w1 ⟨rfl, rfl⟩)
          go_ret
          exact ⟨congrArg (fun b => Ending.returned (.bool b)) HF.out.symm, HB0.out⟩
        · have HT := HT (by rw [← hd]; rfl); clear HF
          go_wp2_with (go_at_call 16; with_reducible refine (II.out _).mono ?_; rintro e w1 ⟨rfl, rfl⟩)
          refine ⟨⟨k + 1, by go_num, HK3.out, HT.out.1, HT.out.2.1, HT.out.2.2, trivial⟩, ?_⟩
          have := HK3.out
          simp [intOf]
          omega
      · have HT := HT (by rw [← hd]; rfl); clear HF
        go_wp2_with (go_at_call 16; with_reducible refine (II.out _).mono ?_; rintro e w1 ⟨rfl, rfl⟩)
        refine ⟨⟨k + 1, by go_num, HK3.out, HT.out.1, HT.out.2.1, HT.out.2.2, trivial⟩, ?_⟩
        have := HK3.out
        simp [intOf]
        omega
    · obtain rfl : k = 3 := by omega
      obtain rfl : p0 = true := e0 (by omega)
      obtain rfl : p1 = true := e1 (by omega)
      obtain rfl : p2 = true := e2 (by omega)
      clear e0 e1 e2 hk hk3 IX
      go_wp2
      go_ret
      exact ⟨rfl, HB0.out⟩

end Go.Proofs.YtpphmolfhogepaaDoor
