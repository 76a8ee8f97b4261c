import Derived.Test.YtdefhmpmgcahpaaDoorImpCZ
/-
  ValidStep of the program.
-/
set_option linter.unusedVariables false
set_option linter.unusedSimpArgs false
namespace Go.Proofs.YtdefhmpmgcahpaaDoor
open Go.RowKit

/-- The step with these numbers. -/
def withSt (q : Nat) (zs : List Int) : St := if q = 3 then ⟨3, 0, 0, zs⟩ else ⟨q, zs.getD 0 0, zs.getD 1 0, []⟩
/-- What ValidStep of the program asks: the numbers are accepted, and the step has no more than them. -/
def askB (q : Nat) (n k : Int) (taps : List Int) : Bool :=
  acceptB (cntOf q) (loOf q) (hiOf q) (numsOf q n k taps) && sameSt ⟨q, n, k, taps⟩ (withSt q (numsOf q n k taps)) && (!decide (q = 4) || decide (k < n))

theorem cntOf_le8 (q : Nat) : cntOf q ≤ 8 := by
  by_cases hq : q < 14
  · rcases q with _ | _ | _ | _ | _ | _ | _ | _ | _ | _ | _ | _ | _ | _ | q
    all_goals first | decide | omega
  · unfold cntOf
    rw [List.getD_eq_getElem?_getD, List.getElem?_eq_none (by simp; omega)]
    decide

theorem Reads.keep {w w' : World} {v : Value} {cs : List Value} (h : Reads w v cs) (hb : Below w.heap.size w w') : Reads w' v cs := by
  cases h with
  | none a cap => exact .none a cap
  | row g cap L cs hL h0 hc hm hh =>
    refine .row g cap L cs hL h0 hc hm fun j hj => ?_
    rw [hb.cell (World.block_lt_of_cell? _ _ (hh j hj))]
    exact hh j hj

set_option maxRecDepth 100000 in
set_option maxHeartbeats 8000000 in
theorem validStep_q (q : Nat) (h1 : 1 ≤ q) (h13 : q ≤ 13) (n k : Int) (taps : List Int) (a : Option Addr) (c : Nat) (w : World) (ht : Tab w) (hs : Reads w (.slice a taps.length c) (ints taps)) :
    Calls Tryd.prog 16 #[.agg #[.int .i64 q, .int .i64 n, .int .i64 k, .slice a taps.length c]] w fun e w' => e = .returned (.bool (askB q n k taps)) ∧ Below w.heap.size w w' := by
  have hb0 : Below w.heap.size w (w.alloc (.cells #[.int .i64 q, .int .i64 n, .int .i64 k, .slice a taps.length c] 36)) := (Below.refl _ _).alloc (Nat.le_refl _) _
  have N := Lib.hid (numbersOf_any q (by omega) n k taps a c _ (ht.below hb0) (hs.keep hb0) (fun w' hb => hs.keep (below_step' hb0 hb (by simp))))
  have hq14 : (q : Int) < 14 := by omega
  have g1 : decide ((q : Int) < 1) = false := decide_eq_false (by omega)
  have g13 : decide (13 < (q : Int)) = false := decide_eq_false (by omega)
  obtain ⟨T, hT⟩ : ∃ T, taps.length = T := ⟨_, rfl⟩
  have HQ : Hid (q < 14) := by show q < 14; omega
  have HS := Lib.hid hs
  have HT := Lib.hid ht
  have HB0 := Lib.hid hb0
  obtain ⟨B, hB⟩ : ∃ B, askB q n k taps = B := ⟨_, rfl⟩
  rw [hB]
  have HBE := Lib.hid hB
  have hgl : 0 < w.heap.size := World.block_lt_of_cell? _ _ (ht.word 0 (by decide))
  clear hs ht hb0 hB hT
  go_enter Tryd.func16, Tryd.ntmps16
  go_wp2_with fail
  refine N.out.mono ?_
  rintro e w1 ⟨a1, c1, rfl, hr1, hb1⟩
  have hb01 := below_step' HB0.out hb1 HB0.out.size
  have hlt0 : w.heap.size < (w.alloc (.cells #[.int .i64 q, .int .i64 n, .int .i64 k, .slice a taps.length c] 36)).heap.size := by simp
  have hlt : w.heap.size < w1.heap.size := Nat.lt_of_lt_of_le hlt0 hb1.size
  have b0 : w1.cell? ⟨w.heap.size, 0, none⟩ = some (.int .i64 q) := by rw [hb1.cell hlt0]; go_simp
  have b1 : w1.cell? ⟨w.heap.size, 1, none⟩ = some (.int .i64 n) := by rw [hb1.cell hlt0]; go_simp
  have b2 : w1.cell? ⟨w.heap.size, 2, none⟩ = some (.int .i64 k) := by rw [hb1.cell hlt0]; go_simp
  have b3 : w1.cell? ⟨w.heap.size, 3, none⟩ = some (.slice a taps.length c) := by rw [hb1.cell hlt0]; go_simp
  have hT1 := HT.out.below hb01
  have hS1 := HS.out.keep hb01
  have AC := accepts_any (wordOf q) (cntOf q) (loOf q) (hiOf q) (cntOf_le8 q) (numsOf q n k taps) a1 c1 w1.drew (fun W hb => hr1.keep (below_step' (below_draws (Below.refl _ _) 1) hb (Nat.le_refl _)))
  have SW : ∃ (ra : Option Addr) (rc : Nat), (∀ W, Below w1.heap.size w1 W → Calls Tryd.prog 42 #[.int .i64 q, .slice a1 (numsOf q n k taps).length c1] W fun e w' => e = .returned (.agg #[.int .i64 (withSt q (numsOf q n k taps)).kind, .int .i64 (withSt q (numsOf q n k taps)).n, .int .i64 (withSt q (numsOf q n k taps)).k, .slice ra (withSt q (numsOf q n k taps)).taps.length rc]) ∧ Below W.heap.size W w') ∧
      Reads w1 (.slice ra (withSt q (numsOf q n k taps)).taps.length rc) (ints (withSt q (numsOf q n k taps)).taps) := by
    by_cases h3 : q = 3
    · subst h3
      exact ⟨a1, c1, fun W _ => stepWith_filter _ _ _ _ rfl W, hr1⟩
    · rw [show withSt q (numsOf q n k taps) = ⟨q, (numsOf q n k taps).getD 0 0, (numsOf q n k taps).getD 1 0, []⟩ from if_neg h3]
      exact ⟨none, 0, fun W hb => stepWith_other q (by omega) _ a1 c1 W (hr1.keep hb), .none _ _⟩
  obtain ⟨ra, rc, SW, hR⟩ := SW
  have IS := fun W (hb : Below w1.heap.size w1 W) => isSame_any ⟨q, n, k, taps⟩ (withSt q (numsOf q n k taps)) a ra c rc W (fun W' hb' => hS1.keep (below_step' hb hb' hb.size)) (fun W' hb' => hR.keep (below_step' hb hb' hb.size))
  have d0 := hT1.word q HQ.out
  have d1 := hT1.cnt q HQ.out
  have d2 := hT1.lo q HQ.out
  have d3 := hT1.hi q HQ.out
  have hgl1 : 0 < w1.heap.size := Nat.lt_of_lt_of_le hgl hb01.size
  have HC : Hid (∀ W, Below w1.heap.size w1 W → W.cell? ⟨w.heap.size, 0, none⟩ = some (.int .i64 q) ∧ W.cell? ⟨w.heap.size, 1, none⟩ = some (.int .i64 n) ∧ W.cell? ⟨w.heap.size, 2, none⟩ = some (.int .i64 k) ∧ W.cell? ⟨w.heap.size, 3, none⟩ = some (.slice a taps.length c) ∧
      W.cell? ⟨0, q * 4, none⟩ = some (.string (wordOf q)) ∧ W.cell? ⟨0, q * 4 + 1, none⟩ = some (.int .i64 (cntOf q)) ∧ W.cell? ⟨0, q * 4 + 2, none⟩ = some (.int .i64 (loOf q)) ∧ W.cell? ⟨0, q * 4 + 3, none⟩ = some (.int .i64 (hiOf q))) := fun W hb => by
    rw [hb.cell hlt, hb.cell hlt, hb.cell hlt, hb.cell hlt, hb.cell hgl1, hb.cell hgl1, hb.cell hgl1, hb.cell hgl1]
    exact ⟨b0, b1, b2, b3, d0, d1, d2, d3⟩
  obtain ⟨S, hSe⟩ : ∃ S, withSt q (numsOf q n k taps) = S := ⟨_, rfl⟩
  obtain ⟨X, hX⟩ : ∃ X, acceptB (cntOf q) (loOf q) (hiOf q) (numsOf q n k taps) = X := ⟨_, rfl⟩
  obtain ⟨Y, hY⟩ : ∃ Y, sameSt ⟨q, n, k, taps⟩ S = Y := ⟨_, rfl⟩
  have HBX : Hid ((X && Y && (!decide (q = 4) || decide (k < n))) = B) := by
    have := HBE.out
    unfold askB at this
    rwa [hSe, hX, hY] at this
  rw [hX] at AC
  rw [hSe] at SW IS
  simp only [hY] at IS
  obtain ⟨L, hL⟩ : ∃ L, (numsOf q n k taps).length = L := ⟨_, rfl⟩
  rw [hL] at AC SW ⊢
  obtain ⟨wd, hwd⟩ : ∃ x, wordOf q = x := ⟨_, rfl⟩
  obtain ⟨cn', hcn⟩ : ∃ x, cntOf q = x := ⟨_, rfl⟩
  obtain ⟨lo, hlo⟩ : ∃ x, loOf q = x := ⟨_, rfl⟩
  obtain ⟨hi, hhi⟩ : ∃ x, hiOf q = x := ⟨_, rfl⟩
  rw [hwd, hcn, hlo, hhi] at AC HC
  rw [hwd] at d0; rw [hcn] at d1; rw [hlo] at d2; rw [hhi] at d3
  have AC := Lib.hid AC
  have SW := Lib.hid SW
  have IS := Lib.hid IS
  have HB01 := Lib.hid hb01
  obtain ⟨T, hT⟩ : ∃ T, taps.length = T := ⟨_, rfl⟩
  rw [hT] at IS HC b3 ⊢
  clear hr1 hb1 hT1 hS1 hR hX hY hSe hL hwd hcn hlo hhi hb01 N hT HBE hlt0 h1 h13
  cases X
  · have e : B = false := by rw [← HBX.out]; simp
    subst e
    go_wp2_with fail
    first | (go_region_with (first
        | (go_at_call 44; refine AC.out.mono ?_; rintro e w2 ⟨rfl, hb2⟩; have HB2 : Hid (Below w1.heap.size w1 w2) := below_step' (below_draws (Below.refl _ _) 1) hb2 (Nat.le_refl _); clear hb2))) | fail
    all_goals
      go_wp2
      go_ret
      exact ⟨rfl, below_step' HB01.out HB2.out HB01.out.size⟩
  · go_wp2_with fail
    go_region_held3 (fun w' => w'.cell? ⟨w.heap.size, 0, none⟩ = some (.int .i64 q) ∧ w'.cell? ⟨w.heap.size, 1, none⟩ = some (.int .i64 n) ∧ w'.cell? ⟨w.heap.size, 2, none⟩ = some (.int .i64 k) ∧ w'.cell? ⟨w.heap.size, 3, none⟩ = some (.slice a T c) ∧
      w'.cell? ⟨0, q * 4, none⟩ = some (.string wd) ∧ w'.cell? ⟨0, q * 4 + 1, none⟩ = some (.int .i64 cn') ∧ w'.cell? ⟨0, q * 4 + 2, none⟩ = some (.int .i64 lo) ∧ w'.cell? ⟨0, q * 4 + 3, none⟩ = some (.int .i64 hi))
      (first
        | exact ⟨b0, b1, b2, b3, d0, d1, d2, d3⟩
        | exact HC.out _ HB2.out
        | exact HC.out _ HB3.out
        | exact HC.out _ HB4.out
        | go_keep)
      (first
        | (go_at_call 44; refine AC.out.mono ?_; rintro e w2 ⟨rfl, hb2⟩; have HB2 : Hid (Below w1.heap.size w1 w2) := below_step' (below_draws (Below.refl _ _) 1) hb2 (Nat.le_refl _); clear hb2)
        | (go_at_call 42; refine (SW.out _ HB2.out).mono ?_; rintro e w3 ⟨rfl, hb3⟩; have HB3 : Hid (Below w1.heap.size w1 w3) := below_step' HB2.out hb3 HB2.out.size; clear hb3)
        | (go_at_call 37; refine (IS.out _ HB3.out).mono ?_; rintro e w4 ⟨rfl, hb4⟩; have HB4 : Hid (Below w1.heap.size w1 w4) := below_step' HB3.out hb4 HB3.out.size; clear hb4))
    all_goals
      have HB5 := Lib.hid (below_step' HB01.out HB4.out HB01.out.size)
      have c0 := (HC.out _ HB4.out).1
      have c1 := (HC.out _ HB4.out).2.1
      have c2 := (HC.out _ HB4.out).2.2.1
      clear HC AC SW IS
      cases Y
      · have e : B = false := by rw [← HBX.out]; simp
        subst e
        go_wp2
        go_ret
        exact ⟨rfl, HB5.out⟩
      · by_cases h4 : q = 4
        · subst h4
          have e : B = decide (k < n) := by rw [← HBX.out]; simp
          subst e
          clear HBX
          go_wp2
          go_ret
          exact ⟨rfl, HB5.out⟩
        · have e : B = true := by rw [← HBX.out]; simp [h4]
          subst e
          have h4i : ((q : Int) == 4) = false := by simp; omega
          have h4j : ¬ (q : Int) = 4 := by omega
          clear HBX h4
          go_wp2
          go_ret
          exact ⟨rfl, HB5.out⟩

end Go.Proofs.YtdefhmpmgcahpaaDoor
