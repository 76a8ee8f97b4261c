/-
  Several texts of this claim, one behind the other; each says what it holds.
-/
import Derived.Test.YtdefhmpmgcahpaaDoorMPlanTeL16
import Derived.Test.YtdefhmpmgcahpaaDoorInz
import Derived.StillTailTactics
/-
  Which steps are valid: the model.
-/
set_option linter.unusedVariables false
set_option linter.unusedSimpArgs false
namespace Go.Proofs.YtdefhmpmgcahpaaDoor
open Go.RowKit

/-- Numbers that gains and taps can be. -/
def partsB (zs : List Int) : Bool := zs.all fun z => inZ z (-256) 256

/-- Which steps are valid. -/
def validSt (s : St) : Bool :=
  if s.kind = 1 then s.taps.isEmpty && (inZ s.n (-256) 256 && inZ s.k (-256) 256)
  else if s.kind = 2 then s.taps.isEmpty && decide (s.k = 0) && inZ s.n 0 300
  else if s.kind = 3 then decide (s.n = 0) && decide (s.k = 0) && (inZ s.taps.length 1 8 && partsB s.taps)
  else if s.kind = 4 then s.taps.isEmpty && (inZ s.n 1 1024 && inZ s.k 0 (s.n - 1))
  else if s.kind = 5 ∨ s.kind = 6 then s.taps.isEmpty && decide (s.k = 0) && inZ s.n 1 64
  else if s.kind = 7 ∨ s.kind = 8 ∨ s.kind = 9 ∨ s.kind = 10 then s.taps.isEmpty && decide (s.k = 0) && inZ s.n 1 16
  else if s.kind = 11 ∨ s.kind = 12 ∨ s.kind = 13 then s.taps.isEmpty && decide (s.k = 0) && decide (s.n = 0)
  else false

set_option maxRecDepth 100000 in
set_option maxHeartbeats 4000000 in
theorem partsM_any {v : Value} {zs : List Int} {w : World} (h : Reads w v (ints zs)) :
    Calls Tryd.prog 81 #[v] w fun e w' => e = .returned (.bool (partsB zs)) ∧ w' = w := by
  generalize hcs : ints zs = cs at h
  cases h with
  | none a cap =>
    have : zs = [] := by simpa [ints] using hcs
    subst this
    clear hcs
    go_enter Tryd.func81, Tryd.ntmps81
    go_wp2
    refine wp_loop_rounds 1 ?_
    rw [rounds_succ]
    go_wp2
    go_ret
    exact ⟨rfl, rfl⟩
  | row g cap L cs hL h0 hc hm hcell =>
    have hmax := maxLen_int (Nat.le_trans hc hm)
    have hlen : zs.length = L := by rw [← hL, ← hcs, ints_length]
    have HC : Hid (∀ j, j < L → w.cell? ⟨g, j, none⟩ = some (.int .i64 (zs.getD j 0))) := fun j hj => by rw [hcell j hj, ← hcs, ints_getD (by omega)]
    have HL := Lib.hid hlen
    have HP : Hid (∀ j, j < L → inZ (zs.getD j 0) (-256) 256 = false → partsB zs = false) := fun j hj hf => by
      have hl2 : j < zs.length := by have := hlen; omega
      cases hp : partsB zs with
      | false => rfl
      | true =>
        exfalso
        have := List.all_eq_true.1 hp zs[j] (List.getElem_mem _)
        rw [List.getD_eq_getElem?_getD, List.getElem?_eq_getElem hl2] at hf
        simp only [Option.getD_some] at hf
        rw [hf] at this
        cases this
    have HQ : Hid ((∀ j, j < L → inZ (zs.getD j 0) (-256) 256 = true) → partsB zs = true) := fun hall => by
      refine List.all_eq_true.2 fun z hz => ?_
      obtain ⟨j, hj, rfl⟩ := List.getElem_of_mem hz
      have := hall j (by have := hlen; omega)
      rwa [List.getD_eq_getElem?_getD, List.getElem?_eq_getElem hj] at this
    clear hcell h0 hL hcs hlen hm hc
    obtain ⟨pb, hpb⟩ : ∃ b, partsB zs = b := ⟨_, rfl⟩
    rw [hpb] at HP HQ ⊢
    clear hpb
    go_enter Tryd.func81, Tryd.ntmps81
    go_wp2
    go_loopw [3] (fun i wr => ∃ k : Nat, i = .int .i64 k ∧ k ≤ L ∧ (∀ j, j < k → inZ (zs.getD j 0) (-256) 256 = true) ∧ wr = w) (fun i _ => L - (intOf i).toNat)
    case atStart => exact ⟨0, rfl, Nat.zero_le _, fun j hj => by omega, rfl⟩
    case round =>
      obtain ⟨k, rfl, hk, hj, rfl⟩ := hrel
      have HJ := Lib.hid hj
      clear hj
      by_cases hlt : k < L
      · have c1 := HC.out k hlt
        obtain ⟨z, hz⟩ : ∃ z, zs.getD k 0 = z := ⟨_, rfl⟩
        have HZ := Lib.hid hz
        rw [hz] at c1
        clear hz
        go_wp2_with fail
        refine (in_any z (-256) 256 _).mono ?_
        rintro e w' ⟨rfl, rfl⟩
        obtain ⟨b, hb⟩ : ∃ b, inZ z (-256) 256 = b := ⟨_, rfl⟩
        rw [hb]
        have HB := Lib.hid hb
        clear hb
        cases b
        · have e : pb = false := HP.out k hlt (by rw [HZ.out]; exact HB.out)
          subst e
          go_wp2
          go_ret
          exact ⟨rfl, rfl⟩
        · have HK : Hid (∀ j, j < k + 1 → inZ (zs.getD j 0) (-256) 256 = true) := fun j hj => by
            by_cases e : j = k
            · rw [e, HZ.out]; exact HB.out
            · exact HJ.out j (by omega)
          go_wp2
          go_roundw
          case rel => exact ⟨k + 1, by go_num, by omega, HK.out, (by first | rfl | trivial)⟩
          case measure => simp [intOf]; omega
      · have e : k = L := by omega
        subst e
        have e : pb = true := HQ.out HJ.out
        subst e
        go_wp2
        go_ret
        exact ⟨rfl, rfl⟩

theorem turnCode_any (n k : Int) (w : World) :
    Calls Tryd.prog 82 #[.int .i64 n, .int .i64 k] w fun e w' => e = .returned (.int .i64 (if inZ n 1 1024 && inZ k 0 (n - 1) then 0 else 2)) ∧ w' = w := by
  obtain ⟨b, hb⟩ : ∃ b, inZ n 1 1024 = b := ⟨_, rfl⟩
  have I1 := Lib.hid (fun w => in_any n 1 1024 w)
  rw [hb] at I1 ⊢
  cases b
  · clear hb
    go_enter Tryd.func82, Tryd.ntmps82
    go_wp2_with fail
    refine (I1.out _).mono ?_
    rintro e w' ⟨rfl, rfl⟩
    go_wp2
    go_ret
    exact ⟨rfl, rfl⟩
  · have h1 := inZ_iff.1 hb
    have eW : IntKind.i64.wrap (n - 1) = n - 1 := IntWalk.i64_in _ (by omega)
    obtain ⟨c, hc⟩ : ∃ c, inZ k 0 (n - 1) = c := ⟨_, rfl⟩
    have I2 := Lib.hid (fun w => in_any k 0 (n - 1) w)
    rw [hc] at I2 ⊢
    clear hb hc h1
    cases c
    all_goals
      go_enter Tryd.func82, Tryd.ntmps82
      go_wp2_with fail
      refine (I1.out _).mono ?_
      rintro e w' ⟨rfl, rfl⟩
      go_wp2_with fail
      refine (I2.out _).mono ?_
      rintro e w' ⟨rfl, rfl⟩
      go_wp2
      go_ret
      exact ⟨rfl, rfl⟩

end Go.Proofs.YtdefhmpmgcahpaaDoor
/-
  Which steps are valid: the table of the model.
-/
set_option linter.unusedVariables false
set_option linter.unusedSimpArgs false
namespace Go.Proofs.YtdefhmpmgcahpaaDoor
open Go.RowKit

/-- Where a step lies, as a pointer to it reads. -/
structure StepAt (w : World) (g o : Nat) (kd n k : Int) (a : Option Addr) (L c : Nat) : Prop where
  c0 : w.cell? ⟨g, o, none⟩ = some (.int .i64 kd)
  c1 : w.cell? ⟨g, o + 1, none⟩ = some (.int .i64 n)
  c2 : w.cell? ⟨g, o + 2, none⟩ = some (.int .i64 k)
  c3 : w.cell? ⟨g, o + 3, none⟩ = some (.slice a L c)

theorem StepAt.below {w w' : World} {g o : Nat} {kd n k : Int} {a : Option Addr} {L c : Nat} (h : StepAt w g o kd n k a L c) (hb : Below w.heap.size w w') : StepAt w' g o kd n k a L c := by
  have hg : g < w.heap.size := World.block_lt_of_cell? _ _ h.c0
  exact ⟨by rw [hb.cell (by exact hg)]; exact h.c0, by rw [hb.cell (by exact hg)]; exact h.c1, by rw [hb.cell (by exact hg)]; exact h.c2, by rw [hb.cell (by exact hg)]; exact h.c3⟩

/-- How many numbers the text of a kind mentions. -/
def toldL : List Int := [0, 2, 1, -1, 2, 1, 1, 1, 1, 1, 1, 0, 0, 0]

set_option maxRecDepth 100000 in
set_option maxHeartbeats 4000000 in
theorem words_any (w : World) :
    Calls Tryd.prog 46 #[] w fun e w' => ∃ V b, e = .returned (.tuple #[V, .slice (some ⟨b, 0, none⟩) 14 14]) ∧ (∀ j, j < 14 → w'.cell? ⟨b, j, none⟩ = some (.int .i64 (toldL.getD j 0))) ∧ Below w.heap.size w w' := by
  go_enter Tryd.func46, Tryd.ntmps46
  go_wp2
  go_ret2
  refine ⟨_, _, rfl, ?_, ((Below.refl _ _).alloc (Nat.le_refl _) _).alloc (by simp) _⟩
  intro j hj
  rcases j with _ | _ | _ | _ | _ | _ | _ | _ | _ | _ | _ | _ | _ | _ | j
  all_goals first | omega | (unfold toldL; go_simp; done) | (unfold toldL; go_simp; rfl)

end Go.Proofs.YtdefhmpmgcahpaaDoor
