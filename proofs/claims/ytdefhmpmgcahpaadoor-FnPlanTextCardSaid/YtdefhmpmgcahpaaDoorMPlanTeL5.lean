/-
  Several texts of this claim, one behind the other; each says what it holds.
-/
import Derived.Test.YtdefhmpmgcahpaaDoorImpDZ
/-
  ValidStep of the program asks what the model asks.
-/
set_option linter.unusedVariables false
set_option linter.unusedSimpArgs false
namespace Go.Proofs.YtdefhmpmgcahpaaDoor
open Go.RowKit

theorem sameSt_iff {s r : St} : sameSt s r = true ↔ s = r := by
  obtain ⟨a, b, c, d⟩ := s
  obtain ⟨a', b', c', d'⟩ := r
  simp [sameSt, and_assoc]

/-- What the program asks is what the model asks. -/
theorem ask_valid {q : Nat} (h1 : 1 ≤ q) (h13 : q ≤ 13) (n k : Int) (taps : List Int) : askB q n k taps = validSt ⟨q, n, k, taps⟩ := by
  have hc : q = 1 ∨ q = 2 ∨ q = 3 ∨ q = 4 ∨ q = 5 ∨ q = 6 ∨ q = 7 ∨ q = 8 ∨ q = 9 ∨ q = 10 ∨ q = 11 ∨ q = 12 ∨ q = 13 := by omega
  have hl : taps.isEmpty = decide (taps = []) := by cases taps <;> simp
  have hl2 : decide (taps = []) = decide (taps.length = 0) := by cases taps <;> simp
  clear h1 h13
  rcases hc with rfl | rfl | rfl | rfl | rfl | rfl | rfl | rfl | rfl | rfl | rfl | rfl | rfl
  all_goals
    simp only [askB, validSt, acceptB, cntOf, loOf, hiOf, numsOf, withSt, sameSt, inZ, partsB, hl]
    simp
    try rw [hl2]
    generalize taps.length = L
    first
      | (rw [Bool.eq_iff_iff]; simp; omega)
      | (generalize (taps.all fun z => decide (-256 ≤ z) && decide (z ≤ 256)) = A
         rw [Bool.eq_iff_iff]
         cases A
         · simp
         · simp; omega)

set_option maxRecDepth 100000 in
set_option maxHeartbeats 4000000 in
theorem validStep_none (kd n k : Int) (a : Option Addr) (L c : Nat) (w : World) (hk : inZ kd 1 13 = false) :
    Calls Tryd.prog 16 #[.agg #[.int .i64 kd, .int .i64 n, .int .i64 k, .slice a L c]] w fun e w' => e = .returned (.bool false) ∧ Below w.heap.size w w' := by
  have h' : ¬ (1 ≤ kd ∧ kd ≤ 13) := fun h => by rw [inZ_t h] at hk; cases hk
  clear hk
  by_cases h1 : kd < 1
  · have g1 : decide (kd < 1) = true := decide_eq_true h1
    clear h' h1
    go_enter Tryd.func16, Tryd.ntmps16
    go_wp2
    go_ret
    exact ⟨rfl, (Below.refl _ _).alloc (Nat.le_refl _) _⟩
  · have g1 : decide (kd < 1) = false := decide_eq_false h1
    have g2 : decide (13 < kd) = true := decide_eq_true (by omega)
    clear h' h1
    go_enter Tryd.func16, Tryd.ntmps16
    go_wp2
    go_ret
    exact ⟨rfl, (Below.refl _ _).alloc (Nat.le_refl _) _⟩

theorem validStep_impl (s : St) (a : Option Addr) (c : Nat) (w : World) (ht : Tab w) (hs : Reads w (.slice a s.taps.length c) (ints s.taps)) :
    Calls Tryd.prog 16 #[.agg #[.int .i64 s.kind, .int .i64 s.n, .int .i64 s.k, .slice a s.taps.length c]] w fun e w' => e = .returned (.bool (validSt s)) ∧ Below w.heap.size w w' := by
  obtain ⟨kd, n, k, taps⟩ := s
  simp only at hs ⊢
  by_cases hk : inZ kd 1 13 = false
  · have e : validSt ⟨kd, n, k, taps⟩ = false := by
      have : ¬ (1 ≤ kd ∧ kd ≤ 13) := fun h => by rw [inZ_t h] at hk; cases hk
      simp only [validSt]
      repeat (rw [if_neg (by omega)])
    rw [e]
    exact validStep_none kd n k a _ c w hk
  · have h := inZ_iff.1 (by simpa using hk : inZ kd 1 13 = true)
    obtain ⟨q, rfl⟩ : ∃ q : Nat, kd = q := ⟨kd.toNat, by omega⟩
    rw [← ask_valid (by omega) (by omega)]
    exact validStep_q q (by omega) (by omega) n k taps a c w ht hs

end Go.Proofs.YtdefhmpmgcahpaaDoor
/-
  eqStep, eqStepS, eqPlan.
-/
set_option linter.unusedVariables false
set_option linter.unusedSimpArgs false
namespace Go.Proofs.YtdefhmpmgcahpaaDoor
open Go.RowKit

set_option maxRecDepth 100000 in
set_option maxHeartbeats 4000000 in
theorem eqStep_any (s : St) (a a' : Option Addr) (c c' : Nat) (w : World) (h : Reads w (.slice a s.taps.length c) (ints s.taps)) (h' : Reads w (.slice a' s.taps.length c') (ints s.taps)) :
    Calls Tryd.prog 18 #[.agg #[.int .i64 s.kind, .int .i64 s.n, .int .i64 s.k, .slice a s.taps.length c], .agg #[.int .i64 s.kind, .int .i64 s.n, .int .i64 s.k, .slice a' s.taps.length c']] w fun e w' => e = .returned (.bool true) ∧ Below w.heap.size w w' := by
  obtain ⟨kd, n, k, taps⟩ := s
  simp only at h h' ⊢
  have HB : Hid (Below w.heap.size w ((w.alloc (.cells #[.int .i64 kd, .int .i64 n, .int .i64 k, .slice a taps.length c] 36)).alloc (.cells #[.int .i64 kd, .int .i64 n, .int .i64 k, .slice a' taps.length c'] 36))) := ((Below.refl _ _).alloc (Nat.le_refl _) _).alloc (by simp) _
  have E := Lib.hid (eqInt64_any (h.keep HB.out) (h'.keep HB.out))
  obtain ⟨L, hL⟩ : ∃ L, taps.length = L := ⟨_, rfl⟩
  rw [hL] at E HB ⊢
  clear h h' hL
  go_enter Tryd.func18, Tryd.ntmps18
  go_wp2_with fail
  refine E.out.mono ?_
  rintro e w1 ⟨rfl, m, rfl⟩
  go_wp2
  go_ret
  exact ⟨rfl, below_draws HB.out _⟩

set_option maxRecDepth 100000 in
set_option maxHeartbeats 4000000 in
theorem eqStepS_any {w : World} {B B' : Nat} {V V' : Value} {ss : List St} {tv tv' : Nat → Value} (h : StepsO w B V ss.length ss.length ss tv) (h' : StepsO w B' V' ss.length ss.length ss tv') :
    Calls Tryd.prog 53 #[V, V'] w fun e w' => e = .returned (.bool true) ∧ Below w.heap.size w w' := by
  have HA := Lib.hid (fun j (hj : j < ss.length) => h.at hj (Nat.le_refl _))
  have HA' := Lib.hid (fun j (hj : j < ss.length) => h'.at hj (Nat.le_refl _))
  obtain ⟨a, cap, rfl⟩ := h.form
  obtain ⟨a', cap', rfl⟩ := h'.form
  have hmax : (ss.length : Int) ≤ 9223372036854775807 := by
    by_cases h0 : ss.length = 0
    · omega
    · obtain ⟨g, cp, aa, cc, e, hc, hm, _⟩ := HA.out 0 (by omega)
      unfold maxLen at hm
      omega
  obtain ⟨L, hL⟩ : ∃ L, ss.length = L := ⟨_, rfl⟩
  rw [hL] at HA HA' hmax ⊢
  clear h h' hL
  go_enter Tryd.func53, Tryd.ntmps53
  go_wp2
  go_loopw [5] (fun i wr => ∃ k : Nat, i = .int .i64 k ∧ k ≤ L ∧ Below w.heap.size w wr) (fun i _ => L - (intOf i).toNat)
  case atStart => exact ⟨0, rfl, Nat.zero_le _, Below.refl _ _⟩
  case round =>
    obtain ⟨k, rfl, hk, hB⟩ := hrel
    have HB := Lib.hid hB
    clear hB
    by_cases hlt : k < L
    · obtain ⟨g, cp, ta, tc, e, -, -, hg, -, c0, c1, c2, c3, hr⟩ := HA.out k hlt
      obtain ⟨g', cp', ta', tc', e', -, -, hg', -, d0, d1, d2, d3, hr'⟩ := HA'.out k hlt
      simp only [Value.slice.injEq] at e e'
      obtain ⟨rfl, -, rfl⟩ := e
      obtain ⟨rfl, -, rfl⟩ := e'
      have hr := hr.reads
      have hr' := hr'.reads
      obtain ⟨S, hS⟩ : ∃ S, ss.getD k default = S := ⟨_, rfl⟩
      rw [hS] at c0 c1 c2 c3 d0 d1 d2 d3 hr hr'
      rw [← HB.out.cell hg] at c0 c1 c2 c3
      rw [← HB.out.cell hg'] at d0 d1 d2 d3
      have E := Lib.hid (eqStep_any S ta ta' tc tc' wr.drew ((hr.keep HB.out).drewN 1) ((hr'.keep HB.out).drewN 1))
      have hk3 : (k : Int) < (L : Int) := by omega
      obtain ⟨T, hT⟩ : ∃ T, S.taps.length = T := ⟨_, rfl⟩
      rw [hT] at E c3 d3
      clear hr hr' hT hS
      go_wp2_with fail
      go_still_tail 8, (by kernel_rfl)
      change wpList _ _ _ _ _ wr.drew
      go_wp2_with fail
      refine E.out.mono ?_
      rintro e w2 ⟨rfl, hb2⟩
      have HB2 : Hid (Below w.heap.size w w2) := below_step' (below_draws HB.out 1) hb2 HB.out.size
      clear hb2
      go_wp2
      go_roundw
      case rel => exact ⟨k + 1, by go_num, by omega, HB2.out⟩
      case measure => simp [intOf]; omega
    · have e : k = L := by omega
      subst e
      go_wp2
      go_ret
      exact ⟨rfl, HB.out⟩

theorem eqPlan_any {w : World} {B B' : Nat} {V V' : Value} {ss : List St} {tv tv' : Nat → Value} (h : StepsO w B V ss.length ss.length ss tv) (h' : StepsO w B' V' ss.length ss.length ss tv') :
    Calls Tryd.prog 22 #[.agg #[V], .agg #[V']] w fun e w' => e = .returned (.bool true) ∧ Below w.heap.size w w' := by
  obtain ⟨a, cap, rfl⟩ := h.form
  obtain ⟨a', cap', rfl⟩ := h'.form
  have HB : Hid (Below w.heap.size w ((w.alloc (.cells #[.slice a ss.length cap] 26)).alloc (.cells #[.slice a' ss.length cap'] 26))) := ((Below.refl _ _).alloc (Nat.le_refl _) _).alloc (by simp) _
  have E := Lib.hid (eqStepS_any (h.below HB.out (Nat.le_refl _)) (h'.below HB.out (Nat.le_refl _)))
  clear h h'
  go_enter Tryd.func22, Tryd.ntmps22
  go_wp2_with fail
  refine E.out.mono ?_
  rintro e w1 ⟨rfl, hb⟩
  have HB2 := Lib.hid (below_step' HB.out hb HB.out.size)
  clear hb
  go_wp2
  go_ret
  exact ⟨rfl, HB2.out⟩

end Go.Proofs.YtdefhmpmgcahpaaDoor
/-
  ValidPlan of both.
-/
set_option linter.unusedVariables false
set_option linter.unusedSimpArgs false
namespace Go.Proofs.YtdefhmpmgcahpaaDoor
open Go.RowKit

/-- Which plans are valid. -/
def validPl (ss : List St) : Bool := decide (ss.length ≤ 8) && ss.all validSt

theorem StepsO.len {w : World} {B : Nat} {V : Value} {n : Nat} {ss : List St} {tv : Nat → Value} (h : StepsO w B V n n ss tv) : n ≤ 9223372036854775807 := by
  by_cases h0 : n = 0
  · omega
  · obtain ⟨g, cp, aa, cc, e, hc, hm, _⟩ := h.at (j := 0) (by omega) (Nat.le_refl _)
    unfold maxLen at hm
    omega

theorem Row.len_le' {w : World} {B : Nat} {v : Value} {zs : List Int} (h : Row w B 2 v (ints zs)) : zs.length ≤ 9223372036854775807 := h.len_le

set_option maxRecDepth 100000 in
set_option maxHeartbeats 4000000 in
theorem l07Ok_any {w : World} {B b : Nat} {V : Value} {ss : List St} {tv : Nat → Value} (h : StepsO w B V ss.length ss.length ss tv) (hp : w.cell? ⟨b, 0, none⟩ = some V) :
    Calls Tryd.prog 52 #[.pointer (some ⟨b, 0, none⟩)] w fun e w' => e = .returned (.bool (validPl ss)) ∧ Below w.heap.size w w' := by
  have HA := Lib.hid (fun j (hj : j < ss.length) => h.at hj (Nat.le_refl _))
  have hmax := h.len
  obtain ⟨a, cap, rfl⟩ := h.form
  have hbw : b < w.heap.size := World.block_lt_of_cell? _ _ hp
  have HF : Hid (∀ j, j < ss.length → validSt (ss.getD j default) = false → ss.all validSt = false) := fun j hj hf => by
    refine List.all_eq_false.2 ⟨ss[j], List.getElem_mem _, ?_⟩
    rw [List.getD_eq_getElem?_getD, List.getElem?_eq_getElem hj] at hf
    simpa using hf
  have HT : Hid ((∀ j, j < ss.length → validSt (ss.getD j default) = true) → ss.all validSt = true) := fun hall => by
    refine List.all_eq_true.2 fun s hs => ?_
    obtain ⟨j, hj, rfl⟩ := List.getElem_of_mem hs
    have := hall j hj
    rwa [List.getD_eq_getElem?_getD, List.getElem?_eq_getElem hj] at this
  unfold validPl
  obtain ⟨A, hA⟩ : ∃ A, ss.all validSt = A := ⟨_, rfl⟩
  rw [hA] at HF HT ⊢
  obtain ⟨L, hL⟩ : ∃ L, ss.length = L := ⟨_, rfl⟩
  rw [hL] at HA HF HT hmax hp ⊢
  have hmx : (L : Int) ≤ 9223372036854775807 := by omega
  clear h hA hL hmax
  go_enter Tryd.func52, Tryd.ntmps52
  go_wp2
  go_loopw [3] (fun i wr => ∃ k : Nat, i = .int .i64 k ∧ k ≤ L ∧ (∀ j, j < k → validSt (ss.getD j default) = true) ∧ Below w.heap.size w wr) (fun i _ => L - (intOf i).toNat)
  case atStart => exact ⟨0, rfl, Nat.zero_le _, fun j hj => by omega, Below.refl _ _⟩
  case round =>
    obtain ⟨k, rfl, hk, hj, hB⟩ := hrel
    have HB := Lib.hid hB
    have HJ := Lib.hid hj
    have hp' : wr.cell? ⟨b, 0, none⟩ = some (.slice a L cap) := by rw [hB.cell hbw]; exact hp
    clear hB hj
    by_cases hlt : k < L
    · obtain ⟨g, cp, ta, tc, e, -, -, hg, -, c0, c1, c2, c3, hr⟩ := HA.out k hlt
      simp only [Value.slice.injEq] at e
      obtain ⟨rfl, -, rfl⟩ := e
      have hlen := hr.len_le
      have hr := hr.reads
      obtain ⟨S, hS⟩ : ∃ S, ss.getD k default = S := ⟨_, rfl⟩
      have HS := Lib.hid hS
      rw [hS] at c0 c1 c2 c3 hr hlen
      have C := Lib.hid (l07Step_any S.kind S.n S.k S.taps ta tc g (k * 4) hlen wr (StepAt.below ⟨c0, c1, c2, c3⟩ HB.out) (fun w1 hb1 => hr.keep (below_step' HB.out hb1 HB.out.size)))
      obtain ⟨v, hv⟩ : ∃ v, validSt ⟨S.kind, S.n, S.k, S.taps⟩ = v := ⟨_, rfl⟩
      rw [hv] at C
      have HV : Hid (validSt (ss.getD k default) = v) := by show validSt (ss.getD k default) = v; rw [hS, ← hv]
      clear hr hS hlen c0 c1 c2 c3 hv
      go_wp2_with fail
      refine C.out.mono ?_
      rintro e w2 ⟨rfl, hb2⟩
      have HB2 := Lib.hid (below_step' HB.out hb2 HB.out.size)
      clear hb2
      cases v
      · have e : A = false := HF.out k hlt HV.out
        subst e
        go_wp2
        go_ret
        exact ⟨by simp, HB2.out⟩
      · have HK : Hid (∀ j, j < k + 1 → validSt (ss.getD j default) = true) := fun j hj => by
          by_cases e : j = k
          · rw [e]; exact HV.out
          · exact HJ.out j (by omega)
        have hp2 : w2.cell? ⟨b, 0, none⟩ = some (.slice (some ⟨g, 0, none⟩) L cap) := by rw [HB2.out.cell hbw]; exact hp
        go_wp2
        go_roundw
        case rel => exact ⟨k + 1, by go_num, by omega, HK.out, HB2.out⟩
        case measure => simp [intOf]; omega
    · have e : k = L := by omega
      subst e
      have e : A = true := HT.out HJ.out
      subst e
      by_cases h8 : k ≤ 8
      · have g8 : decide ((k : Int) ≤ 8) = true := decide_eq_true (by omega)
        go_wp2
        go_ret
        exact ⟨by simp [h8], HB.out⟩
      · have g8 : decide ((k : Int) ≤ 8) = false := decide_eq_false (by omega)
        go_wp2
        go_ret
        exact ⟨by simp [h8], HB.out⟩

theorem enter_vp1 (args : Array Value) (w : World) : (callFunc 34 args).run Tryd.prog w = .ok (.enter 34 args) w := by kernel_rfl

theorem vp1_any (s : St) (a : Option Addr) (c : Nat) (w : World) (ht : Tab w) (hs : Reads w (.slice a s.taps.length c) (ints s.taps)) :
    Calls Tryd.prog 34 #[.agg #[.int .i64 s.kind, .int .i64 s.n, .int .i64 s.k, .slice a s.taps.length c]] w fun e w' => e = .returned (.bool (!validSt s)) ∧ Below w.heap.size w w' := by
  have HB : Hid (Below w.heap.size w (w.alloc (.cells #[.int .i64 s.kind, .int .i64 s.n, .int .i64 s.k, .slice a s.taps.length c] 36))) := (Below.refl _ _).alloc (Nat.le_refl _) _
  have C := Lib.hid (validStep_impl s a c _ (ht.below HB.out) (hs.keep HB.out))
  obtain ⟨v, hv⟩ : ∃ v, validSt s = v := ⟨_, rfl⟩
  rw [hv] at C ⊢
  clear ht hs hv
  go_enter Tryd.func34, Tryd.ntmps34
  go_wp2_with fail
  refine C.out.mono ?_
  rintro e w1 ⟨rfl, hb⟩
  have HB2 := Lib.hid (below_step' HB.out hb HB.out.size)
  clear hb
  go_wp2
  go_ret
  exact ⟨rfl, HB2.out⟩

set_option maxRecDepth 100000 in
set_option maxHeartbeats 4000000 in
theorem indexS_any {w : World} {B : Nat} {V : Value} {ss : List St} {tv : Nat → Value} (h : StepsO w B V ss.length ss.length ss tv) (ht : Tab w) :
    Calls Tryd.prog 70 #[V, .func (.func 34) #[] #[]] w fun e w' => ∃ r : Int, e = .returned (.int .i64 r) ∧ decide (0 ≤ r) = !ss.all validSt ∧ Below w.heap.size w w' := by
  have HA := Lib.hid (fun j (hj : j < ss.length) => h.at hj (Nat.le_refl _))
  have hmax := h.len
  obtain ⟨a, cap, rfl⟩ := h.form
  have HF : Hid (∀ j, j < ss.length → validSt (ss.getD j default) = false → ss.all validSt = false) := fun j hj hf => by
    refine List.all_eq_false.2 ⟨ss[j], List.getElem_mem _, ?_⟩
    rw [List.getD_eq_getElem?_getD, List.getElem?_eq_getElem hj] at hf
    simpa using hf
  have HTr : Hid ((∀ j, j < ss.length → validSt (ss.getD j default) = true) → ss.all validSt = true) := fun hall => by
    refine List.all_eq_true.2 fun s hs => ?_
    obtain ⟨j, hj, rfl⟩ := List.getElem_of_mem hs
    have := hall j hj
    rwa [List.getD_eq_getElem?_getD, List.getElem?_eq_getElem hj] at this
  have HT := Lib.hid ht
  obtain ⟨A, hA⟩ : ∃ A, ss.all validSt = A := ⟨_, rfl⟩
  rw [hA] at HF HTr ⊢
  obtain ⟨L, hL⟩ : ∃ L, ss.length = L := ⟨_, rfl⟩
  rw [hL] at HA HF HTr hmax ⊢
  have hmx : (L : Int) ≤ 9223372036854775807 := by omega
  have hfn := enter_vp1
  clear h hA hL hmax ht
  go_enter Tryd.func70, Tryd.ntmps70
  go_wp2
  go_loopw [8] (fun i wr => ∃ k : Nat, i = .int .i64 k ∧ k ≤ L ∧ (∀ j, j < k → validSt (ss.getD j default) = true) ∧ Below w.heap.size w wr) (fun i _ => L - (intOf i).toNat)
  case atStart => exact ⟨0, rfl, Nat.zero_le _, fun j hj => by omega, Below.refl _ _⟩
  case round =>
    obtain ⟨k, rfl, hk, hj, hB⟩ := hrel
    have HB := Lib.hid hB
    have HJ := Lib.hid hj
    clear hB hj
    by_cases hlt : k < L
    · obtain ⟨g, cp, ta, tc, e, -, -, hg, -, c0, c1, c2, c3, hr⟩ := HA.out k hlt
      simp only [Value.slice.injEq] at e
      obtain ⟨rfl, -, rfl⟩ := e
      have hr := hr.reads
      obtain ⟨S, hS⟩ : ∃ S, ss.getD k default = S := ⟨_, rfl⟩
      rw [hS] at c0 c1 c2 c3 hr
      rw [← HB.out.cell hg] at c0 c1 c2 c3
      have C := Lib.hid (vp1_any S ta tc wr (HT.out.below HB.out) (hr.keep HB.out))
      obtain ⟨v, hv⟩ : ∃ v, validSt S = v := ⟨_, rfl⟩
      rw [hv] at C
      have HV : Hid (validSt (ss.getD k default) = v) := by show validSt (ss.getD k default) = v; rw [hS, ← hv]
      clear hr hS hv
      go_wp2_with fail
      with_reducible refine C.out.mono ?_
      rintro e w2 ⟨rfl, hb2⟩
      have HB2 := Lib.hid (below_step' HB.out hb2 HB.out.size)
      clear hb2
      cases v
      · have e : A = false := HF.out k hlt HV.out
        subst e
        go_wp2
        go_ret
        exact ⟨_, rfl, decide_eq_true (by omega), HB2.out⟩
      · have HK : Hid (∀ j, j < k + 1 → validSt (ss.getD j default) = true) := fun j hj => by
          by_cases e : j = k
          · rw [e]; exact HV.out
          · exact HJ.out j (by omega)
        go_wp2
        go_roundw
        case rel => exact ⟨k + 1, by go_num, by omega, HK.out, HB2.out⟩
        case measure => simp [intOf]; omega
    · have e : k = L := by omega
      subst e
      have e : A = true := HTr.out HJ.out
      subst e
      go_wp2
      go_ret
      exact ⟨_, rfl, by decide, HB.out⟩

set_option maxRecDepth 100000 in
theorem containsS_any {w : World} {B : Nat} {V : Value} {ss : List St} {tv : Nat → Value} (h : StepsO w B V ss.length ss.length ss tv) (ht : Tab w) :
    Calls Tryd.prog 33 #[V, .func (.func 34) #[] #[]] w fun e w' => e = .returned (.bool (!ss.all validSt)) ∧ Below w.heap.size w w' := by
  have I := Lib.hid (indexS_any h ht)
  clear h ht
  go_enter Tryd.func33, Tryd.ntmps33
  go_wp2_with fail
  with_reducible refine I.out.mono ?_
  rintro e w' ⟨r, rfl, hr, hb⟩
  have HR := Lib.hid hr
  have HB := Lib.hid hb
  clear hr hb
  go_wp2
  go_ret
  exact ⟨by rw [← HR.out]; rfl, HB.out⟩

set_option maxRecDepth 100000 in
theorem validPlan_impl {w : World} {B : Nat} {V : Value} {ss : List St} {tv : Nat → Value} (h : StepsO w B V ss.length ss.length ss tv) (ht : Tab w) :
    Calls Tryd.prog 11 #[.agg #[V]] w fun e w' => e = .returned (.bool (validPl ss)) ∧ Below w.heap.size w w' := by
  obtain ⟨a, cap, rfl⟩ := h.form
  have hmax := h.len
  have HB : Hid (Below w.heap.size w (w.alloc (.cells #[.slice a ss.length cap] 26))) := (Below.refl _ _).alloc (Nat.le_refl _) _
  have C := Lib.hid (containsS_any (h.below HB.out (Nat.le_refl _)) (ht.below HB.out))
  unfold validPl
  obtain ⟨A, hA⟩ : ∃ A, ss.all validSt = A := ⟨_, rfl⟩
  rw [hA] at C ⊢
  obtain ⟨L, hL⟩ : ∃ L, ss.length = L := ⟨_, rfl⟩
  rw [hL] at C HB hmax ⊢
  clear h ht hA hL
  by_cases h8 : L ≤ 8
  · have g8 : decide ((L : Int) ≤ 8) = true := decide_eq_true (by omega)
    go_enter Tryd.func11, Tryd.ntmps11
    go_wp2_with fail
    with_reducible refine C.out.mono ?_
    rintro e w1 ⟨rfl, hb⟩
    have HB2 := Lib.hid (below_step' HB.out hb HB.out.size)
    clear hb
    go_wp2
    go_ret
    exact ⟨by simp [h8], HB2.out⟩
  · have g8 : decide ((L : Int) ≤ 8) = false := decide_eq_false (by omega)
    go_enter Tryd.func11, Tryd.ntmps11
    go_wp2
    go_ret
    exact ⟨by simp [h8], HB.out⟩

end Go.Proofs.YtdefhmpmgcahpaaDoor
