import Derived.Test.YtfdmohnmilecnaaDoorEqS
/-
  ValidPlan of both.
-/
set_option linter.unusedVariables false
set_option linter.unusedSimpArgs false
namespace Go.Proofs.YtfdmohnmilecnaaDoor
open Go.RowKit

/-- Which plans are valid. -/
def validPl (ss : List St) : Bool := decide (ss.length ≤ 8) && ss.all validSt

theorem StepsO.len {w : World} {B : Nat} {V : Value} {n : Nat} {ss : List St} {tv : Nat → Value} (h : StepsO w B V n n ss tv) : n ≤ 9223372036854775807 := by
  by_cases h0 : n = 0
  · omega
  · obtain ⟨g, cp, aa, cc, e, hc, hm, _⟩ := h.at (j := 0) (by omega) (Nat.le_refl _)
    unfold maxLen at hm
    omega

theorem Row.len_le' {w : World} {B : Nat} {v : Value} {zs : List Int} (h : Row w B 2 v (ints zs)) : zs.length ≤ 9223372036854775807 := h.len_le

set_option maxRecDepth 100000 in
set_option maxHeartbeats 4000000 in
theorem l07Ok_any {w : World} {B b : Nat} {V : Value} {ss : List St} {tv : Nat → Value} (h : StepsO w B V ss.length ss.length ss tv) (hp : w.cell? ⟨b, 0, none⟩ = some V) :
    Calls Tryd.prog 65 #[.pointer (some ⟨b, 0, none⟩)] w fun e w' => e = .returned (.bool (validPl ss)) ∧ Below w.heap.size w w' := by
  have HA := Lib.hid (fun j (hj : j < ss.length) => h.at hj (Nat.le_refl _))
  have hmax := h.len
  obtain ⟨a, cap, rfl⟩ := h.form
  have hbw : b < w.heap.size := World.block_lt_of_cell? _ _ hp
  have HF : Hid (∀ j, j < ss.length → validSt (ss.getD j default) = false → ss.all validSt = false) := fun j hj hf => by
    refine List.all_eq_false.2 ⟨ss[j], List.getElem_mem _, ?_⟩
    rw [List.getD_eq_getElem?_getD, List.getElem?_eq_getElem hj] at hf
    simpa using hf
  have HT : Hid ((∀ j, j < ss.length → validSt (ss.getD j default) = true) → ss.all validSt = true) := fun hall => by
    refine List.all_eq_true.2 fun s hs => ?_
    obtain ⟨j, hj, rfl⟩ := List.getElem_of_mem hs
    have := hall j hj
    rwa [List.getD_eq_getElem?_getD, List.getElem?_eq_getElem hj] at this
  unfold validPl
  obtain ⟨A, hA⟩ : ∃ A, ss.all validSt = A := ⟨_, rfl⟩
  rw [hA] at HF HT ⊢
  obtain ⟨L, hL⟩ : ∃ L, ss.length = L := ⟨_, rfl⟩
  rw [hL] at HA HF HT hmax hp ⊢
  have hmx : (L : Int) ≤ 9223372036854775807 := by omega
  clear h hA hL hmax
  go_enter Tryd.func65, Tryd.ntmps65
  go_wp2
  go_loopw [3] (fun i wr => ∃ k : Nat, i = .int .i64 k ∧ k ≤ L ∧ (∀ j, j < k → validSt (ss.getD j default) = true) ∧ Below w.heap.size w wr) (fun i _ => L - (intOf i).toNat)
  case atStart => exact ⟨0, rfl, Nat.zero_le _, fun j hj => by omega, Below.refl _ _⟩
  case round =>
    obtain ⟨k, rfl, hk, hj, hB⟩ := hrel
    have HB := Lib.hid hB
    have HJ := Lib.hid hj
    have hp' : wr.cell? ⟨b, 0, none⟩ = some (.slice a L cap) := by rw [hB.cell hbw]; exact hp
    clear hB hj
    by_cases hlt : k < L
    · obtain ⟨g, cp, ta, tc, e, -, -, hg, -, c0, c1, c2, c3, hr⟩ := HA.out k hlt
      simp only [Value.slice.injEq] at e
      obtain ⟨rfl, -, rfl⟩ := e
      have hlen := hr.len_le
      have hr := hr.reads
      obtain ⟨S, hS⟩ : ∃ S, ss.getD k default = S := ⟨_, rfl⟩
      have HS := Lib.hid hS
      rw [hS] at c0 c1 c2 c3 hr hlen
      have C := Lib.hid (l07Step_any S.kind S.n S.k S.taps ta tc g (k * 4) hlen wr (StepAt.below ⟨c0, c1, c2, c3⟩ HB.out) (fun w1 hb1 => hr.keep (below_step' HB.out hb1 HB.out.size)))
      obtain ⟨v, hv⟩ : ∃ v, validSt ⟨S.kind, S.n, S.k, S.taps⟩ = v := ⟨_, rfl⟩
      rw [hv] at C
      have HV : Hid (validSt (ss.getD k default) = v) := by show validSt (ss.getD k default) = v; rw [hS, ← hv]
      clear hr hS hlen c0 c1 c2 c3 hv
      go_wp2_with fail
      refine C.out.mono ?_
      rintro e w2 ⟨rfl, hb2⟩
      have HB2 := Lib.hid (below_step' HB.out hb2 HB.out.size)
      clear hb2
      cases v
      · have e : A = false := HF.out k hlt HV.out
        subst e
        go_wp2
        go_ret
        exact ⟨by simp, HB2.out⟩
      · have HK : Hid (∀ j, j < k + 1 → validSt (ss.getD j default) = true) := fun j hj => by
          by_cases e : j = k
          · rw [e]; exact HV.out
          · exact HJ.out j (by omega)
        have hp2 : w2.cell? ⟨b, 0, none⟩ = some (.slice (some ⟨g, 0, none⟩) L cap) := by rw [HB2.out.cell hbw]; exact hp
        go_wp2
        go_roundw
        case rel => exact ⟨k + 1, by go_num, by omega, HK.out, HB2.out⟩
        case measure => simp [intOf]; omega
    · have e : k = L := by omega
      subst e
      have e : A = true := HT.out HJ.out
      subst e
      by_cases h8 : k ≤ 8
      · have g8 : decide ((k : Int) ≤ 8) = true := decide_eq_true (by omega)
        go_wp2
        go_ret
        exact ⟨by simp [h8], HB.out⟩
      · have g8 : decide ((k : Int) ≤ 8) = false := decide_eq_false (by omega)
        go_wp2
        go_ret
        exact ⟨by simp [h8], HB.out⟩

set_option maxRecDepth 100000 in
theorem validPlan_spec {w : World} {B : Nat} {V : Value} {ss : List St} {tv : Nat → Value} (h : StepsO w B V ss.length ss.length ss tv) :
    Calls Tryd.prog 26 #[.agg #[V]] w fun e w' => e = .returned (.bool (validPl ss)) ∧ Below w.heap.size w w' := by
  obtain ⟨a, cap, rfl⟩ := h.form
  have HB : Hid (Below w.heap.size w (w.alloc (.cells #[.slice a ss.length cap] 43))) := (Below.refl _ _).alloc (Nat.le_refl _) _
  have C := Lib.hid (l07Ok_any (b := w.heap.size) (h.below HB.out (Nat.le_refl _)) (by go_simp))
  clear h
  go_enter Tryd.func26, Tryd.ntmps26
  go_wp2_with fail
  refine C.out.mono ?_
  rintro e w1 ⟨rfl, hb⟩
  have HB2 := Lib.hid (below_step' HB.out hb HB.out.size)
  clear hb
  go_wp2
  go_ret
  exact ⟨rfl, HB2.out⟩

theorem enter_vp1 (args : Array Value) (w : World) : (callFunc 68 args).run Tryd.prog w = .ok (.enter 68 args) w := by kernel_rfl

theorem vp1_any (s : St) (a : Option Addr) (c : Nat) (w : World) (ht : Tab w) (hs : Reads w (.slice a s.taps.length c) (ints s.taps)) :
    Calls Tryd.prog 68 #[.agg #[.int .i64 s.kind, .int .i64 s.n, .int .i64 s.k, .slice a s.taps.length c]] w fun e w' => e = .returned (.bool (!validSt s)) ∧ Below w.heap.size w w' := by
  have HB : Hid (Below w.heap.size w (w.alloc (.cells #[.int .i64 s.kind, .int .i64 s.n, .int .i64 s.k, .slice a s.taps.length c] 27))) := (Below.refl _ _).alloc (Nat.le_refl _) _
  have C := Lib.hid (validStep_impl s a c _ (ht.below HB.out) (hs.keep HB.out))
  obtain ⟨v, hv⟩ : ∃ v, validSt s = v := ⟨_, rfl⟩
  rw [hv] at C ⊢
  clear ht hs hv
  go_enter Tryd.func68, Tryd.ntmps68
  go_wp2_with fail
  refine C.out.mono ?_
  rintro e w1 ⟨rfl, hb⟩
  have HB2 := Lib.hid (below_step' HB.out hb HB.out.size)
  clear hb
  go_wp2
  go_ret
  exact ⟨rfl, HB2.out⟩

set_option maxRecDepth 100000 in
set_option maxHeartbeats 4000000 in
theorem indexS_any {w : World} {B : Nat} {V : Value} {ss : List St} {tv : Nat → Value} (h : StepsO w B V ss.length ss.length ss tv) (ht : Tab w) :
    Calls Tryd.prog 100 #[V, .func (.func 68) #[] #[]] w fun e w' => ∃ r : Int, e = .returned (.int .i64 r) ∧ decide (0 ≤ r) = !ss.all validSt ∧ Below w.heap.size w w' := by
  have HA := Lib.hid (fun j (hj : j < ss.length) => h.at hj (Nat.le_refl _))
  have hmax := h.len
  obtain ⟨a, cap, rfl⟩ := h.form
  have HF : Hid (∀ j, j < ss.length → validSt (ss.getD j default) = false → ss.all validSt = false) := fun j hj hf => by
    refine List.all_eq_false.2 ⟨ss[j], List.getElem_mem _, ?_⟩
    rw [List.getD_eq_getElem?_getD, List.getElem?_eq_getElem hj] at hf
    simpa using hf
  have HTr : Hid ((∀ j, j < ss.length → validSt (ss.getD j default) = true) → ss.all validSt = true) := fun hall => by
    refine List.all_eq_true.2 fun s hs => ?_
    obtain ⟨j, hj, rfl⟩ := List.getElem_of_mem hs
    have := hall j hj
    rwa [List.getD_eq_getElem?_getD, List.getElem?_eq_getElem hj] at this
  have HT := Lib.hid ht
  obtain ⟨A, hA⟩ : ∃ A, ss.all validSt = A := ⟨_, rfl⟩
  rw [hA] at HF HTr ⊢
  obtain ⟨L, hL⟩ : ∃ L, ss.length = L := ⟨_, rfl⟩
  rw [hL] at HA HF HTr hmax ⊢
  have hmx : (L : Int) ≤ 9223372036854775807 := by omega
  have hfn := enter_vp1
  clear h hA hL hmax ht
  go_enter Tryd.func100, Tryd.ntmps100
  go_wp2
  go_loopw [8] (fun i wr => ∃ k : Nat, i = .int .i64 k ∧ k ≤ L ∧ (∀ j, j < k → validSt (ss.getD j default) = true) ∧ Below w.heap.size w wr) (fun i _ => L - (intOf i).toNat)
  case atStart => exact ⟨0, rfl, Nat.zero_le _, fun j hj => by omega, Below.refl _ _⟩
  case round =>
    obtain ⟨k, rfl, hk, hj, hB⟩ := hrel
    have HB := Lib.hid hB
    have HJ := Lib.hid hj
    clear hB hj
    by_cases hlt : k < L
    · obtain ⟨g, cp, ta, tc, e, -, -, hg, -, c0, c1, c2, c3, hr⟩ := HA.out k hlt
      simp only [Value.slice.injEq] at e
      obtain ⟨rfl, -, rfl⟩ := e
      have hr := hr.reads
      obtain ⟨S, hS⟩ : ∃ S, ss.getD k default = S := ⟨_, rfl⟩
      rw [hS] at c0 c1 c2 c3 hr
      rw [← HB.out.cell hg] at c0 c1 c2 c3
      have C := Lib.hid (vp1_any S ta tc wr (HT.out.below HB.out) (hr.keep HB.out))
      obtain ⟨v, hv⟩ : ∃ v, validSt S = v := ⟨_, rfl⟩
      rw [hv] at C
      have HV : Hid (validSt (ss.getD k default) = v) := by show validSt (ss.getD k default) = v; rw [hS, ← hv]
      clear hr hS hv
      go_wp2_with fail
      with_reducible refine C.out.mono ?_
      rintro e w2 ⟨rfl, hb2⟩
      have HB2 := Lib.hid (below_step' HB.out hb2 HB.out.size)
      clear hb2
      cases v
      · have e : A = false := HF.out k hlt HV.out
        subst e
        go_wp2
        go_ret
        exact ⟨_, rfl, decide_eq_true (by omega), HB2.out⟩
      · have HK : Hid (∀ j, j < k + 1 → validSt (ss.getD j default) = true) := fun j hj => by
          by_cases e : j = k
          · rw [e]; exact HV.out
          · exact HJ.out j (by omega)
        go_wp2
        go_roundw
        case rel => exact ⟨k + 1, by go_num, by omega, HK.out, HB2.out⟩
        case measure => simp [intOf]; omega
    · have e : k = L := by omega
      subst e
      have e : A = true := HTr.out HJ.out
      subst e
      go_wp2
      go_ret
      exact ⟨_, rfl, by decide, HB.out⟩

set_option maxRecDepth 100000 in
theorem containsS_any {w : World} {B : Nat} {V : Value} {ss : List St} {tv : Nat → Value} (h : StepsO w B V ss.length ss.length ss tv) (ht : Tab w) :
    Calls Tryd.prog 67 #[V, .func (.func 68) #[] #[]] w fun e w' => e = .returned (.bool (!ss.all validSt)) ∧ Below w.heap.size w w' := by
  have I := Lib.hid (indexS_any h ht)
  clear h ht
  go_enter Tryd.func67, Tryd.ntmps67
  go_wp2_with fail
  with_reducible refine I.out.mono ?_
  rintro e w' ⟨r, rfl, hr, hb⟩
  have HR := Lib.hid hr
  have HB := Lib.hid hb
  clear hr hb
  go_wp2
  go_ret
  exact ⟨by rw [← HR.out]; rfl, HB.out⟩

set_option maxRecDepth 100000 in
theorem validPlan_impl {w : World} {B : Nat} {V : Value} {ss : List St} {tv : Nat → Value} (h : StepsO w B V ss.length ss.length ss tv) (ht : Tab w) :
    Calls Tryd.prog 28 #[.agg #[V]] w fun e w' => e = .returned (.bool (validPl ss)) ∧ Below w.heap.size w w' := by
  obtain ⟨a, cap, rfl⟩ := h.form
  have hmax := h.len
  have HB : Hid (Below w.heap.size w (w.alloc (.cells #[.slice a ss.length cap] 43))) := (Below.refl _ _).alloc (Nat.le_refl _) _
  have C := Lib.hid (containsS_any (h.below HB.out (Nat.le_refl _)) (ht.below HB.out))
  unfold validPl
  obtain ⟨A, hA⟩ : ∃ A, ss.all validSt = A := ⟨_, rfl⟩
  rw [hA] at C ⊢
  obtain ⟨L, hL⟩ : ∃ L, ss.length = L := ⟨_, rfl⟩
  rw [hL] at C HB hmax ⊢
  clear h ht hA hL
  by_cases h8 : L ≤ 8
  · have g8 : decide ((L : Int) ≤ 8) = true := decide_eq_true (by omega)
    go_enter Tryd.func28, Tryd.ntmps28
    go_wp2_with fail
    with_reducible refine C.out.mono ?_
    rintro e w1 ⟨rfl, hb⟩
    have HB2 := Lib.hid (below_step' HB.out hb HB.out.size)
    clear hb
    go_wp2
    go_ret
    exact ⟨by simp [h8], HB2.out⟩
  · have g8 : decide ((L : Int) ≤ 8) = false := decide_eq_false (by omega)
    go_enter Tryd.func28, Tryd.ntmps28
    go_wp2
    go_ret
    exact ⟨by simp [h8], HB.out⟩

end Go.Proofs.YtfdmohnmilecnaaDoor
