/-
  Several texts of this claim, one behind the other; each says what it holds.
-/
import Derived.Test.YtdefhmpmgcahpaaDoorMPlanTeL15
import Derived.RegionIn
import Derived.Test.YtdefhmpmgcahpaaDoorValMAZ
import Derived.Test.YtdefhmpmgcahpaaDoorValMCZ
import Derived.Test.YtdefhmpmgcahpaaDoorValMDZ
/-
  Which steps are valid: the model's l07Step, kind by kind (written by genval.py).
-/
set_option linter.unusedVariables false
set_option linter.unusedSimpArgs false
namespace Go.Proofs.YtdefhmpmgcahpaaDoor
open Go.RowKit

set_option maxRecDepth 100000 in
set_option maxHeartbeats 4000000 in
theorem l07Step_5_k (n k : Int) (a : Option Addr) (L c g o : Nat) (hL : L ≤ 9223372036854775807) (w : World) (h : StepAt w g o 5 n k a L c) (h0 : ¬ k = 0) :
    Calls Tryd.prog 48 #[.pointer (some ⟨g, o, none⟩)] w fun e w' => e = .returned (.bool false) ∧ Below w.heap.size w w' := by
  have H := Lib.hid h
  obtain ⟨c0, c1, c2, c3⟩ := h
  go_enter Tryd.func48, Tryd.ntmps48
  go_wp2_with fail
  refine (in_any 5 1 13 _).mono ?_
  rintro e w' ⟨rfl, rfl⟩
  rw [show inZ 5 1 13 = true from rfl]
  go_wp2_with fail
  refine (words_any _).mono ?_
  rintro e w1 ⟨V, b, rfl, ht, hb1⟩
  have tk := ht 5 (by decide)
  rw [show toldL.getD 5 0 = 1 from rfl] at tk
  have H1 := Lib.hid (H.out.below hb1)
  have HB := Lib.hid hb1
  clear ht hb1 c0 c1 c2 c3
  obtain ⟨c0, c1, c2, c3⟩ := H1.out
  go_wp2
  go_ret
  exact ⟨rfl, HB.out⟩

set_option maxRecDepth 100000 in
set_option maxHeartbeats 4000000 in
theorem l07Step_5_l (n k : Int) (a : Option Addr) (L c g o : Nat) (hL : L ≤ 9223372036854775807) (w : World) (h : StepAt w g o 5 n k a L c) (hk : k = 0) (h0 : ¬ L = 0) :
    Calls Tryd.prog 48 #[.pointer (some ⟨g, o, none⟩)] w fun e w' => e = .returned (.bool false) ∧ Below w.heap.size w w' := by
  subst hk
  have H := Lib.hid h
  obtain ⟨c0, c1, c2, c3⟩ := h
  go_enter Tryd.func48, Tryd.ntmps48
  go_wp2_with fail
  refine (in_any 5 1 13 _).mono ?_
  rintro e w' ⟨rfl, rfl⟩
  rw [show inZ 5 1 13 = true from rfl]
  go_wp2_with fail
  refine (words_any _).mono ?_
  rintro e w1 ⟨V, b, rfl, ht, hb1⟩
  have tk := ht 5 (by decide)
  rw [show toldL.getD 5 0 = 1 from rfl] at tk
  have H1 := Lib.hid (H.out.below hb1)
  have HB := Lib.hid hb1
  clear ht hb1 c0 c1 c2 c3
  obtain ⟨c0, c1, c2, c3⟩ := H1.out
  have hLi : 0 < (L : Int) := by omega
  go_wp2
  go_ret
  exact ⟨rfl, HB.out⟩

set_option maxRecDepth 100000 in
set_option maxHeartbeats 4000000 in
theorem l07Step_5_t (n k : Int) (a : Option Addr) (L c g o : Nat) (hL : L ≤ 9223372036854775807) (w : World) (h : StepAt w g o 5 n k a L c) (hk : k = 0) (hl : L = 0) :
    Calls Tryd.prog 48 #[.pointer (some ⟨g, o, none⟩)] w fun e w' => e = .returned (.bool (inZ n 1 64)) ∧ Below w.heap.size w w' := by
  subst hk
  subst hl
  have I := Lib.hid (fun w => in_any n 1 64 w)
  obtain ⟨v, hv⟩ : ∃ v, inZ n 1 64 = v := ⟨_, rfl⟩
  rw [hv] at I ⊢
  clear hv
  have H := Lib.hid h
  obtain ⟨c0, c1, c2, c3⟩ := h
  go_enter Tryd.func48, Tryd.ntmps48
  go_wp2_with fail
  refine (in_any 5 1 13 _).mono ?_
  rintro e w' ⟨rfl, rfl⟩
  rw [show inZ 5 1 13 = true from rfl]
  go_wp2_with fail
  refine (words_any _).mono ?_
  rintro e w1 ⟨V, b, rfl, ht, hb1⟩
  have tk := ht 5 (by decide)
  rw [show toldL.getD 5 0 = 1 from rfl] at tk
  have H1 := Lib.hid (H.out.below hb1)
  have HB := Lib.hid hb1
  clear ht hb1 c0 c1 c2 c3
  obtain ⟨c0, c1, c2, c3⟩ := H1.out
  go_wp2_with fail
  refine (I.out _).mono ?_
  rintro e w2 ⟨rfl, rfl⟩
  go_wp2
  go_ret
  exact ⟨rfl, HB.out⟩

set_option maxRecDepth 100000 in
set_option maxHeartbeats 4000000 in
theorem l07Step_6_k (n k : Int) (a : Option Addr) (L c g o : Nat) (hL : L ≤ 9223372036854775807) (w : World) (h : StepAt w g o 6 n k a L c) (h0 : ¬ k = 0) :
    Calls Tryd.prog 48 #[.pointer (some ⟨g, o, none⟩)] w fun e w' => e = .returned (.bool false) ∧ Below w.heap.size w w' := by
  have H := Lib.hid h
  obtain ⟨c0, c1, c2, c3⟩ := h
  go_enter Tryd.func48, Tryd.ntmps48
  go_wp2_with fail
  refine (in_any 6 1 13 _).mono ?_
  rintro e w' ⟨rfl, rfl⟩
  rw [show inZ 6 1 13 = true from rfl]
  go_wp2_with fail
  refine (words_any _).mono ?_
  rintro e w1 ⟨V, b, rfl, ht, hb1⟩
  have tk := ht 6 (by decide)
  rw [show toldL.getD 6 0 = 1 from rfl] at tk
  have H1 := Lib.hid (H.out.below hb1)
  have HB := Lib.hid hb1
  clear ht hb1 c0 c1 c2 c3
  obtain ⟨c0, c1, c2, c3⟩ := H1.out
  go_wp2
  go_ret
  exact ⟨rfl, HB.out⟩

set_option maxRecDepth 100000 in
set_option maxHeartbeats 4000000 in
theorem l07Step_6_l (n k : Int) (a : Option Addr) (L c g o : Nat) (hL : L ≤ 9223372036854775807) (w : World) (h : StepAt w g o 6 n k a L c) (hk : k = 0) (h0 : ¬ L = 0) :
    Calls Tryd.prog 48 #[.pointer (some ⟨g, o, none⟩)] w fun e w' => e = .returned (.bool false) ∧ Below w.heap.size w w' := by
  subst hk
  have H := Lib.hid h
  obtain ⟨c0, c1, c2, c3⟩ := h
  go_enter Tryd.func48, Tryd.ntmps48
  go_wp2_with fail
  refine (in_any 6 1 13 _).mono ?_
  rintro e w' ⟨rfl, rfl⟩
  rw [show inZ 6 1 13 = true from rfl]
  go_wp2_with fail
  refine (words_any _).mono ?_
  rintro e w1 ⟨V, b, rfl, ht, hb1⟩
  have tk := ht 6 (by decide)
  rw [show toldL.getD 6 0 = 1 from rfl] at tk
  have H1 := Lib.hid (H.out.below hb1)
  have HB := Lib.hid hb1
  clear ht hb1 c0 c1 c2 c3
  obtain ⟨c0, c1, c2, c3⟩ := H1.out
  have hLi : 0 < (L : Int) := by omega
  go_wp2
  go_ret
  exact ⟨rfl, HB.out⟩

set_option maxRecDepth 100000 in
set_option maxHeartbeats 4000000 in
theorem l07Step_6_t (n k : Int) (a : Option Addr) (L c g o : Nat) (hL : L ≤ 9223372036854775807) (w : World) (h : StepAt w g o 6 n k a L c) (hk : k = 0) (hl : L = 0) :
    Calls Tryd.prog 48 #[.pointer (some ⟨g, o, none⟩)] w fun e w' => e = .returned (.bool (inZ n 1 64)) ∧ Below w.heap.size w w' := by
  subst hk
  subst hl
  have I := Lib.hid (fun w => in_any n 1 64 w)
  obtain ⟨v, hv⟩ : ∃ v, inZ n 1 64 = v := ⟨_, rfl⟩
  rw [hv] at I ⊢
  clear hv
  have H := Lib.hid h
  obtain ⟨c0, c1, c2, c3⟩ := h
  go_enter Tryd.func48, Tryd.ntmps48
  go_wp2_with fail
  refine (in_any 6 1 13 _).mono ?_
  rintro e w' ⟨rfl, rfl⟩
  rw [show inZ 6 1 13 = true from rfl]
  go_wp2_with fail
  refine (words_any _).mono ?_
  rintro e w1 ⟨V, b, rfl, ht, hb1⟩
  have tk := ht 6 (by decide)
  rw [show toldL.getD 6 0 = 1 from rfl] at tk
  have H1 := Lib.hid (H.out.below hb1)
  have HB := Lib.hid hb1
  clear ht hb1 c0 c1 c2 c3
  obtain ⟨c0, c1, c2, c3⟩ := H1.out
  go_wp2_with fail
  refine (I.out _).mono ?_
  rintro e w2 ⟨rfl, rfl⟩
  go_wp2
  go_ret
  exact ⟨rfl, HB.out⟩

set_option maxRecDepth 100000 in
set_option maxHeartbeats 4000000 in
theorem l07Step_7_k (n k : Int) (a : Option Addr) (L c g o : Nat) (hL : L ≤ 9223372036854775807) (w : World) (h : StepAt w g o 7 n k a L c) (h0 : ¬ k = 0) :
    Calls Tryd.prog 48 #[.pointer (some ⟨g, o, none⟩)] w fun e w' => e = .returned (.bool false) ∧ Below w.heap.size w w' := by
  have H := Lib.hid h
  obtain ⟨c0, c1, c2, c3⟩ := h
  go_enter Tryd.func48, Tryd.ntmps48
  go_wp2_with fail
  refine (in_any 7 1 13 _).mono ?_
  rintro e w' ⟨rfl, rfl⟩
  rw [show inZ 7 1 13 = true from rfl]
  go_wp2_with fail
  refine (words_any _).mono ?_
  rintro e w1 ⟨V, b, rfl, ht, hb1⟩
  have tk := ht 7 (by decide)
  rw [show toldL.getD 7 0 = 1 from rfl] at tk
  have H1 := Lib.hid (H.out.below hb1)
  have HB := Lib.hid hb1
  clear ht hb1 c0 c1 c2 c3
  obtain ⟨c0, c1, c2, c3⟩ := H1.out
  go_wp2
  go_ret
  exact ⟨rfl, HB.out⟩

set_option maxRecDepth 100000 in
set_option maxHeartbeats 4000000 in
theorem l07Step_7_l (n k : Int) (a : Option Addr) (L c g o : Nat) (hL : L ≤ 9223372036854775807) (w : World) (h : StepAt w g o 7 n k a L c) (hk : k = 0) (h0 : ¬ L = 0) :
    Calls Tryd.prog 48 #[.pointer (some ⟨g, o, none⟩)] w fun e w' => e = .returned (.bool false) ∧ Below w.heap.size w w' := by
  subst hk
  have H := Lib.hid h
  obtain ⟨c0, c1, c2, c3⟩ := h
  go_enter Tryd.func48, Tryd.ntmps48
  go_wp2_with fail
  refine (in_any 7 1 13 _).mono ?_
  rintro e w' ⟨rfl, rfl⟩
  rw [show inZ 7 1 13 = true from rfl]
  go_wp2_with fail
  refine (words_any _).mono ?_
  rintro e w1 ⟨V, b, rfl, ht, hb1⟩
  have tk := ht 7 (by decide)
  rw [show toldL.getD 7 0 = 1 from rfl] at tk
  have H1 := Lib.hid (H.out.below hb1)
  have HB := Lib.hid hb1
  clear ht hb1 c0 c1 c2 c3
  obtain ⟨c0, c1, c2, c3⟩ := H1.out
  have hLi : 0 < (L : Int) := by omega
  go_wp2
  go_ret
  exact ⟨rfl, HB.out⟩

set_option maxRecDepth 100000 in
set_option maxHeartbeats 4000000 in
theorem l07Step_7_t (n k : Int) (a : Option Addr) (L c g o : Nat) (hL : L ≤ 9223372036854775807) (w : World) (h : StepAt w g o 7 n k a L c) (hk : k = 0) (hl : L = 0) :
    Calls Tryd.prog 48 #[.pointer (some ⟨g, o, none⟩)] w fun e w' => e = .returned (.bool (inZ n 1 16)) ∧ Below w.heap.size w w' := by
  subst hk
  subst hl
  have I := Lib.hid (fun w => in_any n 1 16 w)
  obtain ⟨v, hv⟩ : ∃ v, inZ n 1 16 = v := ⟨_, rfl⟩
  rw [hv] at I ⊢
  clear hv
  have H := Lib.hid h
  obtain ⟨c0, c1, c2, c3⟩ := h
  go_enter Tryd.func48, Tryd.ntmps48
  go_wp2_with fail
  refine (in_any 7 1 13 _).mono ?_
  rintro e w' ⟨rfl, rfl⟩
  rw [show inZ 7 1 13 = true from rfl]
  go_wp2_with fail
  refine (words_any _).mono ?_
  rintro e w1 ⟨V, b, rfl, ht, hb1⟩
  have tk := ht 7 (by decide)
  rw [show toldL.getD 7 0 = 1 from rfl] at tk
  have H1 := Lib.hid (H.out.below hb1)
  have HB := Lib.hid hb1
  clear ht hb1 c0 c1 c2 c3
  obtain ⟨c0, c1, c2, c3⟩ := H1.out
  go_wp2_with fail
  refine (I.out _).mono ?_
  rintro e w2 ⟨rfl, rfl⟩
  go_wp2
  go_ret
  exact ⟨rfl, HB.out⟩

end Go.Proofs.YtdefhmpmgcahpaaDoor
/-
  Which steps are valid: ValidStep of the model.
-/
set_option linter.unusedVariables false
set_option linter.unusedSimpArgs false
namespace Go.Proofs.YtdefhmpmgcahpaaDoor
open Go.RowKit

theorem isEmpty_len {zs : List Int} : zs.isEmpty = decide (zs.length = 0) := by cases zs <;> simp

set_option maxRecDepth 100000 in
set_option maxHeartbeats 4000000 in
theorem l07Step_none (kd n k : Int) (a : Option Addr) (L c g o : Nat) (w : World) (h : StepAt w g o kd n k a L c) (hk : inZ kd 1 13 = false) :
    Calls Tryd.prog 48 #[.pointer (some ⟨g, o, none⟩)] w fun e w' => e = .returned (.bool false) ∧ Below w.heap.size w w' := by
  obtain ⟨c0, c1, c2, c3⟩ := h
  have I := Lib.hid (fun w => in_any kd 1 13 w)
  rw [hk] at I
  clear hk
  go_enter Tryd.func48, Tryd.ntmps48
  go_wp2_with fail
  refine (I.out _).mono ?_
  rintro e w' ⟨rfl, rfl⟩
  go_wp2
  go_ret
  exact ⟨rfl, Below.refl _ _⟩

set_option maxHeartbeats 4000000 in
theorem l07Step_any (kd n k : Int) (taps : List Int) (a : Option Addr) (c g o : Nat) (hL : taps.length ≤ 9223372036854775807) (w : World) (h : StepAt w g o kd n k a taps.length c) (hr : ∀ w1, Below w.heap.size w w1 → Reads w1 (.slice a taps.length c) (ints taps)) :
    Calls Tryd.prog 48 #[.pointer (some ⟨g, o, none⟩)] w fun e w' => e = .returned (.bool (validSt ⟨kd, n, k, taps⟩)) ∧ Below w.heap.size w w' := by
  by_cases hk : inZ kd 1 13 = false
  · have e : validSt ⟨kd, n, k, taps⟩ = false := by
      have : ¬ (1 ≤ kd ∧ kd ≤ 13) := fun h => by rw [inZ_t h] at hk; cases hk
      simp only [validSt]
      repeat (rw [if_neg (by omega)])
    rw [e]
    exact l07Step_none kd n k a _ c g o w h hk
  have hk' := inZ_iff.1 (by simpa using hk : inZ kd 1 13 = true)
  clear hk
  have hcase : kd = 1 ∨ kd = 2 ∨ kd = 3 ∨ kd = 4 ∨ kd = 5 ∨ kd = 6 ∨ kd = 7 ∨ kd = 8 ∨ kd = 9 ∨ kd = 10 ∨ kd = 11 ∨ kd = 12 ∨ kd = 13 := by omega
  clear hk'
  by_cases hl : taps.length = 0
  · have hl' : taps = [] := List.length_eq_zero_iff.1 hl
    subst hl'
    by_cases h0 : k = 0
    · by_cases hn : n = 0
      · rcases hcase with rfl | rfl | rfl | rfl | rfl | rfl | rfl | rfl | rfl | rfl | rfl | rfl | rfl
        · simpa [validSt] using l07Step_1_t n k a _ c g o hL w h hl
        · simpa [validSt, h0] using l07Step_2_t n k a _ c g o hL w h h0 hl
        · simpa [validSt, h0, hn] using l07Step_3_t n k a _ c g o hL w h h0 hn [] hr
        · by_cases hv : (inZ n 1 1024 && inZ k 0 (n - 1)) = true
          · simpa [validSt, hv] using l07Step_4_true n k a _ c g o hL w h hl hv
          · have hv' : (inZ n 1 1024 && inZ k 0 (n - 1)) = false := by simpa using hv
            simpa [validSt, hv'] using l07Step_4_false n k a _ c g o hL w h hl hv'
        · simpa [validSt, h0] using l07Step_5_t n k a _ c g o hL w h h0 hl
        · simpa [validSt, h0] using l07Step_6_t n k a _ c g o hL w h h0 hl
        · simpa [validSt, h0] using l07Step_7_t n k a _ c g o hL w h h0 hl
        · simpa [validSt, h0] using l07Step_8_t n k a _ c g o hL w h h0 hl
        · simpa [validSt, h0] using l07Step_9_t n k a _ c g o hL w h h0 hl
        · simpa [validSt, h0] using l07Step_10_t n k a _ c g o hL w h h0 hl
        · simpa [validSt, h0, hn] using l07Step_11_t n k a _ c g o hL w h h0 hn hl
        · simpa [validSt, h0, hn] using l07Step_12_t n k a _ c g o hL w h h0 hn hl
        · simpa [validSt, h0, hn] using l07Step_13_t n k a _ c g o hL w h h0 hn hl
      · rcases hcase with rfl | rfl | rfl | rfl | rfl | rfl | rfl | rfl | rfl | rfl | rfl | rfl | rfl
        · simpa [validSt] using l07Step_1_t n k a _ c g o hL w h hl
        · simpa [validSt, h0] using l07Step_2_t n k a _ c g o hL w h h0 hl
        · simpa [validSt, hn] using l07Step_3_n n k a _ c g o hL w h h0 hn
        · by_cases hv : (inZ n 1 1024 && inZ k 0 (n - 1)) = true
          · simpa [validSt, hv] using l07Step_4_true n k a _ c g o hL w h hl hv
          · have hv' : (inZ n 1 1024 && inZ k 0 (n - 1)) = false := by simpa using hv
            simpa [validSt, hv'] using l07Step_4_false n k a _ c g o hL w h hl hv'
        · simpa [validSt, h0] using l07Step_5_t n k a _ c g o hL w h h0 hl
        · simpa [validSt, h0] using l07Step_6_t n k a _ c g o hL w h h0 hl
        · simpa [validSt, h0] using l07Step_7_t n k a _ c g o hL w h h0 hl
        · simpa [validSt, h0] using l07Step_8_t n k a _ c g o hL w h h0 hl
        · simpa [validSt, h0] using l07Step_9_t n k a _ c g o hL w h h0 hl
        · simpa [validSt, h0] using l07Step_10_t n k a _ c g o hL w h h0 hl
        · simpa [validSt, hn] using l07Step_11_n n k a _ c g o hL w h h0 hn
        · simpa [validSt, hn] using l07Step_12_n n k a _ c g o hL w h h0 hn
        · simpa [validSt, hn] using l07Step_13_n n k a _ c g o hL w h h0 hn
    · rcases hcase with rfl | rfl | rfl | rfl | rfl | rfl | rfl | rfl | rfl | rfl | rfl | rfl | rfl
      · simpa [validSt] using l07Step_1_t n k a _ c g o hL w h hl
      · simpa [validSt, h0] using l07Step_2_k n k a _ c g o hL w h h0
      · simpa [validSt, h0] using l07Step_3_k n k a _ c g o hL w h h0
      · by_cases hv : (inZ n 1 1024 && inZ k 0 (n - 1)) = true
        · simpa [validSt, hv] using l07Step_4_true n k a _ c g o hL w h hl hv
        · have hv' : (inZ n 1 1024 && inZ k 0 (n - 1)) = false := by simpa using hv
          simpa [validSt, hv'] using l07Step_4_false n k a _ c g o hL w h hl hv'
      · simpa [validSt, h0] using l07Step_5_k n k a _ c g o hL w h h0
      · simpa [validSt, h0] using l07Step_6_k n k a _ c g o hL w h h0
      · simpa [validSt, h0] using l07Step_7_k n k a _ c g o hL w h h0
      · simpa [validSt, h0] using l07Step_8_k n k a _ c g o hL w h h0
      · simpa [validSt, h0] using l07Step_9_k n k a _ c g o hL w h h0
      · simpa [validSt, h0] using l07Step_10_k n k a _ c g o hL w h h0
      · simpa [validSt, h0] using l07Step_11_k n k a _ c g o hL w h h0
      · simpa [validSt, h0] using l07Step_12_k n k a _ c g o hL w h h0
      · simpa [validSt, h0] using l07Step_13_k n k a _ c g o hL w h h0
  · have hl' : ¬ taps = [] := fun e => hl (by rw [e]; rfl)
    have he : taps.isEmpty = false := by rw [isEmpty_len]; exact decide_eq_false hl
    by_cases h0 : k = 0
    · by_cases hn : n = 0
      · rcases hcase with rfl | rfl | rfl | rfl | rfl | rfl | rfl | rfl | rfl | rfl | rfl | rfl | rfl
        · simpa [validSt, he] using l07Step_1_l n k a _ c g o hL w h hl
        · simpa [validSt, he] using l07Step_2_l n k a _ c g o hL w h h0 hl
        · simpa [validSt, h0, hn] using l07Step_3_t n k a _ c g o hL w h h0 hn taps hr
        · simpa [validSt, he] using l07Step_4_l n k a _ c g o hL w h hl
        · simpa [validSt, he] using l07Step_5_l n k a _ c g o hL w h h0 hl
        · simpa [validSt, he] using l07Step_6_l n k a _ c g o hL w h h0 hl
        · simpa [validSt, he] using l07Step_7_l n k a _ c g o hL w h h0 hl
        · simpa [validSt, he] using l07Step_8_l n k a _ c g o hL w h h0 hl
        · simpa [validSt, he] using l07Step_9_l n k a _ c g o hL w h h0 hl
        · simpa [validSt, he] using l07Step_10_l n k a _ c g o hL w h h0 hl
        · simpa [validSt, he] using l07Step_11_l n k a _ c g o hL w h h0 hn hl
        · simpa [validSt, he] using l07Step_12_l n k a _ c g o hL w h h0 hn hl
        · simpa [validSt, he] using l07Step_13_l n k a _ c g o hL w h h0 hn hl
      · rcases hcase with rfl | rfl | rfl | rfl | rfl | rfl | rfl | rfl | rfl | rfl | rfl | rfl | rfl
        · simpa [validSt, he] using l07Step_1_l n k a _ c g o hL w h hl
        · simpa [validSt, he] using l07Step_2_l n k a _ c g o hL w h h0 hl
        · simpa [validSt, hn] using l07Step_3_n n k a _ c g o hL w h h0 hn
        · simpa [validSt, he] using l07Step_4_l n k a _ c g o hL w h hl
        · simpa [validSt, he] using l07Step_5_l n k a _ c g o hL w h h0 hl
        · simpa [validSt, he] using l07Step_6_l n k a _ c g o hL w h h0 hl
        · simpa [validSt, he] using l07Step_7_l n k a _ c g o hL w h h0 hl
        · simpa [validSt, he] using l07Step_8_l n k a _ c g o hL w h h0 hl
        · simpa [validSt, he] using l07Step_9_l n k a _ c g o hL w h h0 hl
        · simpa [validSt, he] using l07Step_10_l n k a _ c g o hL w h h0 hl
        · simpa [validSt, hn] using l07Step_11_n n k a _ c g o hL w h h0 hn
        · simpa [validSt, hn] using l07Step_12_n n k a _ c g o hL w h h0 hn
        · simpa [validSt, hn] using l07Step_13_n n k a _ c g o hL w h h0 hn
    · rcases hcase with rfl | rfl | rfl | rfl | rfl | rfl | rfl | rfl | rfl | rfl | rfl | rfl | rfl
      · simpa [validSt, he] using l07Step_1_l n k a _ c g o hL w h hl
      · simpa [validSt, h0] using l07Step_2_k n k a _ c g o hL w h h0
      · simpa [validSt, h0] using l07Step_3_k n k a _ c g o hL w h h0
      · simpa [validSt, he] using l07Step_4_l n k a _ c g o hL w h hl
      · simpa [validSt, h0] using l07Step_5_k n k a _ c g o hL w h h0
      · simpa [validSt, h0] using l07Step_6_k n k a _ c g o hL w h h0
      · simpa [validSt, h0] using l07Step_7_k n k a _ c g o hL w h h0
      · simpa [validSt, h0] using l07Step_8_k n k a _ c g o hL w h h0
      · simpa [validSt, h0] using l07Step_9_k n k a _ c g o hL w h h0
      · simpa [validSt, h0] using l07Step_10_k n k a _ c g o hL w h h0
      · simpa [validSt, h0] using l07Step_11_k n k a _ c g o hL w h h0
      · simpa [validSt, h0] using l07Step_12_k n k a _ c g o hL w h h0
      · simpa [validSt, h0] using l07Step_13_k n k a _ c g o hL w h h0

theorem Row.len_le {w : World} {B : Nat} {v : Value} {zs : List Int} (h : Row w B 2 v (ints zs)) : zs.length ≤ 9223372036854775807 := by
  rcases h.shape with ⟨a, cap, rfl, e⟩ | ⟨g, cap, rfl, h0, _, _, h1, h2⟩
  · have : zs = [] := by simpa [ints] using e
    subst this
    simp
  · rw [ints_length] at h1
    unfold maxLen at h2
    omega

theorem Row.reads_below {w w' : World} {B : Nat} {e : TypeId} {v : Value} {cs : List Value} (h : Row w B e v cs) (hb : Below w.heap.size w w') : Reads w' v cs :=
  (h.below hb (fun k e => (h.lt k e).2)).reads

end Go.Proofs.YtdefhmpmgcahpaaDoor
