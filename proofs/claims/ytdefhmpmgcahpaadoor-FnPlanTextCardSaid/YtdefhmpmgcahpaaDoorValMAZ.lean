import Derived.Test.YtdefhmpmgcahpaaDoorMPlanTeL15
import Derived.RegionIn
/-
  Which steps are valid: the model's l07Step, kind by kind (written by genval.py).
-/
set_option linter.unusedVariables false
set_option linter.unusedSimpArgs false
namespace Go.Proofs.YtdefhmpmgcahpaaDoor
open Go.RowKit

set_option maxRecDepth 100000 in
set_option maxHeartbeats 4000000 in
theorem l07Step_1_l (n k : Int) (a : Option Addr) (L c g o : Nat) (hL : L ≤ 9223372036854775807) (w : World) (h : StepAt w g o 1 n k a L c) (h0 : ¬ L = 0) :
    Calls Tryd.prog 48 #[.pointer (some ⟨g, o, none⟩)] w fun e w' => e = .returned (.bool false) ∧ Below w.heap.size w w' := by
  have H := Lib.hid h
  obtain ⟨c0, c1, c2, c3⟩ := h
  go_enter Tryd.func48, Tryd.ntmps48
  go_wp2_with fail
  refine (in_any 1 1 13 _).mono ?_
  rintro e w' ⟨rfl, rfl⟩
  rw [show inZ 1 1 13 = true from rfl]
  go_wp2_with fail
  refine (words_any _).mono ?_
  rintro e w1 ⟨V, b, rfl, ht, hb1⟩
  have tk := ht 1 (by decide)
  rw [show toldL.getD 1 0 = 2 from rfl] at tk
  have H1 := Lib.hid (H.out.below hb1)
  have HB := Lib.hid hb1
  clear ht hb1 c0 c1 c2 c3
  obtain ⟨c0, c1, c2, c3⟩ := H1.out
  have hLi : 0 < (L : Int) := by omega
  go_wp2
  go_ret
  exact ⟨rfl, HB.out⟩

set_option maxRecDepth 100000 in
set_option maxHeartbeats 4000000 in
theorem l07Step_1_t (n k : Int) (a : Option Addr) (L c g o : Nat) (hL : L ≤ 9223372036854775807) (w : World) (h : StepAt w g o 1 n k a L c) (hl : L = 0) :
    Calls Tryd.prog 48 #[.pointer (some ⟨g, o, none⟩)] w fun e w' => e = .returned (.bool (inZ n (-256) 256 && inZ k (-256) 256)) ∧ Below w.heap.size w w' := by
  subst hl
  have hP : partsB [n, k] = (inZ n (-256) 256 && inZ k (-256) 256) := by simp [partsB]
  obtain ⟨v, hv⟩ : ∃ v, (inZ n (-256) 256 && inZ k (-256) 256) = v := ⟨_, rfl⟩
  rw [hv] at hP ⊢
  clear hv
  have H := Lib.hid h
  obtain ⟨c0, c1, c2, c3⟩ := h
  go_enter Tryd.func48, Tryd.ntmps48
  go_wp2_with fail
  refine (in_any 1 1 13 _).mono ?_
  rintro e w' ⟨rfl, rfl⟩
  rw [show inZ 1 1 13 = true from rfl]
  go_wp2_with fail
  refine (words_any _).mono ?_
  rintro e w1 ⟨V, b, rfl, ht, hb1⟩
  have tk := ht 1 (by decide)
  rw [show toldL.getD 1 0 = 2 from rfl] at tk
  have H1 := Lib.hid (H.out.below hb1)
  have HB := Lib.hid hb1
  clear ht hb1 c0 c1 c2 c3
  obtain ⟨c0, c1, c2, c3⟩ := H1.out
  go_wp2
  go_still_tail 8, (by kernel_rfl)
  change wpList _ _ _ _ _ w1.drew
  go_wp2_with fail
  refine (partsM_any (zs := [n, k]) (.row _ 2 2 _ rfl (by decide) (by decide) (by simp [maxLen]) ?_)).mono ?_
  · intro j hj
    rcases j with _ | _ | j
    · go_simp; rfl
    · go_simp; rfl
    · omega
  rintro e w2 ⟨rfl, rfl⟩
  rw [hP]
  go_wp2
  go_ret
  exact ⟨rfl, (below_draws HB.out 1).alloc HB.out.size _⟩

set_option maxRecDepth 100000 in
set_option maxHeartbeats 4000000 in
theorem l07Step_2_k (n k : Int) (a : Option Addr) (L c g o : Nat) (hL : L ≤ 9223372036854775807) (w : World) (h : StepAt w g o 2 n k a L c) (h0 : ¬ k = 0) :
    Calls Tryd.prog 48 #[.pointer (some ⟨g, o, none⟩)] w fun e w' => e = .returned (.bool false) ∧ Below w.heap.size w w' := by
  have H := Lib.hid h
  obtain ⟨c0, c1, c2, c3⟩ := h
  go_enter Tryd.func48, Tryd.ntmps48
  go_wp2_with fail
  refine (in_any 2 1 13 _).mono ?_
  rintro e w' ⟨rfl, rfl⟩
  rw [show inZ 2 1 13 = true from rfl]
  go_wp2_with fail
  refine (words_any _).mono ?_
  rintro e w1 ⟨V, b, rfl, ht, hb1⟩
  have tk := ht 2 (by decide)
  rw [show toldL.getD 2 0 = 1 from rfl] at tk
  have H1 := Lib.hid (H.out.below hb1)
  have HB := Lib.hid hb1
  clear ht hb1 c0 c1 c2 c3
  obtain ⟨c0, c1, c2, c3⟩ := H1.out
  go_wp2
  go_ret
  exact ⟨rfl, HB.out⟩

set_option maxRecDepth 100000 in
set_option maxHeartbeats 4000000 in
theorem l07Step_2_l (n k : Int) (a : Option Addr) (L c g o : Nat) (hL : L ≤ 9223372036854775807) (w : World) (h : StepAt w g o 2 n k a L c) (hk : k = 0) (h0 : ¬ L = 0) :
    Calls Tryd.prog 48 #[.pointer (some ⟨g, o, none⟩)] w fun e w' => e = .returned (.bool false) ∧ Below w.heap.size w w' := by
  subst hk
  have H := Lib.hid h
  obtain ⟨c0, c1, c2, c3⟩ := h
  go_enter Tryd.func48, Tryd.ntmps48
  go_wp2_with fail
  refine (in_any 2 1 13 _).mono ?_
  rintro e w' ⟨rfl, rfl⟩
  rw [show inZ 2 1 13 = true from rfl]
  go_wp2_with fail
  refine (words_any _).mono ?_
  rintro e w1 ⟨V, b, rfl, ht, hb1⟩
  have tk := ht 2 (by decide)
  rw [show toldL.getD 2 0 = 1 from rfl] at tk
  have H1 := Lib.hid (H.out.below hb1)
  have HB := Lib.hid hb1
  clear ht hb1 c0 c1 c2 c3
  obtain ⟨c0, c1, c2, c3⟩ := H1.out
  have hLi : 0 < (L : Int) := by omega
  go_wp2
  go_ret
  exact ⟨rfl, HB.out⟩

set_option maxRecDepth 100000 in
set_option maxHeartbeats 4000000 in
theorem l07Step_2_t (n k : Int) (a : Option Addr) (L c g o : Nat) (hL : L ≤ 9223372036854775807) (w : World) (h : StepAt w g o 2 n k a L c) (hk : k = 0) (hl : L = 0) :
    Calls Tryd.prog 48 #[.pointer (some ⟨g, o, none⟩)] w fun e w' => e = .returned (.bool (inZ n 0 300)) ∧ Below w.heap.size w w' := by
  subst hk
  subst hl
  have I := Lib.hid (fun w => in_any n 0 300 w)
  obtain ⟨v, hv⟩ : ∃ v, inZ n 0 300 = v := ⟨_, rfl⟩
  rw [hv] at I ⊢
  clear hv
  have H := Lib.hid h
  obtain ⟨c0, c1, c2, c3⟩ := h
  go_enter Tryd.func48, Tryd.ntmps48
  go_wp2_with fail
  refine (in_any 2 1 13 _).mono ?_
  rintro e w' ⟨rfl, rfl⟩
  rw [show inZ 2 1 13 = true from rfl]
  go_wp2_with fail
  refine (words_any _).mono ?_
  rintro e w1 ⟨V, b, rfl, ht, hb1⟩
  have tk := ht 2 (by decide)
  rw [show toldL.getD 2 0 = 1 from rfl] at tk
  have H1 := Lib.hid (H.out.below hb1)
  have HB := Lib.hid hb1
  clear ht hb1 c0 c1 c2 c3
  obtain ⟨c0, c1, c2, c3⟩ := H1.out
  go_wp2_with fail
  refine (I.out _).mono ?_
  rintro e w2 ⟨rfl, rfl⟩
  go_wp2
  go_ret
  exact ⟨rfl, HB.out⟩

set_option maxRecDepth 100000 in
set_option maxHeartbeats 4000000 in
theorem l07Step_3_k (n k : Int) (a : Option Addr) (L c g o : Nat) (hL : L ≤ 9223372036854775807) (w : World) (h : StepAt w g o 3 n k a L c) (h0 : ¬ k = 0) :
    Calls Tryd.prog 48 #[.pointer (some ⟨g, o, none⟩)] w fun e w' => e = .returned (.bool false) ∧ Below w.heap.size w w' := by
  have H := Lib.hid h
  obtain ⟨c0, c1, c2, c3⟩ := h
  go_enter Tryd.func48, Tryd.ntmps48
  go_wp2_with fail
  refine (in_any 3 1 13 _).mono ?_
  rintro e w' ⟨rfl, rfl⟩
  rw [show inZ 3 1 13 = true from rfl]
  go_wp2_with fail
  refine (words_any _).mono ?_
  rintro e w1 ⟨V, b, rfl, ht, hb1⟩
  have tk := ht 3 (by decide)
  rw [show toldL.getD 3 0 = -1 from rfl] at tk
  have H1 := Lib.hid (H.out.below hb1)
  have HB := Lib.hid hb1
  clear ht hb1 c0 c1 c2 c3
  obtain ⟨c0, c1, c2, c3⟩ := H1.out
  go_wp2
  go_ret
  exact ⟨rfl, HB.out⟩

set_option maxRecDepth 100000 in
set_option maxHeartbeats 4000000 in
theorem l07Step_3_n (n k : Int) (a : Option Addr) (L c g o : Nat) (hL : L ≤ 9223372036854775807) (w : World) (h : StepAt w g o 3 n k a L c) (hk : k = 0) (h0 : ¬ n = 0) :
    Calls Tryd.prog 48 #[.pointer (some ⟨g, o, none⟩)] w fun e w' => e = .returned (.bool false) ∧ Below w.heap.size w w' := by
  subst hk
  have H := Lib.hid h
  obtain ⟨c0, c1, c2, c3⟩ := h
  go_enter Tryd.func48, Tryd.ntmps48
  go_wp2_with fail
  refine (in_any 3 1 13 _).mono ?_
  rintro e w' ⟨rfl, rfl⟩
  rw [show inZ 3 1 13 = true from rfl]
  go_wp2_with fail
  refine (words_any _).mono ?_
  rintro e w1 ⟨V, b, rfl, ht, hb1⟩
  have tk := ht 3 (by decide)
  rw [show toldL.getD 3 0 = -1 from rfl] at tk
  have H1 := Lib.hid (H.out.below hb1)
  have HB := Lib.hid hb1
  clear ht hb1 c0 c1 c2 c3
  obtain ⟨c0, c1, c2, c3⟩ := H1.out
  go_wp2
  go_ret
  exact ⟨rfl, HB.out⟩

set_option maxRecDepth 100000 in
set_option maxHeartbeats 4000000 in
theorem l07Step_3_t (n k : Int) (a : Option Addr) (L c g o : Nat) (hL : L ≤ 9223372036854775807) (w : World) (h : StepAt w g o 3 n k a L c) (hk : k = 0) (hn : n = 0) (zs : List Int) (hr : ∀ w1, Below w.heap.size w w1 → Reads w1 (.slice a L c) (ints zs)) :
    Calls Tryd.prog 48 #[.pointer (some ⟨g, o, none⟩)] w fun e w' => e = .returned (.bool (inZ L 1 8 && partsB zs)) ∧ Below w.heap.size w w' := by
  subst hk
  subst hn
  have I := Lib.hid (fun w => in_any L 1 8 w)
  have P0 := Lib.hid (fun w1 (hb : Below w.heap.size w w1) => partsM_any (hr w1 hb))
  clear hr
  obtain ⟨v, hv⟩ : ∃ v, inZ L 1 8 = v := ⟨_, rfl⟩
  obtain ⟨u, hu⟩ : ∃ u, partsB zs = u := ⟨_, rfl⟩
  rw [hv] at I ⊢
  rw [hu] at P0 ⊢
  clear hv hu
  have H := Lib.hid h
  obtain ⟨c0, c1, c2, c3⟩ := h
  go_enter Tryd.func48, Tryd.ntmps48
  go_wp2_with fail
  refine (in_any 3 1 13 _).mono ?_
  rintro e w' ⟨rfl, rfl⟩
  rw [show inZ 3 1 13 = true from rfl]
  go_wp2_with fail
  refine (words_any _).mono ?_
  rintro e w1 ⟨V, b, rfl, ht, hb1⟩
  have tk := ht 3 (by decide)
  rw [show toldL.getD 3 0 = -1 from rfl] at tk
  have H1 := Lib.hid (H.out.below hb1)
  have HB := Lib.hid hb1
  clear ht hb1 c0 c1 c2 c3
  obtain ⟨c0, c1, c2, c3⟩ := H1.out
  go_wp2_with fail
  refine (I.out _).mono ?_
  rintro e w2 ⟨rfl, rfl⟩
  have P := Lib.hid (P0.out w2 HB.out)
  cases v
  · go_wp2
    go_ret
    exact ⟨rfl, HB.out⟩
  · go_wp2_with fail
    refine P.out.mono ?_
    rintro e w2 ⟨rfl, rfl⟩
    go_wp2
    go_ret
    exact ⟨rfl, HB.out⟩

set_option maxRecDepth 100000 in
set_option maxHeartbeats 4000000 in
theorem l07Step_4_l (n k : Int) (a : Option Addr) (L c g o : Nat) (hL : L ≤ 9223372036854775807) (w : World) (h : StepAt w g o 4 n k a L c) (h0 : ¬ L = 0) :
    Calls Tryd.prog 48 #[.pointer (some ⟨g, o, none⟩)] w fun e w' => e = .returned (.bool false) ∧ Below w.heap.size w w' := by
  have H := Lib.hid h
  obtain ⟨c0, c1, c2, c3⟩ := h
  go_enter Tryd.func48, Tryd.ntmps48
  go_wp2_with fail
  refine (in_any 4 1 13 _).mono ?_
  rintro e w' ⟨rfl, rfl⟩
  rw [show inZ 4 1 13 = true from rfl]
  go_wp2_with fail
  refine (words_any _).mono ?_
  rintro e w1 ⟨V, b, rfl, ht, hb1⟩
  have tk := ht 4 (by decide)
  rw [show toldL.getD 4 0 = 2 from rfl] at tk
  have H1 := Lib.hid (H.out.below hb1)
  have HB := Lib.hid hb1
  clear ht hb1 c0 c1 c2 c3
  obtain ⟨c0, c1, c2, c3⟩ := H1.out
  have hLi : 0 < (L : Int) := by omega
  go_wp2
  go_ret
  exact ⟨rfl, HB.out⟩

set_option maxRecDepth 100000 in
set_option maxHeartbeats 4000000 in
theorem l07Step_4_true (n k : Int) (a : Option Addr) (L c g o : Nat) (hL : L ≤ 9223372036854775807) (w : World) (h : StepAt w g o 4 n k a L c) (hl : L = 0) (hv : (inZ n 1 1024 && inZ k 0 (n - 1)) = true) :
    Calls Tryd.prog 48 #[.pointer (some ⟨g, o, none⟩)] w fun e w' => e = .returned (.bool true) ∧ Below w.heap.size w w' := by
  subst hl
  have T := Lib.hid (fun w => turnCode_any n k w)
  simp only [hv, if_true, Bool.false_eq_true, if_false] at T
  clear hv
  have H := Lib.hid h
  obtain ⟨c0, c1, c2, c3⟩ := h
  go_enter Tryd.func48, Tryd.ntmps48
  go_wp2_with fail
  refine (in_any 4 1 13 _).mono ?_
  rintro e w' ⟨rfl, rfl⟩
  rw [show inZ 4 1 13 = true from rfl]
  go_wp2_with fail
  refine (words_any _).mono ?_
  rintro e w1 ⟨V, b, rfl, ht, hb1⟩
  have tk := ht 4 (by decide)
  rw [show toldL.getD 4 0 = 2 from rfl] at tk
  have H1 := Lib.hid (H.out.below hb1)
  have HB := Lib.hid hb1
  clear ht hb1 c0 c1 c2 c3
  obtain ⟨c0, c1, c2, c3⟩ := H1.out
  go_wp2
  go_quiet ((go_at_call 82; exact Calls.quiet_of_same (T.out _)))
  go_wp2
  go_ret
  exact ⟨rfl, below_draws HB.out _⟩

set_option maxRecDepth 100000 in
set_option maxHeartbeats 4000000 in
theorem l07Step_4_false (n k : Int) (a : Option Addr) (L c g o : Nat) (hL : L ≤ 9223372036854775807) (w : World) (h : StepAt w g o 4 n k a L c) (hl : L = 0) (hv : (inZ n 1 1024 && inZ k 0 (n - 1)) = false) :
    Calls Tryd.prog 48 #[.pointer (some ⟨g, o, none⟩)] w fun e w' => e = .returned (.bool false) ∧ Below w.heap.size w w' := by
  subst hl
  have T := Lib.hid (fun w => turnCode_any n k w)
  simp only [hv, if_true, Bool.false_eq_true, if_false] at T
  clear hv
  have H := Lib.hid h
  obtain ⟨c0, c1, c2, c3⟩ := h
  go_enter Tryd.func48, Tryd.ntmps48
  go_wp2_with fail
  refine (in_any 4 1 13 _).mono ?_
  rintro e w' ⟨rfl, rfl⟩
  rw [show inZ 4 1 13 = true from rfl]
  go_wp2_with fail
  refine (words_any _).mono ?_
  rintro e w1 ⟨V, b, rfl, ht, hb1⟩
  have tk := ht 4 (by decide)
  rw [show toldL.getD 4 0 = 2 from rfl] at tk
  have H1 := Lib.hid (H.out.below hb1)
  have HB := Lib.hid hb1
  clear ht hb1 c0 c1 c2 c3
  obtain ⟨c0, c1, c2, c3⟩ := H1.out
  go_wp2
  go_quiet ((go_at_call 82; exact Calls.quiet_of_same (T.out _)))
  go_wp2
  go_ret
  exact ⟨rfl, below_draws HB.out _⟩

end Go.Proofs.YtdefhmpmgcahpaaDoor
