import Derived.Test.YtdefhmpmgcahpaaDoorMPlanTeL15
import Derived.RegionIn
/-
  Which steps are valid: the model's l07Step, kind by kind (written by genval.py).
-/
set_option linter.unusedVariables false
set_option linter.unusedSimpArgs false
namespace Go.Proofs.YtdefhmpmgcahpaaDoor
open Go.RowKit

set_option maxRecDepth 100000 in
set_option maxHeartbeats 4000000 in
theorem l07Step_8_k (n k : Int) (a : Option Addr) (L c g o : Nat) (hL : L ≤ 9223372036854775807) (w : World) (h : StepAt w g o 8 n k a L c) (h0 : ¬ k = 0) :
    Calls Tryd.prog 48 #[.pointer (some ⟨g, o, none⟩)] w fun e w' => e = .returned (.bool false) ∧ Below w.heap.size w w' := by
  have H := Lib.hid h
  obtain ⟨c0, c1, c2, c3⟩ := h
  go_enter Tryd.func48, Tryd.ntmps48
  go_wp2_with fail
  refine (in_any 8 1 13 _).mono ?_
  rintro e w' ⟨rfl, rfl⟩
  rw [show inZ 8 1 13 = true from rfl]
  go_wp2_with fail
  refine (words_any _).mono ?_
  rintro e w1 ⟨V, b, rfl, ht, hb1⟩
  have tk := ht 8 (by decide)
  rw [show toldL.getD 8 0 = 1 from rfl] at tk
  have H1 := Lib.hid (H.out.below hb1)
  have HB := Lib.hid hb1
  clear ht hb1 c0 c1 c2 c3
  obtain ⟨c0, c1, c2, c3⟩ := H1.out
  go_wp2
  go_ret
  exact ⟨rfl, HB.out⟩

set_option maxRecDepth 100000 in
set_option maxHeartbeats 4000000 in
theorem l07Step_8_l (n k : Int) (a : Option Addr) (L c g o : Nat) (hL : L ≤ 9223372036854775807) (w : World) (h : StepAt w g o 8 n k a L c) (hk : k = 0) (h0 : ¬ L = 0) :
    Calls Tryd.prog 48 #[.pointer (some ⟨g, o, none⟩)] w fun e w' => e = .returned (.bool false) ∧ Below w.heap.size w w' := by
  subst hk
  have H := Lib.hid h
  obtain ⟨c0, c1, c2, c3⟩ := h
  go_enter Tryd.func48, Tryd.ntmps48
  go_wp2_with fail
  refine (in_any 8 1 13 _).mono ?_
  rintro e w' ⟨rfl, rfl⟩
  rw [show inZ 8 1 13 = true from rfl]
  go_wp2_with fail
  refine (words_any _).mono ?_
  rintro e w1 ⟨V, b, rfl, ht, hb1⟩
  have tk := ht 8 (by decide)
  rw [show toldL.getD 8 0 = 1 from rfl] at tk
  have H1 := Lib.hid (H.out.below hb1)
  have HB := Lib.hid hb1
  clear ht hb1 c0 c1 c2 c3
  obtain ⟨c0, c1, c2, c3⟩ := H1.out
  have hLi : 0 < (L : Int) := by omega
  go_wp2
  go_ret
  exact ⟨rfl, HB.out⟩

set_option maxRecDepth 100000 in
set_option maxHeartbeats 4000000 in
theorem l07Step_8_t (n k : Int) (a : Option Addr) (L c g o : Nat) (hL : L ≤ 9223372036854775807) (w : World) (h : StepAt w g o 8 n k a L c) (hk : k = 0) (hl : L = 0) :
    Calls Tryd.prog 48 #[.pointer (some ⟨g, o, none⟩)] w fun e w' => e = .returned (.bool (inZ n 1 16)) ∧ Below w.heap.size w w' := by
  subst hk
  subst hl
  have I := Lib.hid (fun w => in_any n 1 16 w)
  obtain ⟨v, hv⟩ : ∃ v, inZ n 1 16 = v := ⟨_, rfl⟩
  rw [hv] at I ⊢
  clear hv
  have H := Lib.hid h
  obtain ⟨c0, c1, c2, c3⟩ := h
  go_enter Tryd.func48, Tryd.ntmps48
  go_wp2_with fail
  refine (in_any 8 1 13 _).mono ?_
  rintro e w' ⟨rfl, rfl⟩
  rw [show inZ 8 1 13 = true from rfl]
  go_wp2_with fail
  refine (words_any _).mono ?_
  rintro e w1 ⟨V, b, rfl, ht, hb1⟩
  have tk := ht 8 (by decide)
  rw [show toldL.getD 8 0 = 1 from rfl] at tk
  have H1 := Lib.hid (H.out.below hb1)
  have HB := Lib.hid hb1
  clear ht hb1 c0 c1 c2 c3
  obtain ⟨c0, c1, c2, c3⟩ := H1.out
  go_wp2_with fail
  refine (I.out _).mono ?_
  rintro e w2 ⟨rfl, rfl⟩
  go_wp2
  go_ret
  exact ⟨rfl, HB.out⟩

set_option maxRecDepth 100000 in
set_option maxHeartbeats 4000000 in
theorem l07Step_9_k (n k : Int) (a : Option Addr) (L c g o : Nat) (hL : L ≤ 9223372036854775807) (w : World) (h : StepAt w g o 9 n k a L c) (h0 : ¬ k = 0) :
    Calls Tryd.prog 48 #[.pointer (some ⟨g, o, none⟩)] w fun e w' => e = .returned (.bool false) ∧ Below w.heap.size w w' := by
  have H := Lib.hid h
  obtain ⟨c0, c1, c2, c3⟩ := h
  go_enter Tryd.func48, Tryd.ntmps48
  go_wp2_with fail
  refine (in_any 9 1 13 _).mono ?_
  rintro e w' ⟨rfl, rfl⟩
  rw [show inZ 9 1 13 = true from rfl]
  go_wp2_with fail
  refine (words_any _).mono ?_
  rintro e w1 ⟨V, b, rfl, ht, hb1⟩
  have tk := ht 9 (by decide)
  rw [show toldL.getD 9 0 = 1 from rfl] at tk
  have H1 := Lib.hid (H.out.below hb1)
  have HB := Lib.hid hb1
  clear ht hb1 c0 c1 c2 c3
  obtain ⟨c0, c1, c2, c3⟩ := H1.out
  go_wp2
  go_ret
  exact ⟨rfl, HB.out⟩

set_option maxRecDepth 100000 in
set_option maxHeartbeats 4000000 in
theorem l07Step_9_l (n k : Int) (a : Option Addr) (L c g o : Nat) (hL : L ≤ 9223372036854775807) (w : World) (h : StepAt w g o 9 n k a L c) (hk : k = 0) (h0 : ¬ L = 0) :
    Calls Tryd.prog 48 #[.pointer (some ⟨g, o, none⟩)] w fun e w' => e = .returned (.bool false) ∧ Below w.heap.size w w' := by
  subst hk
  have H := Lib.hid h
  obtain ⟨c0, c1, c2, c3⟩ := h
  go_enter Tryd.func48, Tryd.ntmps48
  go_wp2_with fail
  refine (in_any 9 1 13 _).mono ?_
  rintro e w' ⟨rfl, rfl⟩
  rw [show inZ 9 1 13 = true from rfl]
  go_wp2_with fail
  refine (words_any _).mono ?_
  rintro e w1 ⟨V, b, rfl, ht, hb1⟩
  have tk := ht 9 (by decide)
  rw [show toldL.getD 9 0 = 1 from rfl] at tk
  have H1 := Lib.hid (H.out.below hb1)
  have HB := Lib.hid hb1
  clear ht hb1 c0 c1 c2 c3
  obtain ⟨c0, c1, c2, c3⟩ := H1.out
  have hLi : 0 < (L : Int) := by omega
  go_wp2
  go_ret
  exact ⟨rfl, HB.out⟩

set_option maxRecDepth 100000 in
set_option maxHeartbeats 4000000 in
theorem l07Step_9_t (n k : Int) (a : Option Addr) (L c g o : Nat) (hL : L ≤ 9223372036854775807) (w : World) (h : StepAt w g o 9 n k a L c) (hk : k = 0) (hl : L = 0) :
    Calls Tryd.prog 48 #[.pointer (some ⟨g, o, none⟩)] w fun e w' => e = .returned (.bool (inZ n 1 16)) ∧ Below w.heap.size w w' := by
  subst hk
  subst hl
  have I := Lib.hid (fun w => in_any n 1 16 w)
  obtain ⟨v, hv⟩ : ∃ v, inZ n 1 16 = v := ⟨_, rfl⟩
  rw [hv] at I ⊢
  clear hv
  have H := Lib.hid h
  obtain ⟨c0, c1, c2, c3⟩ := h
  go_enter Tryd.func48, Tryd.ntmps48
  go_wp2_with fail
  refine (in_any 9 1 13 _).mono ?_
  rintro e w' ⟨rfl, rfl⟩
  rw [show inZ 9 1 13 = true from rfl]
  go_wp2_with fail
  refine (words_any _).mono ?_
  rintro e w1 ⟨V, b, rfl, ht, hb1⟩
  have tk := ht 9 (by decide)
  rw [show toldL.getD 9 0 = 1 from rfl] at tk
  have H1 := Lib.hid (H.out.below hb1)
  have HB := Lib.hid hb1
  clear ht hb1 c0 c1 c2 c3
  obtain ⟨c0, c1, c2, c3⟩ := H1.out
  go_wp2_with fail
  refine (I.out _).mono ?_
  rintro e w2 ⟨rfl, rfl⟩
  go_wp2
  go_ret
  exact ⟨rfl, HB.out⟩

set_option maxRecDepth 100000 in
set_option maxHeartbeats 4000000 in
theorem l07Step_10_k (n k : Int) (a : Option Addr) (L c g o : Nat) (hL : L ≤ 9223372036854775807) (w : World) (h : StepAt w g o 10 n k a L c) (h0 : ¬ k = 0) :
    Calls Tryd.prog 48 #[.pointer (some ⟨g, o, none⟩)] w fun e w' => e = .returned (.bool false) ∧ Below w.heap.size w w' := by
  have H := Lib.hid h
  obtain ⟨c0, c1, c2, c3⟩ := h
  go_enter Tryd.func48, Tryd.ntmps48
  go_wp2_with fail
  refine (in_any 10 1 13 _).mono ?_
  rintro e w' ⟨rfl, rfl⟩
  rw [show inZ 10 1 13 = true from rfl]
  go_wp2_with fail
  refine (words_any _).mono ?_
  rintro e w1 ⟨V, b, rfl, ht, hb1⟩
  have tk := ht 10 (by decide)
  rw [show toldL.getD 10 0 = 1 from rfl] at tk
  have H1 := Lib.hid (H.out.below hb1)
  have HB := Lib.hid hb1
  clear ht hb1 c0 c1 c2 c3
  obtain ⟨c0, c1, c2, c3⟩ := H1.out
  go_wp2
  go_ret
  exact ⟨rfl, HB.out⟩

set_option maxRecDepth 100000 in
set_option maxHeartbeats 4000000 in
theorem l07Step_10_l (n k : Int) (a : Option Addr) (L c g o : Nat) (hL : L ≤ 9223372036854775807) (w : World) (h : StepAt w g o 10 n k a L c) (hk : k = 0) (h0 : ¬ L = 0) :
    Calls Tryd.prog 48 #[.pointer (some ⟨g, o, none⟩)] w fun e w' => e = .returned (.bool false) ∧ Below w.heap.size w w' := by
  subst hk
  have H := Lib.hid h
  obtain ⟨c0, c1, c2, c3⟩ := h
  go_enter Tryd.func48, Tryd.ntmps48
  go_wp2_with fail
  refine (in_any 10 1 13 _).mono ?_
  rintro e w' ⟨rfl, rfl⟩
  rw [show inZ 10 1 13 = true from rfl]
  go_wp2_with fail
  refine (words_any _).mono ?_
  rintro e w1 ⟨V, b, rfl, ht, hb1⟩
  have tk := ht 10 (by decide)
  rw [show toldL.getD 10 0 = 1 from rfl] at tk
  have H1 := Lib.hid (H.out.below hb1)
  have HB := Lib.hid hb1
  clear ht hb1 c0 c1 c2 c3
  obtain ⟨c0, c1, c2, c3⟩ := H1.out
  have hLi : 0 < (L : Int) := by omega
  go_wp2
  go_ret
  exact ⟨rfl, HB.out⟩

set_option maxRecDepth 100000 in
set_option maxHeartbeats 4000000 in
theorem l07Step_10_t (n k : Int) (a : Option Addr) (L c g o : Nat) (hL : L ≤ 9223372036854775807) (w : World) (h : StepAt w g o 10 n k a L c) (hk : k = 0) (hl : L = 0) :
    Calls Tryd.prog 48 #[.pointer (some ⟨g, o, none⟩)] w fun e w' => e = .returned (.bool (inZ n 1 16)) ∧ Below w.heap.size w w' := by
  subst hk
  subst hl
  have I := Lib.hid (fun w => in_any n 1 16 w)
  obtain ⟨v, hv⟩ : ∃ v, inZ n 1 16 = v := ⟨_, rfl⟩
  rw [hv] at I ⊢
  clear hv
  have H := Lib.hid h
  obtain ⟨c0, c1, c2, c3⟩ := h
  go_enter Tryd.func48, Tryd.ntmps48
  go_wp2_with fail
  refine (in_any 10 1 13 _).mono ?_
  rintro e w' ⟨rfl, rfl⟩
  rw [show inZ 10 1 13 = true from rfl]
  go_wp2_with fail
  refine (words_any _).mono ?_
  rintro e w1 ⟨V, b, rfl, ht, hb1⟩
  have tk := ht 10 (by decide)
  rw [show toldL.getD 10 0 = 1 from rfl] at tk
  have H1 := Lib.hid (H.out.below hb1)
  have HB := Lib.hid hb1
  clear ht hb1 c0 c1 c2 c3
  obtain ⟨c0, c1, c2, c3⟩ := H1.out
  go_wp2_with fail
  refine (I.out _).mono ?_
  rintro e w2 ⟨rfl, rfl⟩
  go_wp2
  go_ret
  exact ⟨rfl, HB.out⟩

end Go.Proofs.YtdefhmpmgcahpaaDoor
