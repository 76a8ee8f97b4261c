import Derived.Test.YtdefhmpmgcahpaaDoorMPlanTeL15
import Derived.RegionIn
/-
  Which steps are valid: the model's l07Step, kind by kind (written by genval.py).
-/
set_option linter.unusedVariables false
set_option linter.unusedSimpArgs false
namespace Go.Proofs.YtdefhmpmgcahpaaDoor
open Go.RowKit

set_option maxRecDepth 100000 in
set_option maxHeartbeats 4000000 in
theorem l07Step_11_k (n k : Int) (a : Option Addr) (L c g o : Nat) (hL : L ≤ 9223372036854775807) (w : World) (h : StepAt w g o 11 n k a L c) (h0 : ¬ k = 0) :
    Calls Tryd.prog 48 #[.pointer (some ⟨g, o, none⟩)] w fun e w' => e = .returned (.bool false) ∧ Below w.heap.size w w' := by
  have H := Lib.hid h
  obtain ⟨c0, c1, c2, c3⟩ := h
  go_enter Tryd.func48, Tryd.ntmps48
  go_wp2_with fail
  refine (in_any 11 1 13 _).mono ?_
  rintro e w' ⟨rfl, rfl⟩
  rw [show inZ 11 1 13 = true from rfl]
  go_wp2_with fail
  refine (words_any _).mono ?_
  rintro e w1 ⟨V, b, rfl, ht, hb1⟩
  have tk := ht 11 (by decide)
  rw [show toldL.getD 11 0 = 0 from rfl] at tk
  have H1 := Lib.hid (H.out.below hb1)
  have HB := Lib.hid hb1
  clear ht hb1 c0 c1 c2 c3
  obtain ⟨c0, c1, c2, c3⟩ := H1.out
  go_wp2
  go_ret
  exact ⟨rfl, HB.out⟩

set_option maxRecDepth 100000 in
set_option maxHeartbeats 4000000 in
theorem l07Step_11_n (n k : Int) (a : Option Addr) (L c g o : Nat) (hL : L ≤ 9223372036854775807) (w : World) (h : StepAt w g o 11 n k a L c) (hk : k = 0) (h0 : ¬ n = 0) :
    Calls Tryd.prog 48 #[.pointer (some ⟨g, o, none⟩)] w fun e w' => e = .returned (.bool false) ∧ Below w.heap.size w w' := by
  subst hk
  have H := Lib.hid h
  obtain ⟨c0, c1, c2, c3⟩ := h
  go_enter Tryd.func48, Tryd.ntmps48
  go_wp2_with fail
  refine (in_any 11 1 13 _).mono ?_
  rintro e w' ⟨rfl, rfl⟩
  rw [show inZ 11 1 13 = true from rfl]
  go_wp2_with fail
  refine (words_any _).mono ?_
  rintro e w1 ⟨V, b, rfl, ht, hb1⟩
  have tk := ht 11 (by decide)
  rw [show toldL.getD 11 0 = 0 from rfl] at tk
  have H1 := Lib.hid (H.out.below hb1)
  have HB := Lib.hid hb1
  clear ht hb1 c0 c1 c2 c3
  obtain ⟨c0, c1, c2, c3⟩ := H1.out
  go_wp2
  go_ret
  exact ⟨rfl, HB.out⟩

set_option maxRecDepth 100000 in
set_option maxHeartbeats 4000000 in
theorem l07Step_11_l (n k : Int) (a : Option Addr) (L c g o : Nat) (hL : L ≤ 9223372036854775807) (w : World) (h : StepAt w g o 11 n k a L c) (hk : k = 0) (hn : n = 0) (h0 : ¬ L = 0) :
    Calls Tryd.prog 48 #[.pointer (some ⟨g, o, none⟩)] w fun e w' => e = .returned (.bool false) ∧ Below w.heap.size w w' := by
  subst hk
  subst hn
  have H := Lib.hid h
  obtain ⟨c0, c1, c2, c3⟩ := h
  go_enter Tryd.func48, Tryd.ntmps48
  go_wp2_with fail
  refine (in_any 11 1 13 _).mono ?_
  rintro e w' ⟨rfl, rfl⟩
  rw [show inZ 11 1 13 = true from rfl]
  go_wp2_with fail
  refine (words_any _).mono ?_
  rintro e w1 ⟨V, b, rfl, ht, hb1⟩
  have tk := ht 11 (by decide)
  rw [show toldL.getD 11 0 = 0 from rfl] at tk
  have H1 := Lib.hid (H.out.below hb1)
  have HB := Lib.hid hb1
  clear ht hb1 c0 c1 c2 c3
  obtain ⟨c0, c1, c2, c3⟩ := H1.out
  have hLi : 0 < (L : Int) := by omega
  go_wp2
  go_ret
  exact ⟨rfl, HB.out⟩

set_option maxRecDepth 100000 in
set_option maxHeartbeats 4000000 in
theorem l07Step_11_t (n k : Int) (a : Option Addr) (L c g o : Nat) (hL : L ≤ 9223372036854775807) (w : World) (h : StepAt w g o 11 n k a L c) (hk : k = 0) (hn : n = 0) (hl : L = 0) :
    Calls Tryd.prog 48 #[.pointer (some ⟨g, o, none⟩)] w fun e w' => e = .returned (.bool true) ∧ Below w.heap.size w w' := by
  subst hk
  subst hn
  subst hl
  have H := Lib.hid h
  obtain ⟨c0, c1, c2, c3⟩ := h
  go_enter Tryd.func48, Tryd.ntmps48
  go_wp2_with fail
  refine (in_any 11 1 13 _).mono ?_
  rintro e w' ⟨rfl, rfl⟩
  rw [show inZ 11 1 13 = true from rfl]
  go_wp2_with fail
  refine (words_any _).mono ?_
  rintro e w1 ⟨V, b, rfl, ht, hb1⟩
  have tk := ht 11 (by decide)
  rw [show toldL.getD 11 0 = 0 from rfl] at tk
  have H1 := Lib.hid (H.out.below hb1)
  have HB := Lib.hid hb1
  clear ht hb1 c0 c1 c2 c3
  obtain ⟨c0, c1, c2, c3⟩ := H1.out
  go_wp2
  go_ret
  exact ⟨rfl, HB.out⟩

set_option maxRecDepth 100000 in
set_option maxHeartbeats 4000000 in
theorem l07Step_12_k (n k : Int) (a : Option Addr) (L c g o : Nat) (hL : L ≤ 9223372036854775807) (w : World) (h : StepAt w g o 12 n k a L c) (h0 : ¬ k = 0) :
    Calls Tryd.prog 48 #[.pointer (some ⟨g, o, none⟩)] w fun e w' => e = .returned (.bool false) ∧ Below w.heap.size w w' := by
  have H := Lib.hid h
  obtain ⟨c0, c1, c2, c3⟩ := h
  go_enter Tryd.func48, Tryd.ntmps48
  go_wp2_with fail
  refine (in_any 12 1 13 _).mono ?_
  rintro e w' ⟨rfl, rfl⟩
  rw [show inZ 12 1 13 = true from rfl]
  go_wp2_with fail
  refine (words_any _).mono ?_
  rintro e w1 ⟨V, b, rfl, ht, hb1⟩
  have tk := ht 12 (by decide)
  rw [show toldL.getD 12 0 = 0 from rfl] at tk
  have H1 := Lib.hid (H.out.below hb1)
  have HB := Lib.hid hb1
  clear ht hb1 c0 c1 c2 c3
  obtain ⟨c0, c1, c2, c3⟩ := H1.out
  go_wp2
  go_ret
  exact ⟨rfl, HB.out⟩

set_option maxRecDepth 100000 in
set_option maxHeartbeats 4000000 in
theorem l07Step_12_n (n k : Int) (a : Option Addr) (L c g o : Nat) (hL : L ≤ 9223372036854775807) (w : World) (h : StepAt w g o 12 n k a L c) (hk : k = 0) (h0 : ¬ n = 0) :
    Calls Tryd.prog 48 #[.pointer (some ⟨g, o, none⟩)] w fun e w' => e = .returned (.bool false) ∧ Below w.heap.size w w' := by
  subst hk
  have H := Lib.hid h
  obtain ⟨c0, c1, c2, c3⟩ := h
  go_enter Tryd.func48, Tryd.ntmps48
  go_wp2_with fail
  refine (in_any 12 1 13 _).mono ?_
  rintro e w' ⟨rfl, rfl⟩
  rw [show inZ 12 1 13 = true from rfl]
  go_wp2_with fail
  refine (words_any _).mono ?_
  rintro e w1 ⟨V, b, rfl, ht, hb1⟩
  have tk := ht 12 (by decide)
  rw [show toldL.getD 12 0 = 0 from rfl] at tk
  have H1 := Lib.hid (H.out.below hb1)
  have HB := Lib.hid hb1
  clear ht hb1 c0 c1 c2 c3
  obtain ⟨c0, c1, c2, c3⟩ := H1.out
  go_wp2
  go_ret
  exact ⟨rfl, HB.out⟩

set_option maxRecDepth 100000 in
set_option maxHeartbeats 4000000 in
theorem l07Step_12_l (n k : Int) (a : Option Addr) (L c g o : Nat) (hL : L ≤ 9223372036854775807) (w : World) (h : StepAt w g o 12 n k a L c) (hk : k = 0) (hn : n = 0) (h0 : ¬ L = 0) :
    Calls Tryd.prog 48 #[.pointer (some ⟨g, o, none⟩)] w fun e w' => e = .returned (.bool false) ∧ Below w.heap.size w w' := by
  subst hk
  subst hn
  have H := Lib.hid h
  obtain ⟨c0, c1, c2, c3⟩ := h
  go_enter Tryd.func48, Tryd.ntmps48
  go_wp2_with fail
  refine (in_any 12 1 13 _).mono ?_
  rintro e w' ⟨rfl, rfl⟩
  rw [show inZ 12 1 13 = true from rfl]
  go_wp2_with fail
  refine (words_any _).mono ?_
  rintro e w1 ⟨V, b, rfl, ht, hb1⟩
  have tk := ht 12 (by decide)
  rw [show toldL.getD 12 0 = 0 from rfl] at tk
  have H1 := Lib.hid (H.out.below hb1)
  have HB := Lib.hid hb1
  clear ht hb1 c0 c1 c2 c3
  obtain ⟨c0, c1, c2, c3⟩ := H1.out
  have hLi : 0 < (L : Int) := by omega
  go_wp2
  go_ret
  exact ⟨rfl, HB.out⟩

set_option maxRecDepth 100000 in
set_option maxHeartbeats 4000000 in
theorem l07Step_12_t (n k : Int) (a : Option Addr) (L c g o : Nat) (hL : L ≤ 9223372036854775807) (w : World) (h : StepAt w g o 12 n k a L c) (hk : k = 0) (hn : n = 0) (hl : L = 0) :
    Calls Tryd.prog 48 #[.pointer (some ⟨g, o, none⟩)] w fun e w' => e = .returned (.bool true) ∧ Below w.heap.size w w' := by
  subst hk
  subst hn
  subst hl
  have H := Lib.hid h
  obtain ⟨c0, c1, c2, c3⟩ := h
  go_enter Tryd.func48, Tryd.ntmps48
  go_wp2_with fail
  refine (in_any 12 1 13 _).mono ?_
  rintro e w' ⟨rfl, rfl⟩
  rw [show inZ 12 1 13 = true from rfl]
  go_wp2_with fail
  refine (words_any _).mono ?_
  rintro e w1 ⟨V, b, rfl, ht, hb1⟩
  have tk := ht 12 (by decide)
  rw [show toldL.getD 12 0 = 0 from rfl] at tk
  have H1 := Lib.hid (H.out.below hb1)
  have HB := Lib.hid hb1
  clear ht hb1 c0 c1 c2 c3
  obtain ⟨c0, c1, c2, c3⟩ := H1.out
  go_wp2
  go_ret
  exact ⟨rfl, HB.out⟩

set_option maxRecDepth 100000 in
set_option maxHeartbeats 4000000 in
theorem l07Step_13_k (n k : Int) (a : Option Addr) (L c g o : Nat) (hL : L ≤ 9223372036854775807) (w : World) (h : StepAt w g o 13 n k a L c) (h0 : ¬ k = 0) :
    Calls Tryd.prog 48 #[.pointer (some ⟨g, o, none⟩)] w fun e w' => e = .returned (.bool false) ∧ Below w.heap.size w w' := by
  have H := Lib.hid h
  obtain ⟨c0, c1, c2, c3⟩ := h
  go_enter Tryd.func48, Tryd.ntmps48
  go_wp2_with fail
  refine (in_any 13 1 13 _).mono ?_
  rintro e w' ⟨rfl, rfl⟩
  rw [show inZ 13 1 13 = true from rfl]
  go_wp2_with fail
  refine (words_any _).mono ?_
  rintro e w1 ⟨V, b, rfl, ht, hb1⟩
  have tk := ht 13 (by decide)
  rw [show toldL.getD 13 0 = 0 from rfl] at tk
  have H1 := Lib.hid (H.out.below hb1)
  have HB := Lib.hid hb1
  clear ht hb1 c0 c1 c2 c3
  obtain ⟨c0, c1, c2, c3⟩ := H1.out
  go_wp2
  go_ret
  exact ⟨rfl, HB.out⟩

set_option maxRecDepth 100000 in
set_option maxHeartbeats 4000000 in
theorem l07Step_13_n (n k : Int) (a : Option Addr) (L c g o : Nat) (hL : L ≤ 9223372036854775807) (w : World) (h : StepAt w g o 13 n k a L c) (hk : k = 0) (h0 : ¬ n = 0) :
    Calls Tryd.prog 48 #[.pointer (some ⟨g, o, none⟩)] w fun e w' => e = .returned (.bool false) ∧ Below w.heap.size w w' := by
  subst hk
  have H := Lib.hid h
  obtain ⟨c0, c1, c2, c3⟩ := h
  go_enter Tryd.func48, Tryd.ntmps48
  go_wp2_with fail
  refine (in_any 13 1 13 _).mono ?_
  rintro e w' ⟨rfl, rfl⟩
  rw [show inZ 13 1 13 = true from rfl]
  go_wp2_with fail
  refine (words_any _).mono ?_
  rintro e w1 ⟨V, b, rfl, ht, hb1⟩
  have tk := ht 13 (by decide)
  rw [show toldL.getD 13 0 = 0 from rfl] at tk
  have H1 := Lib.hid (H.out.below hb1)
  have HB := Lib.hid hb1
  clear ht hb1 c0 c1 c2 c3
  obtain ⟨c0, c1, c2, c3⟩ := H1.out
  go_wp2
  go_ret
  exact ⟨rfl, HB.out⟩

set_option maxRecDepth 100000 in
set_option maxHeartbeats 4000000 in
theorem l07Step_13_l (n k : Int) (a : Option Addr) (L c g o : Nat) (hL : L ≤ 9223372036854775807) (w : World) (h : StepAt w g o 13 n k a L c) (hk : k = 0) (hn : n = 0) (h0 : ¬ L = 0) :
    Calls Tryd.prog 48 #[.pointer (some ⟨g, o, none⟩)] w fun e w' => e = .returned (.bool false) ∧ Below w.heap.size w w' := by
  subst hk
  subst hn
  have H := Lib.hid h
  obtain ⟨c0, c1, c2, c3⟩ := h
  go_enter Tryd.func48, Tryd.ntmps48
  go_wp2_with fail
  refine (in_any 13 1 13 _).mono ?_
  rintro e w' ⟨rfl, rfl⟩
  rw [show inZ 13 1 13 = true from rfl]
  go_wp2_with fail
  refine (words_any _).mono ?_
  rintro e w1 ⟨V, b, rfl, ht, hb1⟩
  have tk := ht 13 (by decide)
  rw [show toldL.getD 13 0 = 0 from rfl] at tk
  have H1 := Lib.hid (H.out.below hb1)
  have HB := Lib.hid hb1
  clear ht hb1 c0 c1 c2 c3
  obtain ⟨c0, c1, c2, c3⟩ := H1.out
  have hLi : 0 < (L : Int) := by omega
  go_wp2
  go_ret
  exact ⟨rfl, HB.out⟩

set_option maxRecDepth 100000 in
set_option maxHeartbeats 4000000 in
theorem l07Step_13_t (n k : Int) (a : Option Addr) (L c g o : Nat) (hL : L ≤ 9223372036854775807) (w : World) (h : StepAt w g o 13 n k a L c) (hk : k = 0) (hn : n = 0) (hl : L = 0) :
    Calls Tryd.prog 48 #[.pointer (some ⟨g, o, none⟩)] w fun e w' => e = .returned (.bool true) ∧ Below w.heap.size w w' := by
  subst hk
  subst hn
  subst hl
  have H := Lib.hid h
  obtain ⟨c0, c1, c2, c3⟩ := h
  go_enter Tryd.func48, Tryd.ntmps48
  go_wp2_with fail
  refine (in_any 13 1 13 _).mono ?_
  rintro e w' ⟨rfl, rfl⟩
  rw [show inZ 13 1 13 = true from rfl]
  go_wp2_with fail
  refine (words_any _).mono ?_
  rintro e w1 ⟨V, b, rfl, ht, hb1⟩
  have tk := ht 13 (by decide)
  rw [show toldL.getD 13 0 = 0 from rfl] at tk
  have H1 := Lib.hid (H.out.below hb1)
  have HB := Lib.hid hb1
  clear ht hb1 c0 c1 c2 c3
  obtain ⟨c0, c1, c2, c3⟩ := H1.out
  go_wp2
  go_ret
  exact ⟨rfl, HB.out⟩

end Go.Proofs.YtdefhmpmgcahpaaDoor
