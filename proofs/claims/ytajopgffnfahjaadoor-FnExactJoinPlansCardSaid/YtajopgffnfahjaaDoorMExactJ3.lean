/-
  Several texts of this claim, one behind the other; each says what it holds.
-/
import Derived.Test.YtajopgffnfahjaaDoorMExactJ2
import Derived.RegionIn
import Derived.Deep.RegionHeld3
import Derived.Deep.RegionLaw
/-
  Which steps are valid: the model's l07Step, kind by kind (written by genval.py).
-/
set_option linter.unusedVariables false
set_option linter.unusedSimpArgs false
namespace Go.Proofs.YtajopgffnfahjaaDoor
open Go.RowKit

set_option maxRecDepth 100000 in
set_option maxHeartbeats 4000000 in
theorem l07Step_5_k (n k : Int) (a : Option Addr) (L c g o : Nat) (hL : L ≤ 9223372036854775807) (w : World) (h : StepAt w g o 5 n k a L c) (h0 : ¬ k = 0) :
    Calls Tryd.prog 47 #[.pointer (some ⟨g, o, none⟩)] w fun e w' => e = .returned (.bool false) ∧ Below w.heap.size w w' := by
  have H := Lib.hid h
  obtain ⟨c0, c1, c2, c3⟩ := h
  go_enter Tryd.func47, Tryd.ntmps47
  go_wp2_with fail
  refine (in_any 5 1 13 _).mono ?_
  rintro e w' ⟨rfl, rfl⟩
  rw [show inZ 5 1 13 = true from rfl]
  go_wp2_with fail
  refine (words_any _).mono ?_
  rintro e w1 ⟨V, b, rfl, ht, hb1⟩
  have tk := ht 5 (by decide)
  rw [show toldL.getD 5 0 = 1 from rfl] at tk
  have H1 := Lib.hid (H.out.below hb1)
  have HB := Lib.hid hb1
  clear ht hb1 c0 c1 c2 c3
  obtain ⟨c0, c1, c2, c3⟩ := H1.out
  go_wp2
  go_ret
  exact ⟨rfl, HB.out⟩

set_option maxRecDepth 100000 in
set_option maxHeartbeats 4000000 in
theorem l07Step_5_l (n k : Int) (a : Option Addr) (L c g o : Nat) (hL : L ≤ 9223372036854775807) (w : World) (h : StepAt w g o 5 n k a L c) (hk : k = 0) (h0 : ¬ L = 0) :
    Calls Tryd.prog 47 #[.pointer (some ⟨g, o, none⟩)] w fun e w' => e = .returned (.bool false) ∧ Below w.heap.size w w' := by
  subst hk
  have H := Lib.hid h
  obtain ⟨c0, c1, c2, c3⟩ := h
  go_enter Tryd.func47, Tryd.ntmps47
  go_wp2_with fail
  refine (in_any 5 1 13 _).mono ?_
  rintro e w' ⟨rfl, rfl⟩
  rw [show inZ 5 1 13 = true from rfl]
  go_wp2_with fail
  refine (words_any _).mono ?_
  rintro e w1 ⟨V, b, rfl, ht, hb1⟩
  have tk := ht 5 (by decide)
  rw [show toldL.getD 5 0 = 1 from rfl] at tk
  have H1 := Lib.hid (H.out.below hb1)
  have HB := Lib.hid hb1
  clear ht hb1 c0 c1 c2 c3
  obtain ⟨c0, c1, c2, c3⟩ := H1.out
  have hLi : 0 < (L : Int) := by omega
  go_wp2
  go_ret
  exact ⟨rfl, HB.out⟩

set_option maxRecDepth 100000 in
set_option maxHeartbeats 4000000 in
theorem l07Step_5_t (n k : Int) (a : Option Addr) (L c g o : Nat) (hL : L ≤ 9223372036854775807) (w : World) (h : StepAt w g o 5 n k a L c) (hk : k = 0) (hl : L = 0) :
    Calls Tryd.prog 47 #[.pointer (some ⟨g, o, none⟩)] w fun e w' => e = .returned (.bool (inZ n 1 64)) ∧ Below w.heap.size w w' := by
  subst hk
  subst hl
  have I := Lib.hid (fun w => in_any n 1 64 w)
  obtain ⟨v, hv⟩ : ∃ v, inZ n 1 64 = v := ⟨_, rfl⟩
  rw [hv] at I ⊢
  clear hv
  have H := Lib.hid h
  obtain ⟨c0, c1, c2, c3⟩ := h
  go_enter Tryd.func47, Tryd.ntmps47
  go_wp2_with fail
  refine (in_any 5 1 13 _).mono ?_
  rintro e w' ⟨rfl, rfl⟩
  rw [show inZ 5 1 13 = true from rfl]
  go_wp2_with fail
  refine (words_any _).mono ?_
  rintro e w1 ⟨V, b, rfl, ht, hb1⟩
  have tk := ht 5 (by decide)
  rw [show toldL.getD 5 0 = 1 from rfl] at tk
  have H1 := Lib.hid (H.out.below hb1)
  have HB := Lib.hid hb1
  clear ht hb1 c0 c1 c2 c3
  obtain ⟨c0, c1, c2, c3⟩ := H1.out
  go_wp2_with fail
  refine (I.out _).mono ?_
  rintro e w2 ⟨rfl, rfl⟩
  go_wp2
  go_ret
  exact ⟨rfl, HB.out⟩

set_option maxRecDepth 100000 in
set_option maxHeartbeats 4000000 in
theorem l07Step_6_k (n k : Int) (a : Option Addr) (L c g o : Nat) (hL : L ≤ 9223372036854775807) (w : World) (h : StepAt w g o 6 n k a L c) (h0 : ¬ k = 0) :
    Calls Tryd.prog 47 #[.pointer (some ⟨g, o, none⟩)] w fun e w' => e = .returned (.bool false) ∧ Below w.heap.size w w' := by
  have H := Lib.hid h
  obtain ⟨c0, c1, c2, c3⟩ := h
  go_enter Tryd.func47, Tryd.ntmps47
  go_wp2_with fail
  refine (in_any 6 1 13 _).mono ?_
  rintro e w' ⟨rfl, rfl⟩
  rw [show inZ 6 1 13 = true from rfl]
  go_wp2_with fail
  refine (words_any _).mono ?_
  rintro e w1 ⟨V, b, rfl, ht, hb1⟩
  have tk := ht 6 (by decide)
  rw [show toldL.getD 6 0 = 1 from rfl] at tk
  have H1 := Lib.hid (H.out.below hb1)
  have HB := Lib.hid hb1
  clear ht hb1 c0 c1 c2 c3
  obtain ⟨c0, c1, c2, c3⟩ := H1.out
  go_wp2
  go_ret
  exact ⟨rfl, HB.out⟩

set_option maxRecDepth 100000 in
set_option maxHeartbeats 4000000 in
theorem l07Step_6_l (n k : Int) (a : Option Addr) (L c g o : Nat) (hL : L ≤ 9223372036854775807) (w : World) (h : StepAt w g o 6 n k a L c) (hk : k = 0) (h0 : ¬ L = 0) :
    Calls Tryd.prog 47 #[.pointer (some ⟨g, o, none⟩)] w fun e w' => e = .returned (.bool false) ∧ Below w.heap.size w w' := by
  subst hk
  have H := Lib.hid h
  obtain ⟨c0, c1, c2, c3⟩ := h
  go_enter Tryd.func47, Tryd.ntmps47
  go_wp2_with fail
  refine (in_any 6 1 13 _).mono ?_
  rintro e w' ⟨rfl, rfl⟩
  rw [show inZ 6 1 13 = true from rfl]
  go_wp2_with fail
  refine (words_any _).mono ?_
  rintro e w1 ⟨V, b, rfl, ht, hb1⟩
  have tk := ht 6 (by decide)
  rw [show toldL.getD 6 0 = 1 from rfl] at tk
  have H1 := Lib.hid (H.out.below hb1)
  have HB := Lib.hid hb1
  clear ht hb1 c0 c1 c2 c3
  obtain ⟨c0, c1, c2, c3⟩ := H1.out
  have hLi : 0 < (L : Int) := by omega
  go_wp2
  go_ret
  exact ⟨rfl, HB.out⟩

set_option maxRecDepth 100000 in
set_option maxHeartbeats 4000000 in
theorem l07Step_6_t (n k : Int) (a : Option Addr) (L c g o : Nat) (hL : L ≤ 9223372036854775807) (w : World) (h : StepAt w g o 6 n k a L c) (hk : k = 0) (hl : L = 0) :
    Calls Tryd.prog 47 #[.pointer (some ⟨g, o, none⟩)] w fun e w' => e = .returned (.bool (inZ n 1 64)) ∧ Below w.heap.size w w' := by
  subst hk
  subst hl
  have I := Lib.hid (fun w => in_any n 1 64 w)
  obtain ⟨v, hv⟩ : ∃ v, inZ n 1 64 = v := ⟨_, rfl⟩
  rw [hv] at I ⊢
  clear hv
  have H := Lib.hid h
  obtain ⟨c0, c1, c2, c3⟩ := h
  go_enter Tryd.func47, Tryd.ntmps47
  go_wp2_with fail
  refine (in_any 6 1 13 _).mono ?_
  rintro e w' ⟨rfl, rfl⟩
  rw [show inZ 6 1 13 = true from rfl]
  go_wp2_with fail
  refine (words_any _).mono ?_
  rintro e w1 ⟨V, b, rfl, ht, hb1⟩
  have tk := ht 6 (by decide)
  rw [show toldL.getD 6 0 = 1 from rfl] at tk
  have H1 := Lib.hid (H.out.below hb1)
  have HB := Lib.hid hb1
  clear ht hb1 c0 c1 c2 c3
  obtain ⟨c0, c1, c2, c3⟩ := H1.out
  go_wp2_with fail
  refine (I.out _).mono ?_
  rintro e w2 ⟨rfl, rfl⟩
  go_wp2
  go_ret
  exact ⟨rfl, HB.out⟩

set_option maxRecDepth 100000 in
set_option maxHeartbeats 4000000 in
theorem l07Step_7_k (n k : Int) (a : Option Addr) (L c g o : Nat) (hL : L ≤ 9223372036854775807) (w : World) (h : StepAt w g o 7 n k a L c) (h0 : ¬ k = 0) :
    Calls Tryd.prog 47 #[.pointer (some ⟨g, o, none⟩)] w fun e w' => e = .returned (.bool false) ∧ Below w.heap.size w w' := by
  have H := Lib.hid h
  obtain ⟨c0, c1, c2, c3⟩ := h
  go_enter Tryd.func47, Tryd.ntmps47
  go_wp2_with fail
  refine (in_any 7 1 13 _).mono ?_
  rintro e w' ⟨rfl, rfl⟩
  rw [show inZ 7 1 13 = true from rfl]
  go_wp2_with fail
  refine (words_any _).mono ?_
  rintro e w1 ⟨V, b, rfl, ht, hb1⟩
  have tk := ht 7 (by decide)
  rw [show toldL.getD 7 0 = 1 from rfl] at tk
  have H1 := Lib.hid (H.out.below hb1)
  have HB := Lib.hid hb1
  clear ht hb1 c0 c1 c2 c3
  obtain ⟨c0, c1, c2, c3⟩ := H1.out
  go_wp2
  go_ret
  exact ⟨rfl, HB.out⟩

set_option maxRecDepth 100000 in
set_option maxHeartbeats 4000000 in
theorem l07Step_7_l (n k : Int) (a : Option Addr) (L c g o : Nat) (hL : L ≤ 9223372036854775807) (w : World) (h : StepAt w g o 7 n k a L c) (hk : k = 0) (h0 : ¬ L = 0) :
    Calls Tryd.prog 47 #[.pointer (some ⟨g, o, none⟩)] w fun e w' => e = .returned (.bool false) ∧ Below w.heap.size w w' := by
  subst hk
  have H := Lib.hid h
  obtain ⟨c0, c1, c2, c3⟩ := h
  go_enter Tryd.func47, Tryd.ntmps47
  go_wp2_with fail
  refine (in_any 7 1 13 _).mono ?_
  rintro e w' ⟨rfl, rfl⟩
  rw [show inZ 7 1 13 = true from rfl]
  go_wp2_with fail
  refine (words_any _).mono ?_
  rintro e w1 ⟨V, b, rfl, ht, hb1⟩
  have tk := ht 7 (by decide)
  rw [show toldL.getD 7 0 = 1 from rfl] at tk
  have H1 := Lib.hid (H.out.below hb1)
  have HB := Lib.hid hb1
  clear ht hb1 c0 c1 c2 c3
  obtain ⟨c0, c1, c2, c3⟩ := H1.out
  have hLi : 0 < (L : Int) := by omega
  go_wp2
  go_ret
  exact ⟨rfl, HB.out⟩

set_option maxRecDepth 100000 in
set_option maxHeartbeats 4000000 in
theorem l07Step_7_t (n k : Int) (a : Option Addr) (L c g o : Nat) (hL : L ≤ 9223372036854775807) (w : World) (h : StepAt w g o 7 n k a L c) (hk : k = 0) (hl : L = 0) :
    Calls Tryd.prog 47 #[.pointer (some ⟨g, o, none⟩)] w fun e w' => e = .returned (.bool (inZ n 1 16)) ∧ Below w.heap.size w w' := by
  subst hk
  subst hl
  have I := Lib.hid (fun w => in_any n 1 16 w)
  obtain ⟨v, hv⟩ : ∃ v, inZ n 1 16 = v := ⟨_, rfl⟩
  rw [hv] at I ⊢
  clear hv
  have H := Lib.hid h
  obtain ⟨c0, c1, c2, c3⟩ := h
  go_enter Tryd.func47, Tryd.ntmps47
  go_wp2_with fail
  refine (in_any 7 1 13 _).mono ?_
  rintro e w' ⟨rfl, rfl⟩
  rw [show inZ 7 1 13 = true from rfl]
  go_wp2_with fail
  refine (words_any _).mono ?_
  rintro e w1 ⟨V, b, rfl, ht, hb1⟩
  have tk := ht 7 (by decide)
  rw [show toldL.getD 7 0 = 1 from rfl] at tk
  have H1 := Lib.hid (H.out.below hb1)
  have HB := Lib.hid hb1
  clear ht hb1 c0 c1 c2 c3
  obtain ⟨c0, c1, c2, c3⟩ := H1.out
  go_wp2_with fail
  refine (I.out _).mono ?_
  rintro e w2 ⟨rfl, rfl⟩
  go_wp2
  go_ret
  exact ⟨rfl, HB.out⟩

end Go.Proofs.YtajopgffnfahjaaDoor
/-
  Which steps are valid: the model's l07Step, kind by kind (written by genval.py).
-/
set_option linter.unusedVariables false
set_option linter.unusedSimpArgs false
namespace Go.Proofs.YtajopgffnfahjaaDoor
open Go.RowKit

set_option maxRecDepth 100000 in
set_option maxHeartbeats 4000000 in
theorem l07Step_8_k (n k : Int) (a : Option Addr) (L c g o : Nat) (hL : L ≤ 9223372036854775807) (w : World) (h : StepAt w g o 8 n k a L c) (h0 : ¬ k = 0) :
    Calls Tryd.prog 47 #[.pointer (some ⟨g, o, none⟩)] w fun e w' => e = .returned (.bool false) ∧ Below w.heap.size w w' := by
  have H := Lib.hid h
  obtain ⟨c0, c1, c2, c3⟩ := h
  go_enter Tryd.func47, Tryd.ntmps47
  go_wp2_with fail
  refine (in_any 8 1 13 _).mono ?_
  rintro e w' ⟨rfl, rfl⟩
  rw [show inZ 8 1 13 = true from rfl]
  go_wp2_with fail
  refine (words_any _).mono ?_
  rintro e w1 ⟨V, b, rfl, ht, hb1⟩
  have tk := ht 8 (by decide)
  rw [show toldL.getD 8 0 = 1 from rfl] at tk
  have H1 := Lib.hid (H.out.below hb1)
  have HB := Lib.hid hb1
  clear ht hb1 c0 c1 c2 c3
  obtain ⟨c0, c1, c2, c3⟩ := H1.out
  go_wp2
  go_ret
  exact ⟨rfl, HB.out⟩

set_option maxRecDepth 100000 in
set_option maxHeartbeats 4000000 in
theorem l07Step_8_l (n k : Int) (a : Option Addr) (L c g o : Nat) (hL : L ≤ 9223372036854775807) (w : World) (h : StepAt w g o 8 n k a L c) (hk : k = 0) (h0 : ¬ L = 0) :
    Calls Tryd.prog 47 #[.pointer (some ⟨g, o, none⟩)] w fun e w' => e = .returned (.bool false) ∧ Below w.heap.size w w' := by
  subst hk
  have H := Lib.hid h
  obtain ⟨c0, c1, c2, c3⟩ := h
  go_enter Tryd.func47, Tryd.ntmps47
  go_wp2_with fail
  refine (in_any 8 1 13 _).mono ?_
  rintro e w' ⟨rfl, rfl⟩
  rw [show inZ 8 1 13 = true from rfl]
  go_wp2_with fail
  refine (words_any _).mono ?_
  rintro e w1 ⟨V, b, rfl, ht, hb1⟩
  have tk := ht 8 (by decide)
  rw [show toldL.getD 8 0 = 1 from rfl] at tk
  have H1 := Lib.hid (H.out.below hb1)
  have HB := Lib.hid hb1
  clear ht hb1 c0 c1 c2 c3
  obtain ⟨c0, c1, c2, c3⟩ := H1.out
  have hLi : 0 < (L : Int) := by omega
  go_wp2
  go_ret
  exact ⟨rfl, HB.out⟩

set_option maxRecDepth 100000 in
set_option maxHeartbeats 4000000 in
theorem l07Step_8_t (n k : Int) (a : Option Addr) (L c g o : Nat) (hL : L ≤ 9223372036854775807) (w : World) (h : StepAt w g o 8 n k a L c) (hk : k = 0) (hl : L = 0) :
    Calls Tryd.prog 47 #[.pointer (some ⟨g, o, none⟩)] w fun e w' => e = .returned (.bool (inZ n 1 16)) ∧ Below w.heap.size w w' := by
  subst hk
  subst hl
  have I := Lib.hid (fun w => in_any n 1 16 w)
  obtain ⟨v, hv⟩ : ∃ v, inZ n 1 16 = v := ⟨_, rfl⟩
  rw [hv] at I ⊢
  clear hv
  have H := Lib.hid h
  obtain ⟨c0, c1, c2, c3⟩ := h
  go_enter Tryd.func47, Tryd.ntmps47
  go_wp2_with fail
  refine (in_any 8 1 13 _).mono ?_
  rintro e w' ⟨rfl, rfl⟩
  rw [show inZ 8 1 13 = true from rfl]
  go_wp2_with fail
  refine (words_any _).mono ?_
  rintro e w1 ⟨V, b, rfl, ht, hb1⟩
  have tk := ht 8 (by decide)
  rw [show toldL.getD 8 0 = 1 from rfl] at tk
  have H1 := Lib.hid (H.out.below hb1)
  have HB := Lib.hid hb1
  clear ht hb1 c0 c1 c2 c3
  obtain ⟨c0, c1, c2, c3⟩ := H1.out
  go_wp2_with fail
  refine (I.out _).mono ?_
  rintro e w2 ⟨rfl, rfl⟩
  go_wp2
  go_ret
  exact ⟨rfl, HB.out⟩

set_option maxRecDepth 100000 in
set_option maxHeartbeats 4000000 in
theorem l07Step_9_k (n k : Int) (a : Option Addr) (L c g o : Nat) (hL : L ≤ 9223372036854775807) (w : World) (h : StepAt w g o 9 n k a L c) (h0 : ¬ k = 0) :
    Calls Tryd.prog 47 #[.pointer (some ⟨g, o, none⟩)] w fun e w' => e = .returned (.bool false) ∧ Below w.heap.size w w' := by
  have H := Lib.hid h
  obtain ⟨c0, c1, c2, c3⟩ := h
  go_enter Tryd.func47, Tryd.ntmps47
  go_wp2_with fail
  refine (in_any 9 1 13 _).mono ?_
  rintro e w' ⟨rfl, rfl⟩
  rw [show inZ 9 1 13 = true from rfl]
  go_wp2_with fail
  refine (words_any _).mono ?_
  rintro e w1 ⟨V, b, rfl, ht, hb1⟩
  have tk := ht 9 (by decide)
  rw [show toldL.getD 9 0 = 1 from rfl] at tk
  have H1 := Lib.hid (H.out.below hb1)
  have HB := Lib.hid hb1
  clear ht hb1 c0 c1 c2 c3
  obtain ⟨c0, c1, c2, c3⟩ := H1.out
  go_wp2
  go_ret
  exact ⟨rfl, HB.out⟩

set_option maxRecDepth 100000 in
set_option maxHeartbeats 4000000 in
theorem l07Step_9_l (n k : Int) (a : Option Addr) (L c g o : Nat) (hL : L ≤ 9223372036854775807) (w : World) (h : StepAt w g o 9 n k a L c) (hk : k = 0) (h0 : ¬ L = 0) :
    Calls Tryd.prog 47 #[.pointer (some ⟨g, o, none⟩)] w fun e w' => e = .returned (.bool false) ∧ Below w.heap.size w w' := by
  subst hk
  have H := Lib.hid h
  obtain ⟨c0, c1, c2, c3⟩ := h
  go_enter Tryd.func47, Tryd.ntmps47
  go_wp2_with fail
  refine (in_any 9 1 13 _).mono ?_
  rintro e w' ⟨rfl, rfl⟩
  rw [show inZ 9 1 13 = true from rfl]
  go_wp2_with fail
  refine (words_any _).mono ?_
  rintro e w1 ⟨V, b, rfl, ht, hb1⟩
  have tk := ht 9 (by decide)
  rw [show toldL.getD 9 0 = 1 from rfl] at tk
  have H1 := Lib.hid (H.out.below hb1)
  have HB := Lib.hid hb1
  clear ht hb1 c0 c1 c2 c3
  obtain ⟨c0, c1, c2, c3⟩ := H1.out
  have hLi : 0 < (L : Int) := by omega
  go_wp2
  go_ret
  exact ⟨rfl, HB.out⟩

set_option maxRecDepth 100000 in
set_option maxHeartbeats 4000000 in
theorem l07Step_9_t (n k : Int) (a : Option Addr) (L c g o : Nat) (hL : L ≤ 9223372036854775807) (w : World) (h : StepAt w g o 9 n k a L c) (hk : k = 0) (hl : L = 0) :
    Calls Tryd.prog 47 #[.pointer (some ⟨g, o, none⟩)] w fun e w' => e = .returned (.bool (inZ n 1 16)) ∧ Below w.heap.size w w' := by
  subst hk
  subst hl
  have I := Lib.hid (fun w => in_any n 1 16 w)
  obtain ⟨v, hv⟩ : ∃ v, inZ n 1 16 = v := ⟨_, rfl⟩
  rw [hv] at I ⊢
  clear hv
  have H := Lib.hid h
  obtain ⟨c0, c1, c2, c3⟩ := h
  go_enter Tryd.func47, Tryd.ntmps47
  go_wp2_with fail
  refine (in_any 9 1 13 _).mono ?_
  rintro e w' ⟨rfl, rfl⟩
  rw [show inZ 9 1 13 = true from rfl]
  go_wp2_with fail
  refine (words_any _).mono ?_
  rintro e w1 ⟨V, b, rfl, ht, hb1⟩
  have tk := ht 9 (by decide)
  rw [show toldL.getD 9 0 = 1 from rfl] at tk
  have H1 := Lib.hid (H.out.below hb1)
  have HB := Lib.hid hb1
  clear ht hb1 c0 c1 c2 c3
  obtain ⟨c0, c1, c2, c3⟩ := H1.out
  go_wp2_with fail
  refine (I.out _).mono ?_
  rintro e w2 ⟨rfl, rfl⟩
  go_wp2
  go_ret
  exact ⟨rfl, HB.out⟩

set_option maxRecDepth 100000 in
set_option maxHeartbeats 4000000 in
theorem l07Step_10_k (n k : Int) (a : Option Addr) (L c g o : Nat) (hL : L ≤ 9223372036854775807) (w : World) (h : StepAt w g o 10 n k a L c) (h0 : ¬ k = 0) :
    Calls Tryd.prog 47 #[.pointer (some ⟨g, o, none⟩)] w fun e w' => e = .returned (.bool false) ∧ Below w.heap.size w w' := by
  have H := Lib.hid h
  obtain ⟨c0, c1, c2, c3⟩ := h
  go_enter Tryd.func47, Tryd.ntmps47
  go_wp2_with fail
  refine (in_any 10 1 13 _).mono ?_
  rintro e w' ⟨rfl, rfl⟩
  rw [show inZ 10 1 13 = true from rfl]
  go_wp2_with fail
  refine (words_any _).mono ?_
  rintro e w1 ⟨V, b, rfl, ht, hb1⟩
  have tk := ht 10 (by decide)
  rw [show toldL.getD 10 0 = 1 from rfl] at tk
  have H1 := Lib.hid (H.out.below hb1)
  have HB := Lib.hid hb1
  clear ht hb1 c0 c1 c2 c3
  obtain ⟨c0, c1, c2, c3⟩ := H1.out
  go_wp2
  go_ret
  exact ⟨rfl, HB.out⟩

set_option maxRecDepth 100000 in
set_option maxHeartbeats 4000000 in
theorem l07Step_10_l (n k : Int) (a : Option Addr) (L c g o : Nat) (hL : L ≤ 9223372036854775807) (w : World) (h : StepAt w g o 10 n k a L c) (hk : k = 0) (h0 : ¬ L = 0) :
    Calls Tryd.prog 47 #[.pointer (some ⟨g, o, none⟩)] w fun e w' => e = .returned (.bool false) ∧ Below w.heap.size w w' := by
  subst hk
  have H := Lib.hid h
  obtain ⟨c0, c1, c2, c3⟩ := h
  go_enter Tryd.func47, Tryd.ntmps47
  go_wp2_with fail
  refine (in_any 10 1 13 _).mono ?_
  rintro e w' ⟨rfl, rfl⟩
  rw [show inZ 10 1 13 = true from rfl]
  go_wp2_with fail
  refine (words_any _).mono ?_
  rintro e w1 ⟨V, b, rfl, ht, hb1⟩
  have tk := ht 10 (by decide)
  rw [show toldL.getD 10 0 = 1 from rfl] at tk
  have H1 := Lib.hid (H.out.below hb1)
  have HB := Lib.hid hb1
  clear ht hb1 c0 c1 c2 c3
  obtain ⟨c0, c1, c2, c3⟩ := H1.out
  have hLi : 0 < (L : Int) := by omega
  go_wp2
  go_ret
  exact ⟨rfl, HB.out⟩

set_option maxRecDepth 100000 in
set_option maxHeartbeats 4000000 in
theorem l07Step_10_t (n k : Int) (a : Option Addr) (L c g o : Nat) (hL : L ≤ 9223372036854775807) (w : World) (h : StepAt w g o 10 n k a L c) (hk : k = 0) (hl : L = 0) :
    Calls Tryd.prog 47 #[.pointer (some ⟨g, o, none⟩)] w fun e w' => e = .returned (.bool (inZ n 1 16)) ∧ Below w.heap.size w w' := by
  subst hk
  subst hl
  have I := Lib.hid (fun w => in_any n 1 16 w)
  obtain ⟨v, hv⟩ : ∃ v, inZ n 1 16 = v := ⟨_, rfl⟩
  rw [hv] at I ⊢
  clear hv
  have H := Lib.hid h
  obtain ⟨c0, c1, c2, c3⟩ := h
  go_enter Tryd.func47, Tryd.ntmps47
  go_wp2_with fail
  refine (in_any 10 1 13 _).mono ?_
  rintro e w' ⟨rfl, rfl⟩
  rw [show inZ 10 1 13 = true from rfl]
  go_wp2_with fail
  refine (words_any _).mono ?_
  rintro e w1 ⟨V, b, rfl, ht, hb1⟩
  have tk := ht 10 (by decide)
  rw [show toldL.getD 10 0 = 1 from rfl] at tk
  have H1 := Lib.hid (H.out.below hb1)
  have HB := Lib.hid hb1
  clear ht hb1 c0 c1 c2 c3
  obtain ⟨c0, c1, c2, c3⟩ := H1.out
  go_wp2_with fail
  refine (I.out _).mono ?_
  rintro e w2 ⟨rfl, rfl⟩
  go_wp2
  go_ret
  exact ⟨rfl, HB.out⟩

end Go.Proofs.YtajopgffnfahjaaDoor
/-
  Which steps are valid: the model's l07Step, kind by kind (written by genval.py).
-/
set_option linter.unusedVariables false
set_option linter.unusedSimpArgs false
namespace Go.Proofs.YtajopgffnfahjaaDoor
open Go.RowKit

set_option maxRecDepth 100000 in
set_option maxHeartbeats 4000000 in
theorem l07Step_11_k (n k : Int) (a : Option Addr) (L c g o : Nat) (hL : L ≤ 9223372036854775807) (w : World) (h : StepAt w g o 11 n k a L c) (h0 : ¬ k = 0) :
    Calls Tryd.prog 47 #[.pointer (some ⟨g, o, none⟩)] w fun e w' => e = .returned (.bool false) ∧ Below w.heap.size w w' := by
  have H := Lib.hid h
  obtain ⟨c0, c1, c2, c3⟩ := h
  go_enter Tryd.func47, Tryd.ntmps47
  go_wp2_with fail
  refine (in_any 11 1 13 _).mono ?_
  rintro e w' ⟨rfl, rfl⟩
  rw [show inZ 11 1 13 = true from rfl]
  go_wp2_with fail
  refine (words_any _).mono ?_
  rintro e w1 ⟨V, b, rfl, ht, hb1⟩
  have tk := ht 11 (by decide)
  rw [show toldL.getD 11 0 = 0 from rfl] at tk
  have H1 := Lib.hid (H.out.below hb1)
  have HB := Lib.hid hb1
  clear ht hb1 c0 c1 c2 c3
  obtain ⟨c0, c1, c2, c3⟩ := H1.out
  go_wp2
  go_ret
  exact ⟨rfl, HB.out⟩

set_option maxRecDepth 100000 in
set_option maxHeartbeats 4000000 in
theorem l07Step_11_n (n k : Int) (a : Option Addr) (L c g o : Nat) (hL : L ≤ 9223372036854775807) (w : World) (h : StepAt w g o 11 n k a L c) (hk : k = 0) (h0 : ¬ n = 0) :
    Calls Tryd.prog 47 #[.pointer (some ⟨g, o, none⟩)] w fun e w' => e = .returned (.bool false) ∧ Below w.heap.size w w' := by
  subst hk
  have H := Lib.hid h
  obtain ⟨c0, c1, c2, c3⟩ := h
  go_enter Tryd.func47, Tryd.ntmps47
  go_wp2_with fail
  refine (in_any 11 1 13 _).mono ?_
  rintro e w' ⟨rfl, rfl⟩
  rw [show inZ 11 1 13 = true from rfl]
  go_wp2_with fail
  refine (words_any _).mono ?_
  rintro e w1 ⟨V, b, rfl, ht, hb1⟩
  have tk := ht 11 (by decide)
  rw [show toldL.getD 11 0 = 0 from rfl] at tk
  have H1 := Lib.hid (H.out.below hb1)
  have HB := Lib.hid hb1
  clear ht hb1 c0 c1 c2 c3
  obtain ⟨c0, c1, c2, c3⟩ := H1.out
  go_wp2
  go_ret
  exact ⟨rfl, HB.out⟩

set_option maxRecDepth 100000 in
set_option maxHeartbeats 4000000 in
theorem l07Step_11_l (n k : Int) (a : Option Addr) (L c g o : Nat) (hL : L ≤ 9223372036854775807) (w : World) (h : StepAt w g o 11 n k a L c) (hk : k = 0) (hn : n = 0) (h0 : ¬ L = 0) :
    Calls Tryd.prog 47 #[.pointer (some ⟨g, o, none⟩)] w fun e w' => e = .returned (.bool false) ∧ Below w.heap.size w w' := by
  subst hk
  subst hn
  have H := Lib.hid h
  obtain ⟨c0, c1, c2, c3⟩ := h
  go_enter Tryd.func47, Tryd.ntmps47
  go_wp2_with fail
  refine (in_any 11 1 13 _).mono ?_
  rintro e w' ⟨rfl, rfl⟩
  rw [show inZ 11 1 13 = true from rfl]
  go_wp2_with fail
  refine (words_any _).mono ?_
  rintro e w1 ⟨V, b, rfl, ht, hb1⟩
  have tk := ht 11 (by decide)
  rw [show toldL.getD 11 0 = 0 from rfl] at tk
  have H1 := Lib.hid (H.out.below hb1)
  have HB := Lib.hid hb1
  clear ht hb1 c0 c1 c2 c3
  obtain ⟨c0, c1, c2, c3⟩ := H1.out
  have hLi : 0 < (L : Int) := by omega
  go_wp2
  go_ret
  exact ⟨rfl, HB.out⟩

set_option maxRecDepth 100000 in
set_option maxHeartbeats 4000000 in
theorem l07Step_11_t (n k : Int) (a : Option Addr) (L c g o : Nat) (hL : L ≤ 9223372036854775807) (w : World) (h : StepAt w g o 11 n k a L c) (hk : k = 0) (hn : n = 0) (hl : L = 0) :
    Calls Tryd.prog 47 #[.pointer (some ⟨g, o, none⟩)] w fun e w' => e = .returned (.bool true) ∧ Below w.heap.size w w' := by
  subst hk
  subst hn
  subst hl
  have H := Lib.hid h
  obtain ⟨c0, c1, c2, c3⟩ := h
  go_enter Tryd.func47, Tryd.ntmps47
  go_wp2_with fail
  refine (in_any 11 1 13 _).mono ?_
  rintro e w' ⟨rfl, rfl⟩
  rw [show inZ 11 1 13 = true from rfl]
  go_wp2_with fail
  refine (words_any _).mono ?_
  rintro e w1 ⟨V, b, rfl, ht, hb1⟩
  have tk := ht 11 (by decide)
  rw [show toldL.getD 11 0 = 0 from rfl] at tk
  have H1 := Lib.hid (H.out.below hb1)
  have HB := Lib.hid hb1
  clear ht hb1 c0 c1 c2 c3
  obtain ⟨c0, c1, c2, c3⟩ := H1.out
  go_wp2
  go_ret
  exact ⟨rfl, HB.out⟩

set_option maxRecDepth 100000 in
set_option maxHeartbeats 4000000 in
theorem l07Step_12_k (n k : Int) (a : Option Addr) (L c g o : Nat) (hL : L ≤ 9223372036854775807) (w : World) (h : StepAt w g o 12 n k a L c) (h0 : ¬ k = 0) :
    Calls Tryd.prog 47 #[.pointer (some ⟨g, o, none⟩)] w fun e w' => e = .returned (.bool false) ∧ Below w.heap.size w w' := by
  have H := Lib.hid h
  obtain ⟨c0, c1, c2, c3⟩ := h
  go_enter Tryd.func47, Tryd.ntmps47
  go_wp2_with fail
  refine (in_any 12 1 13 _).mono ?_
  rintro e w' ⟨rfl, rfl⟩
  rw [show inZ 12 1 13 = true from rfl]
  go_wp2_with fail
  refine (words_any _).mono ?_
  rintro e w1 ⟨V, b, rfl, ht, hb1⟩
  have tk := ht 12 (by decide)
  rw [show toldL.getD 12 0 = 0 from rfl] at tk
  have H1 := Lib.hid (H.out.below hb1)
  have HB := Lib.hid hb1
  clear ht hb1 c0 c1 c2 c3
  obtain ⟨c0, c1, c2, c3⟩ := H1.out
  go_wp2
  go_ret
  exact ⟨rfl, HB.out⟩

set_option maxRecDepth 100000 in
set_option maxHeartbeats 4000000 in
theorem l07Step_12_n (n k : Int) (a : Option Addr) (L c g o : Nat) (hL : L ≤ 9223372036854775807) (w : World) (h : StepAt w g o 12 n k a L c) (hk : k = 0) (h0 : ¬ n = 0) :
    Calls Tryd.prog 47 #[.pointer (some ⟨g, o, none⟩)] w fun e w' => e = .returned (.bool false) ∧ Below w.heap.size w w' := by
  subst hk
  have H := Lib.hid h
  obtain ⟨c0, c1, c2, c3⟩ := h
  go_enter Tryd.func47, Tryd.ntmps47
  go_wp2_with fail
  refine (in_any 12 1 13 _).mono ?_
  rintro e w' ⟨rfl, rfl⟩
  rw [show inZ 12 1 13 = true from rfl]
  go_wp2_with fail
  refine (words_any _).mono ?_
  rintro e w1 ⟨V, b, rfl, ht, hb1⟩
  have tk := ht 12 (by decide)
  rw [show toldL.getD 12 0 = 0 from rfl] at tk
  have H1 := Lib.hid (H.out.below hb1)
  have HB := Lib.hid hb1
  clear ht hb1 c0 c1 c2 c3
  obtain ⟨c0, c1, c2, c3⟩ := H1.out
  go_wp2
  go_ret
  exact ⟨rfl, HB.out⟩

set_option maxRecDepth 100000 in
set_option maxHeartbeats 4000000 in
theorem l07Step_12_l (n k : Int) (a : Option Addr) (L c g o : Nat) (hL : L ≤ 9223372036854775807) (w : World) (h : StepAt w g o 12 n k a L c) (hk : k = 0) (hn : n = 0) (h0 : ¬ L = 0) :
    Calls Tryd.prog 47 #[.pointer (some ⟨g, o, none⟩)] w fun e w' => e = .returned (.bool false) ∧ Below w.heap.size w w' := by
  subst hk
  subst hn
  have H := Lib.hid h
  obtain ⟨c0, c1, c2, c3⟩ := h
  go_enter Tryd.func47, Tryd.ntmps47
  go_wp2_with fail
  refine (in_any 12 1 13 _).mono ?_
  rintro e w' ⟨rfl, rfl⟩
  rw [show inZ 12 1 13 = true from rfl]
  go_wp2_with fail
  refine (words_any _).mono ?_
  rintro e w1 ⟨V, b, rfl, ht, hb1⟩
  have tk := ht 12 (by decide)
  rw [show toldL.getD 12 0 = 0 from rfl] at tk
  have H1 := Lib.hid (H.out.below hb1)
  have HB := Lib.hid hb1
  clear ht hb1 c0 c1 c2 c3
  obtain ⟨c0, c1, c2, c3⟩ := H1.out
  have hLi : 0 < (L : Int) := by omega
  go_wp2
  go_ret
  exact ⟨rfl, HB.out⟩

set_option maxRecDepth 100000 in
set_option maxHeartbeats 4000000 in
theorem l07Step_12_t (n k : Int) (a : Option Addr) (L c g o : Nat) (hL : L ≤ 9223372036854775807) (w : World) (h : StepAt w g o 12 n k a L c) (hk : k = 0) (hn : n = 0) (hl : L = 0) :
    Calls Tryd.prog 47 #[.pointer (some ⟨g, o, none⟩)] w fun e w' => e = .returned (.bool true) ∧ Below w.heap.size w w' := by
  subst hk
  subst hn
  subst hl
  have H := Lib.hid h
  obtain ⟨c0, c1, c2, c3⟩ := h
  go_enter Tryd.func47, Tryd.ntmps47
  go_wp2_with fail
  refine (in_any 12 1 13 _).mono ?_
  rintro e w' ⟨rfl, rfl⟩
  rw [show inZ 12 1 13 = true from rfl]
  go_wp2_with fail
  refine (words_any _).mono ?_
  rintro e w1 ⟨V, b, rfl, ht, hb1⟩
  have tk := ht 12 (by decide)
  rw [show toldL.getD 12 0 = 0 from rfl] at tk
  have H1 := Lib.hid (H.out.below hb1)
  have HB := Lib.hid hb1
  clear ht hb1 c0 c1 c2 c3
  obtain ⟨c0, c1, c2, c3⟩ := H1.out
  go_wp2
  go_ret
  exact ⟨rfl, HB.out⟩

set_option maxRecDepth 100000 in
set_option maxHeartbeats 4000000 in
theorem l07Step_13_k (n k : Int) (a : Option Addr) (L c g o : Nat) (hL : L ≤ 9223372036854775807) (w : World) (h : StepAt w g o 13 n k a L c) (h0 : ¬ k = 0) :
    Calls Tryd.prog 47 #[.pointer (some ⟨g, o, none⟩)] w fun e w' => e = .returned (.bool false) ∧ Below w.heap.size w w' := by
  have H := Lib.hid h
  obtain ⟨c0, c1, c2, c3⟩ := h
  go_enter Tryd.func47, Tryd.ntmps47
  go_wp2_with fail
  refine (in_any 13 1 13 _).mono ?_
  rintro e w' ⟨rfl, rfl⟩
  rw [show inZ 13 1 13 = true from rfl]
  go_wp2_with fail
  refine (words_any _).mono ?_
  rintro e w1 ⟨V, b, rfl, ht, hb1⟩
  have tk := ht 13 (by decide)
  rw [show toldL.getD 13 0 = 0 from rfl] at tk
  have H1 := Lib.hid (H.out.below hb1)
  have HB := Lib.hid hb1
  clear ht hb1 c0 c1 c2 c3
  obtain ⟨c0, c1, c2, c3⟩ := H1.out
  go_wp2
  go_ret
  exact ⟨rfl, HB.out⟩

set_option maxRecDepth 100000 in
set_option maxHeartbeats 4000000 in
theorem l07Step_13_n (n k : Int) (a : Option Addr) (L c g o : Nat) (hL : L ≤ 9223372036854775807) (w : World) (h : StepAt w g o 13 n k a L c) (hk : k = 0) (h0 : ¬ n = 0) :
    Calls Tryd.prog 47 #[.pointer (some ⟨g, o, none⟩)] w fun e w' => e = .returned (.bool false) ∧ Below w.heap.size w w' := by
  subst hk
  have H := Lib.hid h
  obtain ⟨c0, c1, c2, c3⟩ := h
  go_enter Tryd.func47, Tryd.ntmps47
  go_wp2_with fail
  refine (in_any 13 1 13 _).mono ?_
  rintro e w' ⟨rfl, rfl⟩
  rw [show inZ 13 1 13 = true from rfl]
  go_wp2_with fail
  refine (words_any _).mono ?_
  rintro e w1 ⟨V, b, rfl, ht, hb1⟩
  have tk := ht 13 (by decide)
  rw [show toldL.getD 13 0 = 0 from rfl] at tk
  have H1 := Lib.hid (H.out.below hb1)
  have HB := Lib.hid hb1
  clear ht hb1 c0 c1 c2 c3
  obtain ⟨c0, c1, c2, c3⟩ := H1.out
  go_wp2
  go_ret
  exact ⟨rfl, HB.out⟩

set_option maxRecDepth 100000 in
set_option maxHeartbeats 4000000 in
theorem l07Step_13_l (n k : Int) (a : Option Addr) (L c g o : Nat) (hL : L ≤ 9223372036854775807) (w : World) (h : StepAt w g o 13 n k a L c) (hk : k = 0) (hn : n = 0) (h0 : ¬ L = 0) :
    Calls Tryd.prog 47 #[.pointer (some ⟨g, o, none⟩)] w fun e w' => e = .returned (.bool false) ∧ Below w.heap.size w w' := by
  subst hk
  subst hn
  have H := Lib.hid h
  obtain ⟨c0, c1, c2, c3⟩ := h
  go_enter Tryd.func47, Tryd.ntmps47
  go_wp2_with fail
  refine (in_any 13 1 13 _).mono ?_
  rintro e w' ⟨rfl, rfl⟩
  rw [show inZ 13 1 13 = true from rfl]
  go_wp2_with fail
  refine (words_any _).mono ?_
  rintro e w1 ⟨V, b, rfl, ht, hb1⟩
  have tk := ht 13 (by decide)
  rw [show toldL.getD 13 0 = 0 from rfl] at tk
  have H1 := Lib.hid (H.out.below hb1)
  have HB := Lib.hid hb1
  clear ht hb1 c0 c1 c2 c3
  obtain ⟨c0, c1, c2, c3⟩ := H1.out
  have hLi : 0 < (L : Int) := by omega
  go_wp2
  go_ret
  exact ⟨rfl, HB.out⟩

set_option maxRecDepth 100000 in
set_option maxHeartbeats 4000000 in
theorem l07Step_13_t (n k : Int) (a : Option Addr) (L c g o : Nat) (hL : L ≤ 9223372036854775807) (w : World) (h : StepAt w g o 13 n k a L c) (hk : k = 0) (hn : n = 0) (hl : L = 0) :
    Calls Tryd.prog 47 #[.pointer (some ⟨g, o, none⟩)] w fun e w' => e = .returned (.bool true) ∧ Below w.heap.size w w' := by
  subst hk
  subst hn
  subst hl
  have H := Lib.hid h
  obtain ⟨c0, c1, c2, c3⟩ := h
  go_enter Tryd.func47, Tryd.ntmps47
  go_wp2_with fail
  refine (in_any 13 1 13 _).mono ?_
  rintro e w' ⟨rfl, rfl⟩
  rw [show inZ 13 1 13 = true from rfl]
  go_wp2_with fail
  refine (words_any _).mono ?_
  rintro e w1 ⟨V, b, rfl, ht, hb1⟩
  have tk := ht 13 (by decide)
  rw [show toldL.getD 13 0 = 0 from rfl] at tk
  have H1 := Lib.hid (H.out.below hb1)
  have HB := Lib.hid hb1
  clear ht hb1 c0 c1 c2 c3
  obtain ⟨c0, c1, c2, c3⟩ := H1.out
  go_wp2
  go_ret
  exact ⟨rfl, HB.out⟩

end Go.Proofs.YtajopgffnfahjaaDoor
/-
  Which steps are valid: ValidStep of the model.
-/
set_option linter.unusedVariables false
set_option linter.unusedSimpArgs false
namespace Go.Proofs.YtajopgffnfahjaaDoor
open Go.RowKit

theorem isEmpty_len {zs : List Int} : zs.isEmpty = decide (zs.length = 0) := by cases zs <;> simp

set_option maxRecDepth 100000 in
set_option maxHeartbeats 4000000 in
theorem l07Step_none (kd n k : Int) (a : Option Addr) (L c g o : Nat) (w : World) (h : StepAt w g o kd n k a L c) (hk : inZ kd 1 13 = false) :
    Calls Tryd.prog 47 #[.pointer (some ⟨g, o, none⟩)] w fun e w' => e = .returned (.bool false) ∧ Below w.heap.size w w' := by
  obtain ⟨c0, c1, c2, c3⟩ := h
  have I := Lib.hid (fun w => in_any kd 1 13 w)
  rw [hk] at I
  clear hk
  go_enter Tryd.func47, Tryd.ntmps47
  go_wp2_with fail
  refine (I.out _).mono ?_
  rintro e w' ⟨rfl, rfl⟩
  go_wp2
  go_ret
  exact ⟨rfl, Below.refl _ _⟩

set_option maxHeartbeats 4000000 in
theorem l07Step_any (kd n k : Int) (taps : List Int) (a : Option Addr) (c g o : Nat) (hL : taps.length ≤ 9223372036854775807) (w : World) (h : StepAt w g o kd n k a taps.length c) (hr : ∀ w1, Below w.heap.size w w1 → Reads w1 (.slice a taps.length c) (ints taps)) :
    Calls Tryd.prog 47 #[.pointer (some ⟨g, o, none⟩)] w fun e w' => e = .returned (.bool (validSt ⟨kd, n, k, taps⟩)) ∧ Below w.heap.size w w' := by
  by_cases hk : inZ kd 1 13 = false
  · have e : validSt ⟨kd, n, k, taps⟩ = false := by
      have : ¬ (1 ≤ kd ∧ kd ≤ 13) := fun h => by rw [inZ_t h] at hk; cases hk
      simp only [validSt]
      repeat (rw [if_neg (by omega)])
    rw [e]
    exact l07Step_none kd n k a _ c g o w h hk
  have hk' := inZ_iff.1 (by simpa using hk : inZ kd 1 13 = true)
  clear hk
  have hcase : kd = 1 ∨ kd = 2 ∨ kd = 3 ∨ kd = 4 ∨ kd = 5 ∨ kd = 6 ∨ kd = 7 ∨ kd = 8 ∨ kd = 9 ∨ kd = 10 ∨ kd = 11 ∨ kd = 12 ∨ kd = 13 := by omega
  clear hk'
  by_cases hl : taps.length = 0
  · have hl' : taps = [] := List.length_eq_zero_iff.1 hl
    subst hl'
    by_cases h0 : k = 0
    · by_cases hn : n = 0
      · rcases hcase with rfl | rfl | rfl | rfl | rfl | rfl | rfl | rfl | rfl | rfl | rfl | rfl | rfl
        · simpa [validSt] using l07Step_1_t n k a _ c g o hL w h hl
        · simpa [validSt, h0] using l07Step_2_t n k a _ c g o hL w h h0 hl
        · simpa [validSt, h0, hn] using l07Step_3_t n k a _ c g o hL w h h0 hn [] hr
        · by_cases hv : (inZ n 1 1024 && inZ k 0 (n - 1)) = true
          · simpa [validSt, hv] using l07Step_4_true n k a _ c g o hL w h hl hv
          · have hv' : (inZ n 1 1024 && inZ k 0 (n - 1)) = false := by simpa using hv
            simpa [validSt, hv'] using l07Step_4_false n k a _ c g o hL w h hl hv'
        · simpa [validSt, h0] using l07Step_5_t n k a _ c g o hL w h h0 hl
        · simpa [validSt, h0] using l07Step_6_t n k a _ c g o hL w h h0 hl
        · simpa [validSt, h0] using l07Step_7_t n k a _ c g o hL w h h0 hl
        · simpa [validSt, h0] using l07Step_8_t n k a _ c g o hL w h h0 hl
        · simpa [validSt, h0] using l07Step_9_t n k a _ c g o hL w h h0 hl
        · simpa [validSt, h0] using l07Step_10_t n k a _ c g o hL w h h0 hl
        · simpa [validSt, h0, hn] using l07Step_11_t n k a _ c g o hL w h h0 hn hl
        · simpa [validSt, h0, hn] using l07Step_12_t n k a _ c g o hL w h h0 hn hl
        · simpa [validSt, h0, hn] using l07Step_13_t n k a _ c g o hL w h h0 hn hl
      · rcases hcase with rfl | rfl | rfl | rfl | rfl | rfl | rfl | rfl | rfl | rfl | rfl | rfl | rfl
        · simpa [validSt] using l07Step_1_t n k a _ c g o hL w h hl
        · simpa [validSt, h0] using l07Step_2_t n k a _ c g o hL w h h0 hl
        · simpa [validSt, hn] using l07Step_3_n n k a _ c g o hL w h h0 hn
        · by_cases hv : (inZ n 1 1024 && inZ k 0 (n - 1)) = true
          · simpa [validSt, hv] using l07Step_4_true n k a _ c g o hL w h hl hv
          · have hv' : (inZ n 1 1024 && inZ k 0 (n - 1)) = false := by simpa using hv
            simpa [validSt, hv'] using l07Step_4_false n k a _ c g o hL w h hl hv'
        · simpa [validSt, h0] using l07Step_5_t n k a _ c g o hL w h h0 hl
        · simpa [validSt, h0] using l07Step_6_t n k a _ c g o hL w h h0 hl
        · simpa [validSt, h0] using l07Step_7_t n k a _ c g o hL w h h0 hl
        · simpa [validSt, h0] using l07Step_8_t n k a _ c g o hL w h h0 hl
        · simpa [validSt, h0] using l07Step_9_t n k a _ c g o hL w h h0 hl
        · simpa [validSt, h0] using l07Step_10_t n k a _ c g o hL w h h0 hl
        · simpa [validSt, hn] using l07Step_11_n n k a _ c g o hL w h h0 hn
        · simpa [validSt, hn] using l07Step_12_n n k a _ c g o hL w h h0 hn
        · simpa [validSt, hn] using l07Step_13_n n k a _ c g o hL w h h0 hn
    · rcases hcase with rfl | rfl | rfl | rfl | rfl | rfl | rfl | rfl | rfl | rfl | rfl | rfl | rfl
      · simpa [validSt] using l07Step_1_t n k a _ c g o hL w h hl
      · simpa [validSt, h0] using l07Step_2_k n k a _ c g o hL w h h0
      · simpa [validSt, h0] using l07Step_3_k n k a _ c g o hL w h h0
      · by_cases hv : (inZ n 1 1024 && inZ k 0 (n - 1)) = true
        · simpa [validSt, hv] using l07Step_4_true n k a _ c g o hL w h hl hv
        · have hv' : (inZ n 1 1024 && inZ k 0 (n - 1)) = false := by simpa using hv
          simpa [validSt, hv'] using l07Step_4_false n k a _ c g o hL w h hl hv'
      · simpa [validSt, h0] using l07Step_5_k n k a _ c g o hL w h h0
      · simpa [validSt, h0] using l07Step_6_k n k a _ c g o hL w h h0
      · simpa [validSt, h0] using l07Step_7_k n k a _ c g o hL w h h0
      · simpa [validSt, h0] using l07Step_8_k n k a _ c g o hL w h h0
      · simpa [validSt, h0] using l07Step_9_k n k a _ c g o hL w h h0
      · simpa [validSt, h0] using l07Step_10_k n k a _ c g o hL w h h0
      · simpa [validSt, h0] using l07Step_11_k n k a _ c g o hL w h h0
      · simpa [validSt, h0] using l07Step_12_k n k a _ c g o hL w h h0
      · simpa [validSt, h0] using l07Step_13_k n k a _ c g o hL w h h0
  · have hl' : ¬ taps = [] := fun e => hl (by rw [e]; rfl)
    have he : taps.isEmpty = false := by rw [isEmpty_len]; exact decide_eq_false hl
    by_cases h0 : k = 0
    · by_cases hn : n = 0
      · rcases hcase with rfl | rfl | rfl | rfl | rfl | rfl | rfl | rfl | rfl | rfl | rfl | rfl | rfl
        · simpa [validSt, he] using l07Step_1_l n k a _ c g o hL w h hl
        · simpa [validSt, he] using l07Step_2_l n k a _ c g o hL w h h0 hl
        · simpa [validSt, h0, hn] using l07Step_3_t n k a _ c g o hL w h h0 hn taps hr
        · simpa [validSt, he] using l07Step_4_l n k a _ c g o hL w h hl
        · simpa [validSt, he] using l07Step_5_l n k a _ c g o hL w h h0 hl
        · simpa [validSt, he] using l07Step_6_l n k a _ c g o hL w h h0 hl
        · simpa [validSt, he] using l07Step_7_l n k a _ c g o hL w h h0 hl
        · simpa [validSt, he] using l07Step_8_l n k a _ c g o hL w h h0 hl
        · simpa [validSt, he] using l07Step_9_l n k a _ c g o hL w h h0 hl
        · simpa [validSt, he] using l07Step_10_l n k a _ c g o hL w h h0 hl
        · simpa [validSt, he] using l07Step_11_l n k a _ c g o hL w h h0 hn hl
        · simpa [validSt, he] using l07Step_12_l n k a _ c g o hL w h h0 hn hl
        · simpa [validSt, he] using l07Step_13_l n k a _ c g o hL w h h0 hn hl
      · rcases hcase with rfl | rfl | rfl | rfl | rfl | rfl | rfl | rfl | rfl | rfl | rfl | rfl | rfl
        · simpa [validSt, he] using l07Step_1_l n k a _ c g o hL w h hl
        · simpa [validSt, he] using l07Step_2_l n k a _ c g o hL w h h0 hl
        · simpa [validSt, hn] using l07Step_3_n n k a _ c g o hL w h h0 hn
        · simpa [validSt, he] using l07Step_4_l n k a _ c g o hL w h hl
        · simpa [validSt, he] using l07Step_5_l n k a _ c g o hL w h h0 hl
        · simpa [validSt, he] using l07Step_6_l n k a _ c g o hL w h h0 hl
        · simpa [validSt, he] using l07Step_7_l n k a _ c g o hL w h h0 hl
        · simpa [validSt, he] using l07Step_8_l n k a _ c g o hL w h h0 hl
        · simpa [validSt, he] using l07Step_9_l n k a _ c g o hL w h h0 hl
        · simpa [validSt, he] using l07Step_10_l n k a _ c g o hL w h h0 hl
        · simpa [validSt, hn] using l07Step_11_n n k a _ c g o hL w h h0 hn
        · simpa [validSt, hn] using l07Step_12_n n k a _ c g o hL w h h0 hn
        · simpa [validSt, hn] using l07Step_13_n n k a _ c g o hL w h h0 hn
    · rcases hcase with rfl | rfl | rfl | rfl | rfl | rfl | rfl | rfl | rfl | rfl | rfl | rfl | rfl
      · simpa [validSt, he] using l07Step_1_l n k a _ c g o hL w h hl
      · simpa [validSt, h0] using l07Step_2_k n k a _ c g o hL w h h0
      · simpa [validSt, h0] using l07Step_3_k n k a _ c g o hL w h h0
      · simpa [validSt, he] using l07Step_4_l n k a _ c g o hL w h hl
      · simpa [validSt, h0] using l07Step_5_k n k a _ c g o hL w h h0
      · simpa [validSt, h0] using l07Step_6_k n k a _ c g o hL w h h0
      · simpa [validSt, h0] using l07Step_7_k n k a _ c g o hL w h h0
      · simpa [validSt, h0] using l07Step_8_k n k a _ c g o hL w h h0
      · simpa [validSt, h0] using l07Step_9_k n k a _ c g o hL w h h0
      · simpa [validSt, h0] using l07Step_10_k n k a _ c g o hL w h h0
      · simpa [validSt, h0] using l07Step_11_k n k a _ c g o hL w h h0
      · simpa [validSt, h0] using l07Step_12_k n k a _ c g o hL w h h0
      · simpa [validSt, h0] using l07Step_13_k n k a _ c g o hL w h h0

theorem Row.len_le {w : World} {B : Nat} {v : Value} {zs : List Int} (h : Row w B 2 v (ints zs)) : zs.length ≤ 9223372036854775807 := by
  rcases h.shape with ⟨a, cap, rfl, e⟩ | ⟨g, cap, rfl, h0, _, _, h1, h2⟩
  · have : zs = [] := by simpa [ints] using e
    subst this
    simp
  · rw [ints_length] at h1
    unfold maxLen at h2
    omega

theorem Row.reads_below {w w' : World} {B : Nat} {e : TypeId} {v : Value} {cs : List Value} (h : Row w B e v cs) (hb : Below w.heap.size w w') : Reads w' v cs :=
  (h.below hb (fun k e => (h.lt k e).2)).reads

end Go.Proofs.YtajopgffnfahjaaDoor
/-
  ValidStep of the program: the table, the numbers behind a word, and which are accepted.
-/
set_option linter.unusedVariables false
set_option linter.unusedSimpArgs false
namespace Go.Proofs.YtajopgffnfahjaaDoor
open Go.RowKit

def wordOf (q : Nat) : ByteArray := [(⟨#[]⟩ : ByteArray), ⟨#[103, 97, 105, 110]⟩, ⟨#[100, 101, 108, 97, 121]⟩, ⟨#[102, 105, 108, 116, 101, 114]⟩, ⟨#[116, 117, 114, 110]⟩, ⟨#[107, 101, 101, 112]⟩, ⟨#[115, 116, 117, 102, 102]⟩, ⟨#[98, 108, 111, 99, 107]⟩, ⟨#[98, 97, 99, 107]⟩, ⟨#[102, 108, 105, 112]⟩, ⟨#[115, 117, 109]⟩, ⟨#[110, 97, 114, 114, 111, 119]⟩, ⟨#[109, 105, 114, 114, 111, 114]⟩, ⟨#[115, 113, 117, 97, 114, 101]⟩].getD q ⟨#[]⟩
def cntOf (q : Nat) : Nat := [0, 2, 1, 8, 2, 1, 1, 1, 1, 1, 1, 0, 0, 0].getD q 0
def loOf (q : Nat) : Int := [0, -256, 0, -256, 0, 1, 1, 1, 1, 1, 1, 0, 0, 0].getD q 0
def hiOf (q : Nat) : Int := [0, 256, 300, 256, 1024, 64, 64, 16, 16, 16, 16, 0, 0, 0].getD q 0
theorem cntOf_le {q : Nat} (h : q ≠ 3) : cntOf q ≤ 2 := by
  by_cases hq : q < 14
  · rcases q with _ | _ | _ | _ | _ | _ | _ | _ | _ | _ | _ | _ | _ | _ | q
    all_goals first | (exact absurd rfl h) | decide | omega
  · unfold cntOf
    rw [List.getD_eq_getElem?_getD, List.getElem?_eq_none (by simp; omega)]
    decide

/-- The table of forms lies where the program laid it. -/
structure Tab (w : World) : Prop where
  word : ∀ q, q < 14 → w.cell? ⟨0, q * 4, none⟩ = some (.string (wordOf q))
  cnt : ∀ q, q < 14 → w.cell? ⟨0, q * 4 + 1, none⟩ = some (.int .i64 (cntOf q))
  lo : ∀ q, q < 14 → w.cell? ⟨0, q * 4 + 2, none⟩ = some (.int .i64 (loOf q))
  hi : ∀ q, q < 14 → w.cell? ⟨0, q * 4 + 3, none⟩ = some (.int .i64 (hiOf q))

theorem Tab.below {w w' : World} (h : Tab w) (hb : Below w.heap.size w w') : Tab w' := by
  have hg : 0 < w.heap.size := World.block_lt_of_cell? _ _ (h.word 0 (by decide))
  exact ⟨fun q hq => by rw [hb.cell hg]; exact h.word q hq, fun q hq => by rw [hb.cell hg]; exact h.cnt q hq, fun q hq => by rw [hb.cell hg]; exact h.lo q hq, fun q hq => by rw [hb.cell hg]; exact h.hi q hq⟩

/-- The numbers that stand behind the word of a step. -/
def numsOf (q : Nat) (n k : Int) (taps : List Int) : List Int := if q = 3 then taps else [n, k].take (cntOf q)

/-- A slice that is read. -/
def NumsTo (zs : List Int) (w : World) (e : Ending) (w' : World) : Prop := ∃ a c, e = .returned (.slice a zs.length c) ∧ Reads w' (.slice a zs.length c) (ints zs) ∧ Below w.heap.size w w'

set_option maxRecDepth 100000 in
set_option maxHeartbeats 4000000 in
theorem numbersOf_any (q : Nat) (hq : q < 14) (n k : Int) (taps : List Int) (a : Option Addr) (c : Nat) (w : World) (ht : Tab w) (hr : Reads w (.slice a taps.length c) (ints taps)) (hs : ∀ w', Below w.heap.size w w' → Reads w' (.slice a taps.length c) (ints taps)) :
    Calls Tryd.prog 64 #[.agg #[.int .i64 q, .int .i64 n, .int .i64 k, .slice a taps.length c]] w (NumsTo (numsOf q n k taps) w) := by
  by_cases h3 : q = 3
  · subst h3
    rw [show numsOf 3 n k taps = taps from rfl]
    have HS := Lib.hid hs
    clear hs hr ht hq
    go_enter Tryd.func64, Tryd.ntmps64
    go_wp2
    go_ret
    exact ⟨_, _, rfl, HS.out _ ((Below.refl _ _).alloc (Nat.le_refl _) _), (Below.refl _ _).alloc (Nat.le_refl _) _⟩
  · have hc := cntOf_le h3
    have h3i : ¬ (q : Int) = 3 := by omega
    have hq14 : (q : Int) < 14 := by omega
    have e : numsOf q n k taps = [n, k].take (cntOf q) := if_neg h3
    have el : ([n, k].take (cntOf q)).length = cntOf q := by rw [List.length_take]; simp; omega
    have t1 := ht.cnt q hq
    have hg : 0 < w.heap.size := World.block_lt_of_cell? _ _ t1
    rw [e]
    have HE := Lib.hid el
    obtain ⟨m, hm⟩ : ∃ m, cntOf q = m := ⟨_, rfl⟩
    rw [hm] at hc t1 HE ⊢
    have hc' : (m : Int) ≤ 2 := by omega
    clear hs hr ht el e hm h3
    go_enter Tryd.func64, Tryd.ntmps64
    go_wp2
    go_region
    go_wp2
    go_ret
    refine ⟨some ⟨w.heap.size + 1, 0, none⟩, 2, by rw [HE.out]; rfl, ?_, by first | exact ((below_draws ((Below.refl _ _).alloc (Nat.le_refl _) _) 1).alloc (by simp [World.drewN]) _) | exact below_draws (((Below.refl _ _).alloc (Nat.le_refl _) _).alloc (by simp) _) _⟩
    rw [HE.out]
    rcases m with _ | _ | _ | m
    · exact .none _ _
    · refine .row _ 2 1 _ rfl (by decide) (by decide) (by simp [maxLen]) fun j hj => ?_
      rcases j with _ | j
      · go_simp; rfl
      · omega
    · refine .row _ 2 2 _ rfl (by decide) (by decide) (by simp [maxLen]) fun j hj => ?_
      rcases j with _ | _ | j
      · go_simp; rfl
      · go_simp; rfl
      · omega
    · omega

/-- Numbers that a form accepts. -/
def acceptB (c : Nat) (lo hi : Int) (zs : List Int) : Bool := !(decide (c < zs.length) || decide (zs.length < min c 1)) && zs.all (fun z => inZ z lo hi)

theorem enter_accepts (args : Array Value) (w : World) : (callFunc 101 args).run Tryd.prog w = .ok (.enter 101 args) w := by kernel_rfl

theorem accepts1_any (z lo hi : Int) (g : Nat) (w : World) (c2 : w.cell? ⟨g, 2, none⟩ = some (.int .i64 lo)) (c3 : w.cell? ⟨g, 3, none⟩ = some (.int .i64 hi)) :
    Calls Tryd.prog 101 #[.int .i64 z, .pointer (some ⟨g, 0, none⟩)] w fun e w' => e = .returned (.bool (!inZ z lo hi)) ∧ w' = w := by
  by_cases h1 : lo ≤ z
  · by_cases h2 : z ≤ hi
    · rw [inZ_t ⟨h1, h2⟩]
      have g1 : decide (z < lo) = false := decide_eq_false (by omega)
      have g2 : decide (hi < z) = false := decide_eq_false (by omega)
      clear h1 h2
      go_enter Tryd.func101, Tryd.ntmps101
      go_wp2
      go_ret
      exact ⟨rfl, rfl⟩
    · rw [inZ_f (fun h => h2 h.2)]
      have g1 : decide (z < lo) = false := decide_eq_false (by omega)
      have g2 : decide (hi < z) = true := decide_eq_true (by omega)
      clear h1 h2
      go_enter Tryd.func101, Tryd.ntmps101
      go_wp2
      go_ret
      exact ⟨rfl, rfl⟩
  · rw [inZ_f (fun h => h1 h.1)]
    have g1 : decide (z < lo) = true := decide_eq_true (by omega)
    clear h1
    go_enter Tryd.func101, Tryd.ntmps101
    go_wp2
    go_ret
    exact ⟨rfl, rfl⟩

/-- How a slice of integers is read. -/
theorem ints_find {w : World} {v : Value} {zs : List Int} (h : Reads w v (ints zs)) :
    ∃ a cap, v = .slice a zs.length cap ∧ zs.length ≤ 9223372036854775807 ∧ ∀ j, j < zs.length → ∃ g, a = some ⟨g, 0, none⟩ ∧ w.cell? ⟨g, j, none⟩ = some (.int .i64 (zs.getD j 0)) := by
  generalize hcs : ints zs = cs at h
  cases h with
  | none a cap =>
    have : zs = [] := by simpa [ints] using hcs
    subst this
    exact ⟨a, cap, rfl, by simp, fun j hj => by simp at hj⟩
  | row g cap L cs hL h0 hc hm hcell =>
    have hlen : zs.length = L := by rw [← hL, ← hcs, ints_length]
    refine ⟨_, cap, by rw [hlen], by unfold maxLen at hm; omega, fun j hj => ⟨g, rfl, ?_⟩⟩
    rw [hcell j (by omega), ← hcs, ints_getD hj]

set_option maxRecDepth 100000 in
set_option maxHeartbeats 4000000 in
theorem indexI_any {v : Value} {zs : List Int} {w : World} (h : Reads w v (ints zs)) (p : Int → Bool) (fn : Nat) (capt : Array Value)
    (hfn : ∀ (args : Array Value) (w : World), (callFunc fn args).run Tryd.prog w = .ok (.enter fn args) w)
    (hcall : ∀ z, Calls Tryd.prog fn (#[.int .i64 z] ++ capt) w fun e w' => e = .returned (.bool (p z)) ∧ w' = w) :
    Calls Tryd.prog 123 #[v, .func (.func fn) #[] capt] w fun e w' => ∃ r : Int, e = .returned (.int .i64 r) ∧ decide (0 ≤ r) = zs.any p ∧ w' = w := by
  obtain ⟨a, cap, rfl, hmax, hrd⟩ := ints_find h
  have HRD := Lib.hid hrd
  have HF := Lib.hid hcall
  have HA : Hid (∀ j, j < zs.length → p (zs.getD j 0) = true → zs.any p = true) := fun j hj hp => by
    rw [List.getD_eq_getElem?_getD, List.getElem?_eq_getElem hj] at hp
    exact List.any_eq_true.2 ⟨_, List.getElem_mem _, hp⟩
  have HZ : Hid ((∀ j, j < zs.length → p (zs.getD j 0) = false) → zs.any p = false) := fun hall => by
    refine List.any_eq_false.2 fun z hz => ?_
    obtain ⟨j, hj, rfl⟩ := List.getElem_of_mem hz
    have := hall j hj
    rw [List.getD_eq_getElem?_getD, List.getElem?_eq_getElem hj] at this
    simpa using this
  obtain ⟨b, hb⟩ : ∃ b, zs.any p = b := ⟨_, rfl⟩
  rw [hb] at HA HZ ⊢
  obtain ⟨c, hc⟩ : ∃ c, zs.length = c := ⟨_, rfl⟩
  rw [hc] at HA HZ HRD hmax ⊢
  have hmax' : (c : Int) ≤ 9223372036854775807 := by omega
  clear h hrd hcall hb hc hmax
  go_enter Tryd.func123, Tryd.ntmps123
  go_wp2
  go_loopw [8] (fun i wr => ∃ k : Nat, i = .int .i64 k ∧ k ≤ c ∧ (∀ j, j < k → p (zs.getD j 0) = false) ∧ wr = w) (fun i _ => c - (intOf i).toNat)
  case atStart => exact ⟨0, rfl, Nat.zero_le _, fun j hj => by omega, rfl⟩
  case round =>
    obtain ⟨k, rfl, hk, hj, rfl⟩ := hrel
    have HJ := Lib.hid hj
    clear hj
    by_cases hkc : k < c
    · obtain ⟨g, rfl, hcb⟩ := HRD.out k hkc
      obtain ⟨z, hz⟩ : ∃ z, zs.getD k 0 = z := ⟨_, rfl⟩
      have HZ1 := Lib.hid hz
      rw [hz] at hcb
      clear hz
      have hC := HF.out z
      obtain ⟨u, hu⟩ : ∃ u, p z = u := ⟨_, rfl⟩
      rw [hu] at hC
      have HC := Lib.hid hC
      have HU := Lib.hid hu
      clear hC hu
      go_wp2_with fail
      with_reducible refine HC.out.mono ?_
      rintro e w' ⟨rfl, rfl⟩
      cases u
      · have HK : Hid (∀ j, j < k + 1 → p (zs.getD j 0) = false) := fun j hj => by
          by_cases e : j = k
          · rw [e, HZ1.out]; exact HU.out
          · exact HJ.out j (by omega)
        go_wp2
        go_roundw
        case rel => exact ⟨k + 1, by go_num, by omega, HK.out, (by first | rfl | trivial)⟩
        case measure => simp [intOf]; omega
      · have e : b = true := HA.out k hkc (by rw [HZ1.out]; exact HU.out)
        subst e
        go_wp2
        go_ret
        exact ⟨_, rfl, decide_eq_true (by omega), rfl⟩
    · have e : k = c := by omega
      subst e
      have e : b = false := HZ.out HJ.out
      subst e
      go_wp2
      go_ret
      exact ⟨_, rfl, by decide, rfl⟩

set_option maxRecDepth 100000 in
theorem containsI_any {v : Value} {zs : List Int} {w : World} (h : Reads w v (ints zs)) (p : Int → Bool) (fn : Nat) (capt : Array Value)
    (hfn : ∀ (args : Array Value) (w : World), (callFunc fn args).run Tryd.prog w = .ok (.enter fn args) w)
    (hcall : ∀ z, Calls Tryd.prog fn (#[.int .i64 z] ++ capt) w fun e w' => e = .returned (.bool (p z)) ∧ w' = w) :
    Calls Tryd.prog 100 #[v, .func (.func fn) #[] capt] w fun e w' => e = .returned (.bool (zs.any p)) ∧ w' = w := by
  have I := Lib.hid (indexI_any h p fn capt hfn hcall)
  clear h hcall
  go_enter Tryd.func100, Tryd.ntmps100
  go_wp2_with fail
  with_reducible refine I.out.mono ?_
  rintro e w' ⟨r, rfl, hr, rfl⟩
  have HR := Lib.hid hr
  clear hr
  go_wp2
  go_ret
  exact ⟨by rw [← HR.out]; rfl, rfl⟩

set_option maxRecDepth 100000 in
set_option maxHeartbeats 4000000 in
theorem accepts_any (wd : ByteArray) (c : Nat) (lo hi : Int) (hc : c ≤ 8) (zs : List Int) (a : Option Addr) (cap : Nat) (w : World) (hr : ∀ w1, Below w.heap.size w w1 → Reads w1 (.slice a zs.length cap) (ints zs)) :
    Calls Tryd.prog 66 #[.agg #[.string wd, .int .i64 c, .int .i64 lo, .int .i64 hi], .slice a zs.length cap] w fun e w' => e = .returned (.bool (acceptB c lo hi zs)) ∧ Below w.heap.size w w' := by
  have hb : Below w.heap.size w (w.alloc (.cells #[.string wd, .int .i64 c, .int .i64 lo, .int .i64 hi] 102)) := (Below.refl _ _).alloc (Nat.le_refl _) _
  have C := Lib.hid (containsI_any (hr _ hb) (fun z => !inZ z lo hi) 101 #[.pointer (some ⟨w.heap.size, 0, none⟩)] enter_accepts (fun z => accepts1_any z lo hi w.heap.size _ (by go_simp) (by go_simp)))
  have e : zs.all (fun z => inZ z lo hi) = !zs.any (fun z => !inZ z lo hi) := by
    rw [List.all_eq_not_any_not]
  obtain ⟨b, hb'⟩ : ∃ b, zs.any (fun z => !inZ z lo hi) = b := ⟨_, rfl⟩
  rw [hb'] at C e
  have ea : acceptB c lo hi zs = (!(decide (c < zs.length) || decide (zs.length < min c 1)) && !b) := by unfold acceptB; rw [e]
  rw [ea]
  have hlen : zs.length ≤ 9223372036854775807 := by
    obtain ⟨_, _, _, h, _⟩ := ints_find (hr w (Below.refl _ _))
    exact h
  obtain ⟨L, hL⟩ : ∃ L, zs.length = L := ⟨_, rfl⟩
  rw [hL] at C hlen ⊢
  have HB := Lib.hid hb
  clear e ea hb' hr hL hb
  have hcs : c = 0 ∨ c = 1 ∨ c = 2 ∨ c = 3 ∨ c = 4 ∨ c = 5 ∨ c = 6 ∨ c = 7 ∨ c = 8 := by omega
  clear hc
  by_cases h1 : c < L
  · rw [decide_eq_true h1]
    rcases hcs with rfl | rfl | rfl | rfl | rfl | rfl | rfl | rfl | rfl
    all_goals
      have g1 := Int.ofNat_lt.2 h1
      simp only [Int.cast_ofNat_Int, Int.ofNat_eq_natCast] at g1
      have g3 := decide_eq_true g1
      have g4 := decide_eq_true h1
      go_enter Tryd.func66, Tryd.ntmps66
      go_wp2
      go_ret
      exact ⟨rfl, HB.out⟩
  · rw [decide_eq_false h1]
    by_cases h2 : L < min c 1
    · rw [decide_eq_true h2]
      have hL0 : L = 0 := by omega
      subst hL0
      rcases hcs with rfl | rfl | rfl | rfl | rfl | rfl | rfl | rfl | rfl
      · omega
      all_goals
        clear h1 h2
        go_enter Tryd.func66, Tryd.ntmps66
        go_wp2
        go_ret
        exact ⟨rfl, HB.out⟩
    · rw [decide_eq_false h2]
      by_cases hc0 : c = 0
      · subst hc0
        have hL0 : L = 0 := by omega
        subst hL0
        clear h1 h2
        go_enter Tryd.func66, Tryd.ntmps66
        go_wp2_with fail
        refine C.out.mono ?_
        rintro e w1 ⟨rfl, rfl⟩
        go_wp2
        go_ret
        exact ⟨rfl, HB.out⟩
      · have g2 : decide ((L : Int) < 1) = false := decide_eq_false (by omega)
        rcases hcs with rfl | rfl | rfl | rfl | rfl | rfl | rfl | rfl | rfl
        · exact absurd rfl hc0
        all_goals
          have g1 : decide (((_ : Nat) : Int) < (L : Int)) = false := decide_eq_false (fun h => h1 (Int.ofNat_lt.1 h))
          simp only [Int.cast_ofNat_Int, Int.ofNat_eq_natCast] at g1
          clear h1 h2 hc0
          go_enter Tryd.func66, Tryd.ntmps66
          go_wp2_with fail
          refine C.out.mono ?_
          rintro e w1 ⟨rfl, rfl⟩
          go_wp2
          go_ret
          exact ⟨rfl, HB.out⟩

end Go.Proofs.YtajopgffnfahjaaDoor
