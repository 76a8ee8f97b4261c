import Derived.Test.YtnhhmgnceicpkaaAddN
import Derived.Test.YtnhhmgnceicpkaaWinE
/-
  NewAdder of both, and the law on it.
-/
set_option linter.unusedVariables false
set_option linter.unusedSimpArgs false
namespace Go.Proofs.Ytnhhmgnceicpkaa
open Go.RowKit Flt Fast

def adrV (s h : Int) : Value := .agg #[.int .i64 s, .int .i64 h, .slice none 0 0]
/-- What NewAdder returns. -/
def NewTo (s h : Int) (w : World) (e : Ending) (w' : World) : Prop :=
  e = .returned (.tuple #[if AddOk s h 0 then adrV s h else adrV 0 0, .int .i64 (if AddOk s h 0 then 0 else 2)]) ∧ Below w.heap.size w w'

set_option maxRecDepth 100000 in
set_option maxHeartbeats 4000000 in
theorem new_spec (s h : Int) (w : World) : Calls Try.prog 22 #[.int .i64 s, .int .i64 h] w (NewTo s h w) := by
  unfold NewTo adrV
  have hb1 : Below w.heap.size w ((w.alloc (.cells #[.int .i64 0, .int .i64 0, .slice none 0 0] 35)).alloc (.cells #[.int .i64 s, .int .i64 h, .slice none 0 0] 35)) := ((Below.refl _ _).alloc (Nat.le_refl _) _).alloc (by simp) _
  have HB1 := Lib.hid hb1
  have O := Lib.hid (fun (w1 : World) (c0 : w1.cell? ⟨w.heap.size + 1, 0, none⟩ = some (.int .i64 s)) (c1 : w1.cell? ⟨w.heap.size + 1, 1, none⟩ = some (.int .i64 h)) (c2 : w1.cell? ⟨w.heap.size + 1, 2, none⟩ = some (.slice none 0 0)) => ok_spec s h none 0 0 (w.heap.size + 1) (by decide) w1 c0 c1 c2)
  clear hb1
  by_cases hok : AddOk s h 0
  · rw [if_pos hok, if_pos hok]
    rw [addB_t hok] at O
    clear hok
    go_enter Try.func22, Try.ntmps22
    go_wp2_with fail
    with_reducible refine (O.out _ (by go_simp) (by go_simp) (by go_simp)).mono ?_
    rintro e w2 ⟨rfl, n, rfl⟩
    have HB2 := Lib.hid (below_draws HB1.out n)
    go_wp2
    exact bodyPost_ret (v := .tuple #[.agg #[.int .i64 s, .int .i64 h, .slice none 0 0], .int .i64 0]) (by simp [results, Try.results22, go_sem]) rfl ⟨rfl, ((HB2.out.setCell (p := ⟨w.heap.size, 0, none⟩) (Nat.le_refl _) _).setCell (p := ⟨w.heap.size, 1, none⟩) (Nat.le_refl _) _).setCell (p := ⟨w.heap.size, 2, none⟩) (Nat.le_refl _) _⟩
  · rw [if_neg hok, if_neg hok]
    rw [addB_f hok] at O
    clear hok
    go_enter Try.func22, Try.ntmps22
    go_wp2_with fail
    with_reducible refine (O.out _ (by go_simp) (by go_simp) (by go_simp)).mono ?_
    rintro e w2 ⟨rfl, n, rfl⟩
    have HB2 := Lib.hid (below_draws HB1.out n)
    go_wp2
    exact bodyPost_ret (v := .tuple #[.agg #[.int .i64 0, .int .i64 0, .slice none 0 0], .int .i64 2]) (by simp [results, Try.results22, go_sem]) rfl ⟨rfl, ((HB2.out.setCell (p := ⟨w.heap.size, 0, none⟩) (Nat.le_refl _) _).setCell (p := ⟨w.heap.size, 1, none⟩) (Nat.le_refl _) _).setCell (p := ⟨w.heap.size, 2, none⟩) (Nat.le_refl _) _⟩

set_option maxRecDepth 100000 in
set_option maxHeartbeats 4000000 in
theorem new_impl (s h : Int) (w : World) : Calls Try.prog 23 #[.int .i64 s, .int .i64 h] w (NewTo s h w) := by
  unfold NewTo adrV
  have hb1 : Below w.heap.size w ((w.alloc (.cells #[.int .i64 0, .int .i64 0, .slice none 0 0] 35)).alloc (.cells #[.int .i64 s, .int .i64 h, .slice none 0 0] 35)) := ((Below.refl _ _).alloc (Nat.le_refl _) _).alloc (by simp) _
  have HB1 := Lib.hid hb1
  have O := Lib.hid (valid_impl s h none 0 0 (by decide))
  have HC : Hid (∀ w2, Below ((w.alloc (.cells #[.int .i64 0, .int .i64 0, .slice none 0 0] 35)).alloc (.cells #[.int .i64 s, .int .i64 h, .slice none 0 0] 35)).heap.size ((w.alloc (.cells #[.int .i64 0, .int .i64 0, .slice none 0 0] 35)).alloc (.cells #[.int .i64 s, .int .i64 h, .slice none 0 0] 35)) w2 →
      w2.cell? ⟨w.heap.size + 1, 0, none⟩ = some (.int .i64 s) ∧ w2.cell? ⟨w.heap.size + 1, 1, none⟩ = some (.int .i64 h) ∧ w2.cell? ⟨w.heap.size + 1, 2, none⟩ = some (.slice none 0 0) ∧
      w2.cell? ⟨w.heap.size, 0, none⟩ = some (.int .i64 0) ∧ w2.cell? ⟨w.heap.size, 1, none⟩ = some (.int .i64 0) ∧ w2.cell? ⟨w.heap.size, 2, none⟩ = some (.slice none 0 0) ∧ w2.frozen? ⟨w.heap.size, 0, none⟩ = false ∧ w2.frozen? ⟨w.heap.size, 1, none⟩ = false ∧ w2.frozen? ⟨w.heap.size, 2, none⟩ = false) := fun w2 hb =>
    ⟨by rw [hb.cell (by simp)]; go_simp, by rw [hb.cell (by simp)]; go_simp, by rw [hb.cell (by simp)]; go_simp, by rw [hb.cell (by simp; omega)]; go_simp, by rw [hb.cell (by simp; omega)]; go_simp, by rw [hb.cell (by simp; omega)]; go_simp, by rw [hb.frozen (by simp; omega)]; go_simp, by rw [hb.frozen (by simp; omega)]; go_simp, by rw [hb.frozen (by simp; omega)]; go_simp⟩
  clear hb1
  by_cases hok : AddOk s h 0
  · rw [if_pos hok, if_pos hok]
    rw [addB_t hok] at O
    clear hok
    go_enter Try.func23, Try.ntmps23
    go_wp2_with fail
    with_reducible refine (O.out _).mono ?_
    rintro e w2 ⟨rfl, hb2⟩
    obtain ⟨d0, d1, d2, e0, e1, e2, f0, f1, f2⟩ := HC.out w2 hb2
    have HB2 := Lib.hid (below_step HB1.out hb2 HB1.out.size)
    clear hb2
    go_wp2
    exact bodyPost_ret (v := .tuple #[.agg #[.int .i64 s, .int .i64 h, .slice none 0 0], .int .i64 0]) (by simp [results, Try.results23, go_sem, e0, e1, e2]) rfl ⟨rfl, ((HB2.out.setCell (p := ⟨w.heap.size, 0, none⟩) (Nat.le_refl _) _).setCell (p := ⟨w.heap.size, 1, none⟩) (Nat.le_refl _) _).setCell (p := ⟨w.heap.size, 2, none⟩) (Nat.le_refl _) _⟩
  · rw [if_neg hok, if_neg hok]
    rw [addB_f hok] at O
    clear hok
    go_enter Try.func23, Try.ntmps23
    go_wp2_with fail
    with_reducible refine (O.out _).mono ?_
    rintro e w2 ⟨rfl, hb2⟩
    obtain ⟨d0, d1, d2, e0, e1, e2, f0, f1, f2⟩ := HC.out w2 hb2
    have HB2 := Lib.hid (below_step HB1.out hb2 HB1.out.size)
    clear hb2
    go_wp2
    exact bodyPost_ret (v := .tuple #[.agg #[.int .i64 0, .int .i64 0, .slice none 0 0], .int .i64 2]) (by simp [results, Try.results23, go_sem, e0, e1, e2]) rfl ⟨rfl, ((HB2.out.setCell (p := ⟨w.heap.size, 0, none⟩) (Nat.le_refl _) _).setCell (p := ⟨w.heap.size, 1, none⟩) (Nat.le_refl _) _).setCell (p := ⟨w.heap.size, 2, none⟩) (Nat.le_refl _) _⟩

theorem eqNil (w : World) : Calls Try.prog 53 #[.slice none 0 0, .slice none 0 0] w fun e w' => e = .returned (.bool true) ∧ w' = w := by
  go_enter Try.func53, Try.ntmps53
  go_wp2
  refine wp_loop_rounds 1 ?_
  rw [rounds_succ]
  go_wp2
  go_ret
  exact ⟨rfl, rfl⟩
theorem markNil (w : World) : Calls Try.prog 54 #[.slice none 0 0, .int .i64 1] w fun e w' => e = .returned (.int .i64 1) ∧ w' = w := by
  go_enter Try.func54, Try.ntmps54
  go_wp2
  refine wp_loop_rounds 1 ?_
  rw [rounds_succ]
  go_wp2
  go_ret
  exact ⟨rfl, rfl⟩
theorem heldNil (w : World) : Calls Try.prog 55 #[.slice none 0 0, .int .i64 1] w fun e w' => e = .returned (.int .i64 1) ∧ w' = w := by
  go_enter Try.func55, Try.ntmps55
  go_wp2
  refine wp_loop_rounds 1 ?_
  rw [rounds_succ]
  go_wp2
  go_ret
  exact ⟨rfl, rfl⟩

theorem eqAdr (s h : Int) (w : World) : Calls Try.prog 24 #[.agg #[.int .i64 s, .int .i64 h, .slice none 0 0], .agg #[.int .i64 s, .int .i64 h, .slice none 0 0]] w fun e w' => e = .returned (.bool true) ∧ Below w.heap.size w w' := by
  have C := Lib.hid eqNil
  go_enter Try.func24, Try.ntmps24
  go_wp2_with fail
  with_reducible refine (C.out _).mono ?_
  rintro e w' ⟨rfl, rfl⟩
  go_wp2
  go_ret
  exact ⟨rfl, ((Below.refl _ _).alloc (Nat.le_refl _) _).alloc (by simp) _⟩
theorem markAdr (s h : Int) (w : World) : Calls Try.prog 25 #[.agg #[.int .i64 s, .int .i64 h, .slice none 0 0], .int .i64 1] w fun e w' => e = .returned (.int .i64 1) ∧ Below w.heap.size w w' := by
  have C := Lib.hid markNil
  go_enter Try.func25, Try.ntmps25
  go_wp2_with fail
  with_reducible refine (C.out _).mono ?_
  rintro e w' ⟨rfl, rfl⟩
  go_wp2
  go_ret
  exact ⟨rfl, (Below.refl _ _).alloc (Nat.le_refl _) _⟩
theorem heldAdr (s h : Int) (w : World) : Calls Try.prog 26 #[.agg #[.int .i64 s, .int .i64 h, .slice none 0 0], .int .i64 1] w fun e w' => e = .returned (.int .i64 1) ∧ Below w.heap.size w w' := by
  have C := Lib.hid heldNil
  go_enter Try.func26, Try.ntmps26
  go_wp2_with fail
  with_reducible refine (C.out _).mono ?_
  rintro e w' ⟨rfl, rfl⟩
  go_wp2
  go_ret
  exact ⟨rfl, (Below.refl _ _).alloc (Nat.le_refl _) _⟩

/-- A cell of three parts that is there to stay. -/
structure AdrAt (w : World) (B : Nat) (s h : Int) : Prop where
  c0 : w.cell? ⟨B, 0, none⟩ = some (.int .i64 s)
  c1 : w.cell? ⟨B, 1, none⟩ = some (.int .i64 h)
  c2 : w.cell? ⟨B, 2, none⟩ = some (.slice none 0 0)
theorem AdrAt.below {w w' : World} {B : Nat} {s h : Int} (k : AdrAt w B s h) (hb : Below w.heap.size w w') : AdrAt w' B s h := by
  have hB : B < w.heap.size := World.block_lt_of_cell? _ _ k.c0
  exact ⟨by rw [hb.cell hB]; exact k.c0, by rw [hb.cell hB]; exact k.c1, by rw [hb.cell hB]; exact k.c2⟩

set_option maxRecDepth 100000 in
set_option maxHeartbeats 8000000 in
theorem exactNewAdder_law (s h : Int) (w : World) (hs : (Lit.int .i64 s).wf = true) (hh : (Lit.int .i64 h).wf = true) :
    Calls Try.prog 6 #[.int .i64 s, .int .i64 h] w fun e w' => e = .returned (.bool true) ∧ Below w.heap.size w w' := by
  have N0 : ∃ S H K : Int, (∀ w, Calls Try.prog 22 #[.int .i64 s, .int .i64 h] w fun e w' => e = .returned (.tuple #[.agg #[.int .i64 S, .int .i64 H, .slice none 0 0], .int .i64 K]) ∧ Below w.heap.size w w') ∧
      (∀ w, Calls Try.prog 23 #[.int .i64 s, .int .i64 h] w fun e w' => e = .returned (.tuple #[.agg #[.int .i64 S, .int .i64 H, .slice none 0 0], .int .i64 K]) ∧ Below w.heap.size w w') := by
    by_cases hok : AddOk s h 0
    · refine ⟨s, h, 0, fun w => ?_, fun w => ?_⟩
      · have := new_spec s h w; unfold NewTo at this; rwa [if_pos hok, if_pos hok] at this
      · have := new_impl s h w; unfold NewTo at this; rwa [if_pos hok, if_pos hok] at this
    · refine ⟨0, 0, 2, fun w => ?_, fun w => ?_⟩
      · have := new_spec s h w; unfold NewTo at this; rwa [if_neg hok, if_neg hok] at this
      · have := new_impl s h w; unfold NewTo at this; rwa [if_neg hok, if_neg hok] at this
  obtain ⟨S, H, K, NS, NI⟩ := N0
  have NS := Lib.hid NS
  have NI := Lib.hid NI
  have EQ := Lib.hid (eqAdr S H)
  have MK := Lib.hid (markAdr S H)
  have HD := Lib.hid (heldAdr S H)
  clear hs hh
  go_enter Try.func6, Try.ntmps6
  go_wp2_with fail
  with_reducible refine (NS.out _).mono ?_
  rintro e w1 ⟨rfl, hb1⟩
  have A1 : Hid (AdrAt (w1.alloc (.cells #[.int .i64 S, .int .i64 H, .slice none 0 0] 35)) w1.heap.size S H) := ⟨by go_simp, by go_simp, by go_simp⟩
  have HB1 : Hid (Below w.heap.size w (w1.alloc (.cells #[.int .i64 S, .int .i64 H, .slice none 0 0] 35))) := hb1.alloc hb1.size _
  clear hb1
  go_wp2_with fail
  with_reducible refine (NI.out _).mono ?_
  rintro e w2 ⟨rfl, hb2⟩
  have A2 := Lib.hid (A1.out.below hb2)
  have HB2 := Lib.hid (below_step HB1.out hb2 HB1.out.size)
  clear hb2 A1 HB1
  have ha2 : Below w2.heap.size w2 (w2.alloc (.cells #[.int .i64 S, .int .i64 H, .slice none 0 0] 35)) := (Below.refl _ _).alloc (Nat.le_refl _) _
  have A3 := Lib.hid (A2.out.below ha2)
  have B3 : Hid (AdrAt (w2.alloc (.cells #[.int .i64 S, .int .i64 H, .slice none 0 0] 35)) w2.heap.size S H) := ⟨by go_simp, by go_simp, by go_simp⟩
  have HB3 : Hid (Below w.heap.size w (w2.alloc (.cells #[.int .i64 S, .int .i64 H, .slice none 0 0] 35))) := HB2.out.alloc HB2.out.size _
  have q1 := A3.out.c0
  have q2 := A3.out.c1
  have q3 := A3.out.c2
  have q4 := B3.out.c0
  have q5 := B3.out.c1
  have q6 := B3.out.c2
  clear ha2 A2
  go_wp2_with fail
  with_reducible refine (EQ.out _).mono ?_
  rintro e w4 ⟨rfl, hb4⟩
  have A4 := Lib.hid (A3.out.below hb4)
  have B4 := Lib.hid (B3.out.below hb4)
  have HB4 := Lib.hid (below_step HB3.out hb4 HB3.out.size)
  clear hb4 A3 B3 HB3 q1 q2 q3 q4 q5 q6
  have q4 := B4.out.c0
  have q5 := B4.out.c1
  have q6 := B4.out.c2
  go_wp2_with fail
  with_reducible refine (MK.out _).mono ?_
  rintro e w5 ⟨rfl, hb5⟩
  have A5 := Lib.hid (A4.out.below hb5)
  have B5 := Lib.hid (B4.out.below hb5)
  have HB5 := Lib.hid (below_step HB4.out hb5 HB4.out.size)
  clear hb5 A4 B4 HB4 q4 q5 q6
  have q4 := B5.out.c0
  have q5 := B5.out.c1
  have q6 := B5.out.c2
  go_wp2_with fail
  with_reducible refine (HD.out _).mono ?_
  rintro e w6 ⟨rfl, hb6⟩
  have A6 := Lib.hid (A5.out.below hb6)
  have B6 := Lib.hid (B5.out.below hb6)
  have HB6 := Lib.hid (below_step HB5.out hb6 HB5.out.size)
  clear hb6 A5 B5 HB5 q4 q5 q6
  go_wp2_with fail
  with_reducible refine (NI.out _).mono ?_
  rintro e w7 ⟨rfl, hb7⟩
  have A7 := Lib.hid (A6.out.below hb7)
  have B7 := Lib.hid (B6.out.below hb7)
  have HB7 := Lib.hid (below_step HB6.out hb7 HB6.out.size)
  have ha7 : Below w7.heap.size w7 (w7.alloc (.cells #[.int .i64 S, .int .i64 H, .slice none 0 0] 35)) := (Below.refl _ _).alloc (Nat.le_refl _) _
  have A8 := Lib.hid (A7.out.below ha7)
  have B8 := Lib.hid (B7.out.below ha7)
  have D8 : Hid (AdrAt (w7.alloc (.cells #[.int .i64 S, .int .i64 H, .slice none 0 0] 35)) w7.heap.size S H) := ⟨by go_simp, by go_simp, by go_simp⟩
  have HB8 : Hid (Below w.heap.size w (w7.alloc (.cells #[.int .i64 S, .int .i64 H, .slice none 0 0] 35))) := HB7.out.alloc HB7.out.size _
  clear hb7 A6 B6 HB6 ha7 A7 B7 HB7
  have q1 := A8.out.c0
  have q2 := A8.out.c1
  have q3 := A8.out.c2
  have q4 := D8.out.c0
  have q5 := D8.out.c1
  have q6 := D8.out.c2
  go_wp2_with fail
  with_reducible refine (EQ.out _).mono ?_
  rintro e w9 ⟨rfl, hb9⟩
  have B9 := Lib.hid (B8.out.below hb9)
  have HB9 := Lib.hid (below_step HB8.out hb9 HB8.out.size)
  clear hb9 A8 B8 D8 HB8 q1 q2 q3 q4 q5 q6
  have q4 := B9.out.c0
  have q5 := B9.out.c1
  have q6 := B9.out.c2
  go_wp2_with fail
  with_reducible refine (HD.out _).mono ?_
  rintro e w10 ⟨rfl, hb10⟩
  have HB10 := Lib.hid (below_step HB9.out hb10 HB9.out.size)
  clear hb10 B9 HB9 q4 q5 q6
  go_wp2
  go_ret
  exact ⟨rfl, HB10.out⟩

end Go.Proofs.Ytnhhmgnceicpkaa
