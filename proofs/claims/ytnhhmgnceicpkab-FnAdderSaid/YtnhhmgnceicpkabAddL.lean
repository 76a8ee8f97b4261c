import Derived.Test.YtnhhmgnceicpkabAddN
/-
  NewAdder of both, and the law on it.
-/
set_option linter.unusedVariables false
set_option linter.unusedSimpArgs false
namespace Go.Proofs.Ytnhhmgnceicpkab
open Go.RowKit Flt Fast

def adrV (s h : Int) : Value := .agg #[.int .i64 s, .int .i64 h, .slice none 0 0]
/-- What NewAdder returns. -/
def NewTo (s h : Int) (w : World) (e : Ending) (w' : World) : Prop :=
  e = .returned (.tuple #[if AddOk s h 0 then adrV s h else adrV 0 0, .int .i64 (if AddOk s h 0 then 0 else 2)]) ∧ Below w.heap.size w w'

set_option maxRecDepth 100000 in
set_option maxHeartbeats 4000000 in
theorem new_impl (s h : Int) (w : World) : Calls Try.prog 29 #[.int .i64 s, .int .i64 h] w (NewTo s h w) := by
  unfold NewTo adrV
  have hb1 : Below w.heap.size w ((w.alloc (.cells #[.int .i64 0, .int .i64 0, .slice none 0 0] 52)).alloc (.cells #[.int .i64 s, .int .i64 h, .slice none 0 0] 52)) := ((Below.refl _ _).alloc (Nat.le_refl _) _).alloc (by simp) _
  have HB1 := Lib.hid hb1
  have O := Lib.hid (valid_impl s h none 0 0 (by decide))
  have HC : Hid (∀ w2, Below ((w.alloc (.cells #[.int .i64 0, .int .i64 0, .slice none 0 0] 52)).alloc (.cells #[.int .i64 s, .int .i64 h, .slice none 0 0] 52)).heap.size ((w.alloc (.cells #[.int .i64 0, .int .i64 0, .slice none 0 0] 52)).alloc (.cells #[.int .i64 s, .int .i64 h, .slice none 0 0] 52)) w2 →
      w2.cell? ⟨w.heap.size + 1, 0, none⟩ = some (.int .i64 s) ∧ w2.cell? ⟨w.heap.size + 1, 1, none⟩ = some (.int .i64 h) ∧ w2.cell? ⟨w.heap.size + 1, 2, none⟩ = some (.slice none 0 0) ∧
      w2.cell? ⟨w.heap.size, 0, none⟩ = some (.int .i64 0) ∧ w2.cell? ⟨w.heap.size, 1, none⟩ = some (.int .i64 0) ∧ w2.cell? ⟨w.heap.size, 2, none⟩ = some (.slice none 0 0) ∧ w2.frozen? ⟨w.heap.size, 0, none⟩ = false ∧ w2.frozen? ⟨w.heap.size, 1, none⟩ = false ∧ w2.frozen? ⟨w.heap.size, 2, none⟩ = false) := fun w2 hb =>
    ⟨by rw [hb.cell (by simp)]; go_simp, by rw [hb.cell (by simp)]; go_simp, by rw [hb.cell (by simp)]; go_simp, by rw [hb.cell (by simp; omega)]; go_simp, by rw [hb.cell (by simp; omega)]; go_simp, by rw [hb.cell (by simp; omega)]; go_simp, by rw [hb.frozen (by simp; omega)]; go_simp, by rw [hb.frozen (by simp; omega)]; go_simp, by rw [hb.frozen (by simp; omega)]; go_simp⟩
  clear hb1
  by_cases hok : AddOk s h 0
  · rw [if_pos hok, if_pos hok]
    rw [addB_t hok] at O
    clear hok
    go_enter Try.func29, Try.ntmps29
    go_wp2_with fail
    with_reducible refine (O.out _).mono ?_
    rintro e w2 ⟨rfl, hb2⟩
    obtain ⟨d0, d1, d2, e0, e1, e2, f0, f1, f2⟩ := HC.out w2 hb2
    have HB2 := Lib.hid (below_step HB1.out hb2 HB1.out.size)
    clear hb2
    go_wp2
    exact bodyPost_ret (v := .tuple #[.agg #[.int .i64 s, .int .i64 h, .slice none 0 0], .int .i64 0]) (by simp [results, Try.results29, go_sem, e0, e1, e2]) rfl ⟨rfl, ((HB2.out.setCell (p := ⟨w.heap.size, 0, none⟩) (Nat.le_refl _) _).setCell (p := ⟨w.heap.size, 1, none⟩) (Nat.le_refl _) _).setCell (p := ⟨w.heap.size, 2, none⟩) (Nat.le_refl _) _⟩
  · rw [if_neg hok, if_neg hok]
    rw [addB_f hok] at O
    clear hok
    go_enter Try.func29, Try.ntmps29
    go_wp2_with fail
    with_reducible refine (O.out _).mono ?_
    rintro e w2 ⟨rfl, hb2⟩
    obtain ⟨d0, d1, d2, e0, e1, e2, f0, f1, f2⟩ := HC.out w2 hb2
    have HB2 := Lib.hid (below_step HB1.out hb2 HB1.out.size)
    clear hb2
    go_wp2
    exact bodyPost_ret (v := .tuple #[.agg #[.int .i64 0, .int .i64 0, .slice none 0 0], .int .i64 2]) (by simp [results, Try.results29, go_sem, e0, e1, e2]) rfl ⟨rfl, ((HB2.out.setCell (p := ⟨w.heap.size, 0, none⟩) (Nat.le_refl _) _).setCell (p := ⟨w.heap.size, 1, none⟩) (Nat.le_refl _) _).setCell (p := ⟨w.heap.size, 2, none⟩) (Nat.le_refl _) _⟩

/-- A cell of three parts that is there to stay. -/
structure AdrAt (w : World) (B : Nat) (s h : Int) : Prop where
  c0 : w.cell? ⟨B, 0, none⟩ = some (.int .i64 s)
  c1 : w.cell? ⟨B, 1, none⟩ = some (.int .i64 h)
  c2 : w.cell? ⟨B, 2, none⟩ = some (.slice none 0 0)
theorem AdrAt.below {w w' : World} {B : Nat} {s h : Int} (k : AdrAt w B s h) (hb : Below w.heap.size w w') : AdrAt w' B s h := by
  have hB : B < w.heap.size := World.block_lt_of_cell? _ _ k.c0
  exact ⟨by rw [hb.cell hB]; exact k.c0, by rw [hb.cell hB]; exact k.c1, by rw [hb.cell hB]; exact k.c2⟩

end Go.Proofs.Ytnhhmgnceicpkab
