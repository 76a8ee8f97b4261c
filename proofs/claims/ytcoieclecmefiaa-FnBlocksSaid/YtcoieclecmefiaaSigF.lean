import Derived.Test.YtcoieclecmefiaaSums
/-
  AddSignals, EnergyOf, DotOf, SumOf, NarrowSignal, WidenSignal, ScaleSignal of the program.
-/
set_option linter.unusedVariables false
set_option linter.unusedSimpArgs false
namespace Go.Proofs.Ytcoieclecmefiaa
open Go.RowKit Flt Fast
attribute [local go_sem] run_fadd run_fsub run_fmul run_fquo run_cadd run_csub

/-- The shape of what is read. -/
theorem Reads.form {w : World} {v : Value} {cs : List Value} (h : Reads w v cs) : ∃ a cap, v = .slice a cs.length cap := by
  cases h with
  | none a cap => exact ⟨a, cap, rfl⟩
  | row g cap L cs hL => subst hL; exact ⟨_, cap, rfl⟩

/-- The conjugate. -/
def conjZ (x : Z) : Z := (x.1, fneg .f64 x.2)

set_option maxRecDepth 100000 in
theorem energy_any {v : Value} {xs : List C} {w : World} (h : Reads w v (cvals xs)) (hl : xs.length ≤ 256) (zx : Nat → Z) (hzx : ∀ i, i < xs.length → IsC (xs.getD i (0, 0)) (zx i)) :
    Calls Try.prog 9 #[v] w fun e w' => ∃ a, e = .returned (.tuple #[.float .f64 a, .int .i64 0]) ∧ IsF a (sumO (fun i => sqZ (zx i)) xs.length) ∧ Below w.heap.size w w' := by
  have HM := Lib.hid (map_c128_f64 h hl 45 #[] (fun _ _ => rfl) (fun i q => IsF q (sqZ (zx i))) (fun i w1 hi _ => (square_impl _ _ (zx i) (hzx i hi) w1).mono (fun e w2 ⟨a, e1, e2, e3⟩ => ⟨a, e1, e2, e3⟩)))
  obtain ⟨a, cap, rfl⟩ := h.form
  clear h hzx
  go_enter Try.func9, Try.ntmps9
  go_wp2_with fail
  refine HM.out.mono ?_
  rintro e w1 ⟨u, qs, rfl, hr, hq, hg, hb⟩
  have HS := Lib.hid (sumF_any hr.reads (by omega) (fun i => sqZ (zx i)) (fun i hi => hg i (by omega)))
  rw [hq] at HS
  have HB := Lib.hid hb
  clear hr hq hg hb HM
  go_wp2_with fail
  refine HS.out.mono ?_
  rintro e w2 ⟨r, rfl, hr, n, rfl⟩
  have HR := Lib.hid hr
  clear hr
  go_wp2
  go_ret2
  exact ⟨r, rfl, HR.out, below_draws HB.out n⟩

set_option maxRecDepth 100000 in
theorem sumOf_any {v : Value} {xs : List C} {w : World} (h : Reads w v (cvals xs)) (hl : xs.length ≤ 256) (zx : Nat → Z) (hzx : ∀ i, i < xs.length → IsC (xs.getD i (0, 0)) (zx i)) :
    Calls Try.prog 18 #[v] w fun e w' => ∃ a b, e = .returned (.tuple #[.complex .f64 a b, .int .i64 0]) ∧ IsC (a, b) (sumC zx xs.length) ∧ Below w.heap.size w w' := by
  have HS := Lib.hid (sumC_any h (by omega) zx hzx)
  obtain ⟨a, cap, rfl⟩ := h.form
  rw [cvals_length] at *
  obtain ⟨L, hL⟩ : ∃ L, xs.length = L := ⟨_, rfl⟩
  rw [hL] at HS hl ⊢
  clear h hzx hL
  go_enter Try.func18, Try.ntmps18
  go_wp2_with fail
  refine HS.out.mono ?_
  rintro e w2 ⟨r, s, rfl, hr, n, rfl⟩
  have HR := Lib.hid hr
  clear hr
  go_wp2
  go_ret2
  exact ⟨r, s, rfl, HR.out, below_draws (Below.refl _ _) n⟩

set_option maxRecDepth 100000 in
theorem narrowSignal_any {v : Value} {xs : List C} {w : World} (h : Reads w v (cvals xs)) (hl : xs.length ≤ 256) :
    Calls Try.prog 14 #[v] w (MapsTo 75 nvals (0, 0) xs.length (fun i q => Narrows (xs.getD i (0, 0)).1 q.1 ∧ Narrows (xs.getD i (0, 0)).2 q.2) w) := by
  have HM := Lib.hid (map_c128_c64 h hl 54 #[] (fun _ _ => rfl) (fun i q => Narrows (xs.getD i (0, 0)).1 q.1 ∧ Narrows (xs.getD i (0, 0)).2 q.2) (fun i w1 hi _ => (narrowOf_any _ _ w1).mono (fun e w2 ⟨a, b, e1, e2, e3, e4⟩ => ⟨(a, b), e3, ⟨e1, e2⟩, e4⟩)))
  obtain ⟨a, cap, rfl⟩ := h.form
  clear h
  go_enter Try.func14, Try.ntmps14
  go_wp2_with fail
  refine HM.out.mono ?_
  rintro e w1 ⟨u, qs, rfl, hr, hq, hg, hb⟩
  have HE := Lib.hid (show MapsTo 75 nvals (0, 0) xs.length (fun i q => Narrows (xs.getD i (0, 0)).1 q.1 ∧ Narrows (xs.getD i (0, 0)).2 q.2) w (.returned (.tuple #[u, .int .i64 0])) w1 from ⟨u, qs, rfl, hr, hq, hg, hb⟩)
  clear hr hq hg hb HM
  go_wp2
  go_ret2
  exact HE.out

set_option maxRecDepth 100000 in
theorem widenSignal_any {v : Value} {xs : List C} {w : World} (h : Reads w v (nvals xs)) (hl : xs.length ≤ 256) :
    Calls Try.prog 15 #[v] w (MapsTo 26 cvals (0, 0) xs.length (fun i q => Wide (xs.getD i (0, 0)).1 q.1 ∧ Wide (xs.getD i (0, 0)).2 q.2) w) := by
  have HM := Lib.hid (map_c64_c128 h hl 56 #[] (fun _ _ => rfl) (fun i q => Wide (xs.getD i (0, 0)).1 q.1 ∧ Wide (xs.getD i (0, 0)).2 q.2) (fun i w1 hi _ => (wideOf_any _ _ w1).mono (fun e w2 ⟨a, b, e1, e2, e3, e4⟩ => ⟨(a, b), e3, ⟨e1, e2⟩, e4⟩)))
  obtain ⟨a, cap, rfl⟩ := h.form
  clear h
  go_enter Try.func15, Try.ntmps15
  go_wp2_with fail
  refine HM.out.mono ?_
  rintro e w1 ⟨u, qs, rfl, hr, hq, hg, hb⟩
  have HE := Lib.hid (show MapsTo 26 cvals (0, 0) xs.length (fun i q => Wide (xs.getD i (0, 0)).1 q.1 ∧ Wide (xs.getD i (0, 0)).2 q.2) w (.returned (.tuple #[u, .int .i64 0])) w1 from ⟨u, qs, rfl, hr, hq, hg, hb⟩)
  clear hr hq hg hb HM
  go_wp2
  go_ret2
  exact HE.out

set_option maxRecDepth 100000 in
/-- The closure of ScaleSignal. -/
theorem scale_closure (g : Nat) (a b c d : Nat) (x y : Z) (h1 : IsC (a, b) x) (h2 : IsC (c, d) y) (w : World) (hc : w.cell? ⟨g, 0, none⟩ = some (.complex .f64 c d)) :
    Calls Try.prog 60 #[.complex .f64 a b, .pointer (some ⟨g, 0, none⟩)] w (RetsC (mulZ x y) w) := by
  have HP := Lib.hid (fun w => product_impl a b c d x y h1 h2 w)
  clear h1 h2
  go_enter Try.func60, Try.ntmps60
  go_wp2_with fail
  refine (HP.out _).mono ?_
  rintro e w2 ⟨r, s, rfl, hr, hb⟩
  have HR := Lib.hid hr
  have HB := Lib.hid hb
  clear hr hb hc
  go_wp2
  go_ret
  exact ⟨r, s, rfl, HR.out, HB.out⟩

set_option maxRecDepth 100000 in
theorem scaleSignal_any {v : Value} {xs : List C} {w : World} (h : Reads w v (cvals xs)) (hl : xs.length ≤ 256) (zx : Nat → Z) (hzx : ∀ i, i < xs.length → IsC (xs.getD i (0, 0)) (zx i)) (c d : Nat) (y : Z) (hy : IsC (c, d) y) :
    Calls Try.prog 20 #[v, .complex .f64 c d] w (MapsTo 26 cvals (0, 0) xs.length (fun i q => IsC q (mulZ (zx i) y)) w) := by
  have hw1 : Below w.heap.size w (w.alloc (.cells #[.complex .f64 c d] 26)) := (Below.refl _ _).alloc (Nat.le_refl _) _
  have h1 : Reads (w.alloc (.cells #[.complex .f64 c d] 26)) v (cvals xs) := h.below hw1
  have HM := Lib.hid (map_c128_c128 h1 hl 60 #[.pointer (some ⟨w.heap.size, 0, none⟩)] (fun _ _ => rfl) (fun i q => IsC q (mulZ (zx i) y)) (fun i w1 hi hb => (scale_closure w.heap.size _ _ c d (zx i) y (hzx i hi) hy w1 (by rw [hb.cell (by simp)]; simp)).mono (fun e w2 ⟨a, b, e1, e2, e3⟩ => ⟨(a, b), e1, e2, e3⟩)))
  have HW := Lib.hid hw1
  obtain ⟨a, cap, rfl⟩ := h.form
  clear h h1 hzx hy hw1
  go_enter Try.func20, Try.ntmps20
  go_wp2_with fail
  refine HM.out.mono ?_
  rintro e w1 ⟨u, qs, rfl, hr, hq, hg, hb⟩
  have HE := Lib.hid (show MapsTo 26 cvals (0, 0) xs.length (fun i q => IsC q (mulZ (zx i) y)) w (.returned (.tuple #[u, .int .i64 0])) w1 from ⟨u, qs, rfl, hr.base (by simp), hq, hg, below_step HW.out hb HW.out.size⟩)
  clear hr hq hg hb HM
  go_wp2
  go_ret2
  exact HE.out

end Go.Proofs.Ytcoieclecmefiaa
