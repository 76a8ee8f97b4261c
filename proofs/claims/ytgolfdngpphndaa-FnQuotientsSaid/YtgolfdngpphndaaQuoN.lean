import Derived.Test.YtgolfdngpphndaaQuoW
import Derived.Test.YtgolfdngpphndaaFsC
/-
  GoNarrowQuotient of the program at numbers of few digits; what is narrowed and widened.
-/
set_option linter.unusedVariables false
set_option linter.unusedSimpArgs false
namespace Go.Proofs.Ytgolfdngpphndaa
open Go.RowKit Flt Fast

theorem run_f2f_some {P : Program} (w : World) {u r : Nat} (h : floatToFloatBits .f64 u .f32 = some r) : (Conv.floatToFloat .f64 u .f32).run P w = .ok (.float .f32 r) w := by
  have h' := h
  unfold floatToFloatBits at h
  rw [if_neg (by decide)] at h
  split at h
  · cases h
  · rename_i s d1
    cases h
    simp [Conv.floatToFloat, d1]
  · rename_i s m p d1
    split at h
    · cases h
    · rename_i hi
      cases h
      simp [Conv.floatToFloat, d1, hi]

theorem run_narrowV {u v r s : Nat} (h1 : floatToFloatBits .f64 u .f32 = some r) (h2 : floatToFloatBits .f64 v .f32 = some s) (P : Program) (w : World) (src dst : TypeId) (hs : (P.underlying src).isSome = true) (hd : P.underlying dst = some (.complex .f32)) :
    (convert src dst (.complex .f64 u v)).run P w = .ok (.complex .f32 r s) w := by
  obtain ⟨t, hs'⟩ := Option.isSome_iff_exists.1 hs
  have e1 := run_f2f_some (P := P) w h1
  have e2 := run_f2f_some (P := P) w h2
  cases t <;> simp [convert, run_underlying hs', run_underlying hd, Conv.complexToComplex, e1, e2]

theorem wide_fix {u x r : Nat} (h : floatToFloatBits .f32 u .f64 = some x) (hw : Wide u r) : r = x := by
  have h1 := hw.1
  rw [h] at h1
  exact (num_of_cn h1).2

theorem wide32_any {a b x y : Nat} (h1 : floatToFloatBits .f32 a .f64 = some x) (h2 : floatToFloatBits .f32 b .f64 = some y) (w : World) :
    Calls Try.prog 28 #[.agg #[.complex .f32 a b]] w fun e w' => e = .returned (.complex .f64 x y) ∧ Below w.heap.size w w' := by
  refine (wide_any a b w).mono ?_
  rintro e w' ⟨r, s, hr, hs, rfl, hb⟩
  rw [wide_fix h1 hr, wide_fix h2 hs]
  exact ⟨rfl, hb⟩

set_option maxRecDepth 100000 in
theorem operatorN_any {a b c d xa xb xc xd q p u v : Nat} {Q : Rat} (h1 : floatToFloatBits .f32 a .f64 = some xa) (h2 : floatToFloatBits .f32 b .f64 = some xb) (h3 : floatToFloatBits .f32 c .f64 = some xc) (h4 : floatToFloatBits .f32 d .f64 = some xd)
    (h : QW xa xb xc xd q p) (hq : Has q Q) (h5 : floatToFloatBits .f64 q .f32 = some u) (h6 : floatToFloatBits .f64 p .f32 = some v) (w : World) :
    Calls Try.prog 24 #[.agg #[.complex .f32 a b], .agg #[.complex .f32 c d]] w fun e w' => e = .returned (.complex .f32 u v) ∧ Below w.heap.size w w' := by
  have EO := run_operator h hq
  have EC := run_narrowV h5 h6
  have EN : ∀ w : World, (convert 24 33 (.complex .f64 q p)).run Try.prog w = .ok (.complex .f32 u v) w := fun w => EC _ w _ _ (by kernel_rfl) Try.underlying33
  have WA := Lib.hid (fun W => wide32_any h1 h2 W)
  have WB := Lib.hid (fun W => wide32_any h3 h4 W)
  clear h hq h1 h2 h3 h4 h5 h6 EC
  go_enter Try.func24, Try.ntmps24
  go_wp2
  go_region_law (go_simp; go_at_call 28; first
    | (refine (WA.out _).mono ?_; rintro e w1 ⟨rfl, hb⟩; have c3 := (op_step hb).1; have HB1 := Lib.hid (op_step hb).2; clear hb)
    | (refine (WB.out _).mono ?_; rintro e w2 ⟨rfl, hb⟩; have HB2 := Lib.hid (below_step HB1.out hb HB1.out.size); clear hb HB1))
  all_goals
    go_wp2
    go_ret
    exact ⟨rfl, HB2.out⟩

theorem goNarrow_any {a b c d xa xb xc xd q p u v : Nat} {Q : Rat} (h1 : floatToFloatBits .f32 a .f64 = some xa) (h2 : floatToFloatBits .f32 b .f64 = some xb) (h3 : floatToFloatBits .f32 c .f64 = some xc) (h4 : floatToFloatBits .f32 d .f64 = some xd)
    (h : QW xa xb xc xd q p) (hq : Has q Q) (h5 : floatToFloatBits .f64 q .f32 = some u) (h6 : floatToFloatBits .f64 p .f32 = some v) (w : World) :
    Calls Try.prog 11 #[.complex .f32 a b, .complex .f32 c d] w fun e w' => e = .returned (.complex .f32 u v) ∧ Below w.heap.size w w' := by
  have O := Lib.hid (fun w => operatorN_any h1 h2 h3 h4 h hq h5 h6 w)
  clear h hq h1 h2 h3 h4 h5 h6
  go_enter Try.func11, Try.ntmps11
  go_wp2_with fail
  refine (numberOf32_any a b _).mono ?_
  rintro e w1 ⟨rfl, b1⟩
  go_wp2_with fail
  refine (numberOf32_any c d _).mono ?_
  rintro e w2 ⟨rfl, b2⟩
  have HB := Lib.hid (below_step b1 b2 b1.size)
  clear b1 b2
  go_wp2_with fail
  refine (O.out _).mono ?_
  rintro e w3 ⟨rfl, b3⟩
  replace HB := Lib.hid (below_step HB.out b3 HB.out.size)
  clear b3
  go_wp2
  go_ret
  exact ⟨rfl, HB.out⟩

end Go.Proofs.Ytgolfdngpphndaa
