import Derived.Test.YtpobbicbfnglaaaOpt
/-
  Narrowing of complex numbers, in whatever program. No program is named here.
-/
set_option linter.unusedVariables false
set_option linter.unusedSimpArgs false
namespace Go.Proofs.Ytpobbicbfnglaaa.Flt
open Go

theorem run_f2f {P : Program} (w : World) (u : Nat) : ∃ r n, (Conv.floatToFloat .f64 u .f32).run P w = .ok (.float .f32 r) (w.drewN n) ∧ Narrows u r := by
  cases h : floatToFloatBits .f64 u .f32 with
  | some v =>
    refine ⟨v, 0, run_floatToFloat w h, ?_, fun x e => Option.some.inj (h.symm.trans e), fun hn => ?_⟩
    · unfold floatToFloatBits at h
      rw [if_neg (by decide)] at h
      split at h
      · cases h
      · cases h; exact Ieee.single.write_lt _
      · split at h
        · cases h
        · cases h; exact Ieee.single.write_lt _
    · obtain ⟨s, t, e⟩ := read_nan Ieee.double hbi64 (x := u) hn
      unfold floatToFloatBits at h
      rw [if_neg (by decide)] at h
      have d1 : FloatKind.f64.decode u = .nan s t := e
      rw [d1] at h
      cases h
  | none =>
    unfold floatToFloatBits at h
    rw [if_neg (by decide)] at h
    split at h
    · rename_i s t d1
      have c := cut_nanConv .f32 u (w.tape w.drawn (.nanConv .f32 u))
      refine ⟨_, 1, ?_, c.2, fun v e => ?_, fun _ => c.1⟩
      · simp [Conv.floatToFloat, d1, Question.forced]; rfl
      · unfold floatToFloatBits at e
        rw [if_neg (by decide), d1] at e
        cases e
    · cases h
    · rename_i s m p d1
      split at h
      · rename_i hi
        refine ⟨Question.cut (.floatToFloat u) (w.tape w.drawn (.floatToFloat u)), 1, ?_, ?_, fun v e => ?_, fun hn => ?_⟩
        · simp [Conv.floatToFloat, d1, hi, Question.forced]; rfl
        · exact Nat.mod_lt _ (by decide)
        · unfold floatToFloatBits at e
          rw [if_neg (by decide), d1] at e
          simp only [hi, if_true] at e
          cases e
        · obtain ⟨s', t', e⟩ := read_nan Ieee.double hbi64 (x := u) hn
          have d2 : FloatKind.f64.decode u = .nan s' t' := e
          rw [d2] at d1
          cases d1
      · cases h

/-- The law of the walk: a wide complex number, narrowed. -/
theorem wpList_narrowD {P : Program} (w : World) {ops : Array Oper} {rest : List Oper} {o : Oper} {a : Act} {Q : Exit → Act → World → Prop} (hw : Region.wanted o (yielded ops a.tmps) = true)
    (src dst : TypeId) (x : Operand) (ho : o.op = Op.convert src dst x) (u v : Nat) (hx : a.eval x = .complex .f64 u v) (hs : (P.underlying src).isSome = true) (hd : P.underlying dst = some (.complex .f32))
    (hK : ∀ r s n, Narrows u r → Narrows v s → wpList P ops Q rest (a.put o.dst (.complex .f32 r s)) (w.drewN n)) : wpList P ops Q (o :: rest) a w := by
  refine BigFrame.wpList_want hw fun K hK' => ?_
  obtain ⟨r, n, e1, h1⟩ := run_f2f (P := P) w u
  obtain ⟨s, m, e2, h2⟩ := run_f2f (P := P) (w.drewN n) v
  have hk := hK' _ _ (hK r s (n + m) h1 h2)
  rw [World.drewN_drewN] at e2
  have hr : (convert src dst (.complex .f64 u v)).run P w = .ok (.complex .f32 r s) (w.drewN (n + m)) := by
    obtain ⟨t, hs'⟩ := Option.isSome_iff_exists.1 hs
    cases t <;> simp [convert, run_underlying hs', run_underlying hd, Conv.complexToComplex, e1, e2]
  unfold Oper.wp
  simp [execOp, ho, hx, hr, Result.andThen]
  exact hk

end Go.Proofs.Ytpobbicbfnglaaa.Flt
