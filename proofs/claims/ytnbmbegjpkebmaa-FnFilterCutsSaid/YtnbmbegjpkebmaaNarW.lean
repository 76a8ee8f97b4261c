import Derived.Test.YtnbmbegjpkebmaaOpt
/-
  What is widened is narrowed to what it was. No program.
-/
set_option linter.unusedVariables false
set_option linter.unusedSimpArgs false
namespace Go.Proofs.Ytnbmbegjpkebmaa.Flt
open Go

theorem word_parts {u : Nat} (hu : u < 4294967296) : Ieee.single.word (u / 2147483648 % 2 == 1) (u % 2147483648) = u := by
  have hs : Ieee.single.signWeight = 2147483648 := sw32
  unfold Ieee.Format.word
  rw [hs]
  by_cases h : u / 2147483648 % 2 = 1
  · rw [h]; simp only [beq_self_eq_true, if_true]; omega
  · have : (u / 2147483648 % 2 == 1) = false := by simpa using h
    rw [this]; simp only [Bool.false_eq_true, if_false]; omega

theorem narrow_widen {u v : Nat} (hu : u < 4294967296) (hn : nan FloatKind.f32.format u = false) (h : floatToFloatBits .f32 u .f64 = some v) : floatToFloatBits .f64 v .f32 = some u := by
  have h0 : ¬ 2139095040 < u % 2147483648 := by
    have h' : nan Ieee.single u = false := hn
    rw [nan32] at h'
    exact of_decide_eq_false h'
  by_cases h1 : u % 2147483648 = 2139095040
  · rw [widen_inf h1] at h
    obtain rfl := Option.some.inj h
    have hs : Ieee.double.signWeight = 9223372036854775808 := sw64
    have e : ∀ s : Bool, Ieee.double.word s 9218868437227405312 % 9223372036854775808 = 9218868437227405312 ∧ (Ieee.double.word s 9218868437227405312 / 9223372036854775808 % 2 == 1) = s := by
      intro s
      unfold Ieee.Format.word
      rw [hs]
      cases s <;> decide
    have d1 : FloatKind.f64.decode (Ieee.double.word (u / 2147483648 % 2 == 1) 9218868437227405312) = .infinity (u / 2147483648 % 2 == 1) := by
      have := read_inf Ieee.double (x := Ieee.double.word (u / 2147483648 % 2 == 1) 9218868437227405312) (by rw [sw64, ir64]; exact (e _).1) hbi64
      rw [sw64, (e _).2] at this
      exact this
    unfold floatToFloatBits
    rw [if_neg (by decide), d1]
    show some (Ieee.single.word _ Ieee.single.infRung) = _
    rw [ir32, ← h1, word_parts hu]
  · obtain ⟨r', h2, h3, h4⟩ := widen_fin (u := u) (by omega)
    rw [h4] at h
    obtain rfl := Option.some.inj h
    obtain ⟨m, p, e, l, v⟩ := read_word Ieee.double (u / 2147483648 % 2 == 1) (r := r') (by rw [ir64]; exact h2)
    have l32 : Ieee.single.leastPlace = -149 := by decide
    have l64 : Ieee.double.leastPlace = -1074 := by decide
    have hw : Ieee.single.nearest (u / 2147483648 % 2 == 1) m p = Ieee.single.word (u / 2147483648 % 2 == 1) (u % 2147483648) := by
      refine nearest_exact Ieee.single _ (base := -1074) (by rw [ir32]; omega) (by rw [l64] at l; exact l) (by rw [l32]; omega) ?_
      rw [l64] at v
      rw [l32, show ((-149 : Int) - -1074).toNat = wideUp from rfl, ← h3]
      exact v
    obtain ⟨m', p', e', -, -⟩ := read_word Ieee.single (u / 2147483648 % 2 == 1) (r := u % 2147483648) (by rw [ir32]; omega)
    rw [word_parts hu] at hw e'
    unfold floatToFloatBits
    rw [if_neg (by decide)]
    have d1 : FloatKind.f64.decode (Ieee.double.word (u / 2147483648 % 2 == 1) r') = .number (u / 2147483648 % 2 == 1) m p := e
    rw [d1]
    have d2 : FloatKind.f32.encode (.number (u / 2147483648 % 2 == 1) m p) = u := hw
    simp only [d2]
    have d3 : FloatKind.f32.decode u = .number (u / 2147483648 % 2 == 1) m' p' := e'
    rw [d3]
    rfl

/-- What is narrowed, widened and narrowed again is the same. -/
theorem narrow_again {u r u' : Nat} (hu : u < 4294967296) (hr : cn .f64 r = floatToFloatBits .f32 u .f64) (h' : Narrows r u') : cn .f32 u = cn .f32 u' := by
  by_cases hn : nan FloatKind.f32.format u = true
  · rw [widen_nan hn] at hr
    rw [cn_none hn, cn_none (h'.nan (nan_of_cn hr))]
  · have hn : nan FloatKind.f32.format u = false := by simpa using hn
    obtain ⟨v, e, -, -⟩ := widen_num hn
    rw [e] at hr
    obtain ⟨-, rfl⟩ := num_of_cn hr
    rw [h'.val u (narrow_widen hu hn e)]
end Go.Proofs.Ytnbmbegjpkebmaa.Flt
