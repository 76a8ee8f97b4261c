import Derived.Test.YtgolfdngpphndaaExpo
/-
  Exact turns: cosines and sines of parts of a whole turn, their sums and mirrors. No program.
-/
set_option linter.unusedVariables false
set_option linter.unusedSimpArgs false
namespace Go.Proofs.Ytgolfdngpphndaa
open Go Flt
namespace Flt

/-- A whole turn. -/
def tau : Rat := 7964883625991394727376702227904 / 1267650600228229401496703205376
/-- The cosine and the sine of a part of a turn. -/
def cq (q : Rat) : Rat := cosN 80 (tau * q)
def sq (q : Rat) : Rat := sinN 80 (tau * q)
/-- How near sums are. -/
def dl : Rat := 1 / 1180591620717411303424

theorem tau_size : 0 ≤ tau ∧ tau ≤ 13 / 2 := by decide +kernel
theorem dl_le : (80 : Rat) * (80 * ex 13 80) ≤ dl := by decide +kernel

theorem tq_size {q : Rat} (h : Size q 1) : Size (tau * q) (13 / 2) := by
  have := (Size.of_nonneg tau_size.1 tau_size.2).mul h
  rwa [Rat.mul_one] at this
theorem cq_add {p q : Rat} (hp : Size p 1) (hq : Size q 1) :
    Near (cq p * cq q - sq p * sq q) (cq (p + q)) dl ∧ Near (sq p * cq q + cq p * sq q) (sq (p + q)) dl := by
  have h := cis_add (N := 80) (tq_size hp) (tq_size hq) (by decide +kernel)
  have e : (13 / 2 : Rat) + 13 / 2 = 13 := by decide +kernel
  have e2 : ((80 : Nat) : Rat) = 80 := rfl
  rw [e, e2, ← Rat.mul_add] at h
  exact ⟨⟨Rat.le_trans h.1.1 dl_le, Rat.le_trans h.1.2 dl_le⟩, ⟨Rat.le_trans h.2.1 dl_le, Rat.le_trans h.2.2 dl_le⟩⟩

theorem ex_neg (t : Rat) (j : Nat) : ex (-t) j = if j % 2 = 0 then ex t j else -ex t j := by
  induction j with
  | zero => rfl
  | succ j ih =>
    show ex (-t) j * -t / _ = _
    rw [ih]
    by_cases h : j % 2 = 0
    · rw [if_pos h, if_neg (by omega)]
      show _ = -(ex t j * t / _)
      rw [Rat.div_def, Rat.div_def]; grind
    · rw [if_neg h, if_pos (by omega)]
      show _ = ex t j * t / _
      rw [Rat.div_def, Rat.div_def]; grind
theorem cosN_neg (N : Nat) (t : Rat) : cosN N (-t) = cosN N t := by
  unfold cosN
  refine psum_congr fun j _ => ?_
  rw [ex_neg]
  by_cases h : j % 2 = 0
  · rw [if_pos h]
  · have : sgC j = 0 := by unfold sgC; rw [if_neg (by omega), if_neg (by omega)]
    rw [this]; grind
theorem sinN_neg (N : Nat) (t : Rat) : sinN N (-t) = -sinN N t := by
  unfold sinN
  have e : (fun j => sgS j * ex (-t) j) = fun j => -1 * (sgS j * ex t j) := by
    funext j
    rw [ex_neg]
    by_cases h : j % 2 = 0
    · have : sgS j = 0 := by unfold sgS; rw [if_neg (by omega), if_neg (by omega)]
      rw [this]; grind
    · rw [if_neg h]; grind
  rw [e, psum_lmul]; grind
theorem cq_neg (q : Rat) : cq (-q) = cq q := by unfold cq; rw [show tau * -q = -(tau * q) by grind, cosN_neg]
theorem sq_neg (q : Rat) : sq (-q) = -sq q := by unfold sq; rw [show tau * -q = -(tau * q) by grind, sinN_neg]

/-- What is known of some parts. -/
theorem cq_zero : cq 0 = 1 ∧ sq 0 = 0 := by unfold cq sq; decide +kernel
theorem cq_one : Near (cq 1) 1 dl ∧ Near (sq 1) 0 dl := by unfold Near cq sq; decide +kernel
theorem cq_half : Near (cq (1 / 2)) (-1) dl ∧ Near (sq (1 / 2)) 0 dl := by unfold Near cq sq; decide +kernel
theorem cq_quarter : Near (cq (1 / 4)) 0 dl ∧ Near (sq (1 / 4)) 1 dl := by unfold Near cq sq; decide +kernel

theorem dl_val : dl = 1 / 1180591620717411303424 := rfl

/-- The size of an exact turn is 1, nearly. -/
theorem cq_sq {q : Rat} (h : Size q 1) : Near (cq q * cq q + sq q * sq q) 1 dl := by
  have h1 := (cq_add h h.neg).1
  rw [cq_neg, sq_neg, show q + -q = 0 by grind, cq_zero.1] at h1
  have e : cq q * cq q - sq q * -sq q = cq q * cq q + sq q * sq q := by grind
  rwa [e] at h1
theorem sq_nonneg (a : Rat) : 0 ≤ a * a := by
  by_cases h : 0 ≤ a
  · exact Rat.mul_nonneg h h
  · have := Rat.mul_nonneg (show 0 ≤ -a by grind) (show 0 ≤ -a by grind)
    grind
theorem size_of_sq {a b d : Rat} (hd : 0 ≤ d) (h : a * a + b * b ≤ 1 + d) : Size a (1 + d) := by
  have hb := sq_nonneg b
  have h1 : ∀ c : Rat, c * c ≤ 1 + d → c ≤ 1 + d := fun c hc => by
    refine Rat.not_lt.1 fun hlt => ?_
    have h2 := Rat.mul_le_mul_of_nonneg_left (show 1 ≤ c by grind) (show 0 ≤ c by grind)
    grind
  exact ⟨h1 a (by grind), h1 (-a) (by grind)⟩
theorem cq_size {q : Rat} (h : Size q 1) : Size (cq q) (1 + dl) ∧ Size (sq q) (1 + dl) := by
  have h1 := (cq_sq h).1
  have hd : 0 ≤ dl := by decide +kernel
  exact ⟨size_of_sq hd (b := sq q) (by grind), size_of_sq hd (b := cq q) (by grind)⟩
theorem cq_size2 {q : Rat} (h : Size q 1) : Size (cq q) 2 ∧ Size (sq q) 2 := by
  have hd : 1 + dl ≤ 2 := by decide +kernel
  exact ⟨(cq_size h).1.mono hd, (cq_size h).2.mono hd⟩

/-- A number times one that is nearly w. -/
theorem near_mul {a w b B e : Rat} (h : Near a w e) (hb : Size b B) : Near (a * b) (w * b) (e * B) := by
  rw [near_size] at *
  have := h.mul hb
  rwa [show (a - w) * b = a * b - w * b by grind] at this

/-- The other way round from a part p whose turn is known: w + v i. -/
theorem cq_from {p q w v : Rat} (hp : Size p 1) (hq : Size q 1) (hw : Near (cq p) w dl) (hv : Near (sq p) v dl) :
    Near (cq (p + q)) (w * cq q - v * sq q) (5 * dl) ∧ Near (sq (p + q)) (v * cq q + w * sq q) (5 * dl) := by
  obtain ⟨h1, h2⟩ := cq_add hp hq
  obtain ⟨s1, s2⟩ := cq_size2 hq
  have a1 := near_mul hw s1
  have a2 := near_mul hv s2
  have a3 := near_mul hv s1
  have a4 := near_mul hw s2
  generalize cq (p + q) = x at *
  generalize sq (p + q) = y at *
  generalize cq p * cq q = t1 at *
  generalize sq p * sq q = t2 at *
  generalize sq p * cq q = t3 at *
  generalize cq p * sq q = t4 at *
  generalize w * cq q = u1 at *
  generalize v * sq q = u2 at *
  generalize v * cq q = u3 at *
  generalize w * sq q = u4 at *
  unfold Near at *
  constructor <;> constructor <;> grind

theorem cq_turn {q : Rat} (h : Size q 1) : Near (cq (1 + q)) (cq q) (5 * dl) ∧ Near (sq (1 + q)) (sq q) (5 * dl) := by
  have := cq_from (p := 1) (by constructor <;> decide +kernel) h cq_one.1 cq_one.2
  rw [show 1 * cq q - 0 * sq q = cq q by grind, show 0 * cq q + 1 * sq q = sq q by grind] at this
  exact this
theorem cq_mirror {q : Rat} (h : Size q 1) : Near (cq (1 - q)) (cq q) (5 * dl) ∧ Near (sq (1 - q)) (-sq q) (5 * dl) := by
  have := cq_turn h.neg
  rw [← Rat.sub_eq_add_neg, cq_neg, sq_neg] at this
  exact this
theorem cq_opp {q : Rat} (h : Size q 1) : Near (cq (1 / 2 - q)) (-cq q) (5 * dl) ∧ Near (sq (1 / 2 - q)) (sq q) (5 * dl) := by
  have := cq_from (p := 1 / 2) (by constructor <;> decide +kernel) h.neg cq_half.1 cq_half.2
  rw [← Rat.sub_eq_add_neg, cq_neg, sq_neg, show -1 * cq q - 0 * -sq q = -cq q by grind, show 0 * cq q + -1 * -sq q = sq q by grind] at this
  exact this
theorem cq_quart {q : Rat} (h : Size q 1) : Near (cq (1 / 4 - q)) (sq q) (5 * dl) ∧ Near (sq (1 / 4 - q)) (cq q) (5 * dl) := by
  have := cq_from (p := 1 / 4) (by constructor <;> decide +kernel) h.neg cq_quarter.1 cq_quarter.2
  rw [← Rat.sub_eq_add_neg, cq_neg, sq_neg, show 0 * cq q - 1 * -sq q = sq q by grind, show 1 * cq q + 0 * -sq q = cq q by grind] at this
  exact this

end Flt
end Go.Proofs.Ytgolfdngpphndaa
