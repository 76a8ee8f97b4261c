import Derived.Test.YtcoieclecmefiaaFlatW
import Derived.Test.YtcoieclecmefiaaSameS
/-
  FnFlat: SameReals, f6abs.
-/
set_option linter.unusedVariables false
set_option linter.unusedSimpArgs false
namespace Go.Proofs.Ytcoieclecmefiaa
open Go.RowKit Flt Fast

set_option maxRecDepth 100000 in
set_option maxHeartbeats 4000000 in
theorem sameReals_any {w : World} {V V' : Value} {fs gs : List Nat} (h : Reads w V (flts fs)) (h' : Reads w V' (flts gs)) (hl : fs.length = gs.length) (he : ∀ i, i < fs.length → cn .f64 (fs.getD i 0) = cn .f64 (gs.getD i 0)) (hcl : fs.length ≤ 1000000) :
    Calls Try.prog 32 #[V, V'] w fun e w' => e = .returned (.bool true) ∧ ∃ m, w' = w.drewN m := by
  have hrd := fl_reads h
  have hrd' := fl_reads h'
  obtain ⟨a, cap, rfl⟩ := fl_form h
  obtain ⟨a', cap', rfl⟩ := fl_form h'
  simp only [flts_length] at *
  replace hrd := hrd _ _ _ rfl
  replace hrd' := hrd' _ _ _ rfl
  obtain ⟨c, hvc⟩ : ∃ c, fs.length = c := ⟨_, rfl⟩
  rw [← hl, hvc] at hrd' ⊢
  rw [hvc] at hrd he hcl
  have HF := Lib.hid hrd
  have HF' := Lib.hid hrd'
  have HE := Lib.hid he
  clear h h' hrd hrd' hl hvc he
  go_enter Try.func32, Try.ntmps32
  go_wp2
  go_loopw [5] (fun i wr => ∃ k m : Nat, i = .int .i64 k ∧ k ≤ c ∧ wr = w.drewN m) (fun i _ => c - (intOf i).toNat)
  case atStart => exact ⟨0, 0, rfl, Nat.zero_le _, rfl⟩
  case round =>
    obtain ⟨k, m, rfl, hk, hw⟩ := hrel
    have HW := Lib.hid hw
    clear hw
    by_cases hlt : k < c
    · obtain ⟨g, rfl, hg, hcell⟩ := HF.out k hlt
      obtain ⟨g', rfl, hg', hcell'⟩ := HF'.out k hlt
      obtain ⟨x, hx⟩ : ∃ x, fs.getD k 0 = x := ⟨_, rfl⟩
      obtain ⟨y, hy⟩ : ∃ y, gs.getD k 0 = y := ⟨_, rfl⟩
      have hcn := HE.out k hlt
      rw [hx] at hcell hcn
      rw [hy] at hcell' hcn
      have S := Lib.hid (fun w => l01SameFloat_cn x y hcn w)
      have c1 : wr.cell? ⟨g, k, none⟩ = some (.float .f64 x) := by rw [HW.out]; exact hcell
      have c2 : wr.cell? ⟨g', k, none⟩ = some (.float .f64 y) := by rw [HW.out]; exact hcell'
      clear hcell hcell' hg hg' hx hy hcn
      go_wp2
      go_quiet ((go_at_call 77; exact Calls.quiet_of_same (S.out _)))
      go_wp2
      go_roundw
      case rel => exact ⟨k + 1, m + nq, by go_num, by omega, by rw [HW.out, World.drewN_drewN]⟩
      case measure => simp [intOf]; omega
    · have e : k = c := by omega
      subst e
      go_wp2
      go_ret
      exact ⟨rfl, m, HW.out⟩

theorem has_neg {u : Nat} {q : Rat} (h : Has u q) : Has (Op.negFloat .f64 u) (-q) := by
  have e : Op.negFloat .f64 u = u ^^^ 2 ^ 63 := rfl
  obtain ⟨h1, rfl⟩ := h
  obtain ⟨neg, r, hr, rfl⟩ := fin_parts h1
  have hs : Ieee.double.signWeight = 9223372036854775808 := by decide
  have hr' := hr
  rw [ir64] at hr'
  have e2 : Op.negFloat .f64 (Ieee.double.word neg r) = Ieee.double.word (!neg) r := by
    show Ieee.double.word neg r ^^^ 2 ^ 63 = _
    unfold Ieee.Format.word
    rw [hs]
    cases neg
    · simp only [Bool.false_eq_true, if_false, Bool.not_false, if_true]
      rw [neg64_lo (x := r) (by omega)]; omega
    · simp only [Bool.not_true, Bool.false_eq_true, if_false, if_true]
      rw [neg64_hi (x := 9223372036854775808 + r) (by omega) (by omega)]; omega
  rw [e2]
  refine ⟨fin_word _ hr, ?_⟩
  rw [fq_word _ hr, fq_word _ hr]
  cases neg
  · rfl
  · simp only [Bool.not_true, Bool.false_eq_true, if_false, if_true]; rw [Rat.neg_neg]

set_option maxRecDepth 100000 in
set_option maxHeartbeats 4000000 in
theorem f6abs_any (u : Nat) (q B : Rat) (h : Has u q) (hB : Size q B) (w : World) :
    Calls Try.prog 33 #[.float .f64 u] w fun e w' => ∃ v r, e = .returned (.float .f64 v) ∧ Has v r ∧ r ≤ B ∧ w' = w := by
  by_cases hq : q < 0
  · have g : (FloatKind.f64.format.order u 0 == some .lt) = true := by
      have := order_lt h.1 has_zero.1 (by rw [h.2, has_zero.2]; exact hq)
      show (Ieee.double.order u 0 == some .lt) = true
      rw [this]; rfl
    have HN := Lib.hid (has_neg h)
    clear h
    go_enter Try.func33, Try.ntmps33
    go_wp2
    go_ret
    exact ⟨_, _, rfl, HN.out, hB.2, rfl⟩
  · have g : (FloatKind.f64.format.order u 0 == some .lt) = false := by
      show (Ieee.double.order u 0 == some .lt) = false
      rw [order_q h.1 has_zero.1]
      have h1 : ¬ rsv Ieee.double u < rsv Ieee.double 0 := fun k => hq (by have := fq_lt.2 k; rwa [h.2, has_zero.2] at this)
      rcases Int.lt_trichotomy (rsv Ieee.double u) (rsv Ieee.double 0) with k | k | k
      · exact absurd k h1
      · rw [Int.compare_eq_eq.2 k]; rfl
      · rw [Int.compare_eq_gt.2 k]; rfl
    have HN := Lib.hid h
    clear h
    go_enter Try.func33, Try.ntmps33
    go_wp2
    go_ret
    exact ⟨_, _, rfl, HN.out, hB.1, rfl⟩

end Go.Proofs.Ytcoieclecmefiaa
