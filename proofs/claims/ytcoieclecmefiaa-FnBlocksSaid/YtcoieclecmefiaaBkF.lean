import Derived.Test.YtcoieclecmefiaaBkE
import Derived.Test.YtcoieclecmefiaaSameL
/-
  SameBlocks.
-/
set_option linter.unusedVariables false
set_option linter.unusedSimpArgs false
namespace Go.Proofs.Ytcoieclecmefiaa
open Go.RowKit Flt Fast

/-- Blocks that are read. -/
structure LBlk (w : World) (V : Value) (vs : List Value) (bs : Nat → List C) (q : Nat → Nat → Z) (n : Nat) : Prop where
  row : Reads w V vs
  each : ∀ b, b < vs.length → Reads w (vs.getD b undef) (cvals (bs b)) ∧ (bs b).length = n ∧ ∀ i, i < n → IsC ((bs b).getD i (0, 0)) (q b i)

theorem Made.lblk {W : World} {B n : Nat} {V : Value} {vs : List Value} {bs : Nat → List C} {q : Nat → Nat → Z} (h : Made W B n V vs bs q) : LBlk W V vs bs q n :=
  ⟨h.row.reads, fun b hb => ⟨(h.each b hb).1.reads, (h.each b hb).2⟩⟩
theorem LBlk.below {w w' : World} {V : Value} {vs : List Value} {bs : Nat → List C} {q : Nat → Nat → Z} {n : Nat} (h : LBlk w V vs bs q n) (hb : Below w.heap.size w w') : LBlk w' V vs bs q n :=
  ⟨h.row.below hb, fun b hb' => ⟨(h.each b hb').1.below hb, (h.each b hb').2⟩⟩
theorem LBlk.draws {w : World} {V : Value} {vs : List Value} {bs : Nat → List C} {q : Nat → Nat → Z} {n : Nat} (h : LBlk w V vs bs q n) (m : Nat) : LBlk (w.drewN m) V vs bs q n :=
  h.below (below_draws (Below.refl _ _) m)

/-- How the walk finds a block. -/
theorem LBlk.find {w : World} {V : Value} {vs : List Value} {bs : Nat → List C} {q : Nat → Nat → Z} {n : Nat} (h : LBlk w V vs bs q n) :
    ∃ a cap, V = .slice a vs.length cap ∧ ∀ b, b < vs.length → ∃ g ab cb, a = some ⟨g, 0, none⟩ ∧ g < w.heap.size ∧ w.cell? ⟨g, b, none⟩ = some (.slice ab n cb) ∧ Reads w (.slice ab n cb) (cvals (bs b)) ∧ (bs b).length = n ∧ ∀ i, i < n → IsC ((bs b).getD i (0, 0)) (q b i) := by
  have key : ∀ b, b < vs.length → ∃ ab cb, vs.getD b undef = .slice ab n cb := fun b hb => by
    obtain ⟨k1, k2, -⟩ := h.each b hb
    obtain ⟨ab, cb, e⟩ := cform k1
    rw [cvals_length, k2] at e
    exact ⟨ab, cb, e⟩
  have hr := h.row
  have he := h.each
  cases hr with
  | none a cap => exact ⟨a, cap, rfl, fun b hb => by simp at hb⟩
  | row g cap L cs hL h0 hc hm hh =>
    subst hL
    refine ⟨_, cap, rfl, fun b hb => ?_⟩
    obtain ⟨ab, cb, e⟩ := key b hb
    obtain ⟨k1, k2, k3⟩ := he b hb
    rw [e] at k1
    have hc := hh b hb
    rw [e] at hc
    exact ⟨g, ab, cb, rfl, World.block_lt_of_cell? _ _ hc, hc, k1, k2, k3⟩

set_option maxRecDepth 100000 in
set_option maxHeartbeats 4000000 in
theorem sameBlocks_any {w : World} {V V' : Value} {vs vs' : List Value} {bs bs' : Nat → List C} {q : Nat → Nat → Z} {n : Nat} (h : LBlk w V vs bs q n) (h' : LBlk w V' vs' bs' q n) (hl : vs.length = vs'.length) (hc : vs.length ≤ 64) :
    Calls Try.prog 38 #[V, V'] w fun e w' => e = .returned (.bool true) ∧ ∃ m, w' = w.drewN m := by

  obtain ⟨a, cap, rfl, hf⟩ := h.find
  obtain ⟨a', cap', rfl, hf'⟩ := h'.find
  obtain ⟨c, hvc⟩ : ∃ c, vs.length = c := ⟨_, rfl⟩
  rw [← hl, hvc] at hf' ⊢
  rw [hvc] at hf hc
  have HF := Lib.hid hf
  have HF' := Lib.hid hf'
  clear h h' hf hf' hl hvc
  go_enter Try.func38, Try.ntmps38
  go_wp2
  go_loopw [5] (fun i wr => ∃ k m : Nat, i = .int .i64 k ∧ k ≤ c ∧ wr = w.drewN m) (fun i _ => c - (intOf i).toNat)
  case atStart => exact ⟨0, 0, rfl, Nat.zero_le _, rfl⟩
  case round =>
    obtain ⟨k, m, rfl, hk, hw⟩ := hrel
    have HW := Lib.hid hw
    clear hw
    by_cases hlt : k < c
    · obtain ⟨g, ab, cb, rfl, hg, hcell, hr, hn, hz⟩ := HF.out k hlt
      obtain ⟨g', ab', cb', rfl, hg', hcell', hr', hn', hz'⟩ := HF'.out k hlt
      have c1 : wr.cell? ⟨g, k, none⟩ = some (.slice ab n cb) := by rw [HW.out]; exact hcell
      have c2 : wr.cell? ⟨g', k, none⟩ = some (.slice ab' n cb') := by rw [HW.out]; exact hcell'
      have S := Lib.hid (fun (t : Nat) => l01SameSignals_any (w := w.drewN t) (hr.below (below_draws (Below.refl _ _) t)) (hr'.below (below_draws (Below.refl _ _) t)) (hn.trans hn'.symm) (fun j hj => ⟨_, hz j (by omega), hz' j (by omega)⟩))
      have S2 : Hid (∀ t, Calls Try.prog 51 #[.slice ab n cb, .slice ab' n cb'] (wr.drewN t) fun e w' => e = .returned (.bool true) ∧ ∃ m, w' = (wr.drewN t).drewN m) := fun t => by
        rw [HW.out, World.drewN_drewN]; exact S.out _
      clear S hr hr' hn hn' hz hz' hcell hcell' hg hg'
      go_wp2
      go_quiet ((go_at_call 51; exact Calls.quiet_of (S2.out _)))
      go_wp2
      go_roundw
      case rel => exact ⟨k + 1, m + nq, by go_num, by omega, by rw [HW.out, World.drewN_drewN]⟩
      case measure => simp [intOf]; omega
    · have e : k = c := by omega
      subst e
      go_wp2
      go_ret
      exact ⟨rfl, m, HW.out⟩

end Go.Proofs.Ytcoieclecmefiaa
