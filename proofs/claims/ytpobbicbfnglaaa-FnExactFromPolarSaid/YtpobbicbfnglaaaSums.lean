import Derived.Test.YtpobbicbfnglaaaMapS
/-
  sumOfTerms over floats and over wide complex numbers.
-/
set_option linter.unusedVariables false
set_option linter.unusedSimpArgs false
namespace Go.Proofs.Ytpobbicbfnglaaa
open Go.RowKit Flt Fast
attribute [local go_sem] run_fadd run_fsub run_fmul run_fquo run_cadd run_csub

/-- The sum of the first n terms, from left to right. -/
def sumO (z : Nat → Option Nat) : Nat → Option Nat
  | 0 => some 0
  | n + 1 => if n = 0 then z 0 else fop .add .f64 (sumO z n) (z n)
def sumC (z : Nat → Z) : Nat → Z
  | 0 => z0
  | n + 1 => if n = 0 then z 0 else addZ (sumC z n) (z n)
theorem sumO_one (z : Nat → Option Nat) : sumO z 1 = z 0 := rfl
theorem sumO_succ (z : Nat → Option Nat) {n : Nat} (h : n ≠ 0) : sumO z (n + 1) = fop .add .f64 (sumO z n) (z n) := by rw [sumO, if_neg h]
theorem sumC_one (z : Nat → Z) : sumC z 1 = z 0 := rfl
theorem sumC_succ (z : Nat → Z) {n : Nat} (h : n ≠ 0) : sumC z (n + 1) = addZ (sumC z n) (z n) := by rw [sumC, if_neg h]

set_option maxRecDepth 100000 in
set_option maxHeartbeats 4000000 in
theorem sumF_any {v : Value} {xs : List Nat} {w : World} (h : Reads w v (fvals xs)) (hl : xs.length ≤ 100000) (z : Nat → Option Nat) (hz : ∀ i, i < xs.length → IsF (xs.getD i 0) (z i)) :
    Calls Try.prog 48 #[v] w fun e w' => ∃ a, e = .returned (.float .f64 a) ∧ IsF a (sumO z xs.length) ∧ ∃ n, w' = w.drewN n := by
  generalize hcs : fvals xs = cs at h
  have hcl : cs.length = xs.length := by rw [← hcs, fvals_length]
  cases h with
  | none a cap =>
    have h0 : xs.length = 0 := by rw [← hcl]; rfl
    rw [h0]
    clear hcs hcl h0 hz hl
    go_enter Try.func48, Try.ntmps48
    go_wp2
    go_ret
    exact ⟨_, rfl, IsF.lit (by decide) (by omega), 0, rfl⟩
  | row g cap L cs hL h0 hc hm hcell =>
    obtain rfl : L = xs.length := by rw [← hL]; exact hcl
    obtain ⟨L, hxl⟩ : ∃ L, xs.length = L := ⟨_, rfl⟩
    rw [hxl] at hl h0 hc ⊢
    have hmax := maxLen_int (Nat.le_trans hc hm)
    have HC : Hid (∀ j, j < L → w.cell? ⟨g, j, none⟩ = some (.float .f64 (xs.getD j 0))) := fun j hj => by rw [hcell j (by omega), ← hcs, fvals_getD (by omega)]
    have HX := Lib.hid hxl
    have HZ := Lib.hid hz
    clear hcell hcs hcl hL hm hxl hz
    have c0 := HC.out 0 h0
    have z0' := HZ.out 0 (by rw [HX.out]; exact h0)
    obtain ⟨t, ht⟩ : ∃ t, xs.getD 0 0 = t := ⟨_, rfl⟩
    rw [ht] at c0 z0'
    have HZ0 := Lib.hid z0'
    clear ht z0'
    by_cases hcap : cap = 1
    · have hL1 : L = 1 := by omega
      subst hcap
      subst hL1
      go_enter Try.func48, Try.ntmps48
      go_wp2
      refine wp_loop_rounds 1 ?_
      rw [rounds_succ]
      go_wp2
      go_ret
      exact ⟨_, rfl, HZ0.out, 0, rfl⟩
    · go_enter Try.func48, Try.ntmps48
      go_wp2
      go_loopw [3, 15] (fun s i wr => ∃ (k a : Nat), i = .int .i64 k ∧ s = .float .f64 a ∧ k + 1 ≤ L ∧ IsF a (sumO z (k + 1)) ∧ ∃ n, wr = w.drewN n) (fun _ i _ => L - (intOf i).toNat)
      case atStart => exact ⟨0, t, rfl, rfl, by omega, HZ0.out, 0, rfl⟩
      case round =>
        obtain ⟨k, a, rfl, rfl, hk, ha, n, hw⟩ := hrel
        have HW := Lib.hid hw
        have HA := Lib.hid ha
        clear hw ha
        by_cases hlt : k + 1 < L
        · have c1 : wr.cell? ⟨g, 1 + k, none⟩ = some (.float .f64 (xs.getD (k + 1) 0)) := by rw [HW.out, Nat.add_comm 1 k]; exact HC.out (k + 1) hlt
          have z1 := HZ.out (k + 1) (by rw [HX.out]; exact hlt)
          obtain ⟨b, hb⟩ : ∃ b, xs.getD (k + 1) 0 = b := ⟨_, rfl⟩
          rw [hb] at c1 z1
          have HZ1 := Lib.hid z1
          clear hb z1
          go_wp2
          go_roundw
          case rel => exact ⟨k + 1, _, by go_num, rfl, by omega, by rw [sumO_succ z (by omega)]; exact isF_fres HA.out HZ1.out _, _, by rw [HW.out, World.drewN_drewN]⟩
          case measure => simp [intOf]; omega
        · have e : k + 1 = L := by omega
          rw [e] at HA
          go_wp2
          go_ret
          exact ⟨_, rfl, HA.out, n, HW.out⟩

end Go.Proofs.Ytpobbicbfnglaaa
