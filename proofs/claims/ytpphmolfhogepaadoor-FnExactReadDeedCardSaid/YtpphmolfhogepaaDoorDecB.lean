import Derived.Test.YtpphmolfhogepaaDoorDecA
import Derived.Test.YtpphmolfhogepaaDoorBls
import Derived.Laws.IdiomStrings
import Derived.BigQuiet
import Derived.Laws.Concat
import Derived.Deep.RegionHeld3
/-
  Decimal of the model, l07Signed.
-/
set_option linter.unusedVariables false
set_option linter.unusedSimpArgs false
namespace Go.Proofs.YtpphmolfhogepaaDoor
open Go.RowKit

theorem byte_string (W : World) (g : Nat) (z : Int) (b : UInt8) (hz : z = (b.toNat : Int)) (h : W.cell? ⟨g, 0, none⟩ = some (.int .u8 z)) :
    (convert 50 9 (.slice (some ⟨g, 0, none⟩) 1 1)).run Tryd.prog W = .ok (.string ⟨#[b]⟩) W := by
  subst hz
  refine run_convert_bytes_back W _ _ 5 ⟨g, 0, none⟩ 1 [b] Tryd.underlying50 Tryd.underlying5 Tryd.underlying9 (fun j hj => ?_)
  have : j = 0 := by simpa using hj
  subst this
  simpa [Addr.add] using h

theorem dec_byte (d : Nat) (hd : d < 10) : ((48 + d : Nat) : Int) = ((UInt8.ofNat (48 + d)).toNat : Int) := by
  have : ∀ d : Fin 10, (UInt8.ofNat (48 + d.val)).toNat = 48 + d.val := by decide
  rw [this ⟨d, hd⟩]

set_option maxRecDepth 100000 in
set_option maxHeartbeats 4000000 in
theorem decimal_small (u : Nat) (hu : u < 10) (w : World) :
    Calls Tryd.prog 18 #[.int .i64 u] w fun e w' => e = .returned (.string ⟨(Lib.decDigits u).toArray⟩) ∧ Below w.heap.size w w' := by
  have e : Lib.decDigits u = [UInt8.ofNat (48 + u)] := by rw [Lib.decDigits, dif_pos hu]
  rw [e]
  have g1 : decide ((10 : Int) ≤ (u : Int)) = false := decide_eq_false (by omega)
  have e1 : IntKind.i64.wrap (48 + (u : Int)) = 48 + (u : Int) := IntWalk.i64_in _ (by omega)
  have e2 : IntKind.u8.wrap (48 + (u : Int)) = 48 + (u : Int) := by
    have : ∀ d : Fin 10, IntKind.u8.wrap (48 + ((d.val : Nat) : Int)) = 48 + ((d.val : Nat) : Int) := by decide
    exact this ⟨u, hu⟩
  obtain ⟨b, hb⟩ : ∃ b, UInt8.ofNat (48 + u) = b := ⟨_, rfl⟩
  obtain ⟨z, hz⟩ : ∃ z, 48 + (u : Int) = z := ⟨_, rfl⟩
  have hzb : z = (b.toNat : Int) := by rw [← hz, ← hb, ← dec_byte u hu]; omega
  rw [hb]
  rw [hz] at e1 e2
  have hcv : ∀ (W : World) (g : Nat), W.cell? ⟨g, 0, none⟩ = some (.int .u8 z) → (convert 50 9 (.slice (some ⟨g, 0, none⟩) 1 1)).run Tryd.prog W = .ok (.string ⟨#[b]⟩) W := fun W g h => byte_string W g z b hzb h
  clear hb hzb e hu
  go_enter Tryd.func18, Tryd.ntmps18
  go_wp2
  go_ret
  exact ⟨rfl, (Below.refl _ _).alloc (Nat.le_refl _) _⟩

theorem nDigits_low (u : Nat) : 10 ^ (Lib.nDigits u - 1) ≤ u ∨ Lib.nDigits u = 1 := by
  induction u using Nat.strongRecOn with
  | _ u ih =>
    by_cases h : u < 10
    · exact .inr (Lib.nDigits_small h)
    · left
      rw [Lib.nDigits_big h]
      have hp := Lib.nDigits_pos (u / 10)
      rcases ih (u / 10) (by omega) with h1 | h1
      · obtain ⟨k, hk⟩ : ∃ k, Lib.nDigits (u / 10) = k + 1 := ⟨Lib.nDigits (u / 10) - 1, by omega⟩
        rw [hk] at h1 ⊢
        simp only [Nat.add_sub_cancel] at h1 ⊢
        rw [Nat.pow_succ]
        omega
      · rw [h1]
        simp
        omega
theorem nDigits_le19 (u : Nat) (h : u < 2 ^ 63) : Lib.nDigits u ≤ 19 := by
  by_cases h0 : Lib.nDigits u ≤ 19
  · exact h0
  · exfalso
    have hp : 10 ^ (Lib.nDigits u - 1) ≤ u ∨ Lib.nDigits u = 1 := nDigits_low u
    rcases hp with hp | hp
    · have : 10 ^ 19 ≤ 10 ^ (Lib.nDigits u - 1) := Nat.pow_le_pow_right (by decide) (by omega)
      omega
    · omega

set_option maxRecDepth 100000 in
set_option maxHeartbeats 8000000 in
theorem decimal_any : ∀ (F u : Nat), u < 10 ^ F → u < 2 ^ 63 → ∀ w : World,
    Calls Tryd.prog 18 #[.int .i64 u] w fun e w' => e = .returned (.string ⟨(Lib.decDigits u).toArray⟩) ∧ Below w.heap.size w w'
  | 0, u, h, _, w => decimal_small u (by simp at h; omega) w
  | F + 1, u, h, h63, w => by
    by_cases hu : u < 10
    · exact decimal_small u hu w
    have IH := decimal_any F (u / 10) (by rw [Nat.pow_succ] at h; omega) (by omega)
    have e : Lib.decDigits u = Lib.decDigits (u / 10) ++ [UInt8.ofNat (48 + u % 10)] := by rw [Lib.decDigits, dif_neg hu]
    obtain ⟨ds, hds⟩ : ∃ ds, Lib.decDigits (u / 10) = ds := ⟨_, rfl⟩
    have g1 : decide ((10 : Int) ≤ (u : Int)) = true := decide_eq_true (by omega)
    have hd : u % 10 < 10 := by omega
    obtain ⟨b, hb⟩ : ∃ b, UInt8.ofNat (48 + u % 10) = b := ⟨_, rfl⟩
    rw [hds, hb] at e
    rw [hds] at IH
    obtain ⟨q, hq⟩ : ∃ q : Int, ((u / 10 : Nat) : Int) = q := ⟨_, rfl⟩
    have e0 : (u : Int).tdiv 10 = q := by rw [Int.tdiv_eq_ediv_of_nonneg (by omega)]; omega
    have e0' : IntKind.i64.wrap q = q := IntWalk.i64_in _ (by omega)
    obtain ⟨r, hr⟩ : ∃ r : Int, ((u % 10 : Nat) : Int) = r := ⟨_, rfl⟩
    have e3 : (u : Int).tmod 10 = r := by rw [Int.tmod_eq_emod_of_nonneg (by omega)]; omega
    have e3' : IntKind.i64.wrap r = r := IntWalk.i64_in _ (by omega)
    have e1 : IntKind.i64.wrap (48 + r) = 48 + r := IntWalk.i64_in _ (by omega)
    have e2 : IntKind.u8.wrap (48 + r) = 48 + r := by
      have : ∀ d : Fin 10, IntKind.u8.wrap (48 + ((d.val : Nat) : Int)) = 48 + ((d.val : Nat) : Int) := by decide
      rw [← hr]
      exact this ⟨u % 10, hd⟩
    obtain ⟨z, hz⟩ : ∃ z, 48 + r = z := ⟨_, rfl⟩
    have hzb : z = (b.toNat : Int) := by rw [← hz, ← hr, ← hb, ← dec_byte (u % 10) hd]; omega
    rw [hz] at e1 e2
    rw [hq] at IH
    have hcv : ∀ (W : World) (g : Nat), W.cell? ⟨g, 0, none⟩ = some (.int .u8 z) → (convert 50 9 (.slice (some ⟨g, 0, none⟩) 1 1)).run Tryd.prog W = .ok (.string ⟨#[b]⟩) W := fun W g h => byte_string W g z b hzb h
    rw [e]
    have hlen : ds.length ≤ 19 := by
      rw [← hds, Lib.decDigits_length]
      have h1 := nDigits_le19 (u / 10) (by omega)
      exact h1
    obtain ⟨C, hC⟩ : ∃ C : ByteArray, (⟨#[b]⟩ : ByteArray) = C := ⟨_, rfl⟩
    obtain ⟨D, hD⟩ : ∃ D : ByteArray, (⟨ds.toArray⟩ : ByteArray) = D := ⟨_, rfl⟩
    obtain ⟨E, hE⟩ : ∃ E : ByteArray, (⟨(ds ++ [b]).toArray⟩ : ByteArray) = E := ⟨_, rfl⟩
    have hadd : ∀ w : World, (Op.stringOp .add D C).run Tryd.prog w = .ok (.string E) w := fun w => by
      rw [run_string_add_sum w D C (by rw [← hD, ← hC]; simp [ByteArray.size]; omega), ← hD, ← hC, ← hE]
      congr 2
    rw [hE]
    rw [hC] at hcv
    simp only [hD] at IH
    have IH1 : Hid (Calls Tryd.prog 18 #[.int .i64 q] w.drew fun e w' => e = .returned (.string D) ∧ Hid (Below w.heap.size w w')) := (IH w.drew).mono fun e w' h => ⟨h.1, below_step' (below_draws (Below.refl _ w) 1) h.2 (Nat.le_refl _)⟩
    have IH2 : Hid (Calls Tryd.prog 18 #[.int .i64 q] (w.alloc (.cells #[.int .u8 z] 5)).drew fun e w' => e = .returned (.string D) ∧ Hid (Below w.heap.size w w') ∧ w'.cell? ⟨w.heap.size, 0, none⟩ = some (.int .u8 z)) := (IH _).mono fun e w' h => ⟨h.1, below_step' (below_draws ((Below.refl _ w).alloc (Nat.le_refl _) _) 1) h.2 (by simp), by
      rw [h.2.cell (p := ⟨w.heap.size, 0, none⟩) (by simp)]
      go_simp⟩
    clear hb hzb e hu IH hds hd hq hr h h63 hlen hC hD hE
    go_enter Tryd.func18, Tryd.ntmps18
    go_wp2
    go_region_with (first
      | (go_at_call 18; with_reducible refine IH1.out.mono ?_; rintro e w1 ⟨rfl, hb1⟩)
      | (go_at_call 18; with_reducible refine IH2.out.mono ?_; rintro e w1 ⟨rfl, hb1, hc1⟩))
    all_goals
      go_wp2
      go_ret
      first
        | exact ⟨rfl, hb1.out⟩
        | exact ⟨rfl, hb1.out.alloc hb1.out.size _⟩

theorem itoa_len (n : Int) (h0 : -(2 ^ 63 - 1) ≤ n) (h1 : n < 2 ^ 63) : (Lib.itoa n).length ≤ 20 := by
  unfold Lib.itoa
  split
  · have := nDigits_le19 n.natAbs (by omega)
    rw [List.length_cons, Lib.decDigits_length]
    omega
  · have := nDigits_le19 n.toNat (by omega)
    rw [Lib.decDigits_length]
    omega

end Go.Proofs.YtpphmolfhogepaaDoor
