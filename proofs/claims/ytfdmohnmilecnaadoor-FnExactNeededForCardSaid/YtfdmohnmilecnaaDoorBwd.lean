import Derived.Test.YtfdmohnmilecnaaDoorBwk
import Derived.Test.YtfdmohnmilecnaaDoorStpT
/-
  The iterator over a slice from its end: what it tells.
-/
set_option linter.unusedVariables false
set_option linter.unusedSimpArgs false
namespace Go.Proofs.YtfdmohnmilecnaaDoor
open Go.RowKit Go.Shelf
attribute [local go_sem] Oper.semAt_some wide_fn wide_depth wide_fnR wide_depthR

/-- The elements from the last one on: the state is how many are still to come. -/
def bwTold (L : Nat) (vals : Nat → Value) : Told Nat (Nat × Value) where
  encs := fun p => #[.int .i64 (p.1 : Int), p.2]
  step := fun s p s' => s = s' + 1 ∧ s ≤ L ∧ p = (s', vals s')
  silent := fun _ _ => False
  start := L
  last := 0

set_option maxRecDepth 100000 in
set_option maxHeartbeats 8000000 in
theorem backward_tells (n Bp n₁ B L cap : Nat) (vals : Nat → Value) (a : Option Addr) (w : World) (hBp : Bp < n₁) (hBpB : Bp ≠ B) (hn₁ : n₁ ≤ w.heap.size)
    (hp : w.cell? ⟨Bp, 0, none⟩ = some (.slice a L cap)) (hc : ∀ j, j < L → ∃ g, a = some ⟨g, 0, none⟩ ∧ g < n₁ ∧ g ≠ B ∧ L ≤ cap ∧ cap ≤ maxLen ∧ w.cell? ⟨g, j, none⟩ = some (vals j)) :
    Tells Fence.wide n Tryd.prog 140 #[.pointer (some ⟨Bp, 0, none⟩)] (bwTold L vals) (KeptBut n₁ B) w := by
  intro l J Jx W hW hJ hJx hS hY h0
  have hk0 : Below n₁ w W := hW.mono hn₁
  have hp' : W.cell? ⟨Bp, 0, none⟩ = some (.slice a L cap) := by rw [hk0.cell (p := ⟨Bp, 0, none⟩) hBp]; exact hp
  have hmax : (L : Int) ≤ 9223372036854775807 := by
    by_cases h0 : L = 0
    · omega
    · obtain ⟨g, _, _, _, hc1, hm, _⟩ := hc 0 (by omega)
      unfold maxLen at hm
      omega
  have HC := Lib.hid (fun (wr : World) (hk : KeptBut n₁ B W wr) (j : Nat) (hj : j < L) => by
    obtain ⟨g, e, h1, h2, h3, h4, h5⟩ := hc j hj
    exact (⟨g, e, h3, h4, by rw [hk.cell h1 h2, hk0.cell (p := ⟨g, j, none⟩) h1]; exact h5⟩ : ∃ g, a = some ⟨g, 0, none⟩ ∧ L ≤ cap ∧ cap ≤ maxLen ∧ wr.cell? ⟨g, j, none⟩ = some (vals j)))
  have HY := Lib.hid hY
  have H0 := Lib.hid h0
  have hL1 : IntKind.i64.wrap ((L : Int) - 1) = (L : Int) - 1 := IntWalk.i64_in _ (by omega)
  clear hJ hJx hS hY h0 hc hp hk0 hW
  refine callsIn_of_wp Tryd.func140 rfl trivial ?_ rfl
  simp only [Tryd.ntmps140, List.size_toArray, List.length_cons, List.length_nil, Nat.reduceAdd, Nat.reduceSub, Array.replicate_succ, Array.replicate_zero, List.push_toArray, List.append_toArray, List.nil_append, List.cons_append]
  gi_wp2
  gi_loopw [3] (fun i wr => ∃ (j : Int) (k : Nat), i = .int .i64 j ∧ j = (k : Int) - 1 ∧ k ≤ L ∧ J k wr ∧ KeptBut n₁ B W wr)
    (fun i _ => (intOf i + 1).toNat)
  case atStart => exact ⟨(L : Int) - 1, L, rfl, rfl, Nat.le_refl _, H0.out, KeptBut.refl _ _ _⟩
  case round =>
    obtain ⟨j, k, rfl, hj, hk, hJk, hkb⟩ := hrel
    have d0 : wr.cell? ⟨Bp, 0, none⟩ = some (.slice a L cap) := by rw [hkb.cell hBp hBpB]; exact hp'
    rcases k with _ | m
    · obtain rfl : j = -1 := by omega
      have HJ := Lib.hid hJk
      clear hj hJk hkb H0
      gi_wp2
      go_end0
      exact ⟨⟨_, rfl⟩, .inl HJ.out⟩
    · obtain rfl : j = (m : Int) := by omega
      have hlt : m < L := by omega
      obtain ⟨g, rfl, hcl, hcm, c0⟩ := HC.out wr hkb m hlt
      obtain ⟨v, hv⟩ : ∃ v, vals m = v := ⟨_, rfl⟩
      obtain ⟨fn, tmps, assign, body, hy, hR⟩ := HY.out (m + 1) (m, vals m) m wr hJk ⟨rfl, hk, rfl⟩
      dsimp only [bwTold] at hy
      rw [hv] at c0 hy
      have hm1 : IntKind.i64.wrap ((m : Int) - 1) = (m : Int) - 1 := IntWalk.i64_in _ (by omega)
      have HK := Lib.hid hkb
      clear hj hJk hkb H0 hv
      gi_wp2
      refine hR.mono ?_
      rintro e W3 (⟨rfl, hJ3, hk3⟩ | ⟨rfl, hJx3⟩)
      · have HJ3 := Lib.hid hJ3
        have HK3 := Lib.hid (HK.out.trans hk3)
        clear hJ3 hk3 hy hR c0 d0
        gi_wp2
        go_roundw
        case rel => exact ⟨(m : Int) - 1, m, rfl, rfl, by omega, HJ3.out, HK3.out⟩
        case measure => first | (simp [intOf]; done) | (simp [intOf]; omega)
      · have HJ3 := Lib.hid hJx3
        clear hJx3 hy hR c0 d0
        gi_wp2
        refine bodyPost_ret (results_none rfl _ _ _) rfl ?_
        exact ⟨⟨_, rfl⟩, .inr ⟨_, HJ3.out⟩⟩

end Go.Proofs.YtfdmohnmilecnaaDoor
