import Derived.Test.YtnbmbegjpkebmaaAdPure
import Derived.Test.YtnbmbegjpkebmaaAddN
/-
  slices.Clone of complex numbers.
-/
set_option linter.unusedVariables false
set_option linter.unusedSimpArgs false
namespace Go.Proofs.Ytnbmbegjpkebmaa
open Go.RowKit Flt Fast

theorem addr_off (g o j : Nat) : (⟨g, o, none⟩ : Addr).add j = ⟨g, o + j, none⟩ := by unfold Addr.add; split <;> simp_all

set_option maxRecDepth 100000 in
set_option maxHeartbeats 4000000 in
theorem clone_any {v : Value} {xs : List C} {w : World} (h : RdC w v xs) (hl : xs.length ≤ 1000) :
    Calls Try.prog 31 #[v] w fun e w' => ∃ u, e = .returned u ∧ Row w' w.heap.size 32 u (cvals xs) ∧ Below w.heap.size w w' := by
  obtain ⟨i0, hi, hz0, hz1, hz2⟩ := info_parts info_c128
  obtain ⟨a, cap, rfl, h1, h2, h3⟩ := h
  cases a with
  | none =>
    have h0 : xs.length = 0 := by
      apply Nat.eq_zero_of_not_pos
      intro hp
      obtain ⟨g, o, e, -⟩ := h3 0 hp
      cases e
    obtain rfl := List.eq_nil_of_length_eq_zero h0
    have hq : ∀ w, (binOp .eql 24 (.slice none ([] : List C).length cap) (.slice none 0 0)).run Try.prog w = .ok (.bool true) w := fun w => Lib.run_eql_slice_nil w _ _ none _ cap 0 0 Try.underlying24
    simp only [List.length_nil] at hq ⊢
    clear h3 h1 h2
    go_enter Try.func31, Try.ntmps31
    go_wp2
    go_ret
    exact ⟨_, rfl, World.ownsRow_nil _ _ _ _, Below.refl _ _⟩
  | some x =>
    have hn : ∀ (nn : Nat) (j : Nat) (u : Value), (cvals xs)[j]? = some u → ((w.drewN nn).alloc (.cells #[] 32)).cell? (x.add j) = some u := by
      intro nn j u hu
      have hj : j < xs.length := by have := (List.getElem?_eq_some_iff.1 hu).1; rwa [cvals_length] at this
      obtain ⟨g, o, e, hg, hc⟩ := h3 j hj
      cases e
      rw [addr_off]
      have hb : Below w.heap.size w ((w.drewN nn).alloc (.cells #[] 32)) := (below_draws (Below.refl _ _) nn).alloc (Nat.le_refl _) _
      rw [hb.cell hg, hc, ← hu]
      have e2 := cvals_getD hj
      have e3 : (cvals xs).getD j undef = u := by simp [List.getD, hu]
      rw [hu, ← e3, e2]
    have hone : ∀ u ∈ cvals xs, u.oneCell' = true := by
      intro u hu
      obtain ⟨p, -, rfl⟩ := List.mem_map.1 hu
      rfl
    have hcl : (cvals xs).length = xs.length * 1 := by rw [cvals_length, Nat.mul_one]
    obtain ⟨L, hL⟩ : ∃ L, xs.length = L := ⟨_, rfl⟩
    rw [hL] at hl h1 hcl ⊢
    have HN := Lib.hid (hn 0)
    have HON := Lib.hid hone
    have HCL := Lib.hid hcl
    have hmax := maxLen_int (Nat.le_trans h1 h2)
    have hq : ∀ w, (binOp .eql 24 (.slice (some x) L cap) (.slice none 0 0)).run Try.prog w = .ok (.bool false) w := fun w => Lib.run_eql_slice_nil w _ _ (some x) L cap 0 0 Try.underlying24
    clear h3 hn hone hcl hL
    go_enter Try.func31, Try.ntmps31
    go_wp2_with (at_builtin; refine wpList_append_own _ rfl _ _ 24 rfl w.heap.size 32 i0 (.complex .f64 0 0) 1 16 Try.underlying24 hi hz0 hz1 hz2 rfl (by decide) _ 0 [] rfl (World.ownsRow_lit w #[] 0 (Nat.le_refl _) (by unfold maxLen; omega) rfl) x L cap (cvals xs) rfl HCL.out HN.out HON.out (by simp only [maxLen]; omega) (by omega) (by simp) ?_)
    intro v' w1 hown' hgrow _
    have HO : Hid (Row w1 w.heap.size 32 v' (cvals xs)) := by
      show w1.ownsRow _ _ _ _ _ _
      rw [HCL.out, Nat.mul_one]
      simpa using hown'
    have HB : Hid (Below w.heap.size w w1) := ((Below.refl w.heap.size w).alloc (Nat.le_refl _) _).grown hgrow (by simp) (fun b e => by simp [Value.ownBlock] at e; omega)
    clear hown' hgrow
    go_wp2
    go_ret
    exact ⟨_, rfl, HO.out, HB.out⟩

end Go.Proofs.Ytnbmbegjpkebmaa
