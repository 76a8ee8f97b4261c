import Derived.Test.YtnbmbegjpkebmaaP6A
import Derived.Test.YtnbmbegjpkebmaaAppW
/-
  f6part: a part of a signal.
-/
set_option linter.unusedVariables false
set_option linter.unusedSimpArgs false
namespace Go.Proofs.Ytnbmbegjpkebmaa
open Go.RowKit Flt Fast

set_option maxRecDepth 100000 in
set_option maxHeartbeats 4000000 in
theorem part_any (a : Option Addr) (L cap i j : Nat) (xs : List C) (w : World) (hr : RdO w.heap.size w (.slice a L cap) xs) (hij : i ≤ j) (hj : j ≤ L) (hL : L ≤ 1000000) :
    Calls Try.prog 11 #[.slice a L cap, .int .i64 i, .int .i64 j] w fun e w' => ∃ v, e = .returned v ∧ Row w' w.heap.size 32 v (cvals ((xs.drop i).take (j - i))) ∧ Below w.heap.size w w' := by
  obtain ⟨i0, hi, hz0, hz1, hz2⟩ := info_parts info_c128
  have hlen : xs.length = L := by
    obtain ⟨a', c', e, -⟩ := hr.find
    simp only [Value.slice.injEq] at e; exact e.2.1.symm
  obtain ⟨ys, hys⟩ : ∃ ys, (xs.drop i).take (j - i) = ys := ⟨_, rfl⟩
  have hyl : ys.length = j - i := by rw [← hys, List.length_take, List.length_drop, hlen]; omega
  have hyc : ∀ k, k < j - i → ys.getD k (0, 0) = xs.getD (i + k) (0, 0) := fun k hk => by
    rw [← hys]
    simp [List.getD, List.getElem?_take, hk]
  rw [hys]
  have hyl2 : ys.length ≤ 1000000 := by omega
  have HLit : Hid (Row (w.alloc (.cells #[] 32)) w.heap.size 32 (.slice (some ⟨w.heap.size, 0, none⟩) 0 0) (cvals [])) := World.ownsRow_lit w #[] 0 (Nat.le_refl _) (by unfold maxLen; omega) rfl
  have HFin : Hid (∀ (w1 : World) v', Row w1 w.heap.size 32 v' (cvals ([] ++ ys)) → (w.alloc (.cells #[] 32)).grownBy w1 (Value.slice (some ⟨w.heap.size, 0, none⟩) 0 0).ownBlock →
      Row w1 w.heap.size 32 v' (cvals ys) ∧ Below w.heap.size w w1) := fun w1 v' hown hgrow =>
    ⟨hown, ((Below.refl w.heap.size w).alloc (Nat.le_refl _) _).grown hgrow (by simp) (fun b e => by simp [Value.ownBlock] at e; omega)⟩
  have hrd : ∀ (x : Option Addr) (c : Nat), j - i ≤ c → c ≤ maxLen → (∀ k, k < j - i → ∃ g o, x = some ⟨g, o, none⟩ ∧ g < w.heap.size ∧ w.cell? ⟨g, o + k, none⟩ = some (.complex .f64 (xs.getD (i + k) (0, 0)).1 (xs.getD (i + k) (0, 0)).2)) →
      RdC (w.alloc (.cells #[] 32)) (.slice x (j - i) c) ys := fun x c h1 h2 h3 => by
    refine ⟨x, c, by rw [hyl], by rw [hyl]; exact h1, h2, fun k hk => ?_⟩
    rw [hyl] at hk
    obtain ⟨g, o, e, hg, hc⟩ := h3 k hk
    refine ⟨g, o, e, by simp; omega, ?_⟩
    rw [((Below.refl w.heap.size w).alloc (Nat.le_refl _) (.cells #[] 32)).cell hg, hc, hyc k hk]
  cases hr with
  | nil a cap hm =>
    obtain rfl : i = 0 := by omega
    obtain rfl : j = 0 := by omega
    have HRD := Lib.hid (fun x c (h : c ≤ maxLen) => hrd x c (by omega) h (fun k hk => by omega))
    clear hyc hrd hyl hys hlen
    cases a with
    | none =>
      go_enter Try.func11, Try.ntmps11
      go_wp2_with (at_builtin; refine wpList_app rfl _ _ rfl Try.underlying24 i0 hi hz0 hz1 hz2 w.heap.size _ _ [] ys rfl rfl HLit.out (HRD.out _ _ (by omega)) (by simp) (by simp; omega) ?_; intro v' w1 hown' hgrow; have HE := Lib.hid (HFin.out _ _ hown' hgrow); clear hown' hgrow)
      go_ret
      exact ⟨_, rfl, HE.out.1, HE.out.2⟩
    | some x =>
      go_enter Try.func11, Try.ntmps11
      go_wp2_with (at_builtin; refine wpList_app rfl _ _ rfl Try.underlying24 i0 hi hz0 hz1 hz2 w.heap.size _ _ [] ys rfl rfl HLit.out (HRD.out _ _ (by omega)) (by simp) (by simp; omega) ?_; intro v' w1 hown' hgrow; have HE := Lib.hid (HFin.out _ _ hown' hgrow); clear hown' hgrow)
      all_goals
        go_ret
        exact ⟨_, rfl, HE.out.1, HE.out.2⟩
  | row g o cap L xs hxl h0 hc hm hb hcell =>
    have hmx := maxLen_int (Nat.le_trans hc hm)
    have HRD : Hid (∀ (x : Option Addr) (c : Nat), (x = some ⟨g, o + i, none⟩ ∨ j - i = 0) → j - i ≤ c → c ≤ maxLen → RdC (w.alloc (.cells #[] 32)) (.slice x (j - i) c) ys) := fun x c hx h1 h2 => hrd x c h1 h2 (fun k hk => by
      rcases hx with rfl | h0
      · exact ⟨g, o + i, rfl, hb, by rw [show o + i + k = o + (i + k) by omega]; exact hcell (i + k) (by omega)⟩
      · omega)
    clear hyc hrd hyl hys hlen hcell
    by_cases hci : cap = i
    · have hji : j - i = 0 := by omega
      have HR1 := Lib.hid (HRD.out (some ⟨g, o, none⟩) (cap - i) (.inr hji) (by omega) (by omega))
      rw [hji] at HR1
      clear HRD
      go_enter Try.func11, Try.ntmps11
      go_wp2_with (at_builtin; refine wpList_app rfl _ _ rfl Try.underlying24 i0 hi hz0 hz1 hz2 w.heap.size _ _ [] ys rfl (by first | rfl | (simp only [hci, Nat.sub_self]; rfl)) HLit.out HR1.out (by simp) (by simp; omega) ?_; intro v' w1 hown' hgrow; have HE := Lib.hid (HFin.out _ _ hown' hgrow); clear hown' hgrow)
      all_goals
        go_ret
        exact ⟨_, rfl, HE.out.1, HE.out.2⟩
    · have HR1 := Lib.hid (HRD.out (some ⟨g, o + i, none⟩) (cap - i) (.inl rfl) (by omega) (by omega))
      clear HRD
      go_enter Try.func11, Try.ntmps11
      go_wp2_with (at_builtin; refine wpList_app rfl _ _ rfl Try.underlying24 i0 hi hz0 hz1 hz2 w.heap.size _ _ [] ys rfl rfl HLit.out HR1.out (by simp) (by simp; omega) ?_; intro v' w1 hown' hgrow; have HE := Lib.hid (HFin.out _ _ hown' hgrow); clear hown' hgrow)
      all_goals
        go_ret
        exact ⟨_, rfl, HE.out.1, HE.out.2⟩

end Go.Proofs.Ytnbmbegjpkebmaa
