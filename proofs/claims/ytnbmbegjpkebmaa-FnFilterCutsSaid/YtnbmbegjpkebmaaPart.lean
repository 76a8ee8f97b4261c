import Derived.Test.YtnbmbegjpkebmaaDrw
import Derived.Test.YtnbmbegjpkebmaaCnv
import Derived.RangeFuncBox
import Derived.Maps.AppendAt
import Derived.OwnWalk
import Derived.Test.YtnbmbegjpkebmaaAppW
/-
  P6Any: a signal of any numbers.
-/
set_option linter.unusedVariables false
set_option linter.unusedSimpArgs false
namespace Go.Proofs.Ytnbmbegjpkebmaa
open Go.RowKit Flt Fast

set_option maxRecDepth 100000 in
set_option maxHeartbeats 4000000 in
theorem signal_any (w0 : World) (B : Nat) (a : Option Addr) (len cap : Nat) (hr : Bytes w0 a len cap) (n : Nat) (hn : 0 < n) (hn2 : n ≤ 100) (w : World) (hB : B < w.heap.size) (h : Src w0 B a len cap 0 w) :
    Calls Try.prog 25 #[.pointer (some ⟨B, 0, none⟩), .int .i64 n] w fun e w' => ∃ v xs, e = .returned v ∧ Row w' w.heap.size 32 v (cvals xs) ∧ xs.length ≤ n ∧ WfC xs ∧ Below w0.heap.size w0 w' := by
  obtain ⟨i0, hi, hz0, hz1, hz2⟩ := info_parts info_c128
  go_enter Try.func25, Try.ntmps25
  go_wp2_with fail
  refine (pick_any w0 B a len cap hr 0 (by omega) ((n : Int) + 1) (by omega) (by omega) _ (h.alloc _)).mono ?_
  rintro e w1 ⟨k0, j0, l0, l1, rfl, i0', i1', hs, hg⟩
  have hrow : Row w1 w.heap.size 32 (.slice (some ⟨w.heap.size, 0, none⟩) 0 0) (cvals []) := Row.kept (World.ownsRow_lit w #[] 0 (Nat.le_refl _) (by unfold maxLen; omega) rfl) hg (.inr (by simp [Value.ownBlock]; omega))
  obtain ⟨kk, rfl⟩ : ∃ kk : Nat, k0 = kk := ⟨k0.toNat, by omega⟩
  have HS := Lib.hid hs
  have HR := Lib.hid hrow
  have hkn : kk ≤ n := by omega
  have hsz1 : w.heap.size ≤ w1.heap.size := by have := hg.size; simp at this; omega
  clear hs hg hrow h
  go_wp2
  go_loopw [5, 6] (fun v k wr => ∃ (m : Nat) (xs : List C) (j : Int), k = .int .i64 m ∧ m + xs.length ≤ n ∧ 0 ≤ j ∧ j ≤ 2 + 20 * (xs.length : Int) ∧ w.heap.size ≤ wr.heap.size ∧ Src w0 B a len cap j wr ∧ Row wr w.heap.size 32 v (cvals xs) ∧ WfC xs) (fun _ k _ => (intOf k).toNat)
  case atStart => exact ⟨kk, [], j0, rfl, by simpa using hkn, by omega, by simp; omega, hsz1, HS.out, HR.out, by intro p hp; cases hp⟩
  case round =>
    clear HS HR
    obtain ⟨m, xs, j, rfl, hm, hj0, hj1, hsz, hs, hrw, hwf⟩ := hrel
    have HS := Lib.hid hs
    have HR := Lib.hid hrw
    have HW := Lib.hid hwf
    clear hs hrw hwf
    by_cases hlt : 0 < m
    · have hxl : (cvals xs).length = xs.length := cvals_length xs
      have hxn : (xs.length : Int) ≤ 100 := by omega
      go_wp2_with fail
      refine (number_any w0 B a len cap hr j (by omega) _ HS.out).mono ?_
      rintro e w5 ⟨p, q, j5, hp, hq, rfl, k6, k7, hs5, hg5⟩
      have hr5 : Row w5 w.heap.size 32 u5 (cvals xs) := HR.out.kept hg5 (.inr (fun e => by have := (HR.out.lt _ e).1; omega))
      have hz5 : w.heap.size ≤ w5.heap.size := Nat.le_trans hsz hg5.size
      have HFin : Hid (∀ (w6 : World) v', w6.ownsRow w.heap.size 32 1 v' (xs.length + 1) (cvals xs ++ [.complex .f64 p q]) → (w5.alloc (.cells #[.complex .f64 p q] 32)).grownBy w6 u5.ownBlock →
          w.heap.size ≤ w6.heap.size ∧ Src w0 B a len cap j5 w6 ∧ Row w6 w.heap.size 32 v' (cvals (xs ++ [(p, q)])) ∧ WfC (xs ++ [(p, q)])) := fun w6 v' hown hgr => by
        refine ⟨by have := hgr.size; simp at *; omega, (hs5.alloc _).other hgr (fun e => ?_) (fun k e => ?_), ?_, wfC_snoc HW.out hp hq⟩
        · have := (hr5.lt _ e).1; omega
        · have h1 := (hr5.lt _ e).1; have h2 := hs5.new; omega
        · show w6.ownsRow _ _ _ _ _ _
          rw [cvals_snoc, List.length_append, cvals_length]
          exact hown
      have HR5 := Lib.hid hr5
      clear hr5 hs5 hg5 HR HS
      go_wp2_with (at_builtin; refine wpList_append_own _ rfl _ _ 24 rfl w.heap.size 32 i0 (.complex .f64 0 0) 1 16 Try.underlying24 hi hz0 hz1 hz2 rfl (by decide) _ _ _ rfl (HR5.out.alloc _) ⟨_, 0, none⟩ 1 1 [.complex .f64 _ _] rfl rfl (cell_one_new _ _ _) (by intro u hu; simp at hu; subst hu; rfl) (by rw [hxl]; simp only [maxLen]; omega) (by rw [hxl]; omega) (by simp; omega) ?_)
      intro v' w6 hown' hgrow _
      have HE := Lib.hid (HFin.out w6 v' hown' hgrow)
      clear hown' hgrow HR5 HFin hxl
      go_wp2
      go_roundw
      case rel => exact ⟨m - 1, xs ++ [(p, q)], j5, by go_num, by simp; omega, by omega, by simp; omega, HE.out⟩
      case measure => simp [intOf]; omega
    · have e : m = 0 := by omega
      subst e
      go_wp2
      go_ret
      exact ⟨_, xs, rfl, HR.out, by omega, HW.out, HS.out.below⟩

theorem p6Any_any (a : Option Addr) (len cap : Nat) (n : Nat) (hn : 0 < n) (hn2 : n ≤ 100) (w : World) (hr : ∃ zs, IsRow .u8 w a len cap zs) :
    Calls Try.prog 7 #[.slice a len cap, .int .i64 n] w (Wild n w) := by
  go_enter Try.func7, Try.ntmps7
  go_wp2_with (first | (go_at_call 26; go_in))
  refine (signal_any w w.heap.size a len cap hr n hn hn2 _ (by simp) src_new).mono ?_
  rintro e w1 ⟨v, xs, rfl, hrow, hl, hw, hb⟩
  have HE := Lib.hid (show Wild n w (.returned v) w1 from ⟨v, xs, rfl, hrow.base (by simp), hl, hw, hb⟩)
  clear hrow hl hw hb
  go_wp2
  go_ret
  exact HE.out

end Go.Proofs.Ytnbmbegjpkebmaa

/-
  f6part: a part of a signal.
-/
set_option linter.unusedVariables false
set_option linter.unusedSimpArgs false
namespace Go.Proofs.Ytnbmbegjpkebmaa
open Go.RowKit Flt Fast

set_option maxRecDepth 100000 in
set_option maxHeartbeats 4000000 in
theorem part_any (a : Option Addr) (L cap i j : Nat) (xs : List C) (w : World) (hr : RdO w.heap.size w (.slice a L cap) xs) (hij : i ≤ j) (hj : j ≤ L) (hL : L ≤ 1000000) :
    Calls Try.prog 11 #[.slice a L cap, .int .i64 i, .int .i64 j] w fun e w' => ∃ v, e = .returned v ∧ Row w' w.heap.size 32 v (cvals ((xs.drop i).take (j - i))) ∧ Below w.heap.size w w' := by
  obtain ⟨i0, hi, hz0, hz1, hz2⟩ := info_parts info_c128
  have hlen : xs.length = L := by
    obtain ⟨a', c', e, -⟩ := hr.find
    simp only [Value.slice.injEq] at e; exact e.2.1.symm
  obtain ⟨ys, hys⟩ : ∃ ys, (xs.drop i).take (j - i) = ys := ⟨_, rfl⟩
  have hyl : ys.length = j - i := by rw [← hys, List.length_take, List.length_drop, hlen]; omega
  have hyc : ∀ k, k < j - i → ys.getD k (0, 0) = xs.getD (i + k) (0, 0) := fun k hk => by
    rw [← hys]
    simp [List.getD, List.getElem?_take, hk]
  rw [hys]
  have hyl2 : ys.length ≤ 1000000 := by omega
  have HLit : Hid (Row (w.alloc (.cells #[] 32)) w.heap.size 32 (.slice (some ⟨w.heap.size, 0, none⟩) 0 0) (cvals [])) := World.ownsRow_lit w #[] 0 (Nat.le_refl _) (by unfold maxLen; omega) rfl
  have HFin : Hid (∀ (w1 : World) v', Row w1 w.heap.size 32 v' (cvals ([] ++ ys)) → (w.alloc (.cells #[] 32)).grownBy w1 (Value.slice (some ⟨w.heap.size, 0, none⟩) 0 0).ownBlock →
      Row w1 w.heap.size 32 v' (cvals ys) ∧ Below w.heap.size w w1) := fun w1 v' hown hgrow =>
    ⟨hown, ((Below.refl w.heap.size w).alloc (Nat.le_refl _) _).grown hgrow (by simp) (fun b e => by simp [Value.ownBlock] at e; omega)⟩
  have hrd : ∀ (x : Option Addr) (c : Nat), j - i ≤ c → c ≤ maxLen → (∀ k, k < j - i → ∃ g o, x = some ⟨g, o, none⟩ ∧ g < w.heap.size ∧ w.cell? ⟨g, o + k, none⟩ = some (.complex .f64 (xs.getD (i + k) (0, 0)).1 (xs.getD (i + k) (0, 0)).2)) →
      RdC (w.alloc (.cells #[] 32)) (.slice x (j - i) c) ys := fun x c h1 h2 h3 => by
    refine ⟨x, c, by rw [hyl], by rw [hyl]; exact h1, h2, fun k hk => ?_⟩
    rw [hyl] at hk
    obtain ⟨g, o, e, hg, hc⟩ := h3 k hk
    refine ⟨g, o, e, by simp; omega, ?_⟩
    rw [((Below.refl w.heap.size w).alloc (Nat.le_refl _) (.cells #[] 32)).cell hg, hc, hyc k hk]
  cases hr with
  | nil a cap hm =>
    obtain rfl : i = 0 := by omega
    obtain rfl : j = 0 := by omega
    have HRD := Lib.hid (fun x c (h : c ≤ maxLen) => hrd x c (by omega) h (fun k hk => by omega))
    clear hyc hrd hyl hys hlen
    cases a with
    | none =>
      go_enter Try.func11, Try.ntmps11
      go_wp2_with (at_builtin; refine wpList_app rfl _ _ rfl Try.underlying24 i0 hi hz0 hz1 hz2 w.heap.size _ _ [] ys rfl rfl HLit.out (HRD.out _ _ (by omega)) (by simp) (by simp; omega) ?_; intro v' w1 hown' hgrow; have HE := Lib.hid (HFin.out _ _ hown' hgrow); clear hown' hgrow)
      go_ret
      exact ⟨_, rfl, HE.out.1, HE.out.2⟩
    | some x =>
      go_enter Try.func11, Try.ntmps11
      go_wp2_with (at_builtin; refine wpList_app rfl _ _ rfl Try.underlying24 i0 hi hz0 hz1 hz2 w.heap.size _ _ [] ys rfl rfl HLit.out (HRD.out _ _ (by omega)) (by simp) (by simp; omega) ?_; intro v' w1 hown' hgrow; have HE := Lib.hid (HFin.out _ _ hown' hgrow); clear hown' hgrow)
      all_goals
        go_ret
        exact ⟨_, rfl, HE.out.1, HE.out.2⟩
  | row g o cap L xs hxl h0 hc hm hb hcell =>
    have hmx := maxLen_int (Nat.le_trans hc hm)
    have HRD : Hid (∀ (x : Option Addr) (c : Nat), (x = some ⟨g, o + i, none⟩ ∨ j - i = 0) → j - i ≤ c → c ≤ maxLen → RdC (w.alloc (.cells #[] 32)) (.slice x (j - i) c) ys) := fun x c hx h1 h2 => hrd x c h1 h2 (fun k hk => by
      rcases hx with rfl | h0
      · exact ⟨g, o + i, rfl, hb, by rw [show o + i + k = o + (i + k) by omega]; exact hcell (i + k) (by omega)⟩
      · omega)
    clear hyc hrd hyl hys hlen hcell
    by_cases hci : cap = i
    · have hji : j - i = 0 := by omega
      have HR1 := Lib.hid (HRD.out (some ⟨g, o, none⟩) (cap - i) (.inr hji) (by omega) (by omega))
      rw [hji] at HR1
      clear HRD
      go_enter Try.func11, Try.ntmps11
      go_wp2_with (at_builtin; refine wpList_app rfl _ _ rfl Try.underlying24 i0 hi hz0 hz1 hz2 w.heap.size _ _ [] ys rfl (by first | rfl | (simp only [hci, Nat.sub_self]; rfl)) HLit.out HR1.out (by simp) (by simp; omega) ?_; intro v' w1 hown' hgrow; have HE := Lib.hid (HFin.out _ _ hown' hgrow); clear hown' hgrow)
      all_goals
        go_ret
        exact ⟨_, rfl, HE.out.1, HE.out.2⟩
    · have HR1 := Lib.hid (HRD.out (some ⟨g, o + i, none⟩) (cap - i) (.inl rfl) (by omega) (by omega))
      clear HRD
      go_enter Try.func11, Try.ntmps11
      go_wp2_with (at_builtin; refine wpList_app rfl _ _ rfl Try.underlying24 i0 hi hz0 hz1 hz2 w.heap.size _ _ [] ys rfl rfl HLit.out HR1.out (by simp) (by simp; omega) ?_; intro v' w1 hown' hgrow; have HE := Lib.hid (HFin.out _ _ hown' hgrow); clear hown' hgrow)
      all_goals
        go_ret
        exact ⟨_, rfl, HE.out.1, HE.out.2⟩

end Go.Proofs.Ytnbmbegjpkebmaa
