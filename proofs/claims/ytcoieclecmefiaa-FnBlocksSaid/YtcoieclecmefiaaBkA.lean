import Derived.Test.YtcoieclecmefiaaBlk
import Derived.Test.YtcoieclecmefiaaWild
/-
  The signals that are drawn for blocks: P6Any.
-/
set_option linter.unusedVariables false
set_option linter.unusedSimpArgs false
namespace Go.Proofs.Ytcoieclecmefiaa
open Go.RowKit Flt

set_option maxRecDepth 100000 in
set_option maxHeartbeats 8000000 in
theorem l03Signal_any (w0 : World) (B : Nat) (a : Option Addr) (len cap : Nat) (hr : Bytes w0 a len cap) (n : Nat) (hn : 0 < n) (hn2 : n ≤ 100) (w : World) (hB : B < w.heap.size) (h : Src w0 B a len cap 0 w) :
    Calls Try.prog 78 #[.pointer (some ⟨B, 0, none⟩), .int .i64 n] w fun e w' => ∃ v xs, e = .returned v ∧ Row w' w.heap.size 26 v (cvals xs) ∧ xs.length ≤ n ∧ WfC xs ∧ Below w0.heap.size w0 w' := by
  obtain ⟨i0, hi, hz0, hz1, hz2⟩ := info_parts info_c128
  go_enter Try.func78, Try.ntmps78
  go_wp2_with fail
  refine (pick_any w0 B a len cap hr 0 (by omega) ((n : Int) + 1) (by omega) (by omega) _ (h.alloc _)).mono ?_
  rintro e w1 ⟨k0, j0, l0, l1, rfl, i0', i1', hs, hg⟩
  have hrow : Row w1 w.heap.size 26 (.slice (some ⟨w.heap.size, 0, none⟩) 0 0) (cvals []) := Row.kept (World.ownsRow_lit w #[] 0 (Nat.le_refl _) (by unfold maxLen; omega) rfl) hg (.inr (by simp [Value.ownBlock]; omega))
  obtain ⟨kk, rfl⟩ : ∃ kk : Nat, k0 = kk := ⟨k0.toNat, by omega⟩
  have HS := Lib.hid hs
  have HR := Lib.hid hrow
  have hkn : kk ≤ n := by omega
  have hsz1 : w.heap.size ≤ w1.heap.size := by have := hg.size; simp at this; omega
  clear hs hg hrow h
  go_wp2
  go_loopw [5, 6] (fun v k wr => ∃ (m : Nat) (xs : List C) (j : Int), k = .int .i64 m ∧ m + xs.length ≤ n ∧ 0 ≤ j ∧ j ≤ 2 + 12 * (xs.length : Int) ∧ w.heap.size ≤ wr.heap.size ∧ Src w0 B a len cap j wr ∧ Row wr w.heap.size 26 v (cvals xs) ∧ WfC xs) (fun _ k _ => (intOf k).toNat)
  case atStart => exact ⟨kk, [], j0, rfl, by simpa using hkn, by omega, by simp; omega, hsz1, HS.out, HR.out, by intro p hp; cases hp⟩
  case round =>
    clear HS HR
    obtain ⟨m, xs, j, rfl, hm, hj0, hj1, hsz, hs, hrw, hwf⟩ := hrel
    have HS := Lib.hid hs
    have HR := Lib.hid hrw
    have HW := Lib.hid hwf
    clear hs hrw hwf
    by_cases hlt : 0 < m
    · have hxl : (cvals xs).length = xs.length := cvals_length xs
      have hxn : (xs.length : Int) ≤ 100 := by omega
      go_wp2_with fail
      refine (number_any w0 B a len cap hr j (by omega) _ HS.out).mono ?_
      rintro e w2 ⟨p, q, l2, hp, hq, rfl, k0, k1, hs2, hg2⟩
      have hr2 := HR.out.kept hg2 (.inr (fun e => by have := (HR.out.lt _ e).1; omega))
      have HR2 := Lib.hid hr2
      have HS2 := Lib.hid hs2
      have HWN := Lib.hid (wfC_snoc HW.out hp hq)
      have hz2' : w.heap.size ≤ w2.heap.size := Nat.le_trans hsz hg2.size
      clear hr2 hs2 hg2 hp hq HR HS
      go_wp2_with (at_builtin; refine wpList_append_own _ rfl _ _ 24 rfl w.heap.size 26 i0 (.complex .f64 0 0) 1 16 Try.underlying24 hi hz0 hz1 hz2 rfl (by decide) _ _ _ rfl (HR2.out.alloc _) ⟨_, 0, none⟩ 1 1 [.complex .f64 p q] rfl rfl (cell_one_new _ _ _) (by intro u hu; simp at hu; subst hu; rfl) (by rw [hxl]; simp only [maxLen]; omega) (by rw [hxl]; omega) (by simp; omega) ?_)
      intro v' w3 hown' hgrow _
      have hlt' := (HR2.out.alloc (.cells #[.complex .f64 p q] 26)).lt
      have HS4 := Lib.hid ((HS2.out.alloc _).other hgrow (fun e => by have := (hlt' _ e).1; omega) (fun k e => by have h1 := (hlt' _ e).1; have h2 := HS2.out.new; omega))
      have HO' : Hid (Row w3 w.heap.size 26 v' (cvals (xs ++ [(p, q)]))) := by
        show w3.ownsRow _ _ _ _ _ _
        rw [cvals_snoc, List.length_append, cvals_length]
        exact hown'
      have hz3 : w.heap.size ≤ w3.heap.size := by have := hgrow.size; simp at this; omega
      clear hown' hgrow hlt' HR2 HS2
      go_wp2
      go_roundw
      case rel => first | exact ⟨m - 1, xs ++ [(p, q)], l2, by go_num, by simp; omega, by omega, by simp; omega, hz3, HS4.out, HO'.out, HWN.out⟩ | ((repeat apply Exists.intro); refine ⟨?_, rfl⟩; exact ⟨m - 1, xs ++ [(p, q)], l2, by go_num, by simp; omega, by omega, by simp; omega, hz3, HS4.out, HO'.out, HWN.out⟩)
      case measure => simp [intOf]; omega
    · have e : m = 0 := by omega
      subst e
      go_wp2
      go_ret
      exact ⟨_, xs, rfl, HR.out, by omega, HW.out, HS.out.below⟩

theorem p6Any_any (a : Option Addr) (len cap : Nat) (zs : List Int) (n : Nat) (hn : 0 < n) (hn2 : n ≤ 100) (w : World) (hr : IsRow .u8 w a len cap zs) :
    Calls Try.prog 34 #[.slice a len cap, .int .i64 n] w (Wild n w) := by
  go_enter Try.func34, Try.ntmps34
  go_wp2_with (first | (go_at_call 42; go_in))
  refine (l03Signal_any w w.heap.size a len cap ⟨zs, hr⟩ n hn hn2 _ (by simp) src_new).mono ?_
  rintro e w2 ⟨v, xs, rfl, h1, h2, h3, h4⟩
  have H := Lib.hid (And.intro (h1.base (show w.heap.size ≤ _ by simp)) (And.intro h2 (And.intro h3 h4)))
  clear h1 h2 h3 h4
  go_wp2
  go_ret
  exact ⟨v, xs, rfl, H.out⟩

end Go.Proofs.Ytcoieclecmefiaa
