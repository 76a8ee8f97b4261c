import Derived.Test.YtgolfdngpphndaaWild
import Derived.Test.YtgolfdngpphndaaHas
/-
  The draw of a signal of few sixteenths: l01Plain, A2Signal.
-/
set_option linter.unusedVariables false
set_option linter.unusedSimpArgs false
namespace Go.Proofs.Ytgolfdngpphndaa
open Go.RowKit Flt Fast

/-- A word that is few sixteenths. -/
def Few (p : Nat) : Prop := ∃ k : Int, k.natAbs ≤ 1024 ∧ Has p ((k : Rat) / 16)
theorem Few.lt {p : Nat} (h : Few p) : p < 18446744073709551616 := by
  obtain ⟨k, -, h⟩ := h
  exact h.lt
theorem Few.zero : Few 0 := ⟨0, by decide, by
  have := has_zero
  rwa [show ((0 : Int) : Rat) / 16 = 0 by decide +kernel]⟩
/-- Numbers both parts of which are few sixteenths. -/
def FewC (xs : List C) : Prop := ∀ u ∈ xs, Few u.1 ∧ Few u.2
theorem FewC.wf {xs : List C} (h : FewC xs) : WfC xs := fun u hu => ⟨(h u hu).1.lt, (h u hu).2.lt⟩
theorem fewC_snoc {xs : List C} {p q : Nat} (h : FewC xs) (hp : Few p) (hq : Few q) : FewC (xs ++ [(p, q)]) := by
  intro u hu
  rcases List.mem_append.1 hu with h1 | h1
  · exact h u h1
  · rw [List.mem_singleton.1 h1]; exact ⟨hp, hq⟩

theorem has_sixteen : Has 4625196817309499392 16 := has_int (n := 16) (by decide) (by decide)
theorem few_of {r : Int} {q : Nat} (h0 : 0 ≤ r) (h1 : r ≤ 2048) (hq : cn .f64 q = floatBits .quo .f64 (floatOfInt .f64 (r - 1024)) 4625196817309499392) (hb : q < 2 ^ FloatKind.f64.format.width) : Few q := by
  have hF := fv_int_exact (n := r - 1024) (by omega)
  have hd : Dy 4 1024 (((r - 1024 : Int) : Rat) / 16) := ⟨r - 1024, by omega, by rw [show two 4 = 16 from rfl]; exact Rat.div_mul_cancel (by decide)⟩
  exact ⟨r - 1024, by omega, Has.of (IsF.op (IsF.ofInt _) has_sixteen.isF hq hb) (hd.fv_div (by omega) (by omega) (by decide) hF has_sixteen.fv)⟩

/-- A float of few sixteenths is returned, and the source has gone on. -/
def PicksV (w0 : World) (B : Nat) (a : Option Addr) (len cap : Nat) (i : Int) (most : Int) (w : World) (e : Ending) (w' : World) : Prop :=
  ∃ r j, Few r ∧ e = .returned (.float .f64 r) ∧ i ≤ j ∧ j ≤ i + most ∧ Src w0 B a len cap j w' ∧ w.grownBy w' (some B)

set_option maxHeartbeats 1000000 in
theorem plainV_any (w0 : World) (B : Nat) (a : Option Addr) (len cap : Nat) (hr : Bytes w0 a len cap) (i : Int) (hi : i < 4611686018427387903) (w : World) (h : Src w0 B a len cap i w) :
    Calls Try.prog 30 #[.pointer (some ⟨B, 0, none⟩)] w (PicksV w0 B a len cap i 2 w) := by
  go_enter Try.func30, Try.ntmps30
  go_wp2_with fail
  go_at_call 35
  refine (pick_any w0 B a len cap hr i hi 2049 (by omega) (by omega) _ h).mono ?_
  rintro e w1 ⟨r, j, r0, r1, rfl, j0, j1, hs, hg⟩
  go_wp2_with (refine wpList_farith _ rfl .quo (by decide) _ _ _ _ rfl .f64 _ _ rfl rfl ?_; intro q n hq hb)
  have HF := Lib.hid (few_of r0 (by omega) hq hb)
  go_ret
  exact ⟨_, j, HF.out, rfl, j0, j1, hs.draws _, grown_draws hg _⟩

/-- A signal of at most so many numbers of few sixteenths has been drawn. -/
def Drawn16 (n : Nat) (w : World) (e : Ending) (w' : World) : Prop := ∃ v xs, e = .returned v ∧ Row w' w.heap.size 24 v (cvals xs) ∧ xs.length ≤ n ∧ FewC xs ∧ Below w.heap.size w w'

set_option maxRecDepth 100000 in
set_option maxHeartbeats 8000000 in
theorem signal_few (w0 : World) (B : Nat) (a : Option Addr) (len cap : Nat) (hr : Bytes w0 a len cap) (n : Nat) (hn : 0 < n) (hn2 : n ≤ 100) (w : World) (hB : B < w.heap.size) (h : Src w0 B a len cap 0 w) :
    Calls Try.prog 21 #[.pointer (some ⟨B, 0, none⟩), .int .i64 n, .bool true] w fun e w' => ∃ v xs, e = .returned v ∧ Row w' w.heap.size 24 v (cvals xs) ∧ xs.length ≤ n ∧ FewC xs ∧ Below w0.heap.size w0 w' := by
  obtain ⟨i0, hi, hz0, hz1, hz2⟩ := info_parts info_c128
  go_enter Try.func21, Try.ntmps21
  go_wp2_with fail
  refine (pick_any w0 B a len cap hr 0 (by omega) ((n : Int) + 1) (by omega) (by omega) _ (h.alloc _)).mono ?_
  rintro e w1 ⟨k0, j0, l0, l1, rfl, i0', i1', hs, hg⟩
  have hrow : Row w1 w.heap.size 24 (.slice (some ⟨w.heap.size, 0, none⟩) 0 0) (cvals []) := Row.kept (World.ownsRow_lit w #[] 0 (Nat.le_refl _) (by unfold maxLen; omega) rfl) hg (.inr (by simp [Value.ownBlock]; omega))
  obtain ⟨kk, rfl⟩ : ∃ kk : Nat, k0 = kk := ⟨k0.toNat, by omega⟩
  have HS := Lib.hid hs
  have HR := Lib.hid hrow
  have hkn : kk ≤ n := by omega
  have hsz1 : w.heap.size ≤ w1.heap.size := by have := hg.size; simp at this; omega
  clear hs hg hrow h
  go_wp2
  go_loopw [7, 8] (fun v k wr => ∃ (m : Nat) (xs : List C) (j : Int), k = .int .i64 m ∧ m + xs.length ≤ n ∧ 0 ≤ j ∧ j ≤ 2 + 20 * (xs.length : Int) ∧ w.heap.size ≤ wr.heap.size ∧ Src w0 B a len cap j wr ∧ Row wr w.heap.size 24 v (cvals xs) ∧ FewC xs) (fun _ k _ => (intOf k).toNat)
  case atStart => exact ⟨kk, [], j0, rfl, by simpa using hkn, by omega, by simp; omega, hsz1, HS.out, HR.out, by intro p hp; cases hp⟩
  case round =>
    clear HS HR
    obtain ⟨m, xs, j, rfl, hm, hj0, hj1, hsz, hs, hrw, hwf⟩ := hrel
    have HS := Lib.hid hs
    have HR := Lib.hid hrw
    have HW := Lib.hid hwf
    clear hs hrw hwf
    by_cases hlt : 0 < m
    · have hxl : (cvals xs).length = xs.length := cvals_length xs
      have hxn : (xs.length : Int) ≤ 100 := by omega
      go_wp2_with fail
      refine (plainV_any w0 B a len cap hr j (by omega) _ HS.out).mono ?_
      rintro e w2 ⟨x, j2, hx, rfl, k0, k1, hs2, hg2⟩
      go_wp2_with fail
      refine (plainV_any w0 B a len cap hr j2 (by omega) _ hs2).mono ?_
      rintro e w4 ⟨y, j4, hy, rfl, k2, k3, hs4, hg3⟩
      have hg := grown_trans hg2 hg3
      have HX := Lib.hid hx
      have HY := Lib.hid hy
      clear hs2 hg2 hg3 hx hy
      have HG4 := Lib.hid hg
      have HS4 := Lib.hid hs4
      clear hs4 hg
      have tail : ∀ (w5 w6 : World) (v v' : Value) (p q : Nat) (j5 : Int), wr.grownBy w5 (some B) → Src w0 B a len cap j5 w5 → j5 ≤ j + 20 → 0 ≤ j5 → Row w5 w.heap.size 24 v (cvals xs) → Few p → Few q →
          w6.ownsRow w.heap.size 24 1 v' (xs.length + 1) (cvals xs ++ [.complex .f64 p q]) → (w5.alloc (.cells #[.complex .f64 p q] 24)).grownBy w6 v.ownBlock → w.heap.size ≤ wr.heap.size →
          ∃ (m' : Nat) (xs' : List C) (j' : Int), m - 1 = m' ∧ m' + xs'.length ≤ n ∧ 0 ≤ j' ∧ j' ≤ 2 + 20 * (xs'.length : Int) ∧ w.heap.size ≤ w6.heap.size ∧ Src w0 B a len cap j' w6 ∧ Row w6 w.heap.size 24 v' (cvals xs') ∧ FewC xs' := by
        intro w5 w6 v v' p q j5 hg hs hj5 hj50 hr hp hq hown hgr hsz
        refine ⟨m - 1, xs ++ [(p, q)], j5, rfl, by simp; omega, hj50, by simp; omega, ?_, (hs.alloc _).other hgr (fun e => ?_) (fun k e => ?_), ?_, fewC_snoc HW.out hp hq⟩
        · have := hgr.size; have := hg.size; simp at *; omega
        · have := (hr.lt _ e).1; omega
        · have h1 := (hr.lt _ e).1; have h2 := hs.new; omega
        · show w6.ownsRow _ _ _ _ _ _
          rw [cvals_snoc, List.length_append, cvals_length]
          exact hown
      have HT := Lib.hid tail
      clear tail
      have fin : ∀ w5, wr.grownBy w5 (some B) → Row w5 w.heap.size 24 u7 (cvals xs) := fun w5 hg => HR.out.kept hg (.inr (fun e => by have := (HR.out.lt _ e).1; omega))
      have HFI := Lib.hid fin
      clear fin
      go_wp2_with fail
      refine (one_any w0 B a len cap hr j4 (by omega) 4 (by omega) (by omega) _ HS4.out).mono ?_
      rintro e w5 ⟨b4, j5, rfl, k6, k7, hs5, hg5⟩
      have hgg := grown_trans HG4.out hg5
      have HR2 := Lib.hid (HFI.out _ hgg)
      have HG5 := Lib.hid hgg
      have HS5 := Lib.hid hs5
      have hz5 : w.heap.size ≤ w5.heap.size := Nat.le_trans hsz hgg.size
      clear hs5 hg5 hgg HR HS HG4 HS4
      cases b4
      all_goals
        go_wp2_with (at_builtin; refine wpList_append_own _ rfl _ _ 31 rfl w.heap.size 24 i0 (.complex .f64 0 0) 1 16 Try.underlying31 hi hz0 hz1 hz2 rfl (by decide) _ _ _ rfl (HR2.out.alloc _) ⟨_, 0, none⟩ 1 1 [.complex .f64 _ _] rfl rfl (cell_one_new _ _ _) (by intro u hu; simp at hu; subst hu; rfl) (by rw [hxl]; simp only [maxLen]; omega) (by rw [hxl]; omega) (by simp; omega) ?_)
        intro v' w6 hown' hgrow _
        obtain ⟨m', xs', j', e1, e2, e3, e4, e5, e6, e7, e8⟩ := HT.out w5 w6 _ v' _ _ j5 HG5.out HS5.out (by omega) (by omega) HR2.out HX.out (by first | exact HY.out | exact Few.zero) hown' hgrow hsz
        have HE := Lib.hid (And.intro e6 (And.intro e7 e8))
        clear e6 e7 e8 hown' hgrow HR2 HG5 HS5 HX HY HT HFI
        go_wp2
        go_roundw
        case rel => exact ⟨m', xs', j', by go_num, e2, e3, e4, e5, HE.out⟩
        case measure => simp [intOf]; omega
    · have e : m = 0 := by omega
      subst e
      go_wp2
      go_ret
      exact ⟨_, xs, rfl, HR.out, by omega, HW.out, HS.out.below⟩

theorem a2Signal_any (a : Option Addr) (len cap : Nat) (zs : List Int) (n : Nat) (hn : 0 < n) (hn2 : n ≤ 100) (w : World) (hr : IsRow .u8 w a len cap zs) :
    Calls Try.prog 9 #[.slice a len cap, .int .i64 n] w (Drawn16 n w) := by
  go_enter Try.func9, Try.ntmps9
  go_wp2_with (first | (go_at_call 16; go_in))
  refine (signal_few w w.heap.size a len cap ⟨zs, hr⟩ n hn hn2 _ (by simp) src_new).mono ?_
  rintro e w1 ⟨v, xs, rfl, hrow, hl, hw, hb⟩
  have HE := Lib.hid (show Drawn16 n w (.returned v) w1 from ⟨v, xs, rfl, hrow.base (by simp), hl, hw, hb⟩)
  clear hrow hl hw hb
  go_wp2
  go_ret
  exact HE.out

end Go.Proofs.Ytgolfdngpphndaa
