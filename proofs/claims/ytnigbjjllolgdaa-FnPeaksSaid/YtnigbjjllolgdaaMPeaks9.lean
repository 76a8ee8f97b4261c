/-
  Several texts of this claim, one behind the other; each says what it holds.
-/
import Derived.Test.YtnigbjjllolgdaaMPeaks8
/-
  FnPeaks: at least half of the numbers are on each side of the median.
-/
set_option linter.unusedVariables false
set_option linter.unusedSimpArgs false
namespace Go.Proofs.Ytnigbjjllolgdaa
open Go.RowKit Flt

def cnt (p : Nat → Bool) : Nat → Nat
  | 0 => 0
  | n + 1 => cnt p n + if p n = true then 1 else 0
theorem cnt_le (p : Nat → Bool) (n : Nat) : cnt p n ≤ n := by
  induction n with
  | zero => exact Nat.le_refl _
  | succ n ih => unfold cnt; split <;> omega
theorem cnt_take (P : Nat → Bool) (l : List Nat) : ∀ n, n ≤ l.length → cnt (fun i => P (l.getD i 0)) n = (l.take n).countP P := by
  intro n
  induction n with
  | zero => intro _; rfl
  | succ n ih =>
    intro h
    have hn : n < l.length := by omega
    unfold cnt
    rw [ih (by omega), List.take_add_one, List.countP_append]
    simp [List.getD, hn, List.countP_cons]
theorem cnt_list (P : Nat → Bool) (l : List Nat) : cnt (fun i => P (l.getD i 0)) l.length = l.countP P := by
  rw [cnt_take P l _ (Nat.le_refl _), List.take_length]
theorem cnt_ge {p : Nat → Bool} {a b n : Nat} (hb : b ≤ n) (h : ∀ i, a ≤ i → i < b → p i = true) : b - a ≤ cnt p n := by
  induction n generalizing b with
  | zero => omega
  | succ n ih =>
    unfold cnt
    by_cases hbn : b = n + 1
    · subst hbn
      by_cases ha : a ≤ n
      · rw [if_pos (h n ha (by omega))]
        have := ih (b := n) (Nat.le_refl _) (fun i h1 h2 => h i h1 (by omega))
        omega
      · omega
    · have := ih (b := b) (by omega) h
      omega

theorem med_counts {xs : List Nat} {m n : Nat} (hx : xs.length = n) (h0 : 0 < n) (h : MedOf xs m) :
    n ≤ 2 * cnt (fun i => decide (fq (xs.getD i 0) ≤ fq m)) n ∧ n ≤ 2 * cnt (fun i => decide (fq m ≤ fq (xs.getD i 0))) n := by
  obtain ⟨ys, hp, hs, rfl⟩ := h
  rw [hx]
  have hl : ys.length = n := by rw [hp.length_eq, hx]
  obtain ⟨q, hq⟩ : ∃ q, (n - 1) / 2 = q := ⟨_, rfl⟩
  rw [hq]
  have e1 : cnt (fun i => decide (fq (xs.getD i 0) ≤ fq (ys.getD q 0))) n = cnt (fun i => decide (fq (ys.getD i 0) ≤ fq (ys.getD q 0))) n := by
    have a := cnt_list (fun z => decide (fq z ≤ fq (ys.getD q 0))) xs
    have b := cnt_list (fun z => decide (fq z ≤ fq (ys.getD q 0))) ys
    rw [hx] at a
    rw [hl] at b
    rw [a, b, hp.countP_eq]
  have e2 : cnt (fun i => decide (fq (ys.getD q 0) ≤ fq (xs.getD i 0))) n = cnt (fun i => decide (fq (ys.getD q 0) ≤ fq (ys.getD i 0))) n := by
    have a := cnt_list (fun z => decide (fq (ys.getD q 0) ≤ fq z)) xs
    have b := cnt_list (fun z => decide (fq (ys.getD q 0) ≤ fq z)) ys
    rw [hx] at a
    rw [hl] at b
    rw [a, b, hp.countP_eq]
  rw [e1, e2]
  have c1 := cnt_ge (p := fun i => decide (fq (ys.getD i 0) ≤ fq (ys.getD q 0))) (a := 0) (b := q + 1) (n := n) (by omega) (fun i _ hi => by
    apply decide_eq_true
    by_cases e : i = q
    · subst e; exact Rat.le_refl
    · exact hs i q (by omega) (by omega))
  have c2 := cnt_ge (p := fun i => decide (fq (ys.getD q 0) ≤ fq (ys.getD i 0))) (a := q) (b := n) (n := n) (Nat.le_refl _) (fun i hi hi' => by
    apply decide_eq_true
    by_cases e : i = q
    · subst e; exact Rat.le_refl
    · exact hs q i (by omega) (by omega))
  omega

end Go.Proofs.Ytnigbjjllolgdaa
/-
  A number that is picked of the same bytes is the same.
-/
set_option linter.unusedVariables false
set_option linter.unusedSimpArgs false
namespace Go.Proofs.Ytnigbjjllolgdaa
open Go.RowKit Flt

set_option maxHeartbeats 1000000 in
theorem next_in0 (w0 : World) (B : Nat) (x : Addr) (len cap : Nat) (z : Int) (z0 : 0 ≤ z) (z1 : z ≤ 255) (hlen : len ≤ 9223372036854775807) (k : Nat) (hi : k < 4611686018427387904) (w : World) (h : Src w0 B (some x) len cap k w) (hl : k < len) (hz : w.cell? (x.add k) = some (.int .u8 z)) :
    Calls Try.prog 56 #[.pointer (some ⟨B, 0, none⟩)] w fun e w' => e = .returned (.int .i64 z) ∧ Below w0.heap.size w0 w' := by
  have HS := Lib.hid h
  obtain ⟨hb, hn, c0, c1, ⟨s, c2⟩, f1, f2, h0⟩ := h
  have hl' : (k : Int) < (len : Int) := by omega
  clear h0 hb
  go_enter Try.func56, Try.ntmps56
  go_wp2
  go_quiet (fail)
  go_wp2
  go_quiet (fail)
  go_wp2
  go_quiet (fail)
  go_wp2
  go_ret
  exact ⟨rfl, (src_step HS.out _ _ _).1.below⟩

set_option maxHeartbeats 1000000 in
theorem next_out0 (w0 : World) (B : Nat) (a : Option Addr) (cap : Nat) (w : World) (h : Src w0 B a 0 cap 0 w) (c2 : w.cell? ⟨B, 2, none⟩ = some (.int .u64 0)) :
    Calls Try.prog 56 #[.pointer (some ⟨B, 0, none⟩)] w fun e w' => e = .returned (.int .i64 (wrap64 (bits .and .u64 1312123 255))) ∧ Below w0.heap.size w0 w' := by
  have HS := Lib.hid h
  obtain ⟨hb, hn, c0, c1, -, f1, f2, h0⟩ := h
  clear h0 hb
  go_enter Try.func56, Try.ntmps56
  go_wp2
  go_quiet (fail)
  go_wp2
  go_quiet (fail)
  go_wp2
  go_ret
  exact ⟨rfl, (src_step HS.out _ _ _).1.below⟩

/-- The first number of a source. -/
theorem next_first (w : World) (a : Option Addr) (len cap : Nat) (zs : List Int) (hr : IsRow .u8 w a len cap zs) : ∃ X : Int, 0 ≤ X ∧ X ≤ 255 ∧ ∀ W, Below w.heap.size w W →
    Calls Try.prog 56 #[.pointer (some ⟨W.heap.size, 0, none⟩)] (W.alloc (.cells #[.slice a len cap, .int .i64 0, .int .u64 0] 68)) fun e w' => e = .returned (.int .i64 X) ∧ Below W.heap.size W w' := by
  by_cases hl : 0 < len
  · cases a with
    | none =>
      rcases hr with ⟨-, rfl, -⟩ | ⟨x, hx, -⟩
      · omega
      · cases hx
    | some x =>
      obtain ⟨z, hz, z0, z1⟩ := isRow_cell hr (Below.refl _ _) hl
      refine ⟨z, z0, z1, fun W hb => ?_⟩
      have hbW : Below w.heap.size w (W.alloc (.cells #[.slice (some x) len cap, .int .i64 0, .int .u64 0] 68)) := hb.alloc hb.size _
      exact next_in0 W W.heap.size x len cap z z0 z1 (isRow_len hr) 0 (by omega) _ src_new hl (by rw [hbW.cell (World.block_lt_of_cell? _ _ hz), hz])
  · obtain rfl : len = 0 := by omega
    have h255 := and255 1312123
    refine ⟨wrap64 (bits .and .u64 1312123 255), ?_, ?_, fun W hb => ?_⟩
    · rw [IntWalk.wrap64_in _ (by omega)]; omega
    · rw [IntWalk.wrap64_in _ (by omega)]; omega
    exact next_out0 W W.heap.size a cap _ src_new (by simp)

set_option maxHeartbeats 1000000 in
theorem pick_first (w : World) (a : Option Addr) (len cap : Nat) (zs : List Int) (hr : IsRow .u8 w a len cap zs) (n : Nat) (h2 : 2 ≤ n) (hn : n ≤ 100) : ∃ r : Nat, r < n ∧ ∀ W, Below w.heap.size w W →
    Calls Try.prog 7 #[.slice a len cap, .int .i64 n] W fun e w' => e = .returned (.int .i64 r) ∧ Below W.heap.size W w' := by
  obtain ⟨X, x0, x1, hX⟩ := next_first w a len cap zs hr
  have hm1 := Int.emod_nonneg X (show (n : Int) ≠ 0 by omega)
  have hm2 := Int.emod_lt_of_pos X (show 0 < (n : Int) by omega)
  obtain ⟨r, hr2⟩ : ∃ r : Nat, X % (n : Int) = (r : Int) := ⟨(X % (n : Int)).toNat, by omega⟩
  refine ⟨r, by omega, fun W hb => ?_⟩
  have ht : X.tmod (n : Int) = (r : Int) := by rw [Int.tmod_eq_emod_of_nonneg x0, hr2]
  have C := Lib.hid (hX W hb)
  have gn : decide ((n : Int) ≤ 1) = false := by simp; omega
  have g2 : decide (200 < (n : Int)) = false := by simp; omega
  have gz : ((n : Int) == 0) = false := by simp; omega
  have hn' : (n : Int) ≠ 0 := by omega
  clear hX hr hm1 hm2
  have P : Hid (Calls Try.prog 26 #[.pointer (some ⟨W.heap.size, 0, none⟩), .int .i64 n] (W.alloc (.cells #[.slice a len cap, .int .i64 0, .int .u64 0] 68)) fun e w' => e = .returned (.int .i64 r) ∧ Below W.heap.size W w') := by
    refine Lib.hid ?_
    go_enter Try.func26, Try.ntmps26
    go_wp2_with fail
    go_at_call 56
    refine C.out.mono ?_
    rintro e w1 ⟨rfl, hb1⟩
    go_wp2
    go_ret
    exact ⟨rfl, hb1⟩
  clear C
  go_enter Try.func7, Try.ntmps7
  go_wp2_with (first | (go_at_call 25; go_in))
  with_reducible refine P.out.mono ?_
  rintro e w1 ⟨rfl, hb1⟩
  go_wp2
  go_ret
  exact ⟨rfl, hb1⟩

end Go.Proofs.Ytnigbjjllolgdaa
/-
  FnUnwrapped: the phases that are drawn; what compares lists; absolute values.
-/
set_option linter.unusedVariables false
set_option linter.unusedSimpArgs false
namespace Go.Proofs.Ytnigbjjllolgdaa
open Go.RowKit Flt

theorem has_32 : Has 4629700416936869888 32 := has_int (n := 32) (by decide) (by decide)
/-- A drawn number by 32: no draw of its own. -/
theorem th_run {r : Int} (h0 : 0 ≤ r) (h1 : r ≤ 256) : ∃ d, Has d (th (r - 128)) ∧ ∀ (P : Program) (t : TypeId) (w : World), (binOp .quo t (.float .f64 (floatOfInt .f64 (r - 128))) (.float .f64 4629700416936869888)).run P w = .ok (.float .f64 d) w := by
  have hF := fv_int_exact (n := r - 128) (by omega)
  have hd : Dy 5 128 (((r - 128 : Int) : Rat) / 32) := th_dy (by omega)
  obtain ⟨d, hd, hr⟩ := run_has (.inr (.inr (.inr rfl))) (hd.fv_div (by omega) (by omega) (by decide) hF has_32.fv)
  exact ⟨d, hd, hr⟩

/-- The numerators of drawn phases. -/
def ThL (xs : List Nat) (K : Nat → Int) : Prop := (∀ i, -128 ≤ K i ∧ K i ≤ 128) ∧ ∀ i, i < xs.length → Has (xs.getD i 0) (th (K i))
theorem ThL.nil : ThL [] (fun _ => 0) := ⟨fun _ => ⟨by show (-128 : Int) ≤ 0; omega, by show (0 : Int) ≤ 128; omega⟩, fun i hi => by simp at hi⟩
theorem ThL.snoc {xs : List Nat} {K : Nat → Int} (h : ThL xs K) {d : Nat} {k : Int} (hd : Has d (th k)) (h0 : -128 ≤ k) (h1 : k ≤ 128) : ∃ K', ThL (xs ++ [d]) K' := by
  refine ⟨fun i => if i = xs.length then k else K i, fun i => ?_, fun i hi => ?_⟩
  · by_cases e : i = xs.length
    · simp only [e, if_true]; exact ⟨h0, h1⟩
    · simp only [e, if_false]; exact h.1 i
  · by_cases e : i = xs.length
    · subst e
      simp only [if_true]
      rw [show (xs ++ [d]).getD xs.length 0 = d by simp [List.getD]]
      exact hd
    · have hl : i < xs.length := by simp at hi; omega
      simp only [e, if_false]
      rw [show (xs ++ [d]).getD i 0 = xs.getD i 0 by simp [List.getD, List.getElem?_append_left, hl]]
      exact h.2 i hl

set_option maxRecDepth 100000 in
set_option maxHeartbeats 4000000 in
theorem p6Phases_any (a : Option Addr) (len cap : Nat) (n : Nat) (hn : n ≤ 100) (w : World) (hr : ∃ zs, IsRow .u8 w a len cap zs) :
    Calls Try.prog 6 #[.slice a len cap, .int .i64 n] w fun e w' => ∃ v xs, e = .returned v ∧ Row w' w.heap.size 30 v (flts xs) ∧ xs.length = n ∧ (∃ K, ThL xs K) ∧ Below w.heap.size w w' := by
  obtain ⟨i0, hi, hz0, hz1, hz2⟩ := info_parts info_f64'
  have HRR := Lib.hid hr
  obtain ⟨B, hB⟩ : ∃ B, w.heap.size = B := ⟨_, rfl⟩
  have HSRC : Hid (Src w B a len cap 0 (w.alloc (.cells #[.slice a len cap, .int .i64 0, .int .u64 0] 68))) := by rw [← hB]; exact Lib.hid src_new
  have HBB := Lib.hid hB
  clear hr
  go_enter Try.func6, Try.ntmps6
  go_wp2_with (first | (go_at_call 25; go_in))
  clear hB
  go_loopw [6, 7] (fun v k wr => ∃ (m : Nat) (xs : List Nat) (j : Int), k = .int .i64 m ∧ m ≤ n ∧ xs.length = m ∧ 0 ≤ j ∧ j ≤ 2 * (m : Int) ∧ B + 1 ≤ wr.heap.size ∧ Src w B a len cap j wr ∧ Row wr (B + 1) 30 v (flts xs) ∧ ∃ K, ThL xs K) (fun _ k _ => n - (intOf k).toNat)
  case atStart =>
    refine ⟨0, [], 0, rfl, Nat.zero_le _, rfl, by omega, by omega, by simp [HBB.out], HSRC.out.alloc _, ?_, _, ThL.nil⟩
    have := World.ownsRow_lit (w.alloc (.cells #[.slice a len cap, .int .i64 0, .int .u64 0] 68)) (e := 30) (base := B + 1) #[] 0 (size := 1) (by simp [HBB.out]) (by unfold maxLen; omega) rfl
    rw [show (w.alloc (.cells #[.slice a len cap, .int .i64 0, .int .u64 0] 68)).heap.size = B + 1 by simp [HBB.out]] at this
    exact this
  case round =>
    clear HSRC
    obtain ⟨m, xs, j, rfl, hm, hx, hj0, hj1, hsz, hs, hrw, hwf⟩ := hrel
    have HX := Lib.hid hx
    have HS := Lib.hid hs
    have HR := Lib.hid hrw
    have HW := Lib.hid hwf
    clear hx hs hrw hwf
    by_cases hlt : m < n
    · go_wp2_with fail
      refine (pick_any w B a len cap HRR.out j (by omega) 257 (by omega) (by omega) _ HS.out).mono ?_
      rintro e w4 ⟨r, j2, r0, r1, rfl, k0, k1, hs4, hg4⟩
      obtain ⟨p, hp, hrun⟩ := th_run r0 (by omega)
      have hr4 : Row w4 (B + 1) 30 u6 (flts xs) := HR.out.kept hg4 (.inr (fun e => by have := (HR.out.lt _ e).1; omega))
      have hz4 : B + 1 ≤ w4.heap.size := Nat.le_trans hsz hg4.size
      have hxl : (flts xs).length = m := by rw [flts_length, HX.out]
      have HFin : Hid (∀ (w6 : World) v', w6.ownsRow (B + 1) 30 1 v' (m + 1) (flts xs ++ [.float .f64 p]) → (w4.alloc (.cells #[.float .f64 p] 30)).grownBy w6 u6.ownBlock →
          B + 1 ≤ w6.heap.size ∧ Src w B a len cap j2 w6 ∧ Row w6 (B + 1) 30 v' (flts (xs ++ [p])) ∧ ∃ K, ThL (xs ++ [p]) K) := fun w6 v' hown hgr => by
        refine ⟨by have := hgr.size; simp at *; omega, (hs4.alloc _).other hgr (fun e => ?_) (fun k e => ?_), ?_, ?_⟩
        · have := (hr4.lt _ e).1; omega
        · have h1 := (hr4.lt _ e).1; have h2 := hs4.new; omega
        · show w6.ownsRow _ _ _ _ _ _
          rw [flts_snoc, List.length_append, hxl]
          exact hown
        · obtain ⟨K, hK⟩ := HW.out
          exact hK.snoc hp (by omega) (by omega)
      have HR4 := Lib.hid hr4
      clear hr4 hs4 hg4 HR HS hp
      go_wp2_with (at_builtin; refine wpList_append_own _ rfl _ _ 24 rfl (B + 1) 30 i0 (.float .f64 0) 1 8 Try.underlying24 hi hz0 hz1 hz2 rfl (by decide) _ _ _ rfl (HR4.out.alloc _) ⟨_, 0, none⟩ 1 1 [.float .f64 p] rfl rfl (cell_one_new _ _ _) (by intro u hu; simp at hu; subst hu; rfl) (by rw [hxl]; simp only [maxLen]; omega) (by rw [hxl]; omega) (by simp; omega) ?_)
      intro v' w6 hown' hgrow _
      have HE := Lib.hid (HFin.out w6 v' hown' hgrow)
      clear hown' hgrow HR4 HFin hrun hxl
      go_wp2
      go_roundw
      case rel => first | exact ⟨m + 1, xs ++ [p], j2, by go_num, by omega, by simp [HX.out], by omega, by omega, HE.out⟩ | ((repeat apply Exists.intro); refine ⟨?_, rfl⟩; exact ⟨m + 1, xs ++ [p], j2, by go_num, by omega, by simp [HX.out], by omega, by omega, HE.out⟩)
      case measure => simp [intOf]; omega
    · have e : m = n := by omega
      subst e
      go_wp2
      go_ret
      exact ⟨_, xs, rfl, HR.out.base (by rw [HBB.out]; omega), HX.out, HW.out, HS.out.below⟩

theorem th_zero : th 0 = 0 := by decide +kernel
theorem th_neg (k : Int) : -th k = th (-k) := by unfold th; rw [Rat.intCast_neg, Rat.div_def, Rat.div_def]; grind
/-- The absolute value of a multiple of a 32nd. -/
theorem f6abs_th (u : Nat) (k : Int) (h : Has u (th k)) : ∃ v, Has v (th k.natAbs) ∧ ∀ w,
    Calls Try.prog 12 #[.float .f64 u] w fun e w' => e = .returned (.float .f64 v) ∧ w' = w := by
  by_cases hq : k < 0
  · have g : (FloatKind.f64.format.order u 0 == some .lt) = true := by
      have := order_lt h.1 has_zero.1 (by rw [h.2, has_zero.2, ← th_zero]; exact th_lt hq)
      show (Ieee.double.order u 0 == some .lt) = true
      rw [this]; rfl
    refine ⟨Op.negFloat .f64 u, ?_, fun w => ?_⟩
    · have := has_neg h
      rw [th_neg, show -k = (k.natAbs : Int) by omega] at this
      exact this
    clear h
    go_enter Try.func12, Try.ntmps12
    go_wp2
    go_ret
    exact ⟨rfl, rfl⟩
  · have g : (FloatKind.f64.format.order u 0 == some .lt) = false := by
      show (Ieee.double.order u 0 == some .lt) = false
      rcases Int.lt_or_eq_of_le (show 0 ≤ k by omega) with h1 | h1
      · rw [order_gt h.1 has_zero.1 (by rw [h.2, has_zero.2, ← th_zero]; exact th_lt h1)]; rfl
      · rw [order_eq_q h.1 has_zero.1 (by rw [h.2, has_zero.2, ← th_zero, h1])]; rfl
    refine ⟨u, ?_, fun w => ?_⟩
    · rw [show (k.natAbs : Int) = k by omega]; exact h
    clear h
    go_enter Try.func12, Try.ntmps12
    go_wp2
    go_ret
    exact ⟨rfl, rfl⟩

theorem th_sub_run {u v : Nat} {a b : Int} (hu : Has u (th a)) (hv : Has v (th b)) (h : (a - b).natAbs ≤ 1073741824) :
    ∃ r, Has r (th (a - b)) ∧ ∀ (P : Program) (t : TypeId) (w : World), (binOp .sub t (.float .f64 u) (.float .f64 v)).run P w = .ok (.float .f64 r) w :=
  run_has (.inr (.inl rfl)) (fv_th_sub h hu.fv hv.fv)
theorem has_gt_f {u v : Nat} {p q : Rat} (hu : Has u p) (hv : Has v q) (h : p ≤ q) : (FloatKind.f64.format.order u v == some .gt) = false := by
  show (Ieee.double.order u v == some .gt) = false
  rcases Rat.le_iff_lt_or_eq.1 h with h1 | h1
  · rw [order_lt hu.1 hv.1 (by rw [hu.2, hv.2]; exact h1)]; rfl
  · rw [order_eq_q hu.1 hv.1 (by rw [hu.2, hv.2]; exact h1)]; rfl
theorem has_lt_f {u v : Nat} {p q : Rat} (hu : Has u p) (hv : Has v q) (h : q ≤ p) : (FloatKind.f64.format.order u v == some .lt) = false := by
  show (Ieee.double.order u v == some .lt) = false
  rcases Rat.le_iff_lt_or_eq.1 h with h1 | h1
  · rw [order_gt hu.1 hv.1 (by rw [hu.2, hv.2]; exact h1)]; rfl
  · rw [order_eq_q hu.1 hv.1 (by rw [hu.2, hv.2]; exact h1.symm)]; rfl
theorem has_ge_f {u v : Nat} {p q : Rat} (hu : Has u p) (hv : Has v q) (h : p < q) : (FloatKind.f64.format.order u v == some .gt || FloatKind.f64.format.order u v == some .eq) = false := by
  show (Ieee.double.order u v == some .gt || Ieee.double.order u v == some .eq) = false
  rw [order_lt hu.1 hv.1 (by rw [hu.2, hv.2]; exact h)]; rfl
theorem has_half : Has half (th 16) := by
  obtain ⟨x, e, hx⟩ := half_fv
  cases e
  exact hx
theorem has_mhalf : Has 13826050856027422720 (th (-16)) := ⟨⟨by decide, by decide⟩, by decide +kernel⟩

set_option maxRecDepth 100000 in
set_option maxHeartbeats 4000000 in
theorem smReals_any {w : World} {V V' : Value} {fs gs : List Nat} (h : Reads w V (flts fs)) (h' : Reads w V' (flts gs)) (hl : fs.length = gs.length) (he : ∀ i, i < fs.length → cn .f64 (fs.getD i 0) = cn .f64 (gs.getD i 0)) (hcl : fs.length ≤ 1000000) :
    Calls Try.prog 11 #[V, V'] w fun e w' => e = .returned (.bool true) ∧ ∃ m, w' = w.drewN m := by
  have hrd := fl_reads h
  have hrd' := fl_reads h'
  obtain ⟨a, cap, rfl⟩ := fl_form h
  obtain ⟨a', cap', rfl⟩ := fl_form h'
  simp only [flts_length] at *
  replace hrd := hrd _ _ _ rfl
  replace hrd' := hrd' _ _ _ rfl
  obtain ⟨c, hvc⟩ : ∃ c, fs.length = c := ⟨_, rfl⟩
  rw [← hl, hvc] at hrd' ⊢
  rw [hvc] at hrd he hcl
  have HF := Lib.hid hrd
  have HF' := Lib.hid hrd'
  have HE := Lib.hid he
  clear h h' hrd hrd' hl hvc he
  go_enter Try.func11, Try.ntmps11
  go_wp2
  go_loopw [5] (fun i wr => ∃ k m : Nat, i = .int .i64 k ∧ k ≤ c ∧ wr = w.drewN m) (fun i _ => c - (intOf i).toNat)
  case atStart => exact ⟨0, 0, rfl, Nat.zero_le _, rfl⟩
  case round =>
    obtain ⟨k, m, rfl, hk, hw⟩ := hrel
    have HW := Lib.hid hw
    clear hw
    by_cases hlt : k < c
    · obtain ⟨g, rfl, hg, hcell⟩ := HF.out k hlt
      obtain ⟨g', rfl, hg', hcell'⟩ := HF'.out k hlt
      obtain ⟨x, hx⟩ : ∃ x, fs.getD k 0 = x := ⟨_, rfl⟩
      obtain ⟨y, hy⟩ : ∃ y, gs.getD k 0 = y := ⟨_, rfl⟩
      have hcn := HE.out k hlt
      rw [hx] at hcell hcn
      rw [hy] at hcell' hcn
      have S := Lib.hid (fun w => l01SameFloat_cn x y hcn w)
      have c1 : wr.cell? ⟨g, k, none⟩ = some (.float .f64 x) := by rw [HW.out]; exact hcell
      have c2 : wr.cell? ⟨g', k, none⟩ = some (.float .f64 y) := by rw [HW.out]; exact hcell'
      clear hcell hcell' hg hg' hx hy hcn
      go_wp2
      go_quiet ((go_at_call 32; exact Calls.quiet_of_same (S.out _)))
      go_wp2
      go_roundw
      case rel => exact ⟨k + 1, m + nq, by go_num, by omega, by rw [HW.out, World.drewN_drewN]⟩
      case measure => simp [intOf]; omega
    · have e : k = c := by omega
      subst e
      go_wp2
      go_ret
      exact ⟨rfl, m, HW.out⟩

end Go.Proofs.Ytnigbjjllolgdaa
/-
  What the laws of chapters 4 and on begin with.
-/
set_option linter.unusedVariables false
set_option linter.unusedSimpArgs false
namespace Go.Proofs.Ytnigbjjllolgdaa
open Go.RowKit Flt Fast

set_option maxRecDepth 100000 in
theorem f6big_f (a : Option Addr) (n cap : Nat) (hn : n ≤ 4096) (w : World) : Calls Try.prog 5 #[.slice a n cap] w fun e w' => e = .returned (.bool false) ∧ w' = w := by
  have g : decide (4096 < (n : Int)) = false := decide_eq_false (by omega)
  go_enter Try.func5, Try.ntmps5
  go_wp2
  go_ret
  exact ⟨rfl, rfl⟩
set_option maxRecDepth 100000 in
theorem f6big_t (a : Option Addr) (n cap : Nat) (hn : 4096 < n) (hm : (n : Int) ≤ 9223372036854775807) (w : World) : Calls Try.prog 5 #[.slice a n cap] w fun e w' => e = .returned (.bool true) ∧ w' = w := by
  have g : decide (4096 < (n : Int)) = true := decide_eq_true (by omega)
  go_enter Try.func5, Try.ntmps5
  go_wp2
  go_ret
  exact ⟨rfl, rfl⟩

theorem Row.up {w w' : World} {B e : Nat} {v : Value} {cs : List Value} (h : Row w B e v cs) (hb : Below w.heap.size w w') : Row w' B e v cs := h.below hb (fun k e => (h.lt k e).2)

end Go.Proofs.Ytnigbjjllolgdaa
/-
  FnPeaks: what the law asks.
-/
set_option linter.unusedVariables false
set_option linter.unusedSimpArgs false
namespace Go.Proofs.Ytnigbjjllolgdaa
open Go.RowKit Flt

theorem psum_range {q : Nat → Rat} (hq : ∀ i, 0 ≤ q i ∧ q i ≤ 8) (k : Nat) : 0 ≤ psum q k ∧ psum q k ≤ 8 * (k : Rat) := by
  induction k with
  | zero => exact ⟨Rat.le_refl, by rw [show ((0 : Nat) : Rat) = 0 from rfl]; exact (by decide +kernel : (0 : Rat) ≤ 8 * 0)⟩
  | succ k ih =>
    rw [psum_succ, show ((k + 1 : Nat) : Rat) = (k : Rat) + 1 by rw [Rat.natCast_add]; rfl]
    have := hq k
    grind
theorem psum_112 {q : Nat → Rat} (hq : ∀ i, 0 ≤ q i ∧ q i ≤ 8) {k : Nat} (hk : k ≤ 14) : 0 ≤ psum q k ∧ psum q k ≤ 112 := by
  have h := psum_range hq k
  have hk' : (k : Rat) ≤ 14 := Rat.natCast_le_natCast.2 hk
  grind

theorem ints_len (zs : List Int) : (ints zs).length = zs.length := by simp [ints]
theorem in_reads {w : World} {a : Option Addr} {n cap : Nat} {zs : List Int} (h : Reads w (.slice a n cap) (ints zs)) {k : Nat} (hk : k < n) : ∃ g, a = some ⟨g, 0, none⟩ ∧ w.cell? ⟨g, k, none⟩ = some (.int .i64 (zs.getD k 0)) := by
  generalize hv : Value.slice a n cap = v at h
  generalize hc : ints zs = cs at h
  cases h with
  | none a' cap' => cases hv; omega
  | row g cap' L cs hL h0 hc' hm h =>
    cases hv
    refine ⟨g, rfl, ?_⟩
    rw [h k hk, ← hc, ints_getD (by rw [← hc, ints_len] at hL; omega)]

theorem has_mhalfP : Has 13826050865034621975 (fq 13826050865034621975) := ⟨⟨by decide, by decide⟩, rfl⟩
theorem has_halfQ : Has 4602678828179846167 (fq 4602678828179846167) := ⟨⟨by decide, by decide⟩, rfl⟩
theorem mhalfP_le : fq 13826050865034621975 ≤ -(1 / 2) := by decide +kernel
theorem halfQ_ge : 1 / 2 ≤ fq 4602678828179846167 := by decide +kernel

theorem pk_lt {xs : List Nat} {E : Nat → Int} (hK : PkL xs E) : ∀ z ∈ xs, Flt.Fin z := fun z hz => by
  obtain ⟨i, hi, rfl⟩ := List.getElem_of_mem hz
  have := (hK.2 i hi).1
  simpa [List.getD, hi] using this

/-- A round of the counting loop. -/
theorem cnt_step {u x : Nat} {S e : Int} (hu : Has u (th (4 * S))) (hx : Has x (th (4 * e))) (hb : (4 * S + 4 * e).natAbs ≤ 1073741824) : ∃ a, Has a (th (4 * (S + e))) ∧ ∀ (P : Program) (ty : TypeId) (w : World), (binOp .add ty (.float .f64 u) (.float .f64 x)).run P w = .ok (.float .f64 a) w := by
  have h := fv_th_add hb hu.fv hx.fv
  rw [show 4 * S + 4 * e = 4 * (S + e) by omega] at h
  exact run_has (.inl rfl) h

theorem sumO_same {y z : Nat → Option Nat} {n : Nat} (h : ∀ i, i < n → y i = z i) : sumO y n = sumO z n := by
  induction n with
  | zero => rfl
  | succ n ih =>
    unfold sumO
    rw [ih (fun i hi => h i (by omega)), h n (by omega)]
    split
    · rename_i h0; subst h0; exact h 0 (by omega)
    · rfl
/-- Powers that are apart, either way round. -/
theorem ap_both {xs gs : List Nat} {n : Nat} (hx : xs.length = n) (hg : gs.length = n) (h0 : 0 < n) (h14 : n ≤ 14) (hp : ∀ i, i < n → ∃ p, Fv (wO xs i) p ∧ 0 ≤ p ∧ p ≤ 64) (hq : ∀ i, i < n → ∃ p, Fv (wO gs i) p ∧ 0 ≤ p ∧ p ≤ 64) :
    ∃ s, Fv (apR xs gs) s ∧ Fv (apR gs xs) s ∧ 0 ≤ s := by
  have hk : apK n n = 0 := by unfold apK; rw [if_neg (by omega), if_neg (by omega)]
  have a : ∀ i, i < n → (∃ r, Fv (apO xs gs i) r ∧ 0 ≤ r ∧ r ≤ 128) ∧ apO gs xs i = apO xs gs i := fun i hi => by
    obtain ⟨p, p1, p2, p3⟩ := hp i hi
    obtain ⟨q, q1, q2, q3⟩ := hq i hi
    exact ap_fv p1 q1 p2 p3 q2 q3
  obtain ⟨s, s1, s2, -⟩ := sum_sizes h14 (fun i hi => (a i hi).1) n (Nat.le_refl _) h0
  refine ⟨s, ?_, ?_, s2⟩
  · unfold apR; rw [hx, hg, if_pos hk]; exact s1
  · unfold apR; rw [hx, hg, if_pos hk, sumO_same (fun i hi => (a i hi).2)]; exact s1
theorem pk_64 {xs : List Nat} {E : Nat → Int} (hK : PkL xs E) {i : Nat} (hi : i < xs.length) : ∃ p, Fv (wO xs i) p ∧ 0 ≤ p ∧ p ≤ 64 := by
  have h := hK.1 i
  refine ⟨_, pk_fv hK hi, ?_, ?_⟩
  · rw [← th_0]; exact th_le (by omega)
  · rw [show (64 : Rat) = th 2048 by decide +kernel]; exact th_le (by omega)
theorem near_zero {q : Nat → Rat} : Near 0 (psum q 0) (((0 : Nat) : Rat) * eps1) := by
  show Near 0 0 _
  rw [show ((0 : Nat) : Rat) = 0 from rfl, Rat.zero_mul]
  exact ⟨by decide +kernel, by decide +kernel⟩

end Go.Proofs.Ytnigbjjllolgdaa
/-
  FnPeaks: the law.
-/
set_option linter.unusedVariables false
set_option linter.unusedSimpArgs false
namespace Go.Proofs.Ytnigbjjllolgdaa
open Go.RowKit Flt

set_option maxRecDepth 100000 in
set_option maxHeartbeats 16000000 in
theorem fnPeaks_law (a0 : Option Addr) (len0 cap0 : Nat) (z0 : List Int) (a1 : Option Addr) (len1 cap1 : Nat) (z1 : List Int) (w : World) (h0 : IsRow .u8 w a0 len0 cap0 z0) (h1 : IsRow .u8 w a1 len1 cap1 z1) :
    Calls Try.prog 4 #[.slice a0 len0 cap0, .slice a1 len1 cap1] w fun e w' => e = .returned (.bool true) ∧ Below w.heap.size w w' := by
  have hm0 := isRow_len h0
  have hm1 := isRow_len h1
  by_cases hl0 : len0 ≤ 4096
  · have F0 := Lib.hid (f6big_f a0 len0 cap0 hl0)
    by_cases hl1 : len1 ≤ 4096
    · have F1 := Lib.hid (f6big_f a1 len1 cap1 hl1)
      have PK := Lib.hid (p6Pick_any w a1 len1 cap1 ⟨z1, h1⟩ 12 (by omega) (by omega))
      have PH := Lib.hid (fun (n : Nat) (hn : n ≤ 100) w1 (hb : Below w.heap.size w w1) => p6Powers_any a0 len0 cap0 n hn w1 ⟨z0, isRow_below h0 hb⟩)
      have PF := Lib.hid (fun (n : Nat) (h2 : 2 ≤ n) (hn : n ≤ 100) => pick_first w a0 len0 cap0 z0 h0 n h2 hn)
      clear h0 h1 hl0 hl1
      go_enter Try.func4, Try.ntmps4
      go_wp2_with fail
      with_reducible refine (F0.out _).mono ?_
      rintro e w' ⟨rfl, rfl⟩
      go_wp2_with fail
      with_reducible refine (F1.out _).mono ?_
      rintro e w' ⟨rfl, rfl⟩
      go_wp2_with fail
      with_reducible refine PK.out.mono ?_
      rintro e w1 ⟨n0, rfl, hn, hb⟩
      obtain ⟨n, hN⟩ : ∃ n : Nat, (3 : Int) + (n0 : Int) = (n : Int) := ⟨n0 + 3, by omega⟩
      have hn3 : 3 ≤ n := by omega
      have hn14 : n ≤ 14 := by omega
      have eN : IntKind.i64.wrap ((3 : Int) + (n0 : Int)) = (n : Int) := by rw [hN]; exact IntWalk.i64_in _ (by omega)
      have HB1 := Lib.hid hb
      obtain ⟨r, hr, hPF⟩ := PF.out n (by omega) (by omega)
      have HPF := Lib.hid hPF
      clear hb hn F0 F1 PK PF hPF
      go_wp2_with fail
      with_reducible refine (PH.out n (by omega) w1 HB1.out).mono ?_
      rintro e w2 ⟨v, xs, rfl, hrow, hlx, ⟨E, hK⟩, hb⟩
      have HX2 := Lib.hid hrow
      have HB2 := Lib.hid (below_step HB1.out hb HB1.out.size)
      have hfin := pk_lt hK
      have hzx : ∀ z ∈ xs, z < 18446744073709551616 := fun z hz => (hfin z hz).1
      obtain ⟨va, vc, rfl⟩ := fl_form hrow.reads
      rw [flts_length, hlx] at HX2 ⊢
      have hRK : ringK xs.length = 0 := by rw [hlx]; unfold ringK; rw [if_neg (by omega), if_neg (by omega)]
      have hpl : (pksR xs (some 4611686018427387904)).length ≤ 14 := by
        rw [show pksR xs (some 4611686018427387904) = pks xs (some 4611686018427387904) xs.length from if_pos hRK]
        exact Nat.le_trans (pks_len _ _ _) (by omega)
      have PAT := Lib.hid (fun (i : Nat) (hi : i < (pksR xs (some 4611686018427387904)).length) => pk_at hK hRK hi)
      have PI := Lib.hid (fun W h => peaks_impl xs hzx 4611686018427387904 _ has_two.isF (.slice va n vc) W h)
      have PS := Lib.hid (fun W h => peaks_spec xs hzx 4611686018427387904 _ has_two.isF (.slice va n vc) W h)
      have BI := Lib.hid (fun (k : Nat) W h => between_impl xs hzx (k : Int) (.slice va n vc) W h)
      obtain ⟨hck, c, hcF, c0, c1⟩ := cen_fv hK hlx hn3 hn14
      have CI := Lib.hid (fun W h => cen_impl xs hzx (.slice va n vc) W h)
      have MI := Lib.hid (fun W h => median_any xs n hlx (by omega) (by omega) hfin (.slice va n vc) W h)
      have hsk : smK n (r : Int) = 0 := by unfold smK; rw [if_neg (by omega), if_pos (.inl ⟨by omega, by omega⟩)]
      have hsn : smN n (r : Int) = n := by unfold smN; rw [if_pos hsk]
      have SI := Lib.hid (fun W h => smooth_impl xs hzx (r : Int) (.slice va n vc) W h)
      have SS := Lib.hid (fun W h => smooth_spec xs hzx (r : Int) (.slice va n vc) W h)
      have AI := Lib.hid (fun ys hy V' W h h' => apart_impl xs ys hzx hy (.slice va n vc) V' W h h')
      have AJ := Lib.hid (fun ys hy V' W h h' => apart_impl ys xs hy hzx V' (.slice va n vc) W h h')
      obtain ⟨hak, haz⟩ := ap_zero hK hlx hn3 hn14
      have HAZ := Lib.hid haz
      have SMF := Lib.hid (fun k => smooth_fv hK hlx hn3 hn14 hr k)
      have SMR := Lib.hid (smQ_range hK.1 n r)
      have SMS := Lib.hid (smQ_sum E n r hr)
      have HZX := Lib.hid hzx
      have HLX := Lib.hid hlx
      have HKK := Lib.hid hK
      have HCF := Lib.hid hcF
      have HCN := Lib.hid (show c ≤ ((n : Int) : Rat) from c1)
      have HC0 := Lib.hid c0
      have EB := Lib.hid (isum_pk hK.1)
      rw [hlx, hsk, hsn, Int.toNat_natCast] at SI SS
      rw [hRK] at PI PS
      rw [hck] at CI
      rw [hlx] at AI AJ PAT
      obtain ⟨zs, hzs⟩ : ∃ zs, pksR xs (some 4611686018427387904) = zs := ⟨_, rfl⟩
      rw [hzs] at PI PS PAT hpl
      clear hrow hK hb PH HB1 hzx hlx hfin hRK hck hcF c0 c1 hsk hsn haz hzs eN hN hr
      obtain ⟨L, hL⟩ : ∃ L, zs.length = L := ⟨_, rfl⟩
      rw [hL] at hpl PAT
      have HL := Lib.hid hL
      clear hL
      go_wp2_with fail
      with_reducible refine (PI.out w2 HX2.out.reads).mono ?_
      rintro e w3 ⟨pv, rfl, hrp, hb3⟩
      have HX3 := Lib.hid (HX2.out.up hb3)
      have HP3 := Lib.hid hrp
      have HB3 := Lib.hid (below_step HB2.out hb3 HB2.out.size)
      obtain ⟨pa, pc, rfl⟩ := fl_form hrp.reads
      rw [ints_len, HL.out] at HP3 ⊢
      clear hrp hb3 PI HX2 HB2
      go_wp2_with fail
      with_reducible refine (PS.out w3 HX3.out.reads).mono ?_
      rintro e w4 ⟨dv, rfl, hrd, hb4⟩
      have HX4 := Lib.hid (HX3.out.up hb4)
      have HP4 := Lib.hid (HP3.out.up hb4)
      have HD4 := Lib.hid hrd
      have HB4 := Lib.hid (below_step HB3.out hb4 HB3.out.size)
      obtain ⟨da, dc, rfl⟩ := fl_form hrd.reads
      rw [ints_len, HL.out] at HD4 ⊢
      clear hrd hb4 PS HX3 HP3 HB3 HL
      go_wp2
      go_loopw [11] (fun i wr => ∃ k : Nat, i = .int .i64 k ∧ k ≤ L ∧ Below w4.heap.size w4 wr) (fun i _ => L - (intOf i).toNat)
      case atStart => exact ⟨0, rfl, Nat.zero_le _, Below.refl _ _⟩
      case round =>
        obtain ⟨k, rfl, hk, hbr⟩ := hrel
        have HBR := Lib.hid hbr
        clear hbr
        by_cases hlt : k < L
        · obtain ⟨gd, rfl, cd⟩ := in_reads (HD4.out.up HBR.out).reads hlt
          obtain ⟨kk, hkk, hkn, h2, hpb, o, t, ho, o1, o2, ht, t1⟩ := PAT.out k hlt
          rw [hkk] at cd
          have B := Lib.hid (BI.out kk wr (HX4.out.up HBR.out).reads)
          rw [hpb] at B
          have hi3 : (k : Int) < (L : Int) := by omega
          have hi4 : (kk : Int) < (n : Int) := by omega
          go_wp2_with fail
          with_reducible refine B.out.mono ?_
          rintro e w6 ⟨p, q, rfl, hp, hq, hb6⟩
          have hb46 := below_step HBR.out hb6 HBR.out.size
          obtain ⟨gp, rfl, cp⟩ := in_reads (HP4.out.up hb46).reads hlt
          obtain ⟨gx, rfl, -, cx⟩ := fl_reads (HX4.out.up hb46).reads _ _ _ rfl kk hkn
          rw [hkk] at cp
          have hhx := HKK.out.2 kk (by rw [HLX.out]; exact hkn)
          obtain ⟨x, hxx⟩ : ∃ x, xs.getD kk 0 = x := ⟨_, rfl⟩
          rw [hxx] at cx hhx
          have q1 := has_lt_f' hhx has_two h2
          have q2 := has_ge_t (Has.of hp ho) has_mhalfP (Rat.le_trans mhalfP_le o1)
          have q3 := has_le_t (Has.of hp ho) has_halfQ (Rat.le_trans o2 halfQ_ge)
          have q4 := has_ge_t (Has.of hq ht) hhx t1
          have HB46 := Lib.hid hb46
          clear hhx hxx hp hq ho ht o1 o2 t1 h2 hpb hkk hb6 hb46 B cd
          go_wp2
          go_roundw
          case rel => exact ⟨k + 1, by go_num, by omega, HB46.out⟩
          case measure => simp [intOf]; omega
        · have e : k = L := by omega
          subst e
          have HX5 := Lib.hid (HX4.out.up HBR.out)
          have HB5 := Lib.hid (below_step HB4.out HBR.out HB4.out.size)
          clear hlt hk HBR HB4 HX4 HD4 HP4 PAT BI
          go_wp2_with fail
          with_reducible refine (CI.out wr HX5.out.reads).mono ?_
          rintro e w6 ⟨cu, rfl, hcu, hb6⟩
          have HX6 := Lib.hid (HX5.out.up hb6)
          have HB6 := Lib.hid (below_step HB5.out hb6 HB5.out.size)
          have hhc := Has.of hcu HCF.out
          have q5 := has_ge_t hhc has_zero HC0.out
          have q6 := has_le_t hhc (has_int (n := (n : Int)) (by omega) rfl) HCN.out
          clear hcu hb6 HX5 HB5 hhc CI HCF HCN HC0
          go_wp2_with fail
          with_reducible refine (MI.out w6 HX6.out.reads).mono ?_
          rintro e w7 ⟨m, hmed, hfm, rfl, hb7⟩
          have HX7 := Lib.hid (HX6.out.up hb7)
          have HB7 := Lib.hid (below_step HB6.out hb7 HB6.out.size)
          have MC := Lib.hid (med_counts HLX.out (by omega) hmed)
          have hhm : Has m (fq m) := ⟨hfm, rfl⟩
          have HHM := Lib.hid hhm
          clear hmed hfm hhm hb7 MI HX6 HB6
          have HRX := Lib.hid (fl_reads HX7.out.reads _ _ _ rfl)
          go_wp2
          go_loopw [20, 21, 22, 23] (fun b a u i w8 => ∃ (k : Nat) (x : Nat), i = .int .i64 k ∧ k ≤ n ∧ b = .int .i64 ((cnt (fun i => decide (fq (xs.getD i 0) ≤ fq m)) k : Nat) : Int) ∧ a = .int .i64 ((cnt (fun i => decide (fq m ≤ fq (xs.getD i 0))) k : Nat) : Int) ∧ u = .float .f64 x ∧ Has x (th (4 * isum E k)) ∧ w8 = w7) (fun _ _ _ i _ => n - (intOf i).toNat)
          case atStart => exact ⟨0, 0, rfl, Nat.zero_le _, rfl, rfl, rfl, by rw [show (4 : Int) * isum E 0 = 0 from rfl, th_0]; exact has_zero, rfl⟩
          case round =>
            obtain ⟨k2, u, rfl, hk2, rfl, rfl, rfl, hu, rfl⟩ := hrel
            have l1 := cnt_le (fun i => decide (fq (xs.getD i 0) ≤ fq m)) k2
            have l2 := cnt_le (fun i => decide (fq m ≤ fq (xs.getD i 0))) k2
            by_cases hlt : k2 < n
            · obtain ⟨gx, rfl, -, cx⟩ := HRX.out k2 hlt
              have hhx := HKK.out.2 k2 (by rw [HLX.out]; exact hlt)
              have ee := HKK.out.1 k2
              have es := EB.out k2
              obtain ⟨a, ha, E1⟩ := cnt_step hu hhx (by omega)
              have E1 := fun t w => E1 Try.prog t w
              have s1 : cnt (fun i => decide (fq (xs.getD i 0) ≤ fq m)) (k2 + 1) = cnt (fun i => decide (fq (xs.getD i 0) ≤ fq m)) k2 + if decide (fq (xs.getD k2 0) ≤ fq m) = true then 1 else 0 := rfl
              have s2 : cnt (fun i => decide (fq m ≤ fq (xs.getD i 0))) (k2 + 1) = cnt (fun i => decide (fq m ≤ fq (xs.getD i 0))) k2 + if decide (fq m ≤ fq (xs.getD k2 0)) = true then 1 else 0 := rfl
              have HA : Hid (Has a (th (4 * isum E (k2 + 1)))) := ha
              have hi3 : (k2 : Int) < (n : Int) := by omega
              rw [hhx.2] at s1 s2
              obtain ⟨x, hxx⟩ : ∃ x, xs.getD k2 0 = x := ⟨_, rfl⟩
              rw [hxx] at cx hhx E1
              obtain ⟨y, hy⟩ : ∃ y, th (4 * E k2) = y := ⟨_, rfl⟩
              rw [hy] at s1 s2 hhx
              by_cases d1 : y ≤ fq m
              · have p1 := has_le_t hhx HHM.out d1
                rw [decide_eq_true d1, if_pos rfl] at s1
                by_cases d2 : fq m ≤ y
                · have p2 := has_ge_t hhx HHM.out d2
                  rw [decide_eq_true d2, if_pos rfl] at s2
                  have HFIN := Lib.hid (⟨s1, s2⟩ : _ ∧ _)
                  clear s1 s2 hhx ha hu ee es hxx hy d1 d2
                  obtain ⟨c1, hc1⟩ : ∃ c, cnt (fun i => decide (fq (xs.getD i 0) ≤ fq m)) k2 = c := ⟨_, rfl⟩
                  obtain ⟨c2, hc2⟩ : ∃ c, cnt (fun i => decide (fq m ≤ fq (xs.getD i 0))) k2 = c := ⟨_, rfl⟩
                  rw [hc1] at HFIN l1 ⊢
                  rw [hc2] at HFIN l2 ⊢
                  clear hc1 hc2
                  go_wp2
                  go_roundw
                  case rel => exact ⟨k2 + 1, a, by go_num, by omega, by rw [HFIN.out.1] <;> go_num, by rw [HFIN.out.2] <;> go_num, rfl, HA.out, (by first | rfl | trivial)⟩
                  case measure => simp [intOf]; omega
                · have p2 := has_ge_f' hhx HHM.out (Rat.not_le.1 d2)
                  rw [decide_eq_false d2, if_neg (by decide), Nat.add_zero] at s2
                  have HFIN := Lib.hid (⟨s1, s2⟩ : _ ∧ _)
                  clear s1 s2 hhx ha hu ee es hxx hy d1 d2
                  obtain ⟨c1, hc1⟩ : ∃ c, cnt (fun i => decide (fq (xs.getD i 0) ≤ fq m)) k2 = c := ⟨_, rfl⟩
                  obtain ⟨c2, hc2⟩ : ∃ c, cnt (fun i => decide (fq m ≤ fq (xs.getD i 0))) k2 = c := ⟨_, rfl⟩
                  rw [hc1] at HFIN l1 ⊢
                  rw [hc2] at HFIN l2 ⊢
                  clear hc1 hc2
                  go_wp2
                  go_roundw
                  case rel => exact ⟨k2 + 1, a, by go_num, by omega, by rw [HFIN.out.1] <;> go_num, by rw [HFIN.out.2] <;> go_num, rfl, HA.out, (by first | rfl | trivial)⟩
                  case measure => simp [intOf]; omega
              · have p1 := has_le_f hhx HHM.out (Rat.not_le.1 d1)
                rw [decide_eq_false d1, if_neg (by decide), Nat.add_zero] at s1
                by_cases d2 : fq m ≤ y
                · have p2 := has_ge_t hhx HHM.out d2
                  rw [decide_eq_true d2, if_pos rfl] at s2
                  have HFIN := Lib.hid (⟨s1, s2⟩ : _ ∧ _)
                  clear s1 s2 hhx ha hu ee es hxx hy d1 d2
                  obtain ⟨c1, hc1⟩ : ∃ c, cnt (fun i => decide (fq (xs.getD i 0) ≤ fq m)) k2 = c := ⟨_, rfl⟩
                  obtain ⟨c2, hc2⟩ : ∃ c, cnt (fun i => decide (fq m ≤ fq (xs.getD i 0))) k2 = c := ⟨_, rfl⟩
                  rw [hc1] at HFIN l1 ⊢
                  rw [hc2] at HFIN l2 ⊢
                  clear hc1 hc2
                  go_wp2
                  go_roundw
                  case rel => exact ⟨k2 + 1, a, by go_num, by omega, by rw [HFIN.out.1] <;> go_num, by rw [HFIN.out.2] <;> go_num, rfl, HA.out, (by first | rfl | trivial)⟩
                  case measure => simp [intOf]; omega
                · have p2 := has_ge_f' hhx HHM.out (Rat.not_le.1 d2)
                  rw [decide_eq_false d2, if_neg (by decide), Nat.add_zero] at s2
                  have HFIN := Lib.hid (⟨s1, s2⟩ : _ ∧ _)
                  clear s1 s2 hhx ha hu ee es hxx hy d1 d2
                  obtain ⟨c1, hc1⟩ : ∃ c, cnt (fun i => decide (fq (xs.getD i 0) ≤ fq m)) k2 = c := ⟨_, rfl⟩
                  obtain ⟨c2, hc2⟩ : ∃ c, cnt (fun i => decide (fq m ≤ fq (xs.getD i 0))) k2 = c := ⟨_, rfl⟩
                  rw [hc1] at HFIN l1 ⊢
                  rw [hc2] at HFIN l2 ⊢
                  clear hc1 hc2
                  go_wp2
                  go_roundw
                  case rel => exact ⟨k2 + 1, a, by go_num, by omega, by rw [HFIN.out.1] <;> go_num, by rw [HFIN.out.2] <;> go_num, rfl, HA.out, (by first | rfl | trivial)⟩
                  case measure => simp [intOf]; omega
            · have e : k2 = n := by omega
              subst e
              obtain ⟨m1, m2⟩ := MC.out
              obtain ⟨c1, hc1⟩ : ∃ c, cnt (fun i => decide (fq (xs.getD i 0) ≤ fq m)) k2 = c := ⟨_, rfl⟩
              obtain ⟨c2, hc2⟩ : ∃ c, cnt (fun i => decide (fq m ≤ fq (xs.getD i 0))) k2 = c := ⟨_, rfl⟩
              rw [hc1] at m1 l1 ⊢
              rw [hc2] at m2 l2 ⊢
              have HU := Lib.hid hu
              have w1' : IntKind.i64.wrap (2 * (c1 : Int)) = 2 * (c1 : Int) := IntWalk.i64_in _ (by omega)
              have w2' : IntKind.i64.wrap (2 * (c2 : Int)) = 2 * (c2 : Int) := IntWalk.i64_in _ (by omega)
              have g1 : decide (2 * (c1 : Int) < (k2 : Int)) = false := by simp; omega
              have g2 : decide (2 * (c2 : Int) < (k2 : Int)) = false := by simp; omega
              have g1' : decide (2 * c1 < k2) = false := by simp; omega
              have g2' : decide (2 * c2 < k2) = false := by simp; omega
              clear hlt hk2 hu MC HRX hc1 hc2 HHM EB l1 l2 m1 m2
              go_wp2_with fail
              with_reducible refine (HPF.out _ HB7.out).mono ?_
              rintro e w8 ⟨rfl, hb8⟩
              have HX8 := Lib.hid (HX7.out.up hb8)
              have HB8 := Lib.hid (below_step HB7.out hb8 HB7.out.size)
              clear hb8 HX7 HB7
              go_wp2_with fail
              with_reducible refine (SI.out w8 HX8.out.reads).mono ?_
              rintro e w9 ⟨sv, fs, rfl, hrs, hls, hgs, hb9⟩
              have HX9 := Lib.hid (HX8.out.up hb9)
              have HS9 := Lib.hid hrs
              have HLS := Lib.hid hls
              have HGS := Lib.hid hgs
              have HB9 := Lib.hid (below_step HB8.out hb9 HB8.out.size)
              obtain ⟨sa, sc, rfl⟩ := fl_form hrs.reads
              rw [flts_length, hls] at HS9 ⊢
              clear hrs hls hgs hb9 SI HX8 HB8
              go_wp2_with fail
              with_reducible refine (HPF.out _ HB9.out).mono ?_
              rintro e w10 ⟨rfl, hb10⟩
              have HX10 := Lib.hid (HX9.out.up hb10)
              have HS10 := Lib.hid (HS9.out.up hb10)
              have HB10 := Lib.hid (below_step HB9.out hb10 HB9.out.size)
              clear hb10 HX9 HS9 HB9 HPF
              go_wp2_with fail
              with_reducible refine (SS.out w10 HX10.out.reads).mono ?_
              rintro e w11 ⟨gv, gs, rfl, hrg, hlg, hgg, hb11⟩
              have HX11 := Lib.hid (HX10.out.up hb11)
              have HS11 := Lib.hid (HS10.out.up hb11)
              have HG11 := Lib.hid hrg
              have HLG := Lib.hid hlg
              have HGG := Lib.hid hgg
              have HB11 := Lib.hid (below_step HB10.out hb11 HB10.out.size)
              obtain ⟨ga, gc, rfl⟩ := fl_form hrg.reads
              rw [flts_length, hlg] at HG11 ⊢
              clear hrg hlg hgg hb11 SS HX10 HS10 HB10
              have SR := Lib.hid (smReals_any (w := w11) HS11.out.reads HG11.out.reads (by rw [HLS.out, HLG.out]) (fun i hi => by rw [HLS.out] at hi; exact (HGS.out i hi).cn.trans (HGG.out i hi).cn.symm) (by rw [HLS.out]; omega))
              go_wp2_with fail
              with_reducible refine SR.out.mono ?_
              rintro e w12 ⟨rfl, n12, rfl⟩
              have HX12 := Lib.hid (HX11.out.drewN n12)
              have HG12 := Lib.hid (HG11.out.drewN n12)
              have HB12 := Lib.hid (below_draws HB11.out n12)
              clear SR HX11 HG11 HB11 HS11 HGS HLS w1' w2' g1 g2 g1' g2'
              generalize w11.drewN n12 = w12 at *
              have HRG := Lib.hid (fl_reads HG12.out.reads _ _ _ rfl)
              go_wp2
              go_loopw [28, 29] (fun v i w8 => ∃ (k : Nat) (x : Nat) (s : Rat), i = .int .i64 k ∧ k ≤ k2 ∧ v = .float .f64 x ∧ Has x s ∧ Near s (psum (fun i => smQ E k2 r i) k) ((k : Rat) * eps1) ∧ w8 = w12) (fun _ i _ => k2 - (intOf i).toNat)
              case atStart => exact ⟨0, 0, 0, rfl, Nat.zero_le _, rfl, has_zero, near_zero, rfl⟩
              case round =>
                obtain ⟨k3, x, s, rfl, hk3, rfl, hhx, hns, rfl⟩ := hrel
                by_cases hlt : k3 < k2
                · obtain ⟨gg, rfl, -, cg⟩ := HRG.out k3 hlt
                  obtain ⟨t, ht, htn, t0, t1⟩ := SMF.out k3
                  have hhg := Has.of (HGG.out k3 hlt) ht
                  obtain ⟨y, hy⟩ : ∃ y, gs.getD k3 0 = y := ⟨_, rfl⟩
                  rw [hy] at cg hhg
                  obtain ⟨p0, p1⟩ := psum_112 (q := fun i => smQ E k2 r i) (fun i => SMR.out i) (show k3 ≤ 14 by omega)
                  obtain ⟨a, t', ha, hnear, E2⟩ := all_step (by omega) hhx hhg hns htn p0 p1 (SMR.out k3).1 (SMR.out k3).2
                  have E2 := fun ty w => E2 Try.prog ty w
                  have HA : Hid (Has a t' ∧ Near t' (psum (fun i => smQ E k2 r i) (k3 + 1)) (((k3 + 1 : Nat) : Rat) * eps1)) := ⟨ha, hnear⟩
                  have hi3 : (k3 : Int) < (k2 : Int) := by omega
                  clear ha hnear p0 p1 hhg hy ht htn t0 t1 hns hhx
                  go_wp2
                  go_roundw
                  case rel => exact ⟨k3 + 1, a, t', by go_num, by omega, rfl, HA.out.1, HA.out.2, (by first | rfl | trivial)⟩
                  case measure => simp [intOf]; omega
                · have e : k3 = k2 := by omega
                  have hns' : Near s (th (4 * isum E k2)) ((k2 : Rat) * eps1) := by
                    have := hns
                    rw [e, SMS.out] at this
                    exact this
                  obtain ⟨dd, dt, hdd, d1, d2, E3⟩ := all_diff hn14 hhx HU.out hns'
                  have E3 := fun ty w => E3 Try.prog ty w
                  obtain ⟨fa, q9, AB⟩ := f6abs_small dd dt hdd d1 d2
                  have AB := Lib.hid AB
                  have hgq : ∀ i, i < k2 → ∃ p, Fv (wO gs i) p ∧ 0 ≤ p ∧ p ≤ 64 := fun i hi => by
                    obtain ⟨t, ht, -, t0, t1⟩ := SMF.out i
                    refine ⟨t, ?_, t0, t1⟩
                    have e := (HGG.out i hi).cn
                    show Fv (Flt.cn .f64 (gs.getD i 0)) t
                    rw [e]; exact ht
                  obtain ⟨ap, f1, f2, f0⟩ := ap_both HLX.out HLG.out (by omega) hn14 (fun i hi => pk_64 HKK.out (by rw [HLX.out]; exact hi)) hgq
                  have HF := Lib.hid (⟨f1, f2, f0⟩ : _ ∧ _ ∧ _)
                  have hgz := all_lt (fs := gs) (z := smO xs r) (fun i hi => HGG.out i (by rw [HLG.out] at hi; exact hi))
                  have A1 := Lib.hid (fun W h => AI.out xs HZX.out (.slice va k2 vc) W h h)
                  have A2 := Lib.hid (fun W h h' => AI.out gs hgz (.slice ga k2 gc) W h h')
                  have A3 := Lib.hid (fun W h h' => AJ.out gs hgz (.slice ga k2 gc) W h h')
                  rw [HLX.out, hak] at A1
                  rw [HLG.out, hak] at A2 A3
                  clear hhx hns hns' hdd d1 d2 hgq f1 f2 f0 hgz AI AJ SMF SMR SMS HKK HGG HRG hlt hk3 hak
                  subst e
                  go_wp2_with fail
                  with_reducible refine (A1.out _ HX12.out.reads).mono ?_
                  rintro e w13 ⟨b1, rfl, hb1, hb13⟩
                  have HX13 := Lib.hid (HX12.out.up hb13)
                  have HG13 := Lib.hid (HG12.out.up hb13)
                  have HB13 := Lib.hid (below_step HB12.out hb13 HB12.out.size)
                  have r1 := eq_has (Has.of hb1 HAZ.out) has_zero
                  clear hb1 hb13 A1 HX12 HG12 HB12 HAZ
                  go_wp2_with fail
                  with_reducible refine (A2.out _ HX13.out.reads HG13.out.reads).mono ?_
                  rintro e w14 ⟨b2, rfl, hb2, hb14⟩
                  have HX14 := Lib.hid (HX13.out.up hb14)
                  have HG14 := Lib.hid (HG13.out.up hb14)
                  have HB14 := Lib.hid (below_step HB13.out hb14 HB13.out.size)
                  have hh2 := Has.of hb2 HF.out.1
                  have r2 := has_ge_t hh2 has_zero HF.out.2.2
                  have HH2 := Lib.hid hh2
                  clear hb2 hb14 A2 HX13 HG13 HB13 hh2
                  go_wp2_with fail
                  with_reducible refine (A3.out _ HG14.out.reads HX14.out.reads).mono ?_
                  rintro e w15 ⟨b3, rfl, hb3, hb15⟩
                  have HB15 := Lib.hid (below_step HB14.out hb15 HB14.out.size)
                  have r3 := eq_has HH2.out (Has.of hb3 HF.out.2.1)
                  clear hb3 hb15 A3 HX14 HG14 HB14
                  go_wp2_with fail
                  with_reducible refine (AB.out _).mono ?_
                  rintro e w16 ⟨rfl, rfl⟩
                  go_wp2
                  go_ret
                  exact ⟨rfl, HB15.out⟩
    · have F1 := Lib.hid (f6big_t a1 len1 cap1 (by omega) (by omega))
      clear h0 h1
      go_enter Try.func4, Try.ntmps4
      go_wp2_with fail
      with_reducible refine (F0.out _).mono ?_
      rintro e w' ⟨rfl, rfl⟩
      go_wp2_with fail
      with_reducible refine (F1.out _).mono ?_
      rintro e w' ⟨rfl, rfl⟩
      go_wp2
      go_ret
      exact ⟨rfl, Below.refl _ _⟩
  · have F0 := Lib.hid (f6big_t a0 len0 cap0 (by omega) (by omega))
    clear h0 h1
    go_enter Try.func4, Try.ntmps4
    go_wp2_with fail
    with_reducible refine (F0.out _).mono ?_
    rintro e w' ⟨rfl, rfl⟩
    go_wp2
    go_ret
    exact ⟨rfl, Below.refl _ _⟩

end Go.Proofs.Ytnigbjjllolgdaa
