import Derived.Test.YtnigbjjllolgdaaUwr
import Derived.Test.YtnigbjjllolgdaaDrw
/-
  FnUnwrapped: the phases that are drawn; what compares lists; absolute values.
-/
set_option linter.unusedVariables false
set_option linter.unusedSimpArgs false
namespace Go.Proofs.Ytnigbjjllolgdaa
open Go.RowKit Flt

theorem has_32 : Has 4629700416936869888 32 := has_int (n := 32) (by decide) (by decide)
/-- A drawn number by 32: no draw of its own. -/
theorem th_run {r : Int} (h0 : 0 ≤ r) (h1 : r ≤ 256) : ∃ d, Has d (th (r - 128)) ∧ ∀ (P : Program) (t : TypeId) (w : World), (binOp .quo t (.float .f64 (floatOfInt .f64 (r - 128))) (.float .f64 4629700416936869888)).run P w = .ok (.float .f64 d) w := by
  have hF := fv_int_exact (n := r - 128) (by omega)
  have hd : Dy 5 128 (((r - 128 : Int) : Rat) / 32) := th_dy (by omega)
  obtain ⟨d, hd, hr⟩ := run_has (.inr (.inr (.inr rfl))) (hd.fv_div (by omega) (by omega) (by decide) hF has_32.fv)
  exact ⟨d, hd, hr⟩

/-- The numerators of drawn phases. -/
def ThL (xs : List Nat) (K : Nat → Int) : Prop := (∀ i, -128 ≤ K i ∧ K i ≤ 128) ∧ ∀ i, i < xs.length → Has (xs.getD i 0) (th (K i))
theorem ThL.nil : ThL [] (fun _ => 0) := ⟨fun _ => ⟨by show (-128 : Int) ≤ 0; omega, by show (0 : Int) ≤ 128; omega⟩, fun i hi => by simp at hi⟩
theorem ThL.snoc {xs : List Nat} {K : Nat → Int} (h : ThL xs K) {d : Nat} {k : Int} (hd : Has d (th k)) (h0 : -128 ≤ k) (h1 : k ≤ 128) : ∃ K', ThL (xs ++ [d]) K' := by
  refine ⟨fun i => if i = xs.length then k else K i, fun i => ?_, fun i hi => ?_⟩
  · by_cases e : i = xs.length
    · simp only [e, if_true]; exact ⟨h0, h1⟩
    · simp only [e, if_false]; exact h.1 i
  · by_cases e : i = xs.length
    · subst e
      simp only [if_true]
      rw [show (xs ++ [d]).getD xs.length 0 = d by simp [List.getD]]
      exact hd
    · have hl : i < xs.length := by simp at hi; omega
      simp only [e, if_false]
      rw [show (xs ++ [d]).getD i 0 = xs.getD i 0 by simp [List.getD, List.getElem?_append_left, hl]]
      exact h.2 i hl

set_option maxRecDepth 100000 in
set_option maxHeartbeats 4000000 in
theorem p6Phases_any (a : Option Addr) (len cap : Nat) (n : Nat) (hn : n ≤ 100) (w : World) (hr : ∃ zs, IsRow .u8 w a len cap zs) :
    Calls Try.prog 6 #[.slice a len cap, .int .i64 n] w fun e w' => ∃ v xs, e = .returned v ∧ Row w' w.heap.size 30 v (flts xs) ∧ xs.length = n ∧ (∃ K, ThL xs K) ∧ Below w.heap.size w w' := by
  obtain ⟨i0, hi, hz0, hz1, hz2⟩ := info_parts info_f64'
  have HRR := Lib.hid hr
  obtain ⟨B, hB⟩ : ∃ B, w.heap.size = B := ⟨_, rfl⟩
  have HSRC : Hid (Src w B a len cap 0 (w.alloc (.cells #[.slice a len cap, .int .i64 0, .int .u64 0] 68))) := by rw [← hB]; exact Lib.hid src_new
  have HBB := Lib.hid hB
  clear hr
  go_enter Try.func6, Try.ntmps6
  go_wp2_with (first | (go_at_call 25; go_in))
  clear hB
  go_loopw [6, 7] (fun v k wr => ∃ (m : Nat) (xs : List Nat) (j : Int), k = .int .i64 m ∧ m ≤ n ∧ xs.length = m ∧ 0 ≤ j ∧ j ≤ 2 * (m : Int) ∧ B + 1 ≤ wr.heap.size ∧ Src w B a len cap j wr ∧ Row wr (B + 1) 30 v (flts xs) ∧ ∃ K, ThL xs K) (fun _ k _ => n - (intOf k).toNat)
  case atStart =>
    refine ⟨0, [], 0, rfl, Nat.zero_le _, rfl, by omega, by omega, by simp [HBB.out], HSRC.out.alloc _, ?_, _, ThL.nil⟩
    have := World.ownsRow_lit (w.alloc (.cells #[.slice a len cap, .int .i64 0, .int .u64 0] 68)) (e := 30) (base := B + 1) #[] 0 (size := 1) (by simp [HBB.out]) (by unfold maxLen; omega) rfl
    rw [show (w.alloc (.cells #[.slice a len cap, .int .i64 0, .int .u64 0] 68)).heap.size = B + 1 by simp [HBB.out]] at this
    exact this
  case round =>
    clear HSRC
    obtain ⟨m, xs, j, rfl, hm, hx, hj0, hj1, hsz, hs, hrw, hwf⟩ := hrel
    have HX := Lib.hid hx
    have HS := Lib.hid hs
    have HR := Lib.hid hrw
    have HW := Lib.hid hwf
    clear hx hs hrw hwf
    by_cases hlt : m < n
    · go_wp2_with fail
      refine (pick_any w B a len cap HRR.out j (by omega) 257 (by omega) (by omega) _ HS.out).mono ?_
      rintro e w4 ⟨r, j2, r0, r1, rfl, k0, k1, hs4, hg4⟩
      obtain ⟨p, hp, hrun⟩ := th_run r0 (by omega)
      have hr4 : Row w4 (B + 1) 30 u6 (flts xs) := HR.out.kept hg4 (.inr (fun e => by have := (HR.out.lt _ e).1; omega))
      have hz4 : B + 1 ≤ w4.heap.size := Nat.le_trans hsz hg4.size
      have hxl : (flts xs).length = m := by rw [flts_length, HX.out]
      have HFin : Hid (∀ (w6 : World) v', w6.ownsRow (B + 1) 30 1 v' (m + 1) (flts xs ++ [.float .f64 p]) → (w4.alloc (.cells #[.float .f64 p] 30)).grownBy w6 u6.ownBlock →
          B + 1 ≤ w6.heap.size ∧ Src w B a len cap j2 w6 ∧ Row w6 (B + 1) 30 v' (flts (xs ++ [p])) ∧ ∃ K, ThL (xs ++ [p]) K) := fun w6 v' hown hgr => by
        refine ⟨by have := hgr.size; simp at *; omega, (hs4.alloc _).other hgr (fun e => ?_) (fun k e => ?_), ?_, ?_⟩
        · have := (hr4.lt _ e).1; omega
        · have h1 := (hr4.lt _ e).1; have h2 := hs4.new; omega
        · show w6.ownsRow _ _ _ _ _ _
          rw [flts_snoc, List.length_append, hxl]
          exact hown
        · obtain ⟨K, hK⟩ := HW.out
          exact hK.snoc hp (by omega) (by omega)
      have HR4 := Lib.hid hr4
      clear hr4 hs4 hg4 HR HS hp
      go_wp2_with (at_builtin; refine wpList_append_own _ rfl _ _ 24 rfl (B + 1) 30 i0 (.float .f64 0) 1 8 Try.underlying24 hi hz0 hz1 hz2 rfl (by decide) _ _ _ rfl (HR4.out.alloc _) ⟨_, 0, none⟩ 1 1 [.float .f64 p] rfl rfl (cell_one_new _ _ _) (by intro u hu; simp at hu; subst hu; rfl) (by rw [hxl]; simp only [maxLen]; omega) (by rw [hxl]; omega) (by simp; omega) ?_)
      intro v' w6 hown' hgrow _
      have HE := Lib.hid (HFin.out w6 v' hown' hgrow)
      clear hown' hgrow HR4 HFin hrun hxl
      go_wp2
      go_roundw
      case rel => first | exact ⟨m + 1, xs ++ [p], j2, by go_num, by omega, by simp [HX.out], by omega, by omega, HE.out⟩ | ((repeat apply Exists.intro); refine ⟨?_, rfl⟩; exact ⟨m + 1, xs ++ [p], j2, by go_num, by omega, by simp [HX.out], by omega, by omega, HE.out⟩)
      case measure => simp [intOf]; omega
    · have e : m = n := by omega
      subst e
      go_wp2
      go_ret
      exact ⟨_, xs, rfl, HR.out.base (by rw [HBB.out]; omega), HX.out, HW.out, HS.out.below⟩

theorem th_zero : th 0 = 0 := by decide +kernel
theorem th_neg (k : Int) : -th k = th (-k) := by unfold th; rw [Rat.intCast_neg, Rat.div_def, Rat.div_def]; grind
/-- The absolute value of a multiple of a 32nd. -/
theorem f6abs_th (u : Nat) (k : Int) (h : Has u (th k)) : ∃ v, Has v (th k.natAbs) ∧ ∀ w,
    Calls Try.prog 12 #[.float .f64 u] w fun e w' => e = .returned (.float .f64 v) ∧ w' = w := by
  by_cases hq : k < 0
  · have g : (FloatKind.f64.format.order u 0 == some .lt) = true := by
      have := order_lt h.1 has_zero.1 (by rw [h.2, has_zero.2, ← th_zero]; exact th_lt hq)
      show (Ieee.double.order u 0 == some .lt) = true
      rw [this]; rfl
    refine ⟨Op.negFloat .f64 u, ?_, fun w => ?_⟩
    · have := has_neg h
      rw [th_neg, show -k = (k.natAbs : Int) by omega] at this
      exact this
    clear h
    go_enter Try.func12, Try.ntmps12
    go_wp2
    go_ret
    exact ⟨rfl, rfl⟩
  · have g : (FloatKind.f64.format.order u 0 == some .lt) = false := by
      show (Ieee.double.order u 0 == some .lt) = false
      rcases Int.lt_or_eq_of_le (show 0 ≤ k by omega) with h1 | h1
      · rw [order_gt h.1 has_zero.1 (by rw [h.2, has_zero.2, ← th_zero]; exact th_lt h1)]; rfl
      · rw [order_eq_q h.1 has_zero.1 (by rw [h.2, has_zero.2, ← th_zero, h1])]; rfl
    refine ⟨u, ?_, fun w => ?_⟩
    · rw [show (k.natAbs : Int) = k by omega]; exact h
    clear h
    go_enter Try.func12, Try.ntmps12
    go_wp2
    go_ret
    exact ⟨rfl, rfl⟩

theorem th_sub_run {u v : Nat} {a b : Int} (hu : Has u (th a)) (hv : Has v (th b)) (h : (a - b).natAbs ≤ 1073741824) :
    ∃ r, Has r (th (a - b)) ∧ ∀ (P : Program) (t : TypeId) (w : World), (binOp .sub t (.float .f64 u) (.float .f64 v)).run P w = .ok (.float .f64 r) w :=
  run_has (.inr (.inl rfl)) (fv_th_sub h hu.fv hv.fv)
theorem has_gt_f {u v : Nat} {p q : Rat} (hu : Has u p) (hv : Has v q) (h : p ≤ q) : (FloatKind.f64.format.order u v == some .gt) = false := by
  show (Ieee.double.order u v == some .gt) = false
  rcases Rat.le_iff_lt_or_eq.1 h with h1 | h1
  · rw [order_lt hu.1 hv.1 (by rw [hu.2, hv.2]; exact h1)]; rfl
  · rw [order_eq_q hu.1 hv.1 (by rw [hu.2, hv.2]; exact h1)]; rfl
theorem has_lt_f {u v : Nat} {p q : Rat} (hu : Has u p) (hv : Has v q) (h : q ≤ p) : (FloatKind.f64.format.order u v == some .lt) = false := by
  show (Ieee.double.order u v == some .lt) = false
  rcases Rat.le_iff_lt_or_eq.1 h with h1 | h1
  · rw [order_gt hu.1 hv.1 (by rw [hu.2, hv.2]; exact h1)]; rfl
  · rw [order_eq_q hu.1 hv.1 (by rw [hu.2, hv.2]; exact h1.symm)]; rfl
theorem has_ge_f {u v : Nat} {p q : Rat} (hu : Has u p) (hv : Has v q) (h : p < q) : (FloatKind.f64.format.order u v == some .gt || FloatKind.f64.format.order u v == some .eq) = false := by
  show (Ieee.double.order u v == some .gt || Ieee.double.order u v == some .eq) = false
  rw [order_lt hu.1 hv.1 (by rw [hu.2, hv.2]; exact h)]; rfl
theorem has_half : Has half (th 16) := by
  obtain ⟨x, e, hx⟩ := half_fv
  cases e
  exact hx
theorem has_mhalf : Has 13826050856027422720 (th (-16)) := ⟨⟨by decide, by decide⟩, by decide +kernel⟩

set_option maxRecDepth 100000 in
set_option maxHeartbeats 4000000 in
theorem smReals_any {w : World} {V V' : Value} {fs gs : List Nat} (h : Reads w V (flts fs)) (h' : Reads w V' (flts gs)) (hl : fs.length = gs.length) (he : ∀ i, i < fs.length → cn .f64 (fs.getD i 0) = cn .f64 (gs.getD i 0)) (hcl : fs.length ≤ 1000000) :
    Calls Try.prog 11 #[V, V'] w fun e w' => e = .returned (.bool true) ∧ ∃ m, w' = w.drewN m := by
  have hrd := fl_reads h
  have hrd' := fl_reads h'
  obtain ⟨a, cap, rfl⟩ := fl_form h
  obtain ⟨a', cap', rfl⟩ := fl_form h'
  simp only [flts_length] at *
  replace hrd := hrd _ _ _ rfl
  replace hrd' := hrd' _ _ _ rfl
  obtain ⟨c, hvc⟩ : ∃ c, fs.length = c := ⟨_, rfl⟩
  rw [← hl, hvc] at hrd' ⊢
  rw [hvc] at hrd he hcl
  have HF := Lib.hid hrd
  have HF' := Lib.hid hrd'
  have HE := Lib.hid he
  clear h h' hrd hrd' hl hvc he
  go_enter Try.func11, Try.ntmps11
  go_wp2
  go_loopw [5] (fun i wr => ∃ k m : Nat, i = .int .i64 k ∧ k ≤ c ∧ wr = w.drewN m) (fun i _ => c - (intOf i).toNat)
  case atStart => exact ⟨0, 0, rfl, Nat.zero_le _, rfl⟩
  case round =>
    obtain ⟨k, m, rfl, hk, hw⟩ := hrel
    have HW := Lib.hid hw
    clear hw
    by_cases hlt : k < c
    · obtain ⟨g, rfl, hg, hcell⟩ := HF.out k hlt
      obtain ⟨g', rfl, hg', hcell'⟩ := HF'.out k hlt
      obtain ⟨x, hx⟩ : ∃ x, fs.getD k 0 = x := ⟨_, rfl⟩
      obtain ⟨y, hy⟩ : ∃ y, gs.getD k 0 = y := ⟨_, rfl⟩
      have hcn := HE.out k hlt
      rw [hx] at hcell hcn
      rw [hy] at hcell' hcn
      have S := Lib.hid (fun w => l01SameFloat_cn x y hcn w)
      have c1 : wr.cell? ⟨g, k, none⟩ = some (.float .f64 x) := by rw [HW.out]; exact hcell
      have c2 : wr.cell? ⟨g', k, none⟩ = some (.float .f64 y) := by rw [HW.out]; exact hcell'
      clear hcell hcell' hg hg' hx hy hcn
      go_wp2
      go_quiet ((go_at_call 32; exact Calls.quiet_of_same (S.out _)))
      go_wp2
      go_roundw
      case rel => exact ⟨k + 1, m + nq, by go_num, by omega, by rw [HW.out, World.drewN_drewN]⟩
      case measure => simp [intOf]; omega
    · have e : k = c := by omega
      subst e
      go_wp2
      go_ret
      exact ⟨rfl, m, HW.out⟩

end Go.Proofs.Ytnigbjjllolgdaa
