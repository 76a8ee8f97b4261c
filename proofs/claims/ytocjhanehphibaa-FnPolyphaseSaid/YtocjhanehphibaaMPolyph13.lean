/-
  Several texts of this claim, one behind the other; each says what it holds.
-/
import Derived.Test.YtocjhanehphibaaMPolyph12
import Derived.RangeFuncBox
import Derived.Maps.AppendAt
import Derived.OwnWalk
/-
  P6Plain: a signal of sixteenths.
-/
set_option linter.unusedVariables false
set_option linter.unusedSimpArgs false
namespace Go.Proofs.Ytocjhanehphibaa
open Go.RowKit Flt Fast

theorem has_16 : Has 4625196817309499392 16 := has_int (n := 16) (by decide) (by decide)
/-- A drawn number by sixteen: no draw of its own. -/
theorem sx_run {r : Int} (h0 : 0 ≤ r) (h1 : r ≤ 128) : ∃ d, Sx d ∧ ∀ (P : Program) (t : TypeId) (w : World), (binOp .quo t (.float .f64 (floatOfInt .f64 (r - 64))) (.float .f64 4625196817309499392)).run P w = .ok (.float .f64 d) w := by
  have hF := fv_int_exact (n := r - 64) (by omega)
  have hd : Dy 4 64 (((r - 64 : Int) : Rat) / 16) := ⟨r - 64, by omega, by rw [show two 4 = 16 from rfl]; exact Rat.div_mul_cancel (by decide)⟩
  obtain ⟨d, hd, hr⟩ := run_has (.inr (.inr (.inr rfl))) (hd.fv_div (by omega) (by omega) (by decide) hF has_16.fv)
  exact ⟨d, (sx_of (k := r - 64) (by omega) hd).1, hr⟩

set_option maxRecDepth 100000 in
set_option maxHeartbeats 4000000 in
theorem p6Plain_any (a : Option Addr) (len cap : Nat) (n : Nat) (hn : n ≤ 100) (w : World) (hr : ∃ zs, IsRow .u8 w a len cap zs) :
    Calls Try.prog 7 #[.slice a len cap, .int .i64 n] w fun e w' => ∃ v xs, e = .returned v ∧ Row w' w.heap.size 30 v (cvals xs) ∧ xs.length = n ∧ PlainC xs ∧ Below w.heap.size w w' := by
  obtain ⟨i0, hi, hz0, hz1, hz2⟩ := info_parts info_c128
  have HRR := Lib.hid hr
  obtain ⟨B, hB⟩ : ∃ B, w.heap.size = B := ⟨_, rfl⟩
  have HSRC : Hid (Src w B a len cap 0 (w.alloc (.cells #[.slice a len cap, .int .i64 0, .int .u64 0] 81))) := by rw [← hB]; exact Lib.hid src_new
  have HBB := Lib.hid hB
  clear hr
  go_enter Try.func7, Try.ntmps7
  go_wp2_with (first | (go_at_call 33; go_in))
  clear hB
  go_loopw [6, 7] (fun v k wr => ∃ (m : Nat) (xs : List C) (j : Int), k = .int .i64 m ∧ m ≤ n ∧ xs.length = m ∧ 0 ≤ j ∧ j ≤ 4 * (m : Int) ∧ B + 1 ≤ wr.heap.size ∧ Src w B a len cap j wr ∧ Row wr (B + 1) 30 v (cvals xs) ∧ PlainC xs) (fun _ k _ => n - (intOf k).toNat)
  case atStart =>
    refine ⟨0, [], 0, rfl, Nat.zero_le _, rfl, by omega, by omega, by simp [HBB.out], HSRC.out.alloc _, ?_, by intro u hu; cases hu⟩
    have := World.ownsRow_lit (w.alloc (.cells #[.slice a len cap, .int .i64 0, .int .u64 0] 81)) (e := 30) (base := B + 1) #[] 0 (size := 1) (by simp [HBB.out]) (by unfold maxLen; omega) rfl
    rw [show (w.alloc (.cells #[.slice a len cap, .int .i64 0, .int .u64 0] 81)).heap.size = B + 1 by simp [HBB.out]] at this
    exact this
  case round =>
    clear HSRC
    obtain ⟨m, xs, j, rfl, hm, hx, hj0, hj1, hsz, hs, hrw, hwf⟩ := hrel
    have HX := Lib.hid hx
    have HS := Lib.hid hs
    have HR := Lib.hid hrw
    have HW := Lib.hid hwf
    clear hx hs hrw hwf
    by_cases hlt : m < n
    · go_wp2_with fail
      refine (pick_any w B a len cap HRR.out j (by omega) 129 (by omega) (by omega) _ HS.out).mono ?_
      rintro e w2 ⟨r, j2, r0, r1, rfl, k0, k1, hs2, hg2⟩
      obtain ⟨p, hp, hrun⟩ := sx_run r0 (by omega)
      have HS2 := Lib.hid hs2
      have HG2 := Lib.hid hg2
      have HP := Lib.hid hp
      clear hs2 hg2 hp
      go_wp2_with fail
      clear hrun
      refine (pick_any w B a len cap HRR.out j2 (by omega) 129 (by omega) (by omega) _ HS2.out).mono ?_
      rintro e w4 ⟨r', j4, r0', r1', rfl, k2, k3, hs4, hg4⟩
      obtain ⟨q, hq, hrun⟩ := sx_run r0' (by omega)
      have hg := grown_trans HG2.out hg4
      have hr4 : Row w4 (B + 1) 30 u6 (cvals xs) := HR.out.kept hg (.inr (fun e => by have := (HR.out.lt _ e).1; omega))
      have hz4 : B + 1 ≤ w4.heap.size := Nat.le_trans hsz hg.size
      have hxl : (cvals xs).length = m := by rw [cvals_length, HX.out]
      have HFin : Hid (∀ (w6 : World) v', w6.ownsRow (B + 1) 30 1 v' (m + 1) (cvals xs ++ [.complex .f64 p q]) → (w4.alloc (.cells #[.complex .f64 p q] 30)).grownBy w6 u6.ownBlock →
          B + 1 ≤ w6.heap.size ∧ Src w B a len cap j4 w6 ∧ Row w6 (B + 1) 30 v' (cvals (xs ++ [(p, q)])) ∧ PlainC (xs ++ [(p, q)])) := fun w6 v' hown hgr => by
        refine ⟨by have := hgr.size; simp at *; omega, (hs4.alloc _).other hgr (fun e => ?_) (fun k e => ?_), ?_, plainC_snoc HW.out HP.out hq⟩
        · have := (hr4.lt _ e).1; omega
        · have h1 := (hr4.lt _ e).1; have h2 := hs4.new; omega
        · show w6.ownsRow _ _ _ _ _ _
          rw [cvals_snoc, List.length_append, hxl]
          exact hown
      have HR4 := Lib.hid hr4
      clear hr4 hs4 hg4 hg HR HS HS2 HG2 HP hq
      go_wp2_with (at_builtin; refine wpList_append_own _ rfl _ _ 24 rfl (B + 1) 30 i0 (.complex .f64 0 0) 1 16 Try.underlying24 hi hz0 hz1 hz2 rfl (by decide) _ _ _ rfl (HR4.out.alloc _) ⟨_, 0, none⟩ 1 1 [.complex .f64 p q] rfl rfl (cell_one_new _ _ _) (by intro u hu; simp at hu; subst hu; rfl) (by rw [hxl]; simp only [maxLen]; omega) (by rw [hxl]; omega) (by simp; omega) ?_)
      intro v' w6 hown' hgrow _
      have HE := Lib.hid (HFin.out w6 v' hown' hgrow)
      clear hown' hgrow HR4 HFin hrun hxl
      go_wp2
      go_roundw
      case rel => first | exact ⟨m + 1, xs ++ [(p, q)], j4, by go_num, by omega, by simp [HX.out], by omega, by omega, HE.out⟩ | ((repeat apply Exists.intro); refine ⟨?_, rfl⟩; exact ⟨m + 1, xs ++ [(p, q)], j4, by go_num, by omega, by simp [HX.out], by omega, by omega, HE.out⟩)
      case measure => simp [intOf]; omega
    · have e : m = n := by omega
      subst e
      go_wp2
      go_ret
      exact ⟨_, xs, rfl, HR.out.base (by rw [HBB.out]; omega), HX.out, HW.out, HS.out.below⟩

end Go.Proofs.Ytocjhanehphibaa
/-
  What ExpandFilter makes of sixteenths is the convolution of what is expanded. No program.
-/
set_option linter.unusedVariables false
set_option linter.unusedSimpArgs false
namespace Go.Proofs.Ytocjhanehphibaa
open Go.RowKit Flt Fast

theorem PlainC.getD {xs : List C} (h : PlainC xs) (i : Nat) : Sx (xs.getD i (0, 0)).1 ∧ Sx (xs.getD i (0, 0)).2 := by
  by_cases hi : i < xs.length
  · exact h _ (by simp [List.getD, hi])
  · rw [show xs.getD i (0, 0) = (0, 0) by simp [List.getD, List.getElem?_eq_none (Nat.le_of_not_lt hi)]]
    exact ⟨sx_zero.1, sx_zero.1⟩
theorem PlainC.exp {xs : List C} (h : PlainC xs) (m k : Nat) : PlainC (expN xs m k) := by
  intro u hu
  obtain ⟨j, hj, rfl⟩ := List.mem_map.1 hu
  split
  · exact h.getD _
  · exact ⟨sx_zero.1, sx_zero.1⟩
theorem kAt_exp (xs : List C) {m : Nat} (hm : 0 < m) (j : Nat) : kAt (expN xs m xs.length) j = if j % m = 0 then kAt xs (j / m) else (0, 0) := by
  by_cases hj : j < xs.length * m
  · have h1 : j / m < xs.length := by rw [Nat.div_lt_iff_lt_mul hm]; exact hj
    unfold kAt
    rw [expN_getD hj]
    by_cases h2 : j % m = 0
    · rw [if_pos ⟨h2, h1⟩, if_pos h2]
    · rw [if_neg (fun h => h2 h.1), if_neg h2]; exact Prod.ext sx_zero.2 sx_zero.2
  · rw [kAt_out (by rw [expN_length]; omega)]
    split
    · rw [kAt_out]
      rw [Nat.le_div_iff_mul_le hm]; omega
    · rfl

/-- A part's numbers are sixteenths. -/
theorem pz_ks {h : List C} (hh : PlainC h) {m b : Nat} (hm : 0 < m) : Ks (pz h m b) (fun j => kAt h (b + j * m)) := by
  have hout : ∀ i, cntP h.length b m ≤ i → kAt h (b + i * m) = (0, 0) := fun i hi => kAt_out (by
    have := (cntP_lt h.length b m i hm)
    omega)
  refine ⟨fun i => ?_, fun i hi => hout i (by rwa [pz_length] at hi)⟩
  by_cases hi : i < cntP h.length b m
  · have e : (pz h m b).getD i z0 = (zsOf h).getD (b + i * m) z0 := by
      rw [zsOf_getD ((cntP_lt _ _ _ _ hm).1 hi)]
      simp [pz, List.getD, hi, polQ]
    rw [e]
    exact hh.at _
  · have e : (pz h m b).getD i z0 = z0 := by simp [List.getD, List.getElem?_eq_none, pz_length, Nat.le_of_not_lt hi]
    rw [e]
    show IVC 4 64 z0 (kAt h (b + i * m))
    rw [hout i (by omega)]
    exact ivc_zero _ _

theorem cvK_exp (kp kq : Nat → KK) {m : Nat} (hm : 0 < m) (i J : Nat) :
    cvK (fun j => if j % m = 0 then kp (j / m) else (0, 0)) kq i (m * J) = cvK kp (fun j => kq (i % m + j * m)) (i / m) J := by
  have hi := Nat.mod_add_div i m
  have hr := Nat.mod_lt i hm
  unfold cvK
  rw [sumK_stride hr]
  · refine sumK_congr fun j _ => ?_
    show (if i % m + m * j ≤ i then _ else _) = (if j ≤ i / m then _ else _)
    by_cases hj : j ≤ i / m
    · have h1 : m * j ≤ m * (i / m) := Nat.mul_le_mul_left _ hj
      rw [if_pos (by omega), if_pos hj]
      have h2 : i - (i % m + m * j) = m * (i / m - j) := by rw [Nat.mul_sub]; omega
      show mulK (kq (i % m + m * j)) (if (i - (i % m + m * j)) % m = 0 then kp ((i - (i % m + m * j)) / m) else (0, 0)) = mulK (kq (i % m + j * m)) (kp (i / m - j))
      rw [h2, Nat.mul_mod_right, if_pos rfl, Nat.mul_div_cancel_left _ hm, Nat.mul_comm m j]
    · have h1 : m * (i / m + 1) ≤ m * j := Nat.mul_le_mul_left _ (by omega)
      rw [Nat.mul_add, Nat.mul_one] at h1
      rw [if_neg (by omega), if_neg hj]
  · intro k hk
    show (if k ≤ i then _ else _) = _
    split
    · rename_i hki
      show mulK (kq k) (if (i - k) % m = 0 then kp ((i - k) / m) else (0, 0)) = (0, 0)
      rw [if_neg, mulK_zero]
      intro h0
      apply hk
      obtain ⟨c, hc⟩ := Nat.dvd_of_mod_eq_zero h0
      have : i = k + m * c := by omega
      rw [this, Nat.add_mul_mod_self_left]
    · rfl

theorem zF_iv {p q : List C} (hp : PlainC p) (hq : PlainC q) {m : Nat} (hm : 0 < m) (i J : Nat) (hJ : q.length ≤ J) (hb : q.length ≤ 1000) (hp0 : 0 < p.length) :
    IVC 8 (1000 * 8192) (zF p q m (i % m) (i / m)) (cvK (kAt (expN p m p.length)) (kAt q) i (m * J)) := by
  have e : cvK (kAt (expN p m p.length)) (kAt q) i (m * J) = cvK (kAt p) (fun j => kAt q (i % m + j * m)) (i / m) J := by
    rw [← cvK_exp (kAt p) (kAt q) hm i J]
    congr 1
    funext j
    exact kAt_exp p hm j
  have hks := pz_ks hq (b := i % m) hm
  have hcl := cntP_le q.length (i % m) m hm
  rw [e]
  unfold zF
  by_cases hlt : i / m < cvLen p.length (cntP q.length (i % m) m)
  · rw [if_pos hlt]
    exact cvAt_iv hp.ks hks (by rw [zsOf_length, pz_length]; exact hlt) (by rw [pz_length]; omega) (by rw [pz_length]; omega)
  · rw [if_neg hlt]
    have e0 : cvK (kAt p) (fun j => kAt q (i % m + j * m)) (i / m) J = (0, 0) := by
      unfold cvK
      refine sumK_zero fun j _ => ?_
      show (if j ≤ i / m then _ else _) = _
      split
      · by_cases hj : j < cntP q.length (i % m) m
        · rw [cvLen_pos (by omega) (by omega)] at hlt
          rw [kAt_out (xs := p) (by omega), mulK_zero]
        · have := hks.out j (by rw [pz_length]; omega)
          exact (congrArg (fun z => mulK z (kAt p (i / m - j))) this).trans (zero_mulK _)
      · rfl
    rw [e0]
    exact ivc_zero _ _

/-- Two numbers are equal to Go. -/
theorem IVC.eqs {e K L : Nat} {a b : C} {z z' : Z} {k : KK} (ha : IsC a z) (hb : IsC b z') (h : IVC e K z k) (h' : IVC e L z' k) :
    (FloatKind.f64.format.order a.1 b.1 == some .eq) = true ∧ (FloatKind.f64.format.order a.2 b.2 == some .eq) = true := ⟨IV.eq ha.re hb.re h.1 h'.1, IV.eq ha.im hb.im h.2 h'.2⟩
theorem pol_eq {p q : List C} (hp : PlainC p) (hq : PlainC q) {m : Nat} (hm : 0 < m) {i : Nat} (hb : q.length ≤ 1000) (hp0 : 0 < p.length) (hq0 : 0 < q.length) (hi : i < p.length * m + q.length - 1) {a b : C} (ha : IsC a (zF p q m (i % m) (i / m))) (hb' : IsC b (cvAt (zsOf (expN p m p.length)) (zsOf q) i)) :
    (FloatKind.f64.format.order a.1 b.1 == some .eq) = true ∧ (FloatKind.f64.format.order a.2 b.2 == some .eq) = true := by
  refine IVC.eqs ha hb' (zF_iv hp hq hm i q.length (Nat.le_refl _) hb hp0) (cvAt_iv (hp.exp m p.length).ks hq.ks ?_ ?_ ?_)
  · rw [zsOf_length, zsOf_length, expN_length, cvLen_pos (Nat.pos_iff_ne_zero.1 (Nat.mul_pos hp0 hm)) (by omega)]; exact hi
  · rw [zsOf_length]; exact Nat.le_mul_of_pos_left _ hm
  · rw [zsOf_length]; exact hb

/-- The parts together are the signal. -/
theorem lenS_cnt : ∀ m, 1 ≤ m → m ≤ 5 → ∀ L, L ≤ 14 → lenS (fun b => cntP L b m) m = L := by
  have h : ∀ m : _root_.Fin 6, 1 ≤ m.val → ∀ L : _root_.Fin 15, lenS (fun b => cntP L.val b m.val) m.val = L.val := by decide +kernel
  exact fun m h1 h2 L h3 => h ⟨m, by omega⟩ h1 ⟨L, by omega⟩

end Go.Proofs.Ytocjhanehphibaa
/-
  P6Any: a signal of any numbers.
-/
set_option linter.unusedVariables false
set_option linter.unusedSimpArgs false
namespace Go.Proofs.Ytocjhanehphibaa
open Go.RowKit Flt Fast

set_option maxRecDepth 100000 in
set_option maxHeartbeats 4000000 in
theorem signal_any (w0 : World) (B : Nat) (a : Option Addr) (len cap : Nat) (hr : Bytes w0 a len cap) (n : Nat) (hn : 0 < n) (hn2 : n ≤ 100) (w : World) (hB : B < w.heap.size) (h : Src w0 B a len cap 0 w) :
    Calls Try.prog 47 #[.pointer (some ⟨B, 0, none⟩), .int .i64 n] w fun e w' => ∃ v xs, e = .returned v ∧ Row w' w.heap.size 30 v (cvals xs) ∧ xs.length ≤ n ∧ WfC xs ∧ Below w0.heap.size w0 w' := by
  obtain ⟨i0, hi, hz0, hz1, hz2⟩ := info_parts info_c128
  go_enter Try.func47, Try.ntmps47
  go_wp2_with fail
  refine (pick_any w0 B a len cap hr 0 (by omega) ((n : Int) + 1) (by omega) (by omega) _ (h.alloc _)).mono ?_
  rintro e w1 ⟨k0, j0, l0, l1, rfl, i0', i1', hs, hg⟩
  have hrow : Row w1 w.heap.size 30 (.slice (some ⟨w.heap.size, 0, none⟩) 0 0) (cvals []) := Row.kept (World.ownsRow_lit w #[] 0 (Nat.le_refl _) (by unfold maxLen; omega) rfl) hg (.inr (by simp [Value.ownBlock]; omega))
  obtain ⟨kk, rfl⟩ : ∃ kk : Nat, k0 = kk := ⟨k0.toNat, by omega⟩
  have HS := Lib.hid hs
  have HR := Lib.hid hrow
  have hkn : kk ≤ n := by omega
  have hsz1 : w.heap.size ≤ w1.heap.size := by have := hg.size; simp at this; omega
  clear hs hg hrow h
  go_wp2
  go_loopw [5, 6] (fun v k wr => ∃ (m : Nat) (xs : List C) (j : Int), k = .int .i64 m ∧ m + xs.length ≤ n ∧ 0 ≤ j ∧ j ≤ 2 + 20 * (xs.length : Int) ∧ w.heap.size ≤ wr.heap.size ∧ Src w0 B a len cap j wr ∧ Row wr w.heap.size 30 v (cvals xs) ∧ WfC xs) (fun _ k _ => (intOf k).toNat)
  case atStart => exact ⟨kk, [], j0, rfl, by simpa using hkn, by omega, by simp; omega, hsz1, HS.out, HR.out, by intro p hp; cases hp⟩
  case round =>
    clear HS HR
    obtain ⟨m, xs, j, rfl, hm, hj0, hj1, hsz, hs, hrw, hwf⟩ := hrel
    have HS := Lib.hid hs
    have HR := Lib.hid hrw
    have HW := Lib.hid hwf
    clear hs hrw hwf
    by_cases hlt : 0 < m
    · have hxl : (cvals xs).length = xs.length := cvals_length xs
      have hxn : (xs.length : Int) ≤ 100 := by omega
      go_wp2_with fail
      refine (number_any w0 B a len cap hr j (by omega) _ HS.out).mono ?_
      rintro e w5 ⟨p, q, j5, hp, hq, rfl, k6, k7, hs5, hg5⟩
      have hr5 : Row w5 w.heap.size 30 u5 (cvals xs) := HR.out.kept hg5 (.inr (fun e => by have := (HR.out.lt _ e).1; omega))
      have hz5 : w.heap.size ≤ w5.heap.size := Nat.le_trans hsz hg5.size
      have HFin : Hid (∀ (w6 : World) v', w6.ownsRow w.heap.size 30 1 v' (xs.length + 1) (cvals xs ++ [.complex .f64 p q]) → (w5.alloc (.cells #[.complex .f64 p q] 30)).grownBy w6 u5.ownBlock →
          w.heap.size ≤ w6.heap.size ∧ Src w0 B a len cap j5 w6 ∧ Row w6 w.heap.size 30 v' (cvals (xs ++ [(p, q)])) ∧ WfC (xs ++ [(p, q)])) := fun w6 v' hown hgr => by
        refine ⟨by have := hgr.size; simp at *; omega, (hs5.alloc _).other hgr (fun e => ?_) (fun k e => ?_), ?_, wfC_snoc HW.out hp hq⟩
        · have := (hr5.lt _ e).1; omega
        · have h1 := (hr5.lt _ e).1; have h2 := hs5.new; omega
        · show w6.ownsRow _ _ _ _ _ _
          rw [cvals_snoc, List.length_append, cvals_length]
          exact hown
      have HR5 := Lib.hid hr5
      clear hr5 hs5 hg5 HR HS
      go_wp2_with (at_builtin; refine wpList_append_own _ rfl _ _ 24 rfl w.heap.size 30 i0 (.complex .f64 0 0) 1 16 Try.underlying24 hi hz0 hz1 hz2 rfl (by decide) _ _ _ rfl (HR5.out.alloc _) ⟨_, 0, none⟩ 1 1 [.complex .f64 _ _] rfl rfl (cell_one_new _ _ _) (by intro u hu; simp at hu; subst hu; rfl) (by rw [hxl]; simp only [maxLen]; omega) (by rw [hxl]; omega) (by simp; omega) ?_)
      intro v' w6 hown' hgrow _
      have HE := Lib.hid (HFin.out w6 v' hown' hgrow)
      clear hown' hgrow HR5 HFin hxl
      go_wp2
      go_roundw
      case rel => exact ⟨m - 1, xs ++ [(p, q)], j5, by go_num, by simp; omega, by omega, by simp; omega, HE.out⟩
      case measure => simp [intOf]; omega
    · have e : m = 0 := by omega
      subst e
      go_wp2
      go_ret
      exact ⟨_, xs, rfl, HR.out, by omega, HW.out, HS.out.below⟩

theorem p6Any_any (a : Option Addr) (len cap : Nat) (n : Nat) (hn : 0 < n) (hn2 : n ≤ 100) (w : World) (hr : ∃ zs, IsRow .u8 w a len cap zs) :
    Calls Try.prog 17 #[.slice a len cap, .int .i64 n] w (Wild n w) := by
  go_enter Try.func17, Try.ntmps17
  go_wp2_with (first | (go_at_call 33; go_in))
  refine (signal_any w w.heap.size a len cap hr n hn hn2 _ (by simp) src_new).mono ?_
  rintro e w1 ⟨v, xs, rfl, hrow, hl, hw, hb⟩
  have HE := Lib.hid (show Wild n w (.returned v) w1 from ⟨v, xs, rfl, hrow.base (by simp), hl, hw, hb⟩)
  clear hrow hl hw hb
  go_wp2
  go_ret
  exact HE.out

end Go.Proofs.Ytocjhanehphibaa

/-
  f6part: a part of a signal.
-/
set_option linter.unusedVariables false
set_option linter.unusedSimpArgs false
namespace Go.Proofs.Ytocjhanehphibaa
open Go.RowKit Flt Fast

end Go.Proofs.Ytocjhanehphibaa
/-
  FnPolyphase: the law.
-/
set_option linter.unusedVariables false
set_option linter.unusedSimpArgs false
namespace Go.Proofs.Ytocjhanehphibaa
open Go.RowKit Flt Fast

theorem run_neqP {P : Program} (w : World) (t : TypeId) (k : FloatKind) (a b c d : Nat) : (binOp .neq t (.complex k a b) (.complex k c d)).run P w = .ok (.bool (!eqC k a b c d)) w := run_neq_complex w t k a b c d
attribute [local go_sem ↓] run_neqP
theorem RdO.selfP {w : World} {B e : Nat} {v : Value} {xs : List C} (h : Row w B e v (cvals xs)) : RdO w.heap.size w v xs := RdO.of_row h (fun k e => (h.lt k e).2)

theorem pol_back {xs ys : List C} {m : Nat} (hw : WfC xs) (hl : ys.length = xs.length) (h : ∀ i, i < xs.length → IsC (ys.getD i (0, 0)) (polQ xs m (i % m) (i / m))) : ys.length = xs.length ∧ ∀ j, j < ys.length → ∃ z, IsC (ys.getD j (0, 0)) z ∧ IsC (xs.getD j (0, 0)) z := by
  refine ⟨hl, fun j hj => ⟨_, h j (by omega), ?_⟩⟩
  unfold polQ
  rw [Nat.mul_comm, Nat.mod_add_div]
  exact isC_zOf (hw _ (by simp [List.getD, show j < xs.length by omega]))
theorem pol_exp {xs : List C} {m : Nat} (hm : 0 < m) : partN (expN xs m xs.length) 0 m (cntP (expN xs m xs.length).length 0 m) = xs := by
  have hc : cntP (expN xs m xs.length).length 0 m = xs.length := by
    rw [expN_length]
    have h1 := cntP_lt (xs.length * m) 0 m xs.length hm
    by_cases h0 : xs.length = 0
    · have := cntP_le (xs.length * m) 0 m hm
      rw [h0] at this ⊢; omega
    · have h2 := (cntP_lt (xs.length * m) 0 m (xs.length - 1) hm).2 (by rw [Nat.zero_add]; exact (Nat.mul_lt_mul_right hm).2 (by omega))
      omega
  rw [hc]
  apply List.ext_getElem (by simp [partN])
  intro i h1 h2
  have e : (partN (expN xs m xs.length) 0 m xs.length)[i] = (expN xs m xs.length).getD (0 + i * m) (0, 0) := by simp [partN]
  rw [e, Nat.zero_add, expN_getD ((Nat.mul_lt_mul_right hm).2 h2), Nat.mul_mod_left, Nat.mul_div_cancel _ hm, if_pos ⟨rfl, h2⟩]
  simp [List.getD, h2]
theorem pol_self {xs : List C} (hw : WfC xs) : ∀ j, j < xs.length → ∃ z, IsC (xs.getD j (0, 0)) z ∧ IsC (xs.getD j (0, 0)) z := fun j hj => ⟨_, isC_zOf (hw _ (by simp [List.getD, hj])), isC_zOf (hw _ (by simp [List.getD, hj]))⟩
theorem pol_own {xs ys : List C} {m r : Nat} (hw : WfC xs) (hm : 0 < m) (hl : ys.length = cntP xs.length r m) (h : ∀ i, i < cntP xs.length r m → IsC (ys.getD i (0, 0)) (polQ xs m r i)) :
    (partN xs r m (cntP xs.length r m)).length = ys.length ∧ ∀ j, j < (partN xs r m (cntP xs.length r m)).length → ∃ z, IsC ((partN xs r m (cntP xs.length r m)).getD j (0, 0)) z ∧ IsC (ys.getD j (0, 0)) z := by
  refine ⟨by rw [partN_length, hl], fun j hj => ?_⟩
  rw [partN_length] at hj
  exact ⟨_, partN_isC hw hm hj, h j hj⟩
theorem pol_some {X H : List Z} {ps ss : List C} {m r T : Nat} (hm : 0 < m) (hT : cvLen X.length H.length = T) (hps : IsCs ps (cvAll X H)) (hl : ss.length = cntP T r m) (h : ∀ i, i < cntP T r m → IsC (ss.getD i (0, 0)) (cvAt X H (r + i * m))) :
    ss.length = (partN ps r m (cntP ps.length r m)).length ∧ ∀ j, j < ss.length → ∃ z, IsC (ss.getD j (0, 0)) z ∧ IsC ((partN ps r m (cntP ps.length r m)).getD j (0, 0)) z := by
  have hpl : ps.length = T := by rw [hps.1, cvAll_length, hT]
  rw [hpl]
  refine ⟨by rw [partN_length, hl], fun j hj => ⟨_, h j (by omega), ?_⟩⟩
  rw [partN_getD (by omega)]
  have hlt := (cntP_lt T r m j hm).1 (by omega)
  have := hps.2 (r + j * m) (by rw [cvAll_length, hT]; exact hlt)
  rwa [cvAll_getD (by rw [hT]; exact hlt)] at this

set_option maxRecDepth 100000 in
set_option maxHeartbeats 16000000 in
theorem fnPol_law (a0 : Option Addr) (len0 cap0 : Nat) (z0 : List Int) (a1 : Option Addr) (len1 cap1 : Nat) (z1 : List Int) (w : World) (h0 : IsRow .u8 w a0 len0 cap0 z0) (h1 : IsRow .u8 w a1 len1 cap1 z1) :
    Calls Try.prog 4 #[.slice a0 len0 cap0, .slice a1 len1 cap1] w fun e w' => e = .returned (.bool true) ∧ Below w.heap.size w w' := by
  have hm0 := isRow_len h0
  have hm1 := isRow_len h1
  by_cases hl0 : len0 ≤ 4096
  · have F0 := Lib.hid (f6big_f a0 len0 cap0 hl0)
    by_cases hl1 : len1 ≤ 4096
    · have F1 := Lib.hid (f6big_f a1 len1 cap1 hl1)
      have R0 := Lib.hid (fun w1 (hb : Below w.heap.size w w1) => (⟨z0, isRow_below h0 hb⟩ : ∃ zs, IsRow .u8 w1 a0 len0 cap0 zs))
      have R1 := Lib.hid (fun w1 (hb : Below w.heap.size w w1) => (⟨z1, isRow_below h1 hb⟩ : ∃ zs, IsRow .u8 w1 a1 len1 cap1 zs))
      have P0 : Hid (Calls Try.prog 17 #[.slice a0 len0 cap0, .int .i64 14] w (Wild 14 w)) := p6Any_any a0 len0 cap0 14 (by omega) (by omega) w ⟨z0, h0⟩
      have P1 : Hid (∀ w1, Below w.heap.size w w1 → Calls Try.prog 17 #[.slice a1 len1 cap1, .int .i64 4] w1 (Wild 4 w1)) := fun w1 hb => p6Any_any a1 len1 cap1 4 (by omega) (by omega) w1 ⟨z1, isRow_below h1 hb⟩
      clear h0 h1 hl0 hl1
      go_enter Try.func4, Try.ntmps4
      go_wp2_with fail
      with_reducible refine (F0.out _).mono ?_
      rintro e w' ⟨rfl, rfl⟩
      go_wp2_with fail
      with_reducible refine (F1.out _).mono ?_
      rintro e w' ⟨rfl, rfl⟩
      go_wp2_with fail
      with_reducible refine P0.out.mono ?_
      rintro e w1 ⟨v, xs, rfl, hr, hlx, hwx, hb⟩
      obtain ⟨va, vc, rfl⟩ := hr.written (cvals_length xs)
      have HX := Lib.hid hr
      have HWX := Lib.hid hwx
      have HB1 := Lib.hid hb
      clear hr hwx hb
      go_wp2_with fail
      with_reducible refine (P1.out _ HB1.out).mono ?_
      rintro e w2 ⟨v, hs, rfl, hr, hla, hwa, hb⟩
      obtain ⟨ua, uc, rfl⟩ := hr.written (cvals_length hs)
      have HX2 := Lib.hid (HX.out.up hb)
      have HH2 := Lib.hid hr
      have HWH := Lib.hid hwa
      have HB2 := Lib.hid (below_step HB1.out hb HB1.out.size)
      clear hr hwa hb HX P0 P1 F0 F1
      obtain ⟨L, hL⟩ : ∃ L, xs.length = L := ⟨_, rfl⟩
      obtain ⟨M, hM⟩ : ∃ M, hs.length = M := ⟨_, rfl⟩
      rw [hL] at hlx HX2 ⊢
      rw [hM] at hla HH2 ⊢
      have HLX := Lib.hid hL
      have HLH := Lib.hid hM
      clear hL hM
      go_wp2_with fail
      with_reducible refine (p6Pick_any _ a1 len1 cap1 (R1.out _ HB2.out) 5 (by omega) (by omega)).mono ?_
      rintro e w3 ⟨r1, rfl, hr1, hb⟩
      obtain ⟨m, hm⟩ : ∃ m : Nat, (1 : Int) + (r1 : Int) = (m : Int) := ⟨1 + r1, by omega⟩
      have hm1' : 1 ≤ m := by omega
      have hm5 : m ≤ 5 := by omega
      have HX3 := Lib.hid (HX2.out.up hb)
      have HH3 := Lib.hid (HH2.out.up hb)
      have HB3 := Lib.hid (below_step HB2.out hb HB2.out.size)
      clear hb HX2 HH2 HB2 hr1
      go_wp2_with fail
      with_reducible refine (p6Pick_any _ a0 len0 cap0 (R0.out _ HB3.out) (m : Int) (by omega) (by omega)).mono ?_
      rintro e w4 ⟨r, rfl, hrm, hb⟩
      have hrm2 : r < m := by omega
      have HX4 := Lib.hid (HX3.out.up hb)
      have HH4 := Lib.hid (HH3.out.up hb)
      have HB4 := Lib.hid (below_step HB3.out hb HB3.out.size)
      clear hb HX3 HH3 HB3 hrm hm
      have K := Lib.hid (polyphase_impl HX4.out.reads HWX.out m hm1' (by omega) (by rw [HLX.out]; omega))
      go_wp2_with fail
      with_reducible refine K.out.mono ?_
      rintro e w5 ⟨V, vs, bs, rfl, hmd, hvs, hb⟩
      obtain ⟨pa, pc, rfl⟩ := hmd.row.written hvs
      have HP5 := Lib.hid hmd
      have HPV := Lib.hid hvs
      have HX5 := Lib.hid (HX4.out.up hb)
      have HH5 := Lib.hid (HH4.out.up hb)
      have HB5 := Lib.hid (below_step HB4.out hb HB4.out.size)
      clear hmd hvs hb HX4 HH4 HB4 K
      have K := Lib.hid (polyphase_spec HX5.out.reads HWX.out m hm1' (by omega) (by rw [HLX.out]; omega))
      go_wp2_with fail
      with_reducible refine K.out.mono ?_
      rintro e w6 ⟨V, ds, cs, rfl, hmd, hvs, hb⟩
      obtain ⟨da, dc, rfl⟩ := hmd.row.written hvs
      have HD6 := Lib.hid hmd
      have HDV := Lib.hid hvs
      have HX6 := Lib.hid (HX5.out.up hb)
      have HH6 := Lib.hid (HH5.out.up hb)
      have HP6 := Lib.hid (HP5.out.below hb)
      have HB6 := Lib.hid (below_step HB5.out hb HB5.out.size)
      clear hmd hvs hb HX5 HH5 HP5 HB5 K
      have K := Lib.hid (sameBlocksR_any HP6.out.lblkR HD6.out.lblkR (HPV.out.trans HDV.out.symm) (by rw [HPV.out]; omega))
      go_wp2_with fail
      with_reducible refine K.out.mono ?_
      rintro e w7 ⟨rfl, n7, rfl⟩
      have hb : Below w6.heap.size w6 (w6.drewN n7) := below_draws (Below.refl _ _) n7
      have HX7 := Lib.hid (HX6.out.up hb)
      have HH7 := Lib.hid (HH6.out.up hb)
      have HD7 := Lib.hid (HD6.out.below hb)
      have HB7 := Lib.hid (below_step HB6.out hb HB6.out.size)
      clear hb HX6 HH6 HD6 HP6 HPV HB6 K
      obtain ⟨w7, hw7⟩ : ∃ z, w6.drewN n7 = z := ⟨_, rfl⟩
      rw [hw7] at HX7 HH7 HD7 HB7 ⊢
      clear hw7
      have K : Hid (Calls Try.prog 21 #[.slice da m dc] w7 (SigTo2 xs.length (fun i => polQ xs m (i % m) (i / m)) w7)) := Lib.hid (by
        have := interleave_impl HD7.out.lblkR xs.length (by rw [HDV.out]; omega) (by rw [HDV.out]; omega) (by rw [HDV.out]; exact lenS_cnt m hm1' hm5 _ (by rw [HLX.out]; exact hlx)) (by rw [HLX.out]; omega) (fun b hb => by rw [HDV.out])
        rwa [HDV.out] at this)
      go_wp2_with fail
      with_reducible refine K.out.mono ?_
      rintro e w8 ⟨v, ys, rfl, hr, hyl, hyq, hb⟩
      obtain ⟨ya, yc, rfl⟩ := hr.written (n := L) (by rw [cvals_length, hyl, HLX.out])
      have HYS := Lib.hid (pol_back HWX.out hyl hyq)
      have HY8 := Lib.hid hr
      have HX8 := Lib.hid (HX7.out.up hb)
      have HH8 := Lib.hid (HH7.out.up hb)
      have HD8 := Lib.hid (HD7.out.below hb)
      have HB8 := Lib.hid (below_step HB7.out hb HB7.out.size)
      clear hr hyl hyq hb HX7 HH7 HD7 HB7 K
      have hLm : L * m ≤ 70 := Nat.le_trans (Nat.mul_le_mul hlx hm5) (by omega)
      have K := Lib.hid (expand_impl HX8.out.reads m hm1' (by omega) (by rw [HLX.out]; omega))
      go_wp2_with fail
      with_reducible refine K.out.mono ?_
      rintro e w9 ⟨v, rfl, hr, hb⟩
      obtain ⟨W, hW⟩ : ∃ W, L * m = W := ⟨_, rfl⟩
      obtain ⟨ea, ec, rfl⟩ := hr.written (n := W) (by rw [cvals_length, expN_length, HLX.out, hW])
      have HE9 := Lib.hid hr
      have HY9 := Lib.hid (HY8.out.up hb)
      have HX9 := Lib.hid (HX8.out.up hb)
      have HH9 := Lib.hid (HH8.out.up hb)
      have HD9 := Lib.hid (HD8.out.below hb)
      have HB9 := Lib.hid (below_step HB8.out hb HB8.out.size)
      have HEL : Hid ((expN xs m xs.length).length ≤ 256) := Lib.hid (by rw [expN_length, HLX.out]; omega)
      clear hr hb HY8 HX8 HH8 HD8 HB8 K hW hLm
      have K : Hid (Calls Try.prog 23 #[.slice ea W ec, .int .i64 m, .int .i64 0] w9 fun e w' => ∃ v, e = .returned (.tuple #[v, .int .i64 0]) ∧ Row w' w9.heap.size 30 v (cvals xs) ∧ Below w9.heap.size w9 w') := Lib.hid (by
        have := decimate_impl HE9.out.reads m 0 hm1' (by omega) (by omega) HEL.out
        unfold PartTo at this
        rwa [pol_exp (by omega)] at this)
      go_wp2_with fail
      with_reducible refine K.out.mono ?_
      rintro e w10 ⟨v, rfl, hr, hb⟩
      obtain ⟨ga, gc, rfl⟩ := hr.written (n := L) (by rw [cvals_length, HLX.out])
      have HG10 := Lib.hid hr
      have HY10 := Lib.hid (HY9.out.up hb)
      have HX10 := Lib.hid (HX9.out.up hb)
      have HH10 := Lib.hid (HH9.out.up hb)
      have HD10 := Lib.hid (HD9.out.below hb)
      have HB10 := Lib.hid (below_step HB9.out hb HB9.out.size)
      clear hr hb HE9 HY9 HX9 HH9 HD9 HB9 K HEL
      have K := Lib.hid (decimate_impl HX10.out.reads m r hm1' (by omega) hrm2 (by rw [HLX.out]; omega))
      go_wp2_with fail
      with_reducible refine K.out.mono ?_
      rintro e w11 ⟨v, rfl, hr, hb⟩
      obtain ⟨ct, hct⟩ : ∃ ct, cntP xs.length r m = ct := ⟨_, rfl⟩
      have HCT := Lib.hid hct
      obtain ⟨oa, oc, rfl⟩ := hr.written (n := ct) (by rw [cvals_length, partN_length, hct])
      have HO11 := Lib.hid hr
      have HG11 := Lib.hid (HG10.out.up hb)
      have HY11 := Lib.hid (HY10.out.up hb)
      have HX11 := Lib.hid (HX10.out.up hb)
      have HH11 := Lib.hid (HH10.out.up hb)
      have HD11 := Lib.hid (HD10.out.below hb)
      have HB11 := Lib.hid (below_step HB10.out hb HB10.out.size)
      clear hr hb HG10 HY10 HX10 HH10 HD10 HB10 K hct
      have hTle := cvLen_le L M
      obtain ⟨T, hT⟩ : ∃ T, cvLen L M = T := ⟨_, rfl⟩
      have HT : Hid (cvLen xs.length hs.length = T) := Lib.hid (by rw [HLX.out, HLH.out]; exact hT)
      rw [hT] at hTle
      have K := Lib.hid (convolve_spec xs hs _ _ (by rw [HLX.out]; omega) (by rw [HLH.out]; omega) (by rw [HT.out]; omega) HWX.out HWH.out w11 (RdO.selfP HX11.out) (RdO.selfP HH11.out))
      go_wp2_with fail
      with_reducible refine K.out.mono ?_
      rintro e w12 ⟨v, ps, rfl, hr, hps, hb⟩
      have hpl : ps.length = T := by rw [hps.1, cvAll_length, zsOf_length, zsOf_length]; exact HT.out
      obtain ⟨wa, wc, rfl⟩ := hr.written (n := T) (by rw [cvals_length, hpl])
      have HPL := Lib.hid hpl
      have HPS := Lib.hid hps
      have HW12 := Lib.hid hr
      have HO12 := Lib.hid (HO11.out.up hb)
      have HG12 := Lib.hid (HG11.out.up hb)
      have HY12 := Lib.hid (HY11.out.up hb)
      have HX12 := Lib.hid (HX11.out.up hb)
      have HH12 := Lib.hid (HH11.out.up hb)
      have HD12 := Lib.hid (HD11.out.below hb)
      have HB12 := Lib.hid (below_step HB11.out hb HB11.out.size)
      clear hr hps hpl hb HO11 HG11 HY11 HX11 HH11 HD11 HB11 K hT
      have K := Lib.hid (filterDecimate_impl xs hs _ _ m r hm1' (by omega) hrm2 (by rw [HLX.out]; omega) (by rw [HLH.out]; omega) (by rw [HT.out]; omega) HWX.out HWH.out w12 (RdO.selfP HX12.out) (RdO.selfP HH12.out))
      go_wp2_with fail
      with_reducible refine K.out.mono ?_
      rintro e w13 ⟨v, ss, rfl, hr, hsl, hsz, hb⟩
      rw [HT.out] at hsl hsz
      obtain ⟨cu, hcu⟩ : ∃ cu, cntP T r m = cu := ⟨_, rfl⟩
      obtain ⟨sa, sc, rfl⟩ := hr.written (n := cu) (by rw [cvals_length, hsl, hcu])
      have HSS := Lib.hid (pol_some (X := zsOf xs) (H := zsOf hs) (by omega) (by rw [zsOf_length, zsOf_length]; exact HT.out) HPS.out hsl hsz)
      have HS13 := Lib.hid hr
      have HW13 := Lib.hid (HW12.out.up hb)
      have HO13 := Lib.hid (HO12.out.up hb)
      have HG13 := Lib.hid (HG12.out.up hb)
      have HY13 := Lib.hid (HY12.out.up hb)
      have HX13 := Lib.hid (HX12.out.up hb)
      have HD13 := Lib.hid (HD12.out.below hb)
      have HB13 := Lib.hid (below_step HB12.out hb HB12.out.size)
      clear hr hsl hsz hb HW12 HO12 HG12 HY12 HX12 HH12 HD12 HB12 K HPS
      have K := Lib.hid (decimate_spec HW13.out.reads m r hm1' (by omega) hrm2 (by rw [HPL.out]; omega))
      go_wp2_with fail
      with_reducible refine K.out.mono ?_
      rintro e w14 ⟨v, rfl, hr, hb⟩
      obtain ⟨ta, tc, rfl⟩ := hr.written (n := cu) (by rw [cvals_length, partN_length, HPL.out, hcu])
      have HT14 := Lib.hid hr
      have HS14 := Lib.hid (HS13.out.up hb)
      have HO14 := Lib.hid (HO13.out.up hb)
      have HG14 := Lib.hid (HG13.out.up hb)
      have HY14 := Lib.hid (HY13.out.up hb)
      have HX14 := Lib.hid (HX13.out.up hb)
      have HD14 := Lib.hid (HD13.out.below hb)
      have HB14 := Lib.hid (below_step HB13.out hb HB13.out.size)
      clear hr hb HW13 HS13 HO13 HG13 HY13 HX13 HD13 HB13 K hcu
      have K := Lib.hid (sameSignals_spec HY14.out.reads HX14.out.reads HYS.out.1 HYS.out.2)
      go_wp2_with fail
      with_reducible refine K.out.mono ?_
      rintro e w' ⟨rfl, n15, rfl⟩
      have K := Lib.hid (sameSignals_spec (HG14.out.drewN n15).reads (HX14.out.drewN n15).reads rfl (pol_self HWX.out))
      go_wp2_with fail
      with_reducible refine K.out.mono ?_
      rintro e w' ⟨rfl, n16, rfl⟩
      obtain ⟨k1, k2, k3⟩ := HD14.out.each r (by rw [HDV.out]; exact hrm2)
      obtain ⟨ba, bc, hbv⟩ := cform k1.reads
      rw [cvals_length, k2] at hbv
      have HOW := Lib.hid (pol_own HWX.out (show 0 < m by omega) k2 k3)
      obtain ⟨gd, rfl⟩ : ∃ g, da = some ⟨g, 0, none⟩ := by
        rcases HD14.out.row.shape with ⟨a, cap, e1, e2⟩ | ⟨g, cap, e1, h0, -⟩
        · have := HDV.out; rw [e2] at this; simp at this; omega
        · simp only [Value.slice.injEq] at e1; exact ⟨_, e1.1⟩
      have hcell := HD14.out.row.cellAt (j := r) hrm2
      rw [hbv] at hcell k1
      have HK1 := Lib.hid k1
      have k2' : cntP xs.length r m = ct := HCT.out
      rw [k2'] at hcell HK1
      clear k1 k2 k3 hbv k2'
      have K : Hid (∀ n, Calls Try.prog 11 #[.slice oa ct oc, .slice ba ct bc] (w14.drewN n) fun e w' => e = .returned (.bool true) ∧ ∃ k, w' = (w14.drewN n).drewN k) := Lib.hid fun n => sameSignals_spec (HO14.out.drewN n).reads (HK1.out.drewN n).reads HOW.out.1 HOW.out.2
      have hrI : (r : Int) < (m : Int) := by omega
      go_wp2_with fail
      with_reducible refine (K.out _).mono ?_
      rintro e w' ⟨rfl, n17, rfl⟩
      clear K
      have K : Hid (∀ n, Calls Try.prog 11 #[.slice sa cu sc, .slice ta cu tc] (w14.drewN n) fun e w' => e = .returned (.bool true) ∧ ∃ k, w' = (w14.drewN n).drewN k) := Lib.hid fun n => sameSignals_spec (HS14.out.drewN n).reads (HT14.out.drewN n).reads HSS.out.1 HSS.out.2
      go_wp2_with fail
      with_reducible refine (K.out _).mono ?_
      rintro e w' ⟨rfl, n18, rfl⟩
      clear K
      have HBN := Lib.hid (fun n => below_draws HB14.out n)
      clear HT14 HS14 HO14 HG14 HY14 HX14 HD14 HB14 HK1 HOW HSS HYS HDV HCT HPL HT HLX HLH HWX HWH hcell hrI hTle
      go_wp2_with fail
      obtain ⟨n19, hn19⟩ : ∃ n, n15 + n16 + n17 + n18 = n := ⟨_, rfl⟩
      rw [hn19]
      have HB19 := Lib.hid (HBN.out n19)
      obtain ⟨w19, hw19⟩ : ∃ z, w14.drewN n19 = z := ⟨_, rfl⟩
      rw [hw19] at HB19 ⊢
      clear hn19 hw19 HBN
      with_reducible refine (p6Pick_any _ a1 len1 cap1 (R1.out _ HB19.out) 6 (by omega) (by omega)).mono ?_
      rintro e w20 ⟨t1, rfl, ht1, hb⟩
      obtain ⟨A, hA⟩ : ∃ A : Nat, (1 : Int) + (t1 : Int) = (A : Int) := ⟨1 + t1, by omega⟩
      have hA1 : 1 ≤ A := by omega
      have hA6 : A ≤ 6 := by omega
      have HB20 := Lib.hid (below_step HB19.out hb HB19.out.size)
      clear hb HB19 ht1
      have K := Lib.hid (p6Plain_any a0 len0 cap0 A (by omega) w20 (R0.out _ HB20.out))
      go_wp2_with fail
      with_reducible refine K.out.mono ?_
      rintro e w21 ⟨v, ps, rfl, hr, hpl, hpp, hb⟩
      obtain ⟨ia, ic, rfl⟩ := hr.written (n := A) (by rw [cvals_length, hpl])
      have HP21 := Lib.hid hr
      have HPL := Lib.hid hpl
      have HPP := Lib.hid hpp
      have HB21 := Lib.hid (below_step HB20.out hb HB20.out.size)
      clear hr hpl hpp hb HB20 K hA
      go_wp2_with fail
      with_reducible refine (p6Pick_any _ a0 len0 cap0 (R0.out _ HB21.out) 4 (by omega) (by omega)).mono ?_
      rintro e w22 ⟨t2, rfl, ht2, hb⟩
      obtain ⟨D, hD⟩ : ∃ D : Nat, (1 : Int) + (t2 : Int) = (D : Int) := ⟨1 + t2, by omega⟩
      have hD1 : 1 ≤ D := by omega
      have hD4 : D ≤ 4 := by omega
      have HP22 := Lib.hid (HP21.out.up hb)
      have HB22 := Lib.hid (below_step HB21.out hb HB21.out.size)
      clear hb HB21 HP21 ht2
      have K := Lib.hid (p6Plain_any a1 len1 cap1 D (by omega) w22 (R1.out _ HB22.out))
      go_wp2_with fail
      with_reducible refine K.out.mono ?_
      rintro e w23 ⟨v, qs, rfl, hr, hql, hqp, hb⟩
      obtain ⟨ja, jc, rfl⟩ := hr.written (n := D) (by rw [cvals_length, hql])
      have HQ23 := Lib.hid hr
      have HQL := Lib.hid hql
      have HQP := Lib.hid hqp
      have HP23 := Lib.hid (HP22.out.up hb)
      have HB23 := Lib.hid (below_step HB22.out hb HB22.out.size)
      clear hr hql hqp hb HB22 HP22 K hD R0 R1
      have hAm : A * m ≤ 30 := Nat.le_trans (Nat.mul_le_mul hA6 hm5) (by omega)
      have hAm0 : 0 < A * m := Nat.mul_pos (by omega) (by omega)
      have K := Lib.hid (expand_spec HP23.out.reads m hm1' (by omega) (by rw [HPL.out]; omega))
      go_wp2_with fail
      with_reducible refine K.out.mono ?_
      rintro e w24 ⟨v, rfl, hr, hb⟩
      have hel : (expN ps m ps.length).length = A * m := by rw [expN_length, HPL.out]
      obtain ⟨E, hE⟩ : ∃ E, A * m = E := ⟨_, rfl⟩
      rw [hE] at hel
      obtain ⟨ka, kc, rfl⟩ := hr.written (n := E) (by rw [cvals_length, hel])
      have HE24 := Lib.hid hr
      have HEL := Lib.hid hel
      have HQ24 := Lib.hid (HQ23.out.up hb)
      have HP24 := Lib.hid (HP23.out.up hb)
      have HB24 := Lib.hid (below_step HB23.out hb HB23.out.size)
      have HEE := Lib.hid hE
      rw [hE] at hAm hAm0
      clear hr hel hb HB23 HP23 HQ23 K hE
      have hTl : cvLen (expN ps m ps.length).length qs.length = E + D - 1 := by rw [HEL.out, HQL.out]; exact cvLen_pos (by omega) (by omega)
      have HTL := Lib.hid hTl
      clear hTl
      have K := Lib.hid (convolve_spec (expN ps m ps.length) qs _ _ (by rw [HEL.out]; omega) (by rw [HQL.out]; omega) (by rw [HTL.out]; omega) (HPP.out.exp m ps.length).wf HQP.out.wf w24 (RdO.selfP HE24.out) (RdO.selfP HQ24.out))
      go_wp2_with fail
      with_reducible refine K.out.mono ?_
      rintro e w25 ⟨v, ls, rfl, hr, hls, hb⟩
      obtain ⟨T, hT⟩ : ∃ T, E + D - 1 = T := ⟨_, rfl⟩
      have hll : ls.length = T := by rw [hls.1, cvAll_length, zsOf_length, zsOf_length, HTL.out, hT]
      obtain ⟨la, lc, rfl⟩ := hr.written (n := T) (by rw [cvals_length, hll])
      have HL25 := Lib.hid hr
      have HLL := Lib.hid hll
      have HLS := Lib.hid hls
      have HQ25 := Lib.hid (HQ24.out.up hb)
      have HP25 := Lib.hid (HP24.out.up hb)
      have HB25 := Lib.hid (below_step HB24.out hb HB24.out.size)
      clear hr hll hls hb HB24 HP24 HQ24 HE24 K
      have K := Lib.hid (expandFilter_impl ps qs _ _ m hm1' (by omega) (by rw [HPL.out]; omega) (by rw [HQL.out]; omega) (by rw [HPL.out]; omega) (by rw [HQL.out]; omega) (by rw [HPL.out, HQL.out, HEE.out]; omega) HPP.out.wf HQP.out.wf w25 (RdO.selfP HP25.out) HQ25.out.reads)
      rw [HPL.out, HQL.out, HEE.out, hT] at K
      have HTT := Lib.hid hT
      have hT64 : T ≤ 64 := by omega
      have hT1 : 1 ≤ T := by omega
      clear hT
      go_wp2_with fail
      with_reducible refine K.out.mono ?_
      rintro e w26 ⟨v, us, rfl, hr, hul, huz, hb⟩
      obtain ⟨ma, mc, rfl⟩ := hr.written (n := T) (by rw [cvals_length, hul])
      have hL26 := HL25.out.up hb
      obtain ⟨gl, rfl⟩ : ∃ g, la = some ⟨g, 0, none⟩ := by
        rcases hL26.shape with ⟨a, cap, e1, e2⟩ | ⟨g, cap, e1, h0, -⟩
        · simp only [Value.slice.injEq] at e1; omega
        · simp only [Value.slice.injEq] at e1; exact ⟨_, e1.1⟩
      obtain ⟨gq, rfl⟩ : ∃ g, ma = some ⟨g, 0, none⟩ := by
        rcases hr.shape with ⟨a, cap, e1, e2⟩ | ⟨g, cap, e1, h0, -⟩
        · simp only [Value.slice.injEq] at e1; omega
        · simp only [Value.slice.injEq] at e1; exact ⟨_, e1.1⟩
      have HEQ : Hid (∀ k, k < T → ∃ a b c d, w26.cell? ⟨gq, k, none⟩ = some (.complex .f64 a b) ∧ w26.cell? ⟨gl, k, none⟩ = some (.complex .f64 c d) ∧ eqC .f64 a b c d = true) := Lib.hid fun k hk => by
        have c1 := hr.cellAt (j := k) hk
        have c2 := hL26.cellAt (j := k) hk
        rw [cvals_getD (by rw [hul]; exact hk)] at c1
        rw [cvals_getD (by rw [HLL.out]; exact hk)] at c2
        have z1 := huz k hk
        have z2 := HLS.out.2 k (by rw [cvAll_length, zsOf_length, zsOf_length, HTL.out, HTT.out]; exact hk)
        rw [cvAll_getD (by rw [zsOf_length, zsOf_length, HTL.out, HTT.out]; exact hk)] at z2
        obtain ⟨e1, e2⟩ := pol_eq HPP.out HQP.out (show 0 < m by omega) (by rw [HQL.out]; omega) (by rw [HPL.out]; omega) (by rw [HQL.out]; omega) (by rw [HPL.out, HQL.out, HEE.out, HTT.out]; exact hk) z1 z2
        refine ⟨_, _, _, _, c1, c2, ?_⟩
        unfold eqC
        rw [e1, e2]; rfl
      have HB26 := Lib.hid (below_step HB25.out hb HB25.out.size)
      clear hr hul huz hb hL26 HL25 HLS HLL HB25 HP25 HQ25 K HPP HQP HPL HQL HEL HTL HTT HEE
      go_wp2
      go_loopw [35] (fun i wr => ∃ k n : Nat, i = .int .i64 k ∧ k ≤ T ∧ wr = w26.drewN n) (fun i _ => T - (intOf i).toNat)
      case atStart => exact ⟨0, 0, rfl, Nat.zero_le _, rfl⟩
      case round =>
        obtain ⟨k, n, rfl, hk, hw⟩ := hrel
        by_cases hlt : k < T
        · obtain ⟨a, b, c, d, c1, c2, he⟩ := HEQ.out k hlt
          have c1' : wr.cell? ⟨gq, k, none⟩ = some (.complex .f64 a b) := by rw [hw]; exact c1
          have c2' : wr.cell? ⟨gl, k, none⟩ = some (.complex .f64 c d) := by rw [hw]; exact c2
          have HW := Lib.hid hw
          clear hw c1 c2
          go_wp2
          go_quiet (fail)
          go_wp2
          go_roundw
          case rel => exact ⟨k + 1, n + nq, by go_num, by omega, by rw [HW.out, World.drewN_drewN]⟩
          case measure => simp [intOf]; omega
        · have e : k = T := by omega
          subst e
          have HW := Lib.hid hw
          clear hw
          go_wp2
          go_ret
          exact ⟨rfl, by rw [HW.out]; exact below_draws HB26.out n⟩
    · have F1 := Lib.hid (f6big_t a1 len1 cap1 (by omega) (by omega))
      clear h0 h1
      go_enter Try.func4, Try.ntmps4
      go_wp2_with fail
      with_reducible refine (F0.out _).mono ?_
      rintro e w' ⟨rfl, rfl⟩
      go_wp2_with fail
      with_reducible refine (F1.out _).mono ?_
      rintro e w' ⟨rfl, rfl⟩
      go_wp2
      go_ret
      exact ⟨rfl, Below.refl _ _⟩
  · have F0 := Lib.hid (f6big_t a0 len0 cap0 (by omega) (by omega))
    clear h0 h1
    go_enter Try.func4, Try.ntmps4
    go_wp2_with fail
    with_reducible refine (F0.out _).mono ?_
    rintro e w' ⟨rfl, rfl⟩
    go_wp2
    go_ret
    exact ⟨rfl, Below.refl _ _⟩

end Go.Proofs.Ytocjhanehphibaa
