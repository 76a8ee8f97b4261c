/-
  Several texts of this claim, one behind the other; each says what it holds.
-/
import Derived.Test.YteamnfockjnilaaMBins12
import Derived.Deep.RegionLaw
/-
  BoundOf of the model, for few sixteenths.
-/
set_option linter.unusedVariables false
set_option linter.unusedSimpArgs false
namespace Go.Proofs.Yteamnfockjnilaa
open Go.RowKit Flt Fast Turn

theorem absM_any (x : Nat) (hx : x < 18446744073709551616) (w : World) :
    Calls Try.prog 49 #[.float .f64 x] w fun e w' => e = .returned (.float .f64 (x % 9223372036854775808)) ∧ w' = w := by
  have A := Lib.hid (abs_any x hx w)
  go_enter Try.func49, Try.ntmps49
  go_wp2_with fail
  refine A.out.mono ?_
  rintro e w' ⟨rfl, rfl⟩
  go_wp2
  go_ret
  exact ⟨rfl, rfl⟩

theorem dy_add_run {s p : Nat} {S P : Rat} {K : Nat} (hs : Has s S) (hp : Has p P) (hd : Dy 4 K (S + P)) (hK : K < 2 ^ 53) : ∃ a, Has a (S + P) ∧ ∀ (Pr : Program) (t : TypeId) (w : World), (binOp .add t (.float .f64 s) (.float .f64 p)).run Pr w = .ok (.float .f64 a) w :=
  run_has (.inl rfl) (hd.fv_add hK (by decide) hs.fv hp.fv)

set_option maxRecDepth 100000 in
set_option maxHeartbeats 4000000 in
theorem sizes_spec (xs : List C) (n : Nat) (hx : xs.length = n) (hn : n ≤ 64) (hf : FewC xs) (v : Value) (w : World) (h : Reads w v (cvals xs)) :
    Calls Try.prog 42 #[v] w fun e w' => ∃ u, e = .returned (.float .f64 u) ∧ Has u (sumS xs) ∧ w' = w := by
  have HRD := Lib.hid (fun a m cap hv k hk => cv_reads h a m cap hv k hk)
  obtain ⟨a, cap, rfl⟩ := fl_form h
  rw [cvals_length, hx] at HRD ⊢
  have HF := Lib.hid (fun j (hj : j < n) => hf.at (show j < xs.length by omega))
  have HX := Lib.hid hx
  have hmax : (n : Int) ≤ 9223372036854775807 := by omega
  clear h hf hx
  go_enter Try.func42, Try.ntmps42
  go_wp2
  go_loopw [3, 4] (fun s i wr => ∃ (k u : Nat), s = .float .f64 u ∧ i = .int .i64 (k : Int) ∧ k ≤ n ∧ Has u (psum (fun j => nrm (xQ xs j)) k) ∧ Dy 4 (k * 2048) (psum (fun j => nrm (xQ xs j)) k) ∧ wr = w) (fun _ i _ => n - (intOf i).toNat)
  case atStart => exact ⟨0, 0, rfl, rfl, Nat.zero_le _, has_zero, Dy.zero _ _, rfl⟩
  case round =>
    obtain ⟨k, u, rfl, rfl, hk, hu, hd, rfl⟩ := hrel
    by_cases hlt : k < n
    · obtain ⟨g, rfl, -, c⟩ := HRD.out _ _ _ rfl k hlt
      obtain ⟨f1, f2⟩ := HF.out k hlt
      have e1 : (xQ xs k).1 = fq (xs.getD k (0, 0)).1 := rfl
      have e2 : (xQ xs k).2 = fq (xs.getD k (0, 0)).2 := rfl
      have hsucc : psum (fun j => nrm (xQ xs j)) (k + 1) = psum (fun j => nrm (xQ xs j)) k + Flt.ab (xQ xs k).1 + Flt.ab (xQ xs k).2 := by rw [psum_succ]; unfold nrm; grind
      rw [e1, e2] at hsucc
      generalize (xs.getD k (0, 0)).1 = p at *
      generalize (xs.getD k (0, 0)).2 = q at *
      have ap := has_abs f1.has
      have aq := has_abs f2.has
      have dp := dy_ab f1.dy
      have dq := dy_ab f2.dy
      have A1 := Lib.hid (fun w => absM_any p f1.has.lt w)
      have A2 := Lib.hid (fun w => absM_any q f2.has.lt w)
      obtain ⟨S, hS⟩ : ∃ S, psum (fun j => nrm (xQ xs j)) k = S := ⟨_, rfl⟩
      rw [hS] at hu hd hsucc
      have d1 := hd.add dp
      have d2 := d1.add dq
      obtain ⟨b, hb, E1⟩ := dy_add_run hu ap d1 (by omega)
      obtain ⟨b2, hb2, E2⟩ := dy_add_run hb aq d2 (by omega)
      have HFIN : Hid (Has b2 (psum (fun j => nrm (xQ xs j)) (k + 1)) ∧ Dy 4 ((k + 1) * 2048) (psum (fun j => nrm (xQ xs j)) (k + 1))) := by
        refine Lib.hid ?_
        rw [hsucc]
        exact ⟨hb2, d2.mono (by omega)⟩
      have E1 := fun t w => E1 Try.prog t w
      have E2 := fun t w => E2 Try.prog t w
      have hi3 : (k : Int) < (n : Int) := by omega
      by_cases hk0 : k = 0
      · subst hk0
        have hS0 : S = 0 := by rw [← hS]; rfl
        obtain ⟨b3, hb3, E3⟩ := dy_add_run ap aq (dp.add dq) (by omega)
        have E3 := fun t w => E3 Try.prog t w
        have HFIN : Hid (Has b3 (psum (fun j => nrm (xQ xs j)) (0 + 1)) ∧ Dy 4 ((0 + 1) * 2048) (psum (fun j => nrm (xQ xs j)) (0 + 1))) := by
          refine Lib.hid ?_
          rw [hsucc, hS0, Rat.zero_add]
          exact ⟨hb3, (dp.add dq).mono (by omega)⟩
        clear f1 f2 ap aq dp dq d1 d2 hb hb2 hb3 hu hd hsucc hS hS0 e1 e2 E1 E2
        go_wp2_with (go_at_call 49; first | (refine (A1.out _).mono ?_; rintro e w' ⟨rfl, rfl⟩) | (refine (A2.out _).mono ?_; rintro e w' ⟨rfl, rfl⟩))
        go_roundw
        case rel => exact ⟨0 + 1, b3, rfl, by go_num, by omega, HFIN.out.1, HFIN.out.2, (by first | rfl | trivial)⟩
        case measure => simp [intOf] <;> omega
      · have gk : ((k : Int) == 0) = false := by simp; omega
        clear f1 f2 ap aq dp dq d1 d2 hb hb2 hu hd hsucc hS e1 e2 hk0
        go_wp2_with (go_at_call 49; first | (refine (A1.out _).mono ?_; rintro e w' ⟨rfl, rfl⟩) | (refine (A2.out _).mono ?_; rintro e w' ⟨rfl, rfl⟩))
        go_roundw
        case rel => exact ⟨k + 1, b2, rfl, by go_num, by omega, HFIN.out.1, HFIN.out.2, (by first | rfl | trivial)⟩
        case measure => simp [intOf] <;> omega
    · have e : k = n := by omega
      subst e
      go_wp2
      go_ret
      exact ⟨u, rfl, by unfold sumS; rw [HX.out]; exact hu, rfl⟩

set_option maxRecDepth 100000 in
theorem boundM_any (xs : List C) (n : Nat) (hx : xs.length = n) (hn : n ≤ 64) (hf : FewC xs) (v : Value) (w : World) (h : Reads w v (cvals xs)) :
    Calls Try.prog 10 #[v] w fun e w' => ∃ u, e = .returned (.tuple #[.float .f64 u, .int .i64 0]) ∧ Has u (sumS xs / 68719476736) ∧ w' = w := by
  have S := Lib.hid (sizes_spec xs n hx hn hf v w h)
  have hD : Dy 40 (2 * xs.length * 1024) (sumS xs / 68719476736) := by
    obtain ⟨k, hk, e⟩ := sumS_dy hf
    refine ⟨k, hk, ?_⟩
    rw [← e]
    have : two 40 = 68719476736 * two 4 := by rw [show two 40 = 1099511627776 from rfl, show two 4 = 16 from rfl]; decide +kernel
    rw [this, ← Rat.mul_assoc, Rat.div_mul_cancel (by decide)]
  have HQ : Hid (∀ s, Has s (sumS xs) → ∃ d, Has d (sumS xs / 68719476736) ∧ ∀ (P : Program) (t : TypeId) (w : World), (binOp .quo t (.float .f64 s) (.float .f64 4769312005385355264)).run P w = .ok (.float .f64 d) w) := fun s h1 =>
    run_has (.inr (.inr (.inr rfl))) (hD.fv_div (by omega) (by decide) (by decide) h1.fv has_bound.fv)
  obtain ⟨a, cap, rfl⟩ := fl_form h
  rw [cvals_length, hx] at S ⊢
  have hmax : (n : Int) ≤ 9223372036854775807 := by omega
  have g256 : decide (256 < (n : Int)) = false := by simp; omega
  clear h hf hx hD
  have B : Hid (Calls Try.prog 24 #[.slice a n cap] w fun e w' => ∃ u, e = .returned (.float .f64 u) ∧ Has u (sumS xs / 68719476736) ∧ w' = w) := by
    refine Lib.hid ?_
    go_enter Try.func24, Try.ntmps24
    go_wp2_with fail
    refine S.out.mono ?_
    rintro e w' ⟨s, rfl, hs, rfl⟩
    obtain ⟨d, hd, E⟩ := HQ.out s hs
    have E := fun t w => E Try.prog t w
    have HD := Lib.hid hd
    clear hd hs
    go_wp2
    go_ret
    exact ⟨d, rfl, HD.out, rfl⟩
  clear S HQ
  go_enter Try.func10, Try.ntmps10
  go_wp2_with fail
  refine B.out.mono ?_
  rintro e w' ⟨u, rfl, hu, rfl⟩
  go_wp2
  go_ret2
  exact ⟨u, rfl, hu, rfl⟩

end Go.Proofs.Yteamnfockjnilaa
/-
  The draws of chapter 3 and on: l03Real, l03Number, P6Pick.
-/
set_option linter.unusedVariables false
set_option linter.unusedSimpArgs false
namespace Go.Proofs.Yteamnfockjnilaa
open Go.RowKit Flt Fast

set_option maxRecDepth 100000 in
set_option maxHeartbeats 4000000 in
theorem real_any (w0 : World) (B : Nat) (a : Option Addr) (len cap : Nat) (hr : Bytes w0 a len cap) (i : Int) (hi : i < 4611686018427387000) (w : World) (h : Src w0 B a len cap i w) :
    Calls Try.prog 53 #[.pointer (some ⟨B, 0, none⟩)] w (PicksF w0 B a len cap i 4 w) := by
  go_enter Try.func53, Try.ntmps53
  go_wp2_with fail
  go_at_call 15
  refine (pick_any w0 B a len cap hr i (by omega) 16 (by omega) (by omega) _ h).mono ?_
  rintro e w1 ⟨r, j, r0, r1, rfl, j0, j1, hs, hg⟩
  go_wp2_with fail
  all_goals (first
    | (with_reducible refine (pick_any w0 B a len cap hr j (by omega) 41 (by omega) (by omega) _ hs).mono ?_
       rintro e w2 ⟨s, k, s0, s1, rfl, k0, k1, hs2, hg2⟩
       go_wp2_with (refine wpList_farith _ rfl .quo (by decide) _ _ _ _ rfl .f64 _ _ rfl rfl ?_; intro q n hq hb)
       go_ret
       exact ⟨_, k, hb, rfl, by omega, by omega, hs2.draws _, grown_draws (grown_trans hg hg2) _⟩)
    | (with_reducible refine (pick_any w0 B a len cap hr j (by omega) 33 (by omega) (by omega) _ hs).mono ?_
       rintro e w2 ⟨s, k, s0, s1, rfl, k0, k1, hs2, hg2⟩
       go_wp2_with (refine wpList_farith _ rfl .quo (by decide) _ _ _ _ rfl .f64 _ _ rfl rfl ?_; intro q n hq hb)
       go_ret
       exact ⟨_, k, hb, rfl, by omega, by omega, hs2.draws _, grown_draws (grown_trans hg hg2) _⟩)
    | (with_reducible refine (pick_any w0 B a len cap hr j (by omega) 8 (by omega) (by omega) _ hs).mono ?_
       rintro e w2 ⟨s, k, s0, s1, rfl, k0, k1, hs2, hg2⟩
       go_wp2_with (first
         | (go_at_call 60; (first | (with_reducible refine (inf_any _).mono ?_) | (with_reducible refine (inf_neg _).mono ?_)); rintro e w' ⟨rfl, rfl⟩)
         | (go_at_call 59; refine (nan_call _).mono ?_; rintro e w' ⟨rfl, rfl⟩)
         | (go_at_call 61; refine (copysign_zero _).mono ?_; rintro e w' ⟨rfl, rfl⟩))
       all_goals (go_ret; exact ⟨_, k, by omega, rfl, by omega, by omega, hs2, grown_trans hg hg2⟩)))

/-- A complex number is returned, of whatever bits, and the source has gone on. -/
def PicksN (w0 : World) (B : Nat) (a : Option Addr) (len cap : Nat) (i : Int) (most : Int) (w : World) (e : Ending) (w' : World) : Prop :=
  ∃ p q j, p < 18446744073709551616 ∧ q < 18446744073709551616 ∧ e = .returned (.complex .f64 p q) ∧ i ≤ j ∧ j ≤ i + most ∧ Src w0 B a len cap j w' ∧ w.grownBy w' (some B)

set_option maxRecDepth 100000 in
theorem number_any (w0 : World) (B : Nat) (a : Option Addr) (len cap : Nat) (hr : Bytes w0 a len cap) (i : Int) (hi : i < 4611686018427380000) (w : World) (h : Src w0 B a len cap i w) :
    Calls Try.prog 45 #[.pointer (some ⟨B, 0, none⟩)] w (PicksN w0 B a len cap i 12 w) := by
  go_enter Try.func45, Try.ntmps45
  go_wp2_with fail
  refine (real_any w0 B a len cap hr i (by omega) _ h).mono ?_
  rintro e w1 ⟨r, j, hr1, rfl, j0, j1, hs, hg⟩
  go_wp2_with fail
  refine (one_any w0 B a len cap hr j (by omega) 3 (by omega) (by omega) _ hs).mono ?_
  rintro e w2 ⟨b, k, rfl, k0, k1, hs2, hg2⟩
  cases b
  · go_wp2_with fail
    refine (real_any w0 B a len cap hr k (by omega) _ hs2).mono ?_
    rintro e w3 ⟨s, l, hs1, rfl, l0, l1, hs3, hg3⟩
    go_wp2
    go_ret
    exact ⟨r, s, l, hr1, hs1, rfl, by omega, by omega, hs3, grown_trans (grown_trans hg hg2) hg3⟩
  · go_wp2
    go_ret
    exact ⟨r, 0, k, hr1, by omega, rfl, by omega, by omega, hs2, grown_trans hg hg2⟩

theorem pick_one (w : World) (B : Nat) (n : Int) (hn : n ≤ 1) :
    Calls Try.prog 15 #[.pointer (some ⟨B, 0, none⟩), .int .i64 n] w fun e w' => e = .returned (.int .i64 0) ∧ w' = w := by
  go_enter Try.func15, Try.ntmps15
  go_wp2
  go_ret
  exact ⟨rfl, rfl⟩

/-- A number below n. -/
theorem p6Pick_any (w : World) (a : Option Addr) (len cap : Nat) (hr : ∃ zs, IsRow .u8 w a len cap zs) (n : Int) (h1 : 1 ≤ n) (hn : n ≤ 1000000) :
    Calls Try.prog 6 #[.slice a len cap, .int .i64 n] w fun e w' => ∃ r : Nat, e = .returned (.int .i64 r) ∧ (r : Int) < n ∧ Below w.heap.size w w' := by
  go_enter Try.func6, Try.ntmps6
  go_wp2_with (first | (go_at_call 14; go_in))
  by_cases h2 : n ≤ 1
  · refine (pick_one _ w.heap.size n h2).mono ?_
    rintro e w1 ⟨rfl, rfl⟩
    go_wp2
    go_ret
    exact ⟨0, rfl, by omega, (Below.refl _ _).alloc (Nat.le_refl _) _⟩
  · refine (pick_any w w.heap.size a len cap hr 0 (by omega) n (by omega) (by omega) _ src_new).mono ?_
    rintro e w1 ⟨r, j, r0, r1, rfl, j0, j1, hs, hg⟩
    obtain ⟨m, rfl⟩ : ∃ m : Nat, r = m := ⟨r.toNat, by omega⟩
    go_wp2
    go_ret
    exact ⟨m, rfl, by omega, hs.below⟩

end Go.Proofs.Yteamnfockjnilaa
/-
  What the laws of chapters 4 and on begin with.
-/
set_option linter.unusedVariables false
set_option linter.unusedSimpArgs false
namespace Go.Proofs.Yteamnfockjnilaa
open Go.RowKit Flt Fast

set_option maxRecDepth 100000 in
theorem f6big_f (a : Option Addr) (n cap : Nat) (hn : n ≤ 4096) (w : World) : Calls Try.prog 4 #[.slice a n cap] w fun e w' => e = .returned (.bool false) ∧ w' = w := by
  have g : decide (4096 < (n : Int)) = false := decide_eq_false (by omega)
  go_enter Try.func4, Try.ntmps4
  go_wp2
  go_ret
  exact ⟨rfl, rfl⟩
set_option maxRecDepth 100000 in
theorem f6big_t (a : Option Addr) (n cap : Nat) (hn : 4096 < n) (hm : (n : Int) ≤ 9223372036854775807) (w : World) : Calls Try.prog 4 #[.slice a n cap] w fun e w' => e = .returned (.bool true) ∧ w' = w := by
  have g : decide (4096 < (n : Int)) = true := decide_eq_true (by omega)
  go_enter Try.func4, Try.ntmps4
  go_wp2
  go_ret
  exact ⟨rfl, rfl⟩

theorem Row.up {w w' : World} {B e : Nat} {v : Value} {cs : List Value} (h : Row w B e v cs) (hb : Below w.heap.size w w') : Row w' B e v cs := h.below hb (fun k e => (h.lt k e).2)

end Go.Proofs.Yteamnfockjnilaa
/-
  The plain transform of the model: the products of a number.
-/
set_option linter.unusedVariables false
set_option linter.unusedSimpArgs false
namespace Go.Proofs.Yteamnfockjnilaa
open Go.RowKit Flt Fast Turn

/-- The products that have been made. -/
structure PT (W wr : World) (n k r : Nat) (zs : List Z) (v : Value) (ts : List C) : Prop where
  len : ts.length = r
  row : Row wr W.heap.size 27 v (cvals ts)
  wf : WfC ts
  good : ∀ i, i < r → IsC (ts.getD i (0, 0)) (mulZ (zs.getD i z0) (twid n (i * k)))
  below : Below W.heap.size W wr

theorem PT.next {W wt w2 : World} {n k s nn : Nat} {zs : List Z} {v v' : Value} {ts : List C} {c d : Nat} {o : Obj} (h : PT W wt n k s zs v ts) (hown : w2.ownsRow W.heap.size 27 1 v' (s + 1) (cvals ts ++ [.complex .f64 c d]))
    (hgr : ((wt.drewN nn).alloc o).grownBy w2 v.ownBlock) (hcd : IsC (c, d) (mulZ (zs.getD s z0) (twid n (s * k)))) : PT W w2 n k (s + 1) zs v' (ts ++ [(c, d)]) := by
  have hl : (cvals ts).length = s := by rw [cvals_length, h.len]
  have hlt := (h.row.alloc o).lt
  refine ⟨by rw [List.length_append, h.len]; rfl, ?_, wfC_snoc2 h.wf hcd.re.lt hcd.im.lt, fun i hi => ?_, ?_⟩
  · show w2.ownsRow _ _ _ _ _ _
    rw [cvals_snoc, List.length_append, hl]
    exact hown
  · rcases Nat.lt_or_eq_of_le (Nat.le_of_lt_succ hi) with h1 | h1
    · rw [show (ts ++ [(c, d)]).getD i (0, 0) = ts.getD i (0, 0) by simp [List.getD, List.getElem?_append_left, h.len, h1]]
      exact h.good i h1
    · subst h1
      rw [show (ts ++ [(c, d)]).getD i (0, 0) = (c, d) by simp [List.getD, ← h.len]]
      exact hcd
  · exact (below_draws h.below nn).alloc h.below.size o |>.grown hgr (by have := h.below.size; show _ ≤ (wt.alloc o).heap.size; simp; omega) (fun b e => (hlt b e).1)

section
attribute [local go_sem] run_fadd run_fsub run_fmul run_fquo run_cadd run_csub
set_option maxRecDepth 100000 in
set_option maxHeartbeats 4000000 in
theorem sumM_any (ts : List C) (n : Nat) (hl : ts.length = n) (hn0 : 0 < n) (hn : n ≤ 100) (z : Nat → Z) (hz : ∀ i, i < n → IsC (ts.getD i (0, 0)) (z i)) (v : Value) (w : World) (h : Reads w v (cvals ts)) :
    Calls Try.prog 41 #[v] w fun e w' => ∃ a b, e = .returned (.complex .f64 a b) ∧ IsC (a, b) (sumC z n) ∧ ∃ d, w' = w.drewN d := by
  have HRD := Lib.hid (fun a m cap hv k hk => cv_reads h a m cap hv k hk)
  obtain ⟨a, cap, rfl⟩ := fl_form h
  rw [cvals_length, hl] at HRD ⊢
  have HZ := Lib.hid hz
  obtain ⟨g, e0, hg, c0⟩ := HRD.out _ _ _ rfl 0 hn0
  subst e0
  have h0 := hz 0 hn0
  obtain ⟨⟨p0, q0⟩, hq⟩ : ∃ q, ts.getD 0 (0, 0) = q := ⟨_, rfl⟩
  rw [hq] at c0 h0
  have H0 := Lib.hid h0
  have gz : ((n : Int) == 0) = false := by simp; omega
  have hn3 : (0 : Int) < (n : Int) := by omega
  clear h hl hz h0 hq
  go_enter Try.func41, Try.ntmps41
  go_wp2
  go_loopw [3, 4] (fun s i wr => ∃ (k p q d : Nat), s = .complex .f64 p q ∧ i = .int .i64 (k : Int) ∧ 1 ≤ k ∧ k ≤ n ∧ IsC (p, q) (sumC z k) ∧ wr = w.drewN d) (fun _ i _ => n - (intOf i).toNat)
  case atStart => exact ⟨1, p0, q0, 0, rfl, rfl, Nat.le_refl _, by omega, by rw [sumC_one]; exact H0.out, rfl⟩
  case round =>
    obtain ⟨k, p, q, d, rfl, rfl, hk1, hk, hs, hwr⟩ := hrel
    have HS := Lib.hid hs
    have HWR := Lib.hid hwr
    clear hs hwr
    by_cases hlt : k < n
    · obtain ⟨g', e', -, c⟩ := HRD.out _ _ _ rfl k hlt
      simp only [Option.some.injEq, Addr.mk.injEq, and_true] at e'
      subst e'
      have hc := HZ.out k hlt
      obtain ⟨⟨t, u⟩, hq⟩ : ∃ q, ts.getD k (0, 0) = q := ⟨_, rfl⟩
      rw [hq] at c hc
      have HC := Lib.hid hc
      have c2 : wr.cell? ⟨g, k, none⟩ = some (.complex .f64 t u) := by rw [HWR.out]; exact c
      have hi3 : (k : Int) < (n : Int) := by omega
      clear hc hq c
      go_wp2
      go_roundw
      case rel => exact ⟨k + 1, _, _, _, rfl, by go_num, by omega, by omega, by rw [sumC_succ _ (by omega)]; exact ⟨isF_fres HS.out.re HC.out.re _, isF_fres HS.out.im HC.out.im _⟩, by rw [HWR.out, World.drewN_drewN]⟩
      case measure => simp [intOf] <;> omega
    · have e : k = n := by omega
      subst e
      go_wp2
      go_ret
      exact ⟨p, q, rfl, HS.out, d, HWR.out⟩
end

set_option maxRecDepth 100000 in
set_option maxHeartbeats 8000000 in
theorem plainM_any (xs : List C) (n : Nat) (hx : xs.length = n) (hn0 : 0 < n) (hn : n ≤ 100) (hw : WfC xs) (v : Value) (w : World) (h : Reads w v (cvals xs)) :
    Calls Try.prog 23 #[v, .int .i64 (-1)] w fun e w' => ∃ u os, e = .returned u ∧ Row w' w.heap.size 27 u (cvals os) ∧ os.length = n ∧ (∀ k, k < n → IsC (os.getD k (0, 0)) (sumC (fun j => mulZ ((zsOf xs).getD j z0) (twid n (j * k))) n)) ∧ Below w.heap.size w w' := by
  obtain ⟨i0, hi, hz0, hz1, hz2⟩ := info_parts info_c128
  have HRD := Lib.hid (fun a m cap hv k hk => cv_reads h a m cap hv k hk)
  obtain ⟨a, cap, rfl⟩ := fl_form h
  rw [cvals_length, hx] at HRD ⊢
  have HW := Lib.hid (fun i (hi : i < n) => isC_getD hw (show i < xs.length by omega))
  have HX := Lib.hid hx
  have hmax : (n : Int) ≤ 9223372036854775807 := by omega
  obtain ⟨g, e0, hg, -⟩ := HRD.out _ _ _ rfl 0 hn0
  subst e0
  clear h hx hw
  go_enter Try.func23, Try.ntmps23
  go_wp2
  go_loopw [6, 7] (fun v6 i wr => ∃ (k : Nat) (os : List C), i = .int .i64 k ∧ k ≤ n ∧ Row wr w.heap.size 27 v6 (cvals os) ∧ os.length = k ∧ (∀ m, m < k → IsC (os.getD m (0, 0)) (sumC (fun j => mulZ ((zsOf xs).getD j z0) (twid n (j * m))) n)) ∧ Below w.heap.size w wr) (fun _ i _ => n - (intOf i).toNat)
  case atStart => exact ⟨0, [], rfl, Nat.zero_le _, World.ownsRow_lit w #[] 0 (Nat.le_refl _) (by unfold maxLen; omega) rfl, rfl, fun m hm => by omega, (Below.refl _ _).alloc (Nat.le_refl _) _⟩
  case round =>
    obtain ⟨k, os, rfl, hk, hro, hol, hog, hbo⟩ := hrel
    have HRO := Lib.hid hro
    have HOL := Lib.hid hol
    have HOG := Lib.hid hog
    have HBO := Lib.hid hbo
    clear hro hol hog hbo
    obtain ⟨wo, rfl⟩ : ∃ x, x = wr := ⟨_, rfl⟩
    by_cases hkn : k < n
    · have hT0 : PT wo (wo.alloc (.cells #[] 27)) n k 0 (zsOf xs) (.slice (some ⟨wo.heap.size, 0, none⟩) 0 0) [] := ⟨rfl, World.ownsRow_lit wo #[] 0 (Nat.le_refl _) (by unfold maxLen; omega) rfl, (fun q hq => by cases hq), (fun i hi => by omega), (Below.refl _ _).alloc (Nat.le_refl _) _⟩
      have HT0 := Lib.hid hT0
      clear hT0
      go_wp2
      go_loopw [8, 9] (fun v8 i wq => ∃ (s : Nat) (ts : List C), i = .int .i64 s ∧ s ≤ n ∧ PT wo wq n k s (zsOf xs) v8 ts) (fun _ i _ => n - (intOf i).toNat)
      case atStart => exact ⟨0, _, rfl, Nat.zero_le _, HT0.out⟩
      case round =>
        obtain ⟨s, ts, rfl, hs, hTs⟩ := hrel
        have HTs := Lib.hid hTs
        clear hTs
        obtain ⟨wt, rfl⟩ : ∃ x, x = wr := ⟨_, rfl⟩
        by_cases hsn : s < n
        · obtain ⟨g', e', -, cx⟩ := HRD.out _ _ _ rfl s hsn
          simp only [Option.some.injEq, Addr.mk.injEq, and_true] at e'
          subst e'
          have e7 : wt.cell? ⟨g, s, none⟩ = some (.complex .f64 (xs.getD s (0, 0)).1 (xs.getD s (0, 0)).2) := by
            rw [HTs.out.below.cell (by show g < wo.heap.size; have := HBO.out.size; omega), HBO.out.cell hg]; exact cx
          have hyc := HW.out s hsn
          obtain ⟨⟨yc, yd⟩, hycd⟩ : ∃ q, xs.getD s (0, 0) = q := ⟨_, rfl⟩
          rw [hycd] at e7 hyc
          obtain ⟨Sk, hSk⟩ : ∃ Sk, s * k = Sk := ⟨_, rfl⟩
          have hSk2 : Sk ≤ 10000 := by rw [← hSk]; exact Nat.le_trans (Nat.mul_le_mul (by omega : s ≤ 100) (by omega : k ≤ 100)) (by decide)
          have eM : -(s : Int) * (k : Int) = -(Sk : Int) := by rw [← hSk]; simp [Int.neg_mul]
          have eW : IntKind.i64.wrap (IntKind.i64.wrap (-(s : Int)) * (k : Int)) = -(Sk : Int) := by
            have a1 : IntKind.i64.wrap (-(s : Int)) = -(s : Int) := by rw [IntKind.wrap_i64]; omega
            rw [a1, eM, IntKind.wrap_i64]; omega
          have hrest := rest_spec n Sk (by omega) (by omega) (by omega)
          have hrl : rst n Sk ≤ n := by unfold rst; exact Nat.le_of_lt (Nat.mod_lt _ (by omega))
          have hturn := turn_spec4 n (rst n Sk) (by omega) (by omega) hrl
          have hmul := fun a b h2 w => mul_spec yc yd a b _ (turn n (rst n Sk)) hyc h2 w
          have hrow := HTs.out.row
          have hll : (cvals ts).length = s := by rw [cvals_length, HTs.out.len]
          have HROW := Lib.hid hrow
          have HLL := Lib.hid hll
          have HSK := Lib.hid hSk
          have HROW2 : Hid (∀ (n : Nat) (o : Obj), ((wt.drewN n).alloc o).ownsRow wo.heap.size 27 1 u8 s (cvals ts)) := fun n o => by
            have := (HROW.out.drewN n).alloc o
            unfold Row at this
            rwa [HLL.out] at this
          have hs63 : s + 1 ≤ maxLen := by simp only [maxLen]; omega
          have hsby : (s + 1) * 16 ≤ 140737488355328 := by omega
          have hsba : ∀ (n : Nat) (o : Obj), wo.heap.size ≤ ((wt.drewN n).alloc o).heap.size := fun n o => by
            have := HTs.out.below.size
            show _ ≤ (wt.alloc o).heap.size
            simp; omega
          have HMZ : Hid (mulZ ((zsOf xs).getD s z0) (twid n (s * k)) = mulZ ((zsOf xs).getD s z0) (turn n (rst n Sk))) := by unfold twid; rw [hSk]; exact Lib.hid rfl
          have hi3 : (s : Int) < (n : Int) := by omega
          clear hycd hSk hrow hll hrl cx hyc
          go_upto_block 3 with fail
          go_cut [8] from 24 to 40 (fun v wx => ∃ ts', PT wo wx n k (s + 1) (zsOf xs) v ts')
          case first =>
            go_wp2_with fail
            go_region_law (first
              | (go_simp; go_at_call 21; refine (hrest _).mono ?_; rintro e w' ⟨rfl, rfl⟩)
              | (go_simp; go_at_call 20; refine (hturn _).mono ?_; rintro e w' ⟨a, b, rfl, ha, hb, n1, rfl⟩; have HA := Lib.hid ha; have HB := Lib.hid hb; clear ha hb)
              | (go_simp; go_at_call 22; refine (hmul a b ⟨HA.out, HB.out⟩ _).mono ?_; rintro e w' ⟨c, d, rfl, hc, hd, n2, rfl⟩; have HC := Lib.hid hc; have HD := Lib.hid hd; clear hc hd)
              | (refine step_append_lies _ rfl (.tmp 24) (.tmp 39) 24 rfl wo.heap.size 27 i0 (.complex .f64 0 0) 1 16 Try.underlying24 hi hz0 hz1 hz2 rfl (by decide) u8 s (cvals ts) rfl (HROW2.out _ _) ⟨wt.heap.size, 0, none⟩ 1 1 [.complex .f64 c d] rfl rfl (cell_one_new _ _ _) (one_single _ _) (by decide) hs63 hsby (hsba _ _) _ rfl ?_; intro g' cap' w2 hown hgrow hor hlt2; have HOW := Lib.hid hown; have HGR := Lib.hid hgrow; clear hown hgrow hor hlt2)
              | (trace_state; fail))
            all_goals
              have hnx := HTs.out.next HOW.out HGR.out (by rw [HMZ.out]; exact ⟨HC.out, HD.out⟩)
              have HNX := Lib.hid hnx
              clear hnx HOW HGR
              go_wp2_with fail
              go_meet
              exact ⟨_, HNX.out⟩
          case rest =>
            obtain ⟨ts', hT⟩ := hcut
            have HT2 := Lib.hid hT
            clear hT HTs HROW HROW2 HLL hmul hturn hrest e7
            go_wp2
            go_roundw
            case rel => first | exact ⟨s + 1, ts', by go_num, by omega, HT2.out⟩ | ((repeat apply Exists.intro); refine ⟨?_, rfl⟩; exact ⟨s + 1, ts', by go_num, by omega, HT2.out⟩)
            case measure => simp [intOf] <;> omega
        · have e : s = n := by omega
          subst e
          have SM := Lib.hid (sumM_any ts s HTs.out.len hn0 (by omega) _ HTs.out.good u8 wt HTs.out.row.reads)
          obtain ⟨ta, tc, rfl⟩ := fl_form HTs.out.row.reads
          have HR2 := Lib.hid (HRO.out.up HTs.out.below)
          have HB2 := Lib.hid (below_step HBO.out HTs.out.below HBO.out.size)
          have hll : (cvals os).length = k := by rw [cvals_length, HOL.out]
          have HLL := Lib.hid hll
          clear HTs HRO HBO hll HT0
          go_wp2_with fail
          with_reducible refine SM.out.mono ?_
          rintro e w9 ⟨p, q, rfl, hpq, d, rfl⟩
          have HPQ := Lib.hid hpq
          have HROW2 : Hid (∀ (o : Obj), ((wt.drewN d).alloc o).ownsRow w.heap.size 27 1 u6 k (cvals os)) := fun o => by
            have := (HR2.out.drewN d).alloc o
            unfold Row at this
            rwa [HLL.out] at this
          have hsb : ∀ (o : Obj), w.heap.size ≤ ((wt.drewN d).alloc o).heap.size := fun o => by
            have := HB2.out.size
            show _ ≤ (wt.alloc o).heap.size
            simp; omega
          have HB3 := Lib.hid (below_draws HB2.out d)
          have HFin : Hid (∀ (w6 : World) v' (o : Obj), w6.ownsRow w.heap.size 27 1 v' (k + 1) (cvals os ++ [.complex .f64 p q]) → ((wt.drewN d).alloc o).grownBy w6 u6.ownBlock →
              Row w6 w.heap.size 27 v' (cvals (os ++ [(p, q)])) ∧ (os ++ [(p, q)]).length = k + 1 ∧ (∀ m, m < k + 1 → IsC ((os ++ [(p, q)]).getD m (0, 0)) (sumC (fun j => mulZ ((zsOf xs).getD j z0) (twid s (j * m))) s)) ∧ Below w.heap.size w w6) := fun w6 v' o hown hgr => by
            refine ⟨?_, by rw [List.length_append, HOL.out]; rfl, fun m hm => ?_, ?_⟩
            · show w6.ownsRow _ _ _ _ _ _
              rw [cvals_snoc, List.length_append, HLL.out]
              exact hown
            · rcases Nat.lt_or_eq_of_le (Nat.le_of_lt_succ hm) with h1 | h1
              · rw [show (os ++ [(p, q)]).getD m (0, 0) = os.getD m (0, 0) by simp [List.getD, List.getElem?_append_left, HOL.out, h1]]
                exact HOG.out m h1
              · subst h1
                rw [show (os ++ [(p, q)]).getD m (0, 0) = (p, q) by simp [List.getD, ← HOL.out]]
                exact HPQ.out
            · exact (HB3.out.alloc HB3.out.size o).grown hgr (hsb o) (fun b e => (HR2.out.lt b e).1)
          clear hpq SM HR2 HB2 HB3
          go_wp2_with (at_builtin; refine wpList_append_own _ rfl _ _ 24 rfl w.heap.size 27 i0 (.complex .f64 0 0) 1 16 Try.underlying24 hi hz0 hz1 hz2 rfl (by decide) _ _ _ rfl (HROW2.out _) ⟨_, 0, none⟩ 1 1 [.complex .f64 p q] rfl rfl (cell_one_new _ _ _) (one_single _ _) (by simp only [maxLen]; omega) (by omega) (hsb _) ?_)
          intro v' w6 hown' hgrow _
          have HE := Lib.hid (HFin.out w6 v' _ hown' hgrow)
          clear hown' hgrow HROW2 HFin
          go_wp2
          go_roundw
          case rel => first | exact ⟨k + 1, _, by go_num, by omega, HE.out⟩ | ((repeat apply Exists.intro); refine ⟨?_, rfl⟩; exact ⟨k + 1, _, by go_num, by omega, HE.out⟩)
          case measure => simp [intOf] <;> omega
    · have e : k = n := by omega
      subst e
      go_wp2
      go_ret
      exact ⟨_, os, rfl, HRO.out, HOL.out, HOG.out, HBO.out⟩

end Go.Proofs.Yteamnfockjnilaa
/-
  Numbers that are added at places, block by block. No program is named here.
-/
set_option linter.unusedVariables false
set_option linter.unusedSimpArgs false
namespace Go.Proofs.Yteamnfockjnilaa

section
variable {Z : Type} (add : Z → Z → Z) (d : Z)
/-- A number is added at a place, or stands there as the first one. -/
def addAt (zs : List Z) (k : Nat) (p : Z) : List Z := if k < zs.length then zs.set k (add (zs.getD k d) p) else zs ++ [p]
def addBlk (zs : List Z) (f : Nat) (q : Nat → Z) : Nat → List Z
  | 0 => zs
  | m + 1 => addAt add d (addBlk zs f q m) (f + m) (q m)
def addAll (q : Nat → Nat → Z) (ln : Nat → Nat) (h : Nat) : Nat → List Z
  | 0 => []
  | b + 1 => addBlk add d (addAll q ln h b) (b * h) (q b) (ln b)

theorem addAt_lt {zs : List Z} {k : Nat} {p : Z} (h : k < zs.length) : addAt add d zs k p = zs.set k (add (zs.getD k d) p) := if_pos h
theorem addAt_ge {zs : List Z} {k : Nat} {p : Z} (h : ¬ k < zs.length) : addAt add d zs k p = zs ++ [p] := if_neg h
theorem addAt_len_le (zs : List Z) (k : Nat) (p : Z) : (addAt add d zs k p).length ≤ zs.length + 1 := by
  unfold addAt; split <;> simp
theorem addBlk_len_le (zs : List Z) (f : Nat) (q : Nat → Z) (m : Nat) : (addBlk add d zs f q m).length ≤ zs.length + m := by
  induction m with
  | zero => exact Nat.le_refl _
  | succ m ih => have := addAt_len_le add d (addBlk add d zs f q m) (f + m) (q m); rw [addBlk]; omega
theorem addAll_len_le (q : Nat → Nat → Z) (ln : Nat → Nat) (h N : Nat) (hl : ∀ b, ln b ≤ N) (b : Nat) : (addAll add d q ln h b).length ≤ b * N := by
  induction b with
  | zero => simp [addAll]
  | succ b ih => have := addBlk_len_le add d (addAll add d q ln h b) (b * h) (q b) (ln b); have := hl b; rw [addAll, Nat.add_mul]; omega
theorem addBlk_len {zs : List Z} {f : Nat} (q : Nat → Z) (hf : f ≤ zs.length) (m : Nat) : (addBlk add d zs f q m).length = max zs.length (f + m) := by
  induction m with
  | zero => simp [addBlk]; omega
  | succ m ih =>
    rw [addBlk]
    by_cases h : f + m < (addBlk add d zs f q m).length
    · rw [addAt_lt add d h, List.length_set, ih]; rw [ih] at h; omega
    · rw [addAt_ge add d h, List.length_append, ih]; rw [ih] at h; simp; omega
theorem addAll_le (q : Nat → Nat → Z) (n h : Nat) (hh : h ≤ n) (b : Nat) : b * h ≤ (addAll add d q (fun _ => n) h b).length := by
  induction b with
  | zero => simp
  | succ b ih => rw [addAll, addBlk_len add d _ ih, Nat.add_mul]; omega
theorem addAll_len (q : Nat → Nat → Z) (n h : Nat) (hh : h ≤ n) (b : Nat) : (addAll add d q (fun _ => n) h (b + 1)).length = b * h + n := by
  rw [addAll, addBlk_len add d _ (addAll_le add d q n h hh b)]
  cases b with
  | zero => simp [addAll]
  | succ b =>
    have : (addAll add d q (fun _ => n) h (b + 1)).length = b * h + n := addAll_len q n h hh b
    rw [this, Nat.add_mul]; omega
end

end Go.Proofs.Yteamnfockjnilaa
/-
  Sums at places over wide complex numbers: sumsAtPlaces of the program; blocks that are read wherever they lie.
-/
set_option linter.unusedVariables false
set_option linter.unusedSimpArgs false
namespace Go.Proofs.Yteamnfockjnilaa
open Go.RowKit Flt Fast
attribute [local go_sem] run_fadd run_fsub run_fmul run_fquo run_cadd run_csub

/-- A slice of complex numbers as the walk reads it, at whatever place of a block it begins. -/
def RdC (w : World) (v : Value) (xs : List C) : Prop :=
  ∃ a cap, v = .slice a xs.length cap ∧ xs.length ≤ cap ∧ cap ≤ maxLen ∧ ∀ j, j < xs.length → ∃ g o, a = some ⟨g, o, none⟩ ∧ g < w.heap.size ∧ w.cell? ⟨g, o + j, none⟩ = some (.complex .f64 (xs.getD j (0, 0)).1 (xs.getD j (0, 0)).2)

theorem RdC.below {w w' : World} {v : Value} {xs : List C} (h : RdC w v xs) (hb : Below w.heap.size w w') : RdC w' v xs := by
  obtain ⟨a, cap, rfl, h1, h2, h3⟩ := h
  refine ⟨a, cap, rfl, h1, h2, fun j hj => ?_⟩
  obtain ⟨g, o, rfl, hg, hc⟩ := h3 j hj
  exact ⟨g, o, rfl, Nat.lt_of_lt_of_le hg hb.size, by rw [hb.cell hg]; exact hc⟩
theorem RdC.draws {w : World} {v : Value} {xs : List C} (h : RdC w v xs) (n : Nat) : RdC (w.drewN n) v xs := h
theorem RdC.of_row {w : World} {B : Nat} {e : TypeId} {v : Value} {xs : List C} (h : Row w B e v (cvals xs)) : RdC w v xs := by
  have h' := h
  rcases h.shape with ⟨a, cap, rfl, h0⟩ | ⟨g, cap, rfl, h0, hB, hg, h1, h2⟩
  · have e0 : xs = [] := by
      have := congrArg List.length h0
      rw [cvals_length] at this
      exact List.eq_nil_of_length_eq_zero (by simpa using this)
    subst e0
    rcases h.2 with ⟨e1, -⟩ | ⟨g, cap', cur, e1, -, -, h3, h4, -⟩
    · simp only [Value.slice.injEq] at e1
      obtain ⟨rfl, -, rfl⟩ := e1
      exact ⟨none, 0, rfl, Nat.le_refl _, Nat.zero_le _, fun j hj => by simp at hj⟩
    · simp only [Value.slice.injEq] at e1
      obtain ⟨rfl, -, rfl⟩ := e1
      exact ⟨_, cap, rfl, Nat.zero_le _, h4, fun j hj => by simp at hj⟩
  · rw [cvals_length] at h0 h1 h' ⊢
    refine ⟨_, cap, rfl, h1, h2, fun j hj => ⟨g, 0, rfl, hg, ?_⟩⟩
    rw [Nat.zero_add, h'.cellAt hj, cvals_getD hj]

/-- Complex numbers that are these. -/
structure FitsC (fs : List C) (zs : List Z) : Prop where
  len : fs.length = zs.length
  good : ∀ i, i < fs.length → IsC (fs.getD i (0, 0)) (zs.getD i z0)

theorem FitsC.nil : FitsC [] [] := ⟨rfl, fun i hi => by simp at hi⟩
theorem FitsC.snoc {fs : List C} {zs : List Z} (h : FitsC fs zs) {a : C} {z : Z} (ha : IsC a z) : FitsC (fs ++ [a]) (zs ++ [z]) := by
  refine ⟨by simp [h.len], fun i hi => ?_⟩
  by_cases hl : i < fs.length
  · rw [show (fs ++ [a]).getD i (0, 0) = fs.getD i (0, 0) by simp [List.getD, List.getElem?_append_left, hl], show (zs ++ [z]).getD i z0 = zs.getD i z0 by simp [List.getD, List.getElem?_append_left, ← h.len, hl]]
    exact h.good i hl
  · have e : i = fs.length := by simp at hi; omega
    subst e
    rw [show (fs ++ [a]).getD fs.length (0, 0) = a by simp [List.getD], show (zs ++ [z]).getD fs.length z0 = z by simp [List.getD, h.len]]
    exact ha
theorem FitsC.set {fs : List C} {zs : List Z} (h : FitsC fs zs) {k : Nat} {a : C} {z : Z} (ha : IsC a z) : FitsC (fs.set k a) (zs.set k z) := by
  refine ⟨by simp [h.len], fun i hi => ?_⟩
  simp at hi
  by_cases hk : k = i
  · subst hk
    rw [show (fs.set k a).getD k (0, 0) = a by simp [List.getD, hi], show (zs.set k z).getD k z0 = z by simp [List.getD, ← h.len, hi]]
    exact ha
  · rw [show (fs.set k a).getD i (0, 0) = fs.getD i (0, 0) by simp [List.getD, List.getElem?_set, hk], show (zs.set k z).getD i z0 = zs.getD i z0 by simp [List.getD, List.getElem?_set, hk]]
    exact h.good i hi

theorem cvals_set (fs : List C) (k : Nat) (a b : Nat) : (cvals fs).set k (.complex .f64 a b) = cvals (fs.set k (a, b)) := by simp [cvals, List.map_set, cval]

/-- A row of complex numbers with sums at places, in the world wr, made behind w. -/
structure SumsC (w wr : World) (v : Value) (zs : List Z) (fs : List C) : Prop where
  row : Row wr w.heap.size 27 v (cvals fs)
  fits : FitsC fs zs
  below : Below w.heap.size w wr

theorem SumsC.draws {w wr : World} {v : Value} {zs : List Z} {fs : List C} (h : SumsC w wr v zs fs) (n : Nat) : SumsC w (wr.drewN n) v zs fs := ⟨h.row.drewN n, h.fits, below_draws h.below n⟩
theorem SumsC.store {w wr : World} {g cap L : Nat} {zs : List Z} {fs : List C} (h : SumsC w wr (.slice (some ⟨g, 0, none⟩) L cap) zs fs) {k x y : Nat} {q : Z} (hk : k < L)
    (hx : IsC (x, y) (addZ (zs.getD k z0) q)) : SumsC w (wr.setCell ⟨g, k, none⟩ (.complex .f64 x y)) (.slice (some ⟨g, 0, none⟩) L cap) (addAt addZ z0 zs k q) (fs.set k (x, y)) := by
  have hl : fs.length = L := by have := h.row.len; rwa [cvals_length] at this
  have hS := h.row.set k (.complex .f64 x y)
  rw [cvals_set] at hS
  have hg : w.heap.size ≤ g := (h.row.lt g rfl).1
  rw [addAt_lt addZ z0 (by rw [← h.fits.len, hl]; exact hk)]
  exact ⟨hS.1, h.fits.set hx, h.below.setCell (p := ⟨g, k, none⟩) hg _⟩

theorem cform {w : World} {v : Value} {cs : List Value} (h : Reads w v cs) : ∃ a cap, v = .slice a cs.length cap := by
  cases h with
  | none a cap => exact ⟨a, cap, rfl⟩
  | row g cap L cs hL => subst hL; exact ⟨_, cap, rfl⟩

end Go.Proofs.Yteamnfockjnilaa
/-
  Convolutions, pure: terms, their counts, sums. Signals as slices that begin anywhere.
-/
set_option linter.unusedVariables false
set_option linter.unusedSimpArgs false
namespace Go.Proofs.Yteamnfockjnilaa
open Go.RowKit Flt Fast

/-- How many numbers a convolution has. -/
def cvLen (a b : Nat) : Nat := if a = 0 ∨ b = 0 then 0 else a + b - 1
/-- The first place of h that meets a number of x, at the place n; and how many there are. -/
def cvLo (a n : Nat) : Nat := n + 1 - a
def cvCnt (a b n : Nat) : Nat := min (n + 1) b - (n + 1 - a)
def cvTerm (x h : List Z) (n j : Nat) : Z := mulZ (h.getD (cvLo x.length n + j) z0) (x.getD (n - (cvLo x.length n + j)) z0)
def cvSum (x h : List Z) (n m : Nat) : Z := sumC (cvTerm x h n) m
def cvAt (x h : List Z) (n : Nat) : Z := cvSum x h n (cvCnt x.length h.length n)
/-- The convolution. -/
def cvAll (x h : List Z) : List Z := (List.range (cvLen x.length h.length)).map (cvAt x h)

theorem cvLen_nil (b : Nat) : cvLen 0 b = 0 := by simp [cvLen]
theorem cvLen_nil' (a : Nat) : cvLen a 0 = 0 := by simp [cvLen]
theorem cvLen_pos {a b : Nat} (ha : a ≠ 0) (hb : b ≠ 0) : cvLen a b = a + b - 1 := by simp [cvLen, ha, hb]
theorem cvLen_le (a b : Nat) : cvLen a b ≤ a + b := by unfold cvLen; split <;> omega
theorem cvLen_zero {a b : Nat} (h : a = 0 ∨ b = 0) : cvLen a b = 0 := by simp [cvLen, h]
theorem cvCnt_pos {a b n : Nat} (h : n < cvLen a b) : 0 < cvCnt a b n := by
  unfold cvLen at h; split at h
  · omega
  · unfold cvCnt; omega
theorem cvCnt_le (a b n : Nat) : cvCnt a b n ≤ b := by unfold cvCnt; omega
/-- Each term has both numbers. -/
theorem cvIn {a b n j : Nat} (hj : j < cvCnt a b n) : cvLo a n + j < b ∧ cvLo a n + j ≤ n ∧ n - (cvLo a n + j) < a := by
  unfold cvCnt cvLo at *; omega
theorem cvLo_cnt {a b n : Nat} (h : n < cvLen a b) : cvLo a n + cvCnt a b n = min (n + 1) b := by
  unfold cvLen at h; split at h
  · omega
  · unfold cvCnt cvLo; omega
theorem cvAll_length (x h : List Z) : (cvAll x h).length = cvLen x.length h.length := by simp [cvAll]
theorem cvAll_getD {x h : List Z} {n : Nat} (hn : n < cvLen x.length h.length) : (cvAll x h).getD n z0 = cvAt x h n := by simp [cvAll, List.getD, hn]
theorem cvSum_one (x h : List Z) (n : Nat) : cvSum x h n 1 = cvTerm x h n 0 := sumC_one _
theorem cvSum_succ (x h : List Z) (n : Nat) {m : Nat} (hm : m ≠ 0) : cvSum x h n (m + 1) = addZ (cvSum x h n m) (cvTerm x h n m) := sumC_succ _ hm

/-- A slice that reads as these numbers, in a block below B; it may begin anywhere. -/
inductive RdO (B : Nat) (w : World) : Value → List C → Prop
  | nil (a : Option Addr) (cap : Nat) (hm : cap ≤ maxLen) : RdO B w (.slice a 0 cap) []
  | row (g o cap L : Nat) (xs : List C) (hL : xs.length = L) (h0 : 0 < L) (hc : L ≤ cap) (hm : cap ≤ maxLen) (hb : g < B) (h : ∀ j, j < L → w.cell? ⟨g, o + j, Option.none⟩ = some (cval (xs.getD j (0, 0)))) : RdO B w (.slice (some ⟨g, o, Option.none⟩) L cap) xs

theorem RdO.below {B : Nat} {w w' : World} {v : Value} {xs : List C} (h : RdO B w v xs) (hb : Below B w w') : RdO B w' v xs := by
  cases h with
  | nil a cap hm => exact .nil a cap hm
  | row g o cap L xs hL h0 hc hm hg h => exact .row g o cap L xs hL h0 hc hm hg fun j hj => by rw [hb.cell (p := ⟨g, o + j, none⟩) hg]; exact h j hj
theorem RdO.base {B B' : Nat} {w : World} {v : Value} {xs : List C} (h : RdO B w v xs) (hB : B ≤ B') : RdO B' w v xs := by
  cases h with
  | nil a cap hm => exact .nil a cap hm
  | row g o cap L xs hL h0 hc hm hg h => exact .row g o cap L xs hL h0 hc hm (by omega) h
/-- The form of the value, and what is read. -/
theorem RdO.find {B : Nat} {w : World} {v : Value} {xs : List C} (h : RdO B w v xs) :
    ∃ a cap, v = .slice a xs.length cap ∧ xs.length ≤ cap + xs.length ∧ xs.length ≤ maxLen ∧ ∀ j, j < xs.length → ∃ g o, a = some ⟨g, o, none⟩ ∧ g < B ∧ w.cell? ⟨g, o + j, none⟩ = some (cval (xs.getD j (0, 0))) := by
  cases h with
  | nil a cap hm => exact ⟨a, cap, rfl, by omega, by simp, fun j hj => absurd hj (by simp)⟩
  | row g o cap L xs hL h0 hc hm hg h => subst hL; exact ⟨_, cap, rfl, by omega, by omega, fun j hj => ⟨g, o, rfl, hg, h j hj⟩⟩
theorem RdO.of_row {B b e : Nat} {w : World} {v : Value} {xs : List C} (h : Row w b e v (cvals xs)) (hb : ∀ k, v.ownBlock = some k → k < B) : RdO B w v xs := by
  rcases h.2 with ⟨rfl, h0⟩ | ⟨g, cap, cur, rfl, hbb, hg, hnc, hcm, _⟩
  · rw [cvals_length] at h0
    obtain rfl := List.eq_nil_of_length_eq_zero h0
    exact .nil none 0 (by simp)
  · have h' := h
    rw [cvals_length] at hnc
    by_cases h0 : xs.length = 0
    · obtain rfl := List.eq_nil_of_length_eq_zero h0
      exact .nil _ _ hcm
    · have hc : ∀ j, j < xs.length → w.cell? ⟨g, 0 + j, none⟩ = some (cval (xs.getD j (0, 0))) := fun j hj => by
        rw [Nat.zero_add, h'.cellAt (by rw [cvals_length]; exact hj), cvals_getD hj]; rfl
      rw [cvals_length]
      exact .row g 0 cap xs.length xs rfl (by omega) hnc hcm (hb g (by simp [Value.ownBlock])) hc
theorem RdO.rdC {B : Nat} {w : World} {v : Value} {xs : List C} (h : RdO B w v xs) (hB : B ≤ w.heap.size) : RdC w v xs := by
  cases h with
  | nil a cap hm => exact ⟨a, cap, rfl, Nat.zero_le _, hm, fun j hj => absurd hj (by simp)⟩
  | row g o cap L xs hL h0 hc hm hg h => subst hL; exact ⟨_, cap, rfl, hc, hm, fun j hj => ⟨g, o, rfl, by omega, h j hj⟩⟩

/-- Numbers that fit what they should be, one by one. -/
def IsCs (ps : List C) (zs : List Z) : Prop := ps.length = zs.length ∧ ∀ i, i < zs.length → IsC (ps.getD i (0, 0)) (zs.getD i z0)

end Go.Proofs.Yteamnfockjnilaa
/-
  Convolutions of sixteenths are exact: their numbers as integers. No program.
-/
set_option linter.unusedVariables false
set_option linter.unusedSimpArgs false
namespace Go.Proofs.Yteamnfockjnilaa
open Go.RowKit Flt Fast

/-- A float (up to NaN) is k / 2^e, k no greater than K. -/
def IV (e K : Nat) (z : Option Nat) (k : Int) : Prop := k.natAbs ≤ K ∧ ∃ q, Fv z q ∧ q * two e = (k : Rat)
theorem IV.mono {e K L : Nat} {z : Option Nat} {k : Int} (h : IV e K z k) (hl : K ≤ L) : IV e L z k := ⟨Nat.le_trans h.1 hl, h.2⟩
theorem IV.add {e K L : Nat} {a b : Option Nat} {k l : Int} (h : IV e K a k) (h' : IV e L b l) (hs : K + L < 2 ^ 53) (he : e ≤ 1000) : IV e (K + L) (fop .add .f64 a b) (k + l) := by
  obtain ⟨h1, q, hq, e1⟩ := h
  obtain ⟨h2, r, hr, e2⟩ := h'
  have d1 : Dy e K q := ⟨k, h1, e1⟩
  have d2 : Dy e L r := ⟨l, h2, e2⟩
  exact ⟨by omega, q + r, (d1.add d2).fv_add hs he hq hr, by rw [Rat.intCast_add, ← e1, ← e2]; grind⟩
theorem IV.sub {e K L : Nat} {a b : Option Nat} {k l : Int} (h : IV e K a k) (h' : IV e L b l) (hs : K + L < 2 ^ 53) (he : e ≤ 1000) : IV e (K + L) (fop .sub .f64 a b) (k - l) := by
  obtain ⟨h1, q, hq, e1⟩ := h
  obtain ⟨h2, r, hr, e2⟩ := h'
  have d1 : Dy e K q := ⟨k, h1, e1⟩
  have d2 : Dy e L r := ⟨l, h2, e2⟩
  exact ⟨by omega, q - r, (d1.sub d2).fv_sub hs he hq hr, by rw [Rat.intCast_sub, ← e1, ← e2]; grind⟩
theorem IV.mul {e f K L : Nat} {a b : Option Nat} {k l : Int} (h : IV e K a k) (h' : IV f L b l) (hs : K * L < 2 ^ 53) (he : e + f ≤ 1000) : IV (e + f) (K * L) (fop .mul .f64 a b) (k * l) := by
  obtain ⟨h1, q, hq, e1⟩ := h
  obtain ⟨h2, r, hr, e2⟩ := h'
  have d1 : Dy e K q := ⟨k, h1, e1⟩
  have d2 : Dy f L r := ⟨l, h2, e2⟩
  exact ⟨by rw [Int.natAbs_mul]; exact Nat.mul_le_mul h1 h2, q * r, (d1.mul d2).fv_mul hs he hq hr, by rw [Rat.intCast_mul, ← e1, ← e2, two_add]; grind⟩

abbrev KK := Int × Int
def mulK (a b : KK) : KK := (a.1 * b.1 - a.2 * b.2, a.1 * b.2 + a.2 * b.1)
def addK (a b : KK) : KK := (a.1 + b.1, a.2 + b.2)
theorem mulK_comm (a b : KK) : mulK a b = mulK b a := by unfold mulK; refine Prod.ext ?_ ?_ <;> simp only <;> grind
theorem mulK_zero (a : KK) : mulK a (0, 0) = (0, 0) := by simp [mulK]
theorem zero_mulK (a : KK) : mulK (0, 0) a = (0, 0) := by simp [mulK]
theorem addK_zero (a : KK) : addK a (0, 0) = a := by simp [addK]
theorem zero_addK (a : KK) : addK (0, 0) a = a := by simp [addK]
theorem addK_comm (a b : KK) : addK a b = addK b a := by unfold addK; rw [Int.add_comm, Int.add_comm b.2]
theorem addK_assoc (a b c : KK) : addK (addK a b) c = addK a (addK b c) := by simp [addK, Int.add_assoc]
theorem addK_four (a b c d : KK) : addK (addK a b) (addK c d) = addK (addK a c) (addK b d) := by unfold addK; refine Prod.ext ?_ ?_ <;> simp only <;> omega
def sumK (t : Nat → KK) : Nat → KK
  | 0 => (0, 0)
  | n + 1 => addK (sumK t n) (t n)
theorem sumK_congr {s t : Nat → KK} {n : Nat} (h : ∀ i, i < n → s i = t i) : sumK s n = sumK t n := by
  induction n with
  | zero => rfl
  | succ n ih => show addK _ _ = addK _ _; rw [ih (fun i hi => h i (by omega)), h n (by omega)]
theorem sumK_zero {t : Nat → KK} {n : Nat} (h : ∀ i, i < n → t i = (0, 0)) : sumK t n = (0, 0) := by
  induction n with
  | zero => rfl
  | succ n ih => show addK _ _ = _; rw [ih (fun i hi => h i (by omega)), h n (by omega), addK_zero]
theorem sumK_split (t : Nat → KK) (a b : Nat) : sumK t (a + b) = addK (sumK t a) (sumK (fun i => t (a + i)) b) := by
  induction b with
  | zero => exact (addK_zero _).symm
  | succ b ih => show addK (sumK t (a + b)) (t (a + b)) = addK _ (addK _ _); rw [ih, addK_assoc]
theorem sumK_add (s t : Nat → KK) (n : Nat) : sumK (fun i => addK (s i) (t i)) n = addK (sumK s n) (sumK t n) := by
  induction n with
  | zero => rfl
  | succ n ih => show addK _ _ = addK (addK _ _) (addK _ _); rw [ih, addK_four]
theorem sumK_first (t : Nat → KK) (n : Nat) : sumK t (n + 1) = addK (t 0) (sumK (fun i => t (i + 1)) n) := by
  rw [show n + 1 = 1 + n by omega, sumK_split]
  show addK (addK (0, 0) (t 0)) _ = _
  rw [zero_addK]
  congr 1
  exact sumK_congr fun i _ => by rw [Nat.add_comm]
theorem sumK_rev (t : Nat → KK) (n : Nat) : sumK t (n + 1) = sumK (fun i => t (n - i)) (n + 1) := by
  induction n generalizing t with
  | zero => rfl
  | succ n ih =>
    rw [sumK_first, ih (fun i => t (i + 1))]
    show addK (t 0) (sumK _ (n + 1)) = addK (sumK _ (n + 1)) (t (n + 1 - (n + 1)))
    rw [addK_comm, Nat.sub_self]
    congr 1
    exact sumK_congr fun i hi => by rw [show n + 1 - i = n - i + 1 by omega]
/-- Zeros on both sides of a window. -/
theorem sumK_window {t : Nat → KK} {lo c M : Nat} (h1 : ∀ k, k < lo → t k = (0, 0)) (h2 : ∀ k, lo + c ≤ k → k < M → t k = (0, 0)) (h : lo + c ≤ M) : sumK t M = sumK (fun j => t (lo + j)) c := by
  obtain ⟨d, rfl⟩ : ∃ d, M = lo + (c + d) := ⟨M - (lo + c), by omega⟩
  rw [sumK_split, sumK_zero h1, zero_addK, sumK_split, sumK_zero (t := fun i => t (lo + (c + i))) (fun i hi => h2 _ (by omega) (by omega)), addK_zero]
theorem sumK_single {t : Nat → KK} {r m : Nat} (hr : r < m) (h : ∀ k, k < m → k ≠ r → t k = (0, 0)) : sumK t m = t r := by
  rw [sumK_window (lo := r) (c := 1) (fun k hk => h k (by omega) (by omega)) (fun k hk hm => h k hm (by omega)) (by omega)]
  show addK (0, 0) (t (r + 0)) = _
  rw [zero_addK, Nat.add_zero]
theorem sumK_stride {t : Nat → KK} {r m : Nat} (hr : r < m) (h : ∀ k, k % m ≠ r → t k = (0, 0)) (J : Nat) : sumK t (m * J) = sumK (fun j => t (r + m * j)) J := by
  induction J with
  | zero => rfl
  | succ J ih =>
    rw [Nat.mul_succ, sumK_split, ih, sumK_single hr (t := fun i => t (m * J + i)) (fun k hk hne => h _ (by rw [Nat.mul_add_mod, Nat.mod_eq_of_lt hk]; exact hne))]
    show addK _ (t (m * J + r)) = addK _ (t (r + m * J))
    rw [Nat.add_comm r]

/-- A complex number is k / 2^e. -/
def IVC (e K : Nat) (z : Z) (k : KK) : Prop := IV e K z.1 k.1 ∧ IV e K z.2 k.2
theorem IVC.mono {e K L : Nat} {z : Z} {k : KK} (h : IVC e K z k) (hl : K ≤ L) : IVC e L z k := ⟨h.1.mono hl, h.2.mono hl⟩
theorem IVC.add {e K L : Nat} {a b : Z} {k l : KK} (h : IVC e K a k) (h' : IVC e L b l) (hs : K + L < 2 ^ 53) (he : e ≤ 1000) : IVC e (K + L) (addZ a b) (addK k l) := ⟨h.1.add h'.1 hs he, h.2.add h'.2 hs he⟩
theorem IVC.mul {e f K L : Nat} {a b : Z} {k l : KK} (h : IVC e K a k) (h' : IVC f L b l) (hs : 2 * (K * L) < 2 ^ 53) (he : e + f ≤ 1000) : IVC (e + f) (2 * (K * L)) (mulZ a b) (mulK k l) := by
  rw [Nat.two_mul]
  exact ⟨(h.1.mul h'.1 (by omega) he).sub (h.2.mul h'.2 (by omega) he) (by omega) he, (h.1.mul h'.2 (by omega) he).add (h.2.mul h'.1 (by omega) he) (by omega) he⟩
theorem iv_zero (e K : Nat) : IV e K (some 0) 0 := ⟨by simp, 0, ⟨0, rfl, has_zero⟩, by rw [Rat.zero_mul]; rfl⟩
theorem ivc_zero (e K : Nat) : IVC e K z0 (0, 0) := ⟨iv_zero e K, iv_zero e K⟩
theorem ivc_sum {z : Nat → Z} {t : Nat → KK} {e K n : Nat} (h : ∀ i, i < n → IVC e K (z i) (t i)) (hs : n * K < 2 ^ 53) (he : e ≤ 1000) : IVC e (n * K) (sumC z n) (sumK t n) := by
  induction n with
  | zero => exact ivc_zero _ _
  | succ n ih =>
    rw [Nat.succ_mul] at hs ⊢
    have h1 := ih (fun i hi => h i (by omega)) (by omega)
    by_cases h0 : n = 0
    · subst h0
      show IVC e _ (z 0) (addK (0, 0) (t 0))
      rw [zero_addK]
      exact (h 0 (by omega)).mono (by omega)
    · rw [sumC_succ _ h0]
      exact h1.add (h n (by omega)) hs he
/-- The same integer, the same number. -/
theorem IV.eq {e K L : Nat} {a b : Nat} {z z' : Option Nat} {k : Int} (ha : IsF a z) (hb : IsF b z') (h : IV e K z k) (h' : IV e L z' k) : (FloatKind.f64.format.order a b == some .eq) = true := by
  obtain ⟨-, q, hq, e1⟩ := h
  obtain ⟨-, r, hr, e2⟩ := h'
  have : q = r := by
    have h0 := Rat.ne_of_gt (two_pos e)
    have h1 : q * two e = r * two e := by rw [e1, e2]
    have h2 := Rat.mul_inv_cancel _ h0
    calc q = q * two e * (two e)⁻¹ := by rw [Rat.mul_assoc, h2, Rat.mul_one]
      _ = r * two e * (two e)⁻¹ := by rw [h1]
      _ = r := by rw [Rat.mul_assoc, h2, Rat.mul_one]
  subst this
  exact eq_has (Has.of ha hq) (Has.of hb hr)

/-- Sixteenths. -/
def kOf (p : Nat) : Int := (fq p * 16).num
def Sx (p : Nat) : Prop := (kOf p).natAbs ≤ 64 ∧ Has p ((kOf p : Rat) / 16)
def kC (p : C) : KK := (kOf p.1, kOf p.2)
theorem sx_of {p : Nat} {k : Int} (h : k.natAbs ≤ 64) (hp : Has p ((k : Rat) / 16)) : Sx p ∧ kOf p = k := by
  have e : kOf p = k := by
    unfold kOf
    rw [hp.2, Rat.div_mul_cancel (by decide)]
    rfl
  exact ⟨⟨by rw [e]; exact h, by rw [e]; exact hp⟩, e⟩
theorem sx_zero : Sx 0 ∧ kOf 0 = 0 := sx_of (k := 0) (by decide) (by rw [show ((0 : Int) : Rat) / 16 = 0 by decide +kernel]; exact has_zero)
theorem Sx.lt {p : Nat} (h : Sx p) : p < 18446744073709551616 := h.2.lt
theorem Sx.iv {p : Nat} (h : Sx p) : IV 4 64 (cn .f64 p) (kOf p) := by
  have : cn .f64 p = some p := h.2.isF.1
  rw [this]
  exact ⟨h.1, _, h.2.fv, by rw [show two 4 = 16 from rfl]; exact Rat.div_mul_cancel (by decide)⟩
def PlainC (xs : List C) : Prop := ∀ u ∈ xs, Sx u.1 ∧ Sx u.2
theorem PlainC.wf {xs : List C} (h : PlainC xs) : WfC xs := fun u hu => ⟨(h u hu).1.lt, (h u hu).2.lt⟩
theorem plainC_snoc {xs : List C} {p q : Nat} (h : PlainC xs) (hp : Sx p) (hq : Sx q) : PlainC (xs ++ [(p, q)]) := by
  intro u hu
  rcases List.mem_append.1 hu with h1 | h1
  · exact h u h1
  · rw [List.mem_singleton.1 h1]; exact ⟨hp, hq⟩
/-- The numbers of a signal as integers; 0 outside of it. -/
def kAt (xs : List C) (i : Nat) : KK := kC (xs.getD i (0, 0))
theorem kAt_out {xs : List C} {i : Nat} (h : xs.length ≤ i) : kAt xs i = (0, 0) := by
  have : xs.getD i (0, 0) = (0, 0) := by simp [List.getD, List.getElem?_eq_none h]
  unfold kAt kC; rw [this, sx_zero.2]
theorem PlainC.at {xs : List C} (h : PlainC xs) (i : Nat) : IVC 4 64 ((zsOf xs).getD i z0) (kAt xs i) := by
  by_cases hi : i < xs.length
  · rw [zsOf_getD hi]
    have hm : xs.getD i (0, 0) ∈ xs := by simp [List.getD, hi]
    exact ⟨(h _ hm).1.iv, (h _ hm).2.iv⟩
  · rw [kAt_out (by omega), show (zsOf xs).getD i z0 = z0 by simp [List.getD, List.getElem?_eq_none, zsOf_length, Nat.le_of_not_lt hi]]
    exact ivc_zero _ _

/-- The number of a convolution as an integer. -/
def cvK (kx kh : Nat → KK) (n M : Nat) : KK := sumK (fun k => if k ≤ n then mulK (kh k) (kx (n - k)) else (0, 0)) M
/-- Numbers that are sixteenths, and 0 outside. -/
structure Ks (X : List Z) (kx : Nat → KK) : Prop where
  at_ : ∀ i, IVC 4 64 (X.getD i z0) (kx i)
  out : ∀ i, X.length ≤ i → kx i = (0, 0)
theorem PlainC.ks {xs : List C} (h : PlainC xs) : Ks (zsOf xs) (kAt xs) := ⟨h.at, fun i hi => kAt_out (by rwa [zsOf_length] at hi)⟩
theorem cvAt_iv {X H : List Z} {kx kh : Nat → KK} (hx : Ks X kx) (hh : Ks H kh) {n M : Nat} (hn : n < cvLen X.length H.length) (hM : H.length ≤ M) (hb : H.length ≤ 1000) :
    IVC 8 (1000 * 8192) (cvAt X H n) (cvK kx kh n M) := by
  have hlc := cvLo_cnt hn
  have hcb := cvCnt_le X.length H.length n
  have e : cvK kx kh n M = sumK (fun j => mulK (kh (cvLo X.length n + j)) (kx (n - (cvLo X.length n + j)))) (cvCnt X.length H.length n) := by
    unfold cvK
    rw [sumK_window (lo := cvLo X.length n) (c := cvCnt X.length H.length n)]
    · exact sumK_congr fun j hj => if_pos (cvIn hj).2.1
    · intro k hk
      show (if k ≤ n then _ else _) = _
      split
      · rw [hx.out _ (by unfold cvLo at hk; omega), mulK_zero]
      · rfl
    · intro k hk hkM
      show (if k ≤ n then _ else _) = _
      split
      · rw [hh.out _ (by omega), zero_mulK]
      · rfl
    · omega
  rw [e]
  unfold cvAt cvSum
  refine (ivc_sum (e := 8) (K := 8192) (fun j hj => ?_) (by omega) (by omega)).mono (by omega)
  exact ((hh.at_ _).mul (hx.at_ _) (by decide) (by decide))
theorem cvK_comm (kx kh : Nat → KK) (n : Nat) : cvK kx kh n (n + 1) = cvK kh kx n (n + 1) := by
  unfold cvK
  rw [sumK_rev]
  refine sumK_congr fun k hk => ?_
  show (if n - k ≤ n then _ else _) = (if k ≤ n then _ else _)
  rw [if_pos (by omega), if_pos (by omega), mulK_comm, show n - (n - k) = k by omega]
theorem cvK_more {kx kh : Nat → KK} {L : Nat} (h0 : ∀ i, L ≤ i → kh i = (0, 0)) (n M M' : Nat) (hM : L ≤ M ∨ n < M) (hM' : L ≤ M' ∨ n < M') : cvK kx kh n M = cvK kx kh n M' := by
  have aux : ∀ M d, (L ≤ M ∨ n < M) → cvK kx kh n (M + d) = cvK kx kh n M := fun M d hM => by
    unfold cvK
    rw [sumK_split, sumK_zero (t := fun i => if M + i ≤ n then _ else _), addK_zero]
    intro i hi
    show (if M + i ≤ n then _ else _) = _
    split
    · rw [h0 _ (by omega), zero_mulK]
    · rfl
  rcases Nat.le_total M M' with h1 | h1
  · obtain ⟨d, rfl⟩ := Nat.exists_eq_add_of_le h1; exact (aux M d hM).symm
  · obtain ⟨d, rfl⟩ := Nat.exists_eq_add_of_le h1; exact aux M' d hM'

end Go.Proofs.Yteamnfockjnilaa
