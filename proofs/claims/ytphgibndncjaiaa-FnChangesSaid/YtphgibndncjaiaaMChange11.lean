/-
  Several texts of this claim, one behind the other; each says what it holds.
-/
import Derived.Test.YtphgibndncjaiaaMChange10
import Derived.WalkSmall
import Derived.Deep.CutRange
/-
  BoundOf of the program: exact for signals of few sixteenths.
-/
set_option linter.unusedVariables false
set_option linter.unusedSimpArgs false
namespace Go.Proofs.Ytphgibndncjaiaa
open Go.RowKit Flt Fast

/-- The sizes of the parts of the first k numbers. -/
def sizeN (xs : List C) (i : Nat) : Nat := if i % 2 = 0 then (xs.getD (i / 2) (0, 0)).1 % 9223372036854775808 else (xs.getD (i / 2) (0, 0)).2 % 9223372036854775808
def sizesN (xs : List C) (k : Nat) : List Nat := (List.range (2 * k)).map (sizeN xs)
theorem sizesN_length (xs : List C) (k : Nat) : (sizesN xs k).length = 2 * k := by simp [sizesN]
theorem sizesN_succ (xs : List C) (k : Nat) : sizesN xs (k + 1) = sizesN xs k ++ [(xs.getD k (0, 0)).1 % 9223372036854775808, (xs.getD k (0, 0)).2 % 9223372036854775808] := by
  unfold sizesN
  rw [show 2 * (k + 1) = 2 * k + 1 + 1 by omega, List.range_succ, List.range_succ, List.map_append, List.map_append, List.append_assoc]
  congr 1
  simp only [List.map_cons, List.map_nil, List.cons_append, List.nil_append]
  have e1 : sizeN xs (2 * k) = (xs.getD k (0, 0)).1 % 9223372036854775808 := by
    unfold sizeN; rw [if_pos (by omega), show 2 * k / 2 = k by omega]
  have e2 : sizeN xs (2 * k + 1) = (xs.getD k (0, 0)).2 % 9223372036854775808 := by
    unfold sizeN; rw [if_neg (by omega), show (2 * k + 1) / 2 = k by omega]
  rw [e1, e2]
theorem sizesN_getD {xs : List C} {k i : Nat} (hi : i < 2 * k) : (sizesN xs k).getD i 0 = sizeN xs i := by simp [sizesN, List.getD, hi]

set_option maxRecDepth 100000 in
set_option maxHeartbeats 4000000 in
theorem sumOfSizes_any {v : Value} {xs : List C} {w : World} (h : Reads w v (cvals xs)) (hl : xs.length ≤ 256) (hwf : WfC xs) (z : Nat → Option Nat) (hz : ∀ i, i < 2 * xs.length → IsF (sizeN xs i) (z i)) :
    Calls Try.prog 20 #[v] w fun e w' => ∃ a, e = .returned (.float .f64 a) ∧ IsF a (sumO z (2 * xs.length)) ∧ Below w.heap.size w w' := by
  obtain ⟨i0, hi, hz0, hz1, hz2⟩ := info_parts info_f64
  have hrd := readsAt' h
  obtain ⟨a, cap, rfl⟩ := h.form
  rw [cvals_length] at h hrd ⊢
  obtain ⟨L, hL⟩ : ∃ L, xs.length = L := ⟨_, rfl⟩
  have hmax := maxLen_int (readsMaxN h)
  rw [hL] at h hrd hmax hl hz ⊢
  have HC : Hid (∀ k, k < L → ∃ g, a = some ⟨g, 0, none⟩ ∧ g < w.heap.size ∧ w.cell? ⟨g, k, none⟩ = some (.complex .f64 (xs.getD k (0, 0)).1 (xs.getD k (0, 0)).2)) := hrd _ _ _ rfl
  have HWF : Hid (∀ j, j < L → (xs.getD j (0, 0)).1 < 18446744073709551616 ∧ (xs.getD j (0, 0)).2 < 18446744073709551616) := fun j hj => hwf _ (getD_memC (by omega))
  have HFIN : Hid (∀ (v : Value) (w1 : World), Below w.heap.size w w1 → Row w1 w.heap.size 28 v (fvals (sizesN xs L)) → Calls Try.prog 43 #[v] w1 fun e w' => ∃ a, e = .returned (.float .f64 a) ∧ IsF a (sumO z (2 * L)) ∧ ∃ n, w' = w1.drewN n) := fun v w1 hb hr => by
    have := sumF_any hr.reads (by rw [sizesN_length]; omega) z (fun i hi => by rw [sizesN_length] at hi; rw [sizesN_getD hi]; exact hz i hi)
    rwa [sizesN_length] at this
  clear h hrd hwf hz hL
  go_enter Try.func20, Try.ntmps20
  go_wp2
  go_loopw [3, 8] (fun v3 i wr => ∃ k : Nat, i = .int .i64 k ∧ k ≤ L ∧ Row wr w.heap.size 28 v3 (fvals (sizesN xs k)) ∧ Below w.heap.size w wr) (fun _ i _ => L - (intOf i).toNat)
  case atStart => exact ⟨0, rfl, Nat.zero_le _, World.ownsRow_nil _ _ _ _, Below.refl _ _⟩
  case round =>
    obtain ⟨k, rfl, hk, hrw, hbw⟩ := hrel
    have HRW := Lib.hid hrw
    have HBW := Lib.hid hbw
    clear hrw hbw
    by_cases hlt : k < L
    · obtain ⟨g, rfl, hg, c1⟩ := HC.out k hlt
      have wf := HWF.out k hlt
      have hss := sizesN_succ xs k
      obtain ⟨⟨x, y⟩, hxy⟩ : ∃ q, xs.getD k (0, 0) = q := ⟨_, rfl⟩
      rw [hxy] at c1 wf hss
      replace c1 : wr.cell? ⟨g, k, none⟩ = some (.complex .f64 x y) := by rw [HBW.out.cell hg]; exact c1
      have A1 := Lib.hid (fun w => abs_any x wf.1 w)
      have A2 := Lib.hid (fun w => abs_any y wf.2 w)
      have HSS := Lib.hid hss
      generalize x % 9223372036854775808 = ax at *
      generalize y % 9223372036854775808 = ay at *
      clear hxy wf hss
      have HL8 : Hid ((fvals (sizesN xs k)).length = 2 * k) := by show _ = _; rw [fvals_length, sizesN_length]
      go_wp2_with fail
      refine (A1.out _).mono ?_
      rintro e w' ⟨rfl, rfl⟩
      go_wp2_with fail
      refine (A2.out _).mono ?_
      rintro e w'' ⟨rfl, rfl⟩
      clear A1 A2
      go_wp2_with (at_builtin; refine wpList_append_own _ rfl _ _ 37 rfl w.heap.size 28 i0 (.float .f64 0) 1 8 Try.underlying37 hi hz0 hz1 hz2 rfl (by decide) _ _ _ rfl (HRW.out.alloc _) ⟨_, 0, none⟩ 2 2 [.float .f64 ax, .float .f64 ay] rfl rfl (cell_two_new _ _ _ _) (by intro u hu; simp at hu; rcases hu with rfl | rfl <;> rfl) (by rw [HL8.out]; simp only [maxLen]; omega) (by rw [HL8.out]; omega) (by have := HBW.out.size; simp; omega) ?_)
      intro v' w1 hown' hgrow _
      have hlt' := (HRW.out.alloc (.cells #[.float .f64 ax, .float .f64 ay] 28)).lt
      have HB' : Hid (Below w.heap.size w w1) := (HBW.out.alloc HBW.out.size _).grown hgrow (by have := HBW.out.size; simp; omega) (fun b e => (hlt' b e).1)
      have HO' : Hid (Row w1 w.heap.size 28 v' (fvals (sizesN xs (k + 1)))) := by
        show w1.ownsRow _ _ _ _ _ _
        rw [HSS.out]
        have e : fvals (sizesN xs k ++ [ax, ay]) = fvals (sizesN xs k) ++ [.float .f64 ax, .float .f64 ay] := by simp [fvals, fval]
        rw [e, List.length_append]
        exact hown'
      clear hown' hgrow hlt' HRW HBW HSS HL8
      go_wp2
      go_roundw
      case rel => first | exact ⟨k + 1, by go_num, by omega, HO'.out, HB'.out⟩ | ((repeat apply Exists.intro); refine ⟨?_, rfl⟩; exact ⟨k + 1, by go_num, by omega, HO'.out, HB'.out⟩)
      case measure => simp [intOf]; omega
    · have e : k = L := by omega
      subst e
      go_wp2_with fail
      refine (HFIN.out _ _ HBW.out HRW.out).mono ?_
      rintro e w' ⟨s, rfl, hs, n, rfl⟩
      have HS := Lib.hid hs
      clear hs
      go_wp2
      go_ret
      exact ⟨_, rfl, HS.out, below_draws HBW.out n⟩

/-- Values of the parts of signals of few sixteenths. -/
def qC (u : C) : Q2 := (fq u.1, fq u.2)
def xQ (xs : List C) (j : Nat) : Q2 := qC (xs.getD j (0, 0))
theorem Few.has {p : Nat} (h : Few p) : Has p (fq p) := by
  obtain ⟨k, -, h⟩ := h
  exact ⟨h.1, rfl⟩
theorem Few.dy {p : Nat} (h : Few p) : Dy 4 1024 (fq p) := by
  obtain ⟨k, hk, h⟩ := h
  exact ⟨k, hk, by rw [h.2, show two 4 = 16 from rfl]; exact Rat.div_mul_cancel (by decide)⟩
theorem dy_ab {e K : Nat} {q : Rat} (h : Dy e K q) : Dy e K (Flt.ab q) := by
  unfold Flt.ab
  split
  · exact h
  · exact h.neg
theorem FewC.at {xs : List C} (h : FewC xs) {j : Nat} (hj : j < xs.length) : Few (xs.getD j (0, 0)).1 ∧ Few (xs.getD j (0, 0)).2 := h _ (getD_memC hj)

/-- The sum of the sizes. -/
def sumS (xs : List C) : Rat := psum (fun j => nrm (xQ xs j)) xs.length
def pS (xs : List C) (i : Nat) : Rat := if i % 2 = 0 then Flt.ab (xQ xs (i / 2)).1 else Flt.ab (xQ xs (i / 2)).2
theorem psum_pS (xs : List C) (k : Nat) : psum (pS xs) (2 * k) = psum (fun j => nrm (xQ xs j)) k := by
  induction k with
  | zero => rfl
  | succ k ih =>
    rw [show 2 * (k + 1) = 2 * k + 1 + 1 by omega, psum_succ, psum_succ, psum_succ, ih]
    have e1 : pS xs (2 * k) = Flt.ab (xQ xs k).1 := by unfold pS; rw [if_pos (by omega), show 2 * k / 2 = k by omega]
    have e2 : pS xs (2 * k + 1) = Flt.ab (xQ xs k).2 := by unfold pS; rw [if_neg (by omega), show (2 * k + 1) / 2 = k by omega]
    rw [e1, e2]
    unfold nrm
    grind
theorem few_size {xs : List C} (h : FewC xs) {i : Nat} (hi : i < 2 * xs.length) : Has (sizeN xs i) (pS xs i) ∧ Dy 4 1024 (pS xs i) := by
  have hf := h.at (show i / 2 < xs.length by omega)
  unfold sizeN pS xQ qC
  split
  · exact ⟨has_abs hf.1.has, dy_ab hf.1.dy⟩
  · exact ⟨has_abs hf.2.has, dy_ab hf.2.dy⟩
theorem sumS_dy {xs : List C} (h : FewC xs) : Dy 4 (2 * xs.length * 1024) (sumS xs) := by
  unfold sumS
  rw [← psum_pS]
  exact psum_dy fun i hi => (few_size h hi).2

theorem has_bound : Has 4769312005385355264 68719476736 := has_int (n := 68719476736) (by decide) (by decide)

/-- The bound of a signal of few sixteenths, exactly. -/
def BndR (xs : List C) (w : World) (e : Ending) (w' : World) : Prop := ∃ u, e = .returned (.tuple #[.float .f64 u, .int .i64 0]) ∧ Has u (sumS xs / 68719476736) ∧ Below w.heap.size w w'

set_option maxRecDepth 100000 in
set_option maxHeartbeats 4000000 in
theorem boundOf_any {v : Value} {xs : List C} {w : World} (h : Reads w v (cvals xs)) (hl : xs.length ≤ 64) (hf : FewC xs) :
    Calls Try.prog 8 #[v] w (BndR xs w) := by
  have S := Lib.hid (sumOfSizes_any h (by omega) hf.wf (fun i => some (sizeN xs i)) (fun i hi => (few_size hf hi).1.isF))
  have hS : Fv (sumO (fun i => some (sizeN xs i)) (2 * xs.length)) (sumS xs) := by
    rcases Nat.eq_zero_or_pos xs.length with h0 | h0
    · unfold sumS; rw [h0]; exact has_zero.fv
    · have := sumO_dy (z := fun i => some (sizeN xs i)) (p := pS xs) (e := 4) (K := 1024) (n := 2 * xs.length) (fun i hi => (few_size hf hi).1.fv) (fun i hi => (few_size hf hi).2) (by omega) (by decide) (by omega)
      rw [psum_pS] at this
      exact this
  have hD : Dy 40 (2 * xs.length * 1024) (sumS xs / 68719476736) := by
    obtain ⟨k, hk, e⟩ := sumS_dy hf
    refine ⟨k, hk, ?_⟩
    rw [← e]
    have : two 40 = 68719476736 * two 4 := by rw [show two 40 = 1099511627776 from rfl, show two 4 = 16 from rfl]; decide +kernel
    rw [this, ← Rat.mul_assoc, Rat.div_mul_cancel (by decide)]
  have HQ : Hid (∀ s, IsF s (sumO (fun i => some (sizeN xs i)) (2 * xs.length)) → ∃ d, Has d (sumS xs / 68719476736) ∧ ∀ (P : Program) (t : TypeId) (w : World), (binOp .quo t (.float .f64 s) (.float .f64 4769312005385355264)).run P w = .ok (.float .f64 d) w) := fun s hs => by
    have h1 : Has s (sumS xs) := Has.of hs hS
    exact run_has (.inr (.inr (.inr rfl))) (hD.fv_div (by omega) (by decide) (by decide) h1.fv has_bound.fv)
  obtain ⟨a, cap, rfl⟩ := h.form
  have hmax := maxLen_int (readsMaxN h)
  rw [cvals_length] at S hmax ⊢
  obtain ⟨n, hn⟩ : ∃ n, xs.length = n := ⟨_, rfl⟩
  rw [hn] at S HQ hmax hl ⊢
  clear h hf hS hD hn
  go_enter Try.func8, Try.ntmps8
  go_wp2_with fail
  refine S.out.mono ?_
  rintro e w' ⟨s, rfl, hs, hb⟩
  obtain ⟨d, hd, E⟩ := HQ.out s hs
  have HB := Lib.hid (And.intro hd hb)
  clear S HQ hs hd hb
  go_wp2
  go_ret2
  exact ⟨_, rfl, HB.out⟩

end Go.Proofs.Ytphgibndncjaiaa
/-
  The fast transform of signals of few sixteenths; what is rotated, mirrored and added. No program.
-/
set_option linter.unusedVariables false
set_option linter.unusedSimpArgs false
namespace Go.Proofs.Ytphgibndncjaiaa
open Go Flt
namespace Flt
open Turn Fast

/-- The sum of the sizes of a signal, which is 0 or not too small. -/
structure Sz (x : Nat → Q2) (n : Nat) (S : Rat) : Prop where
  sum : psum (fun j => nrm (x j)) n = S
  lo : S = 0 ∨ 1 / 16 ≤ S
  hi : S ≤ 1048576
theorem Sz.nonneg {x : Nat → Q2} {n : Nat} {S : Rat} (h : Sz x n S) : 0 ≤ S := by
  rw [← h.sum]; exact psum_nonneg fun i _ => nrm_nonneg _
theorem nrm_zero {z : Q2} (h : nrm z = 0) : z = (0, 0) := by
  have h1 := size_nrm z
  rw [h] at h1
  obtain ⟨a, b⟩ := h1.re
  obtain ⟨c, d⟩ := h1.im
  refine Prod.ext ?_ ?_
  · show z.1 = 0; grind
  · show z.2 = 0; grind
theorem Sz.zeros {x : Nat → Q2} {n : Nat} (h : Sz x n 0) : ∀ j, j < n → x j = (0, 0) := fun j hj => by
  have h1 := psum_term (p := fun j => nrm (x j)) (fun i _ => nrm_nonneg _) hj
  rw [h.sum] at h1
  exact nrm_zero (Rat.le_antisymm h1 (nrm_nonneg _))
theorem dft_zeros {x : Nat → Q2} {n : Nat} (h : ∀ j, j < n → x j = (0, 0)) (k : Nat) : dft x n k = (0, 0) := by
  have : ∀ m, m ≤ n → sumQ (fun j => mulQ (x j) (cisr n (j * k))) m = (0, 0) := by
    intro m
    induction m with
    | zero => intro _; rfl
    | succ m ih =>
      intro hm
      show addQ (sumQ _ m) (mulQ (x m) _) = _
      rw [ih (by omega), h m (by omega), zero_mulQ, addQ_zero]
  exact this n (Nat.le_refl _)
theorem Sz.mid {x : Nat → Q2} {n : Nat} {S : Rat} (h : Sz x n S) (h0 : 1 / 16 ≤ S) : Mid S := ⟨Rat.le_trans (by decide +kernel) h0, Rat.le_trans h.hi (by decide +kernel)⟩
theorem Sz.size {x : Nat → Q2} {n : Nat} {S : Rat} (h : Sz x n S) (hn : 0 < n) (k : Nat) : SizeQ (dft x n k) (S * (1001 / 1000)) := by
  have hd := dl_small
  rw [← h.sum]
  exact weighted_size (by decide +kernel) (fun i _ => Rat.le_refl) fun i hi => (cisr_size _ hn).mono (by grind)
theorem psum_const (c : Rat) (n : Nat) : psum (fun _ => c) n = (n : Rat) * c := by
  induction n with
  | zero => show (0 : Rat) = ((0 : Nat) : Rat) * c; rw [show ((0 : Nat) : Rat) = 0 from rfl, Rat.zero_mul]
  | succ n ih => rw [psum_succ, ih, Rat.natCast_add]; show _ = ((n : Rat) + 1) * c; grind

/-- The fast transform of few sixteenths. -/
theorem few_fast {xs ys : List Z} (h : Fast xs ys) {x : Nat → Q2} {n : Nat} {S : Rat} (hl : xs.length = n) (hn : n ≤ 20) (hx : ∀ j, j < n → FvQ (xs.getD j z0) (x j)) (hS : Sz x n S) :
    ∀ k, k < n → ∃ v, FvQ (ys.getD k z0) v ∧ NearQ v (dft x n k) (S / 2199023255552) := by
  intro k hk
  rcases hS.lo with h0 | h0
  · subst h0
    have hz := hS.zeros
    refine ⟨(0, 0), fast_zero h (by omega) (fun j hj => by have := hx j (by omega); rwa [hz j (by omega)] at this) k (by omega), ?_⟩
    rw [dft_zeros hz]
    exact NearQ.refl _ (by decide +kernel)
  · have hsum : psum (fun j => nrm (x j) + 1 / 1099511627776) n = S + (n : Rat) * (1 / 1099511627776) := by
      rw [psum_add (fun j => nrm (x j)) (fun _ => 1 / 1099511627776), hS.sum, psum_const]
    have hn2 : (n : Rat) ≤ 20 := Rat.natCast_le_natCast.2 (show n ≤ 20 by omega)
    have hn1 : (1 : Rat) ≤ (n : Rat) := Rat.natCast_le_natCast.2 (show 1 ≤ n by omega)
    have hhi := hS.hi
    obtain ⟨v, h1, h2⟩ := fast_near h x (fun j => nrm (x j) + 1 / 1099511627776) (fun j hj => hx j (by omega)) (by
      rw [hl]
      exact ⟨fun j hj => by grind, fun j hj => by have := nrm_nonneg (x j); grind⟩) (by omega) (by
        rw [hl, hsum]; grind) k (by omega)
    rw [hl] at h2
    refine ⟨v, h1, h2.mono ?_⟩
    rw [hsum]
    have he : err n ≤ 1140 := by unfold err; grind
    have hu : 4503599627370496 * ulp = 1 := by decide +kernel
    have hb : S + (n : Rat) * (1 / 1099511627776) ≤ S * (1001 / 1000) := by grind
    have hp : 0 ≤ ulp * (S * (1001 / 1000)) := Rat.mul_nonneg (Rat.le_of_lt ulp_pos) (by grind)
    have he0 : 0 ≤ err n := by unfold err; grind
    have a1 : ulp * (S + (n : Rat) * (1 / 1099511627776)) ≤ ulp * (S * (1001 / 1000)) := Rat.mul_le_mul_of_nonneg_left hb (Rat.le_of_lt ulp_pos)
    have a2 := Rat.mul_le_mul_of_nonneg_left a1 he0
    have a3 := Rat.mul_le_mul_of_nonneg_right he hp
    have a4 : ulp * (S * (1001 / 1000)) = S * (1001 / 1000) / 4503599627370496 := by
      rw [show ulp = 1 / 4503599627370496 from rfl, Rat.div_def, Rat.div_def, Rat.one_mul]
      exact Rat.mul_comm _ _
    rw [a4] at a3
    refine Rat.le_trans a2 ?_
    rw [a4]
    refine Rat.le_trans a3 ?_
    clear h h1 h2 hx hS hsum a1 a2 a3 a4 hu hp hb
    grind

/-- Both are near one number. -/
theorem NearQ.meet {a b c : Q2} {e f : Rat} (h : NearQ a c e) (k : NearQ b c f) : NearQ a b (e + f) := h.trans k.symm

/-- Rotated: the transform of what is rotated, and the transform that is modulated. -/
theorem rot_near {xs rs ts bs : List Z} {x : Nat → Q2} {n k : Nat} {S : Rat} (hx : ∀ j, j < n → FvQ (xs.getD j z0) (x j)) (hl : xs.length = n) (hn : n ≤ 20) (hk : k < n) (hr : rs.length = n) (hrs : ∀ j, j < n → rs.getD j z0 = xs.getD ((j + k) % n) z0) (hS : Sz x n S) (ht : Fast xs ts) (ha : Fast rs bs) :
    ∀ K, K < n → ∃ v u, FvQ (bs.getD K z0) v ∧ FvQ (mulZ (ts.getD K z0) (turn n (K * k % n))) u ∧ NearQ v u (2 * (S / 68719476736)) := by
  intro K hK
  have hn0 : 0 < n := by omega
  have hx' : ∀ j, j < n → FvQ (rs.getD j z0) (x ((j + k) % n)) := fun j hj => by rw [hrs j hj]; exact hx _ (Nat.mod_lt _ hn0)
  have hS' : Sz (fun j => x ((j + k) % n)) n S := ⟨by
    rw [← hS.sum]
    have := congrArg Prod.fst (sumQ_rot (fun j => (nrm (x j), 0)) (Nat.le_of_lt hk))
    have e : ∀ (f : Nat → Rat) m, (sumQ (fun j => (f j, 0)) m).1 = psum f m := fun f m => by
      induction m with
      | zero => rfl
      | succ m ih => rw [psum_succ, ← ih]; rfl
    rw [e (fun j => nrm (x j))] at this
    rw [← this, ← e (fun j => nrm (x ((j + k) % n)))], hS.lo, hS.hi⟩
  obtain ⟨v, v1, v2⟩ := few_fast ha hr hn hx' hS' K hK
  obtain ⟨t, t1, t2⟩ := few_fast ht hl hn hx hS K hK
  have hmod : K * k % n < n := Nat.mod_lt _ hn0
  rcases hS.lo with h0 | h0
  · subst h0
    have hz := hS.zeros
    rw [dft_zeros hz] at t2
    rw [dft_zeros (hS'.zeros)] at v2
    have e0 : (0 : Rat) / 2199023255552 = 0 := by decide +kernel
    rw [e0] at t2 v2
    have z : ∀ {q : Q2}, NearQ q (0, 0) 0 → q = (0, 0) := fun {q} h => by
      obtain ⟨a, b⟩ := near_size.1 h.re
      obtain ⟨c, d⟩ := near_size.1 h.im
      refine Prod.ext ?_ ?_
      · show q.1 = 0; grind
      · show q.2 = 0; grind
    rw [z t2] at t1
    rw [z v2] at v1
    obtain ⟨c, s, hc⟩ := TV.ex (k := K * k % n) hn0 (by omega) (Nat.le_of_lt hmod)
    exact ⟨(0, 0), (0, 0), v1, mulZ_zero_l (q := (c, s)) t1 hc, NearQ.refl _ (by decide +kernel)⟩
  · have hm := hS.mid h0
    have hd := dl_small
    have hp := hm.pos
    obtain ⟨u, u1, u2⟩ := cmul_cis (n := n) (k := K * k % n) t1 t2 (hS.size hn0 K) (by grind) (by grind) hm (by have := hS.hi; grind) hn0 (by omega) (Nat.le_of_lt hmod)
    have ec : cis (((K * k % n : Nat) : Rat) / (n : Rat)) = cisr n ((n - 1) * (K * k)) := by unfold cisr; rw [rst_back _ hn0]
    rw [ec] at u2
    have hrot := dft_rot (K := K) hk (fun j hj => (Rat.le_refl : nrm (x j) ≤ nrm (x j)))
    rw [hS.sum] at hrot
    refine ⟨v, u, v1, u1, ((v2.trans hrot).meet u2).mono ?_⟩
    have hu : ulp * S = S / 4503599627370496 := by
      rw [show ulp = 1 / 4503599627370496 from rfl, Rat.div_def, Rat.div_def, Rat.one_mul]
      exact Rat.mul_comm _ _
    have hdS : S * (6 * dl) ≤ S * (6 * (1 / 1000000000000)) := Rat.mul_le_mul_of_nonneg_left (by grind) (Rat.le_of_lt hp)
    rw [hu]
    generalize S * (6 * dl) = G at *
    clear v1 v2 t1 t2 u1 u2 hrot hS hS' hx hx' hm hd hu ec ht ha hrs
    grind

/-- Mirrored. -/
theorem mir_near {xs rs ts bs : List Z} {x : Nat → Q2} {n : Nat} {S : Rat} (hx : ∀ j, j < n → FvQ (xs.getD j z0) (x j)) (hl : xs.length = n) (hn : n ≤ 20) (hr : rs.length = n) (hrs : ∀ j, j < n → rs.getD j z0 = xs.getD ((n - j) % n) z0) (hS : Sz x n S) (ht : Fast xs ts) (ha : Fast rs bs) :
    ∀ K, K < n → ∃ v u, FvQ (bs.getD K z0) v ∧ FvQ (ts.getD ((n - K) % n) z0) u ∧ NearQ v u (2 * (S / 68719476736)) := by
  intro K hK
  have hn0 : 0 < n := by omega
  have hx' : ∀ j, j < n → FvQ (rs.getD j z0) (x ((n - j) % n)) := fun j hj => by rw [hrs j hj]; exact hx _ (Nat.mod_lt _ hn0)
  have hS' : Sz (fun j => x ((n - j) % n)) n S := ⟨by
    rw [← hS.sum]
    have := congrArg Prod.fst (sumQ_mirror (fun j => (nrm (x j), 0)) n)
    have e : ∀ (f : Nat → Rat) m, (sumQ (fun j => (f j, 0)) m).1 = psum f m := fun f m => by
      induction m with
      | zero => rfl
      | succ m ih => rw [psum_succ, ← ih]; rfl
    rw [e (fun j => nrm (x j))] at this
    rw [← this, ← e (fun j => nrm (x ((n - j) % n)))], hS.lo, hS.hi⟩
  obtain ⟨v, v1, v2⟩ := few_fast ha hr hn hx' hS' K hK
  obtain ⟨t, t1, t2⟩ := few_fast ht hl hn hx hS ((n - K) % n) (Nat.mod_lt _ hn0)
  rw [dft_mirror x hK] at v2
  refine ⟨v, t, v1, t1, (v2.meet t2).mono ?_⟩
  have := hS.nonneg
  clear v1 v2 t1 t2 hS hS' hx hx' ht ha hrs
  grind

/-- Added. -/
theorem add_near' {xs ys ss ts us bs : List Z} {x y : Nat → Q2} {n : Nat} {S R T : Rat} (hx : ∀ j, j < n → FvQ (xs.getD j z0) (x j)) (hy : ∀ j, j < n → FvQ (ys.getD j z0) (y j)) (hl : xs.length = n) (hl' : ys.length = n) (hn : n ≤ 20) (hr : ss.length = n) (hss : ∀ j, j < n → FvQ (ss.getD j z0) (addQ (x j) (y j))) (hS : Sz x n S) (hR : Sz y n R) (hT : Sz (fun j => addQ (x j) (y j)) n T) (hTle : T ≤ S + R) (ht : Fast xs ts) (hu : Fast ys us) (ha : Fast ss bs) :
    ∀ K, K < n → ∃ v u, FvQ (bs.getD K z0) v ∧ FvQ (addZ (ts.getD K z0) (us.getD K z0)) u ∧ NearQ v u (2 * (S / 68719476736 + R / 68719476736)) := by
  intro K hK
  have hn0 : 0 < n := by omega
  obtain ⟨v, v1, v2⟩ := few_fast ha hr hn hss hT K hK
  obtain ⟨t, t1, t2⟩ := few_fast ht hl hn hx hS K hK
  obtain ⟨r, r1, r2⟩ := few_fast hu hl' hn hy hR K hK
  rw [dft_add] at v2
  have hS0 := hS.nonneg
  have hR0 := hR.nonneg
  by_cases h0 : 1 / 16 ≤ S + R
  · have z1 := (t2.add r2).size ((hS.size hn0 K).add (hR.size hn0 K))
    obtain ⟨u, u1, u2⟩ := cadd_near t1 r1 (Y := 11 / 10 * (S + R)) (z1.mono (by clear v1 v2 t1 t2 r1 r2 z1 hS hR hT hx hy hss ht hu ha; grind)) ⟨by grind, by have := hS.hi; have := hR.hi; grind⟩
    refine ⟨v, u, v1, u1, (v2.meet (u2.trans (t2.add r2))).mono ?_⟩
    have e : ulp * (11 / 10 * (S + R)) = 11 / 10 * (S + R) / 4503599627370496 := by
      rw [show ulp = 1 / 4503599627370496 from rfl, Rat.div_def, Rat.div_def, Rat.one_mul]
      exact Rat.mul_comm _ _
    rw [e]
    clear v1 v2 t1 t2 r1 r2 u1 u2 z1 hS hR hT hx hy hss ht hu ha e
    grind
  · have hS' : S = 0 := by rcases hS.lo with h | h; exact h; grind
    have hR' : R = 0 := by rcases hR.lo with h | h; exact h; grind
    subst hS'
    subst hR'
    have hT' : T = 0 := Rat.le_antisymm (by grind) hT.nonneg
    subst hT'
    have e0 : (0 : Rat) / 2199023255552 = 0 := by decide +kernel
    have z : ∀ {q : Q2}, NearQ q (0, 0) 0 → q = (0, 0) := fun {q} h => by
      obtain ⟨a, b⟩ := near_size.1 h.re
      obtain ⟨c, d⟩ := near_size.1 h.im
      refine Prod.ext ?_ ?_
      · show q.1 = 0; grind
      · show q.2 = 0; grind
    rw [e0, dft_zeros hS.zeros] at t2
    rw [e0, dft_zeros hR.zeros] at r2
    rw [e0, dft_zeros hS.zeros, dft_zeros hR.zeros, addQ_zero] at v2
    rw [z t2] at t1
    rw [z r2] at r1
    rw [z v2] at v1
    exact ⟨(0, 0), (0, 0), v1, addZ_zero t1 r1, NearQ.refl _ (by decide +kernel)⟩

end Flt
end Go.Proofs.Ytphgibndncjaiaa
/-
  What the law of changes compares.
-/
set_option linter.unusedVariables false
set_option linter.unusedSimpArgs false
namespace Go.Proofs.Ytphgibndncjaiaa
open Go.RowKit Flt Turn Fast

theorem rowB {w w' : World} {B e : Nat} {v : Value} {cs : List Value} (h : Row w B e v cs) (hb : Below w.heap.size w w') : Row w' B e v cs := h.below hb (fun k e => (h.lt k e).2)
theorem rowTake {w : World} {B e g m n c : Nat} {cs : List Value} (h : Row w B e (.slice (some ⟨g, 0, none⟩) m c) cs) (hm : cs.length = m) (hn : n ≤ m) : Row w B e (.slice (some ⟨g, 0, none⟩) n c) (cs.take n) := by
  have hl : (cs.take n).length = n := by rw [List.length_take]; omega
  obtain ⟨h1, h2⟩ := h
  rcases h2 with ⟨e1, -⟩ | ⟨g', cap, cur, e1, hb, hh, hc, hx, hs, ht⟩
  · simp at e1
  · rw [hm] at e1 hc ht
    simp only [Value.slice.injEq, Option.some.injEq, Addr.mk.injEq] at e1
    obtain ⟨⟨rfl, -⟩, -, rfl⟩ := e1
    show w.ownsRow B e 1 _ _ _
    rw [hl]
    refine ⟨by rw [hl]; omega, .inr ⟨_, _, cur, rfl, hb, hh, by omega, hx, hs, ?_⟩⟩
    rw [← ht, List.take_take]
    congr 1
    omega
theorem hasOf {p : C} {z : Z} {q : Q2} (h : IsC p z) (hz : FvQ z q) : Has p.1 q.1 ∧ Has p.2 q.2 := ⟨Has.of h.re hz.1, Has.of h.im hz.2⟩
theorem fvQ_few {u : C} (h : Few u.1 ∧ Few u.2) : FvQ (zOf u) (qC u) := by
  unfold zOf
  rw [h.1.has.isF.cn, h.2.has.isF.cn]
  exact ⟨h.1.has.fv, h.2.has.fv⟩
theorem fvQ_at {xs : List C} (h : FewC xs) : ∀ j, j < xs.length → FvQ ((zsOf xs).getD j z0) (xQ xs j) := fun j hj => by
  rw [zsOf_getD hj]
  exact fvQ_few (h.at hj)
theorem isC_at {xs : List C} (h : WfC xs) : ∀ j, j < xs.length → IsC (xs.getD j (0, 0)) ((zsOf xs).getD j z0) := fun j hj => by
  rw [zsOf_getD hj]
  exact isC_zOf (h _ (getD_memC hj))
theorem zs_of {xs : List C} {z : Nat → Z} {n : Nat} (hl : xs.length = n) (h : ∀ j, j < n → IsC (xs.getD j (0, 0)) (z j)) : ∀ j, j < n → (zsOf xs).getD j z0 = z j := fun j hj => by
  rw [zsOf_getD (by omega)]
  have := h j hj
  unfold zOf
  rw [this.re.cn, this.im.cn]
theorem wf_of {xs : List C} {z : Nat → Z} {n : Nat} (hl : xs.length = n) (h : ∀ j, j < n → IsC (xs.getD j (0, 0)) (z j)) : WfC xs := fun p hp => by
  obtain ⟨i, hi, rfl⟩ := List.getElem_of_mem hp
  have := h i (by omega)
  simp only [List.getD, hi, List.getElem?_eq_getElem, Option.getD_some] at this
  exact ⟨this.re.lt, this.im.lt⟩
theorem nearC_of {gs bs : List C} {zb : Nat → Z} {n : Nat} {B : Rat} (hl : gs.length = n) (hw : WfC gs) (hb : ∀ j, j < n → IsC (bs.getD j (0, 0)) (zb j)) (h : ∀ K, K < n → ∃ v u, FvQ ((zsOf gs).getD K z0) v ∧ FvQ (zb K) u ∧ NearQ v u B) : NearC gs bs B := fun i hi => by
  obtain ⟨v, u, h1, h2, h3⟩ := h i (by omega)
  have a1 := hasOf (isC_at hw i hi) h1
  have a2 := hasOf (hb i (by omega)) h2
  exact ⟨v.1, v.2, u.1, u.2, a1.1, a1.2, a2.1, a2.2, h3.re, h3.im⟩

theorem dy_lo {K : Nat} {q : Rat} (h : Dy 4 K q) (h0 : 0 ≤ q) : q = 0 ∨ 1 / 16 ≤ q := by
  obtain ⟨k, -, e⟩ := h
  rw [show two 4 = 16 from rfl] at e
  by_cases hk : k ≤ 0
  · left
    have : (k : Rat) ≤ ((0 : Int) : Rat) := Rat.intCast_le_intCast.2 hk
    have e0 : ((0 : Int) : Rat) = 0 := rfl
    rw [e0] at this
    grind
  · right
    have : ((1 : Int) : Rat) ≤ (k : Rat) := Rat.intCast_le_intCast.2 (by omega)
    have e0 : ((1 : Int) : Rat) = 1 := rfl
    rw [e0] at this
    grind
theorem dy_hi {K : Nat} {q : Rat} (h : Dy 4 K q) (hK : K ≤ 1048576) : q ≤ 1048576 := by
  obtain ⟨b, a⟩ := h.size
  have : (K : Rat) ≤ ((1048576 : Nat) : Rat) := Rat.natCast_le_natCast.2 hK
  exact Rat.le_trans b (Rat.le_trans this (by decide +kernel))
theorem sz_few {xs : List C} {n : Nat} (h : FewC xs) (hl : xs.length = n) (hn : n ≤ 20) : Sz (xQ xs) n (sumS xs) := by
  subst hl
  have hd := sumS_dy h
  exact ⟨rfl, dy_lo hd (psum_nonneg fun i _ => nrm_nonneg _), dy_hi hd (by omega)⟩
theorem xq_dy {xs : List C} (h : FewC xs) {j : Nat} (hj : j < xs.length) : Dy 4 1024 (xQ xs j).1 ∧ Dy 4 1024 (xQ xs j).2 := ⟨(h.at hj).1.dy, (h.at hj).2.dy⟩
theorem sz_sum {xs ys : List C} {n : Nat} (h : FewC xs) (h' : FewC ys) (hl : xs.length = n) (hl' : ys.length = n) (hn : n ≤ 20) : ∃ T, Sz (fun j => addQ (xQ xs j) (xQ ys j)) n T ∧ T ≤ sumS xs + sumS ys := by
  refine ⟨psum (fun j => nrm (addQ (xQ xs j) (xQ ys j))) n, ⟨rfl, ?_, ?_⟩, ?_⟩
  · refine dy_lo (K := n * 4096) (psum_dy fun i hi => ?_) (psum_nonneg fun i _ => nrm_nonneg _)
    have a := xq_dy h (show i < xs.length by omega)
    have b := xq_dy h' (show i < ys.length by omega)
    exact (dy_ab (a.1.add b.1)).add (dy_ab (a.2.add b.2))
  · refine dy_hi (K := n * 4096) (psum_dy fun i hi => ?_) (by omega)
    have a := xq_dy h (show i < xs.length by omega)
    have b := xq_dy h' (show i < ys.length by omega)
    exact (dy_ab (a.1.add b.1)).add (dy_ab (a.2.add b.2))
  · unfold sumS
    rw [hl, hl', ← Flt.psum_add]
    refine psum_le fun i _ => ?_
    have k : ∀ a b : Rat, Flt.ab (a + b) ≤ Flt.ab a + Flt.ab b := fun a b => by unfold Flt.ab; split <;> split <;> split <;> grind
    have k1 := k (xQ xs i).1 (xQ ys i).1
    have k2 := k (xQ xs i).2 (xQ ys i).2
    unfold nrm addQ
    grind
theorem sum_fv {xs ys : List C} {n : Nat} (h : FewC xs) (h' : FewC ys) (hl : xs.length = n) (hl' : ys.length = n) : ∀ j, j < n → FvQ (addZ ((zsOf xs).getD j z0) ((zsOf ys).getD j z0)) (addQ (xQ xs j) (xQ ys j)) := fun j hj => by
  have a := fvQ_at h j (by omega)
  have b := fvQ_at h' j (by omega)
  have a' := xq_dy h (show j < xs.length by omega)
  have b' := xq_dy h' (show j < ys.length by omega)
  exact ⟨(a'.1.add b'.1).fv_add (by decide) (by decide) a.1 b.1, (a'.2.add b'.2).fv_add (by decide) (by decide) a.2 b.2⟩

theorem chg_rot {xs rs ts gs bs : List C} {n k : Nat} (h : FewC xs) (hl : xs.length = n) (hn : n ≤ 20) (hk : k < n ∨ k = 0) (hr : rs.length = n) (hrs : ∀ j, j < n → IsC (rs.getD j (0, 0)) ((zsOf xs).getD ((j + k) % n) z0)) (ht : Fast (zsOf xs) (zsOf ts)) (ha : Fast (zsOf rs) (zsOf gs)) (hwa : WfC gs) (hla : gs.length = n) (hb : ∀ j, j < n → IsC (bs.getD j (0, 0)) (mulZ ((zsOf ts).getD j z0) (turn n (j * k % n)))) : NearC gs bs (2 * (sumS xs / 68719476736)) := by
  refine nearC_of hla hwa hb fun K hK => ?_
  exact rot_near (x := xQ xs) (fun j hj => fvQ_at h j (by omega)) (by rw [zsOf_length]; exact hl) hn (by omega) (by rw [zsOf_length]; exact hr) (zs_of hr hrs) (sz_few h hl hn) ht ha K hK
theorem chg_mir {xs rs ts gs bs : List C} {n : Nat} (h : FewC xs) (hl : xs.length = n) (hn : n ≤ 20) (hr : rs.length = n) (hrs : ∀ j, j < n → IsC (rs.getD j (0, 0)) ((zsOf xs).getD ((n - j) % n) z0)) (ht : Fast (zsOf xs) (zsOf ts)) (ha : Fast (zsOf rs) (zsOf gs)) (hwa : WfC gs) (hla : gs.length = n) (hb : ∀ j, j < n → IsC (bs.getD j (0, 0)) ((zsOf ts).getD ((n - j) % n) z0)) : NearC gs bs (2 * (sumS xs / 68719476736)) := by
  refine nearC_of hla hwa hb fun K hK => ?_
  exact mir_near (x := xQ xs) (fun j hj => fvQ_at h j (by omega)) (by rw [zsOf_length]; exact hl) hn (by rw [zsOf_length]; exact hr) (zs_of hr hrs) (sz_few h hl hn) ht ha K hK
theorem chg_add {xs ys ss ts us gs bs : List C} {n : Nat} (h : FewC xs) (h' : FewC ys) (hl : xs.length = n) (hl' : ys.length = n) (hn : n ≤ 20) (hr : ss.length = n) (hss : ∀ j, j < n → IsC (ss.getD j (0, 0)) (addZ ((zsOf xs).getD j z0) ((zsOf ys).getD j z0))) (ht : Fast (zsOf xs) (zsOf ts)) (hu : Fast (zsOf ys) (zsOf us)) (ha : Fast (zsOf ss) (zsOf gs)) (hwa : WfC gs) (hla : gs.length = n) (hb : ∀ j, j < n → IsC (bs.getD j (0, 0)) (addZ ((zsOf ts).getD j z0) ((zsOf us).getD j z0))) : NearC gs bs (2 * (sumS xs / 68719476736 + sumS ys / 68719476736)) := by
  obtain ⟨T, hT, hTle⟩ := sz_sum h h' hl hl' hn
  refine nearC_of hla hwa hb fun K hK => ?_
  exact add_near' (x := xQ xs) (y := xQ ys) (fun j hj => fvQ_at h j (by omega)) (fun j hj => fvQ_at h' j (by omega)) (by rw [zsOf_length]; exact hl) (by rw [zsOf_length]; exact hl') hn (by rw [zsOf_length]; exact hr) (fun j hj => by rw [zs_of hr hss j hj]; exact sum_fv h h' hl hl' j hj) (sz_few h hl hn) (sz_few h' hl' hn) hT hTle ht hu ha K hK

/-- The law's own sums of bounds, exactly. -/
theorem bnd_dy {xs : List C} (h : FewC xs) : Dy 40 (2 * xs.length * 1024) (sumS xs / 68719476736) := by
  obtain ⟨k, hk, e⟩ := sumS_dy h
  refine ⟨k, hk, ?_⟩
  rw [← e]
  have : two 40 = 68719476736 * two 4 := by rw [show two 40 = 1099511627776 from rfl, show two 4 = 16 from rfl]; decide +kernel
  rw [this, ← Rat.mul_assoc, Rat.div_mul_cancel (by decide)]
theorem has_two : Has 4611686018427387904 2 := has_int (n := 2) (by decide) (by decide)
theorem bnd_twice {K u : Nat} {q : Rat} (h : Dy 40 K q) (hK : K ≤ 1000000) (hu : Has u q) : ∃ d, Has d (2 * q) ∧ ∀ (P : Program) (t : TypeId) (w : World), (binOp .mul t (.float .f64 4611686018427387904) (.float .f64 u)).run P w = .ok (.float .f64 d) w := by
  have hd : Dy (0 + 40) (2 * K) (2 * q) := Dy.mul (Dy.of_int (n := 2) (K := 2) (by decide)) h
  exact run_has (.inr (.inr (.inl rfl))) (hd.fv_mul (by omega) (by decide) has_two.fv hu.fv)
theorem bnd_sum {K L u v : Nat} {p q : Rat} (h : Dy 40 K p) (h' : Dy 40 L q) (hK : K ≤ 1000000) (hL : L ≤ 1000000) (hu : Has u p) (hv : Has v q) : ∃ d, Has d (p + q) ∧ ∀ (P : Program) (t : TypeId) (w : World), (binOp .add t (.float .f64 u) (.float .f64 v)).run P w = .ok (.float .f64 d) w :=
  run_has (.inl rfl) ((h.add h').fv_add (by omega) (by decide) hu.fv hv.fv)
theorem bnd_small {K : Nat} {q : Rat} (h : Dy 40 K q) (hK : K ≤ 1000000) : 2 * q ≤ 1152921504606846976 := by
  obtain ⟨a, b⟩ := h.size
  have : (K : Rat) ≤ ((1000000 : Nat) : Rat) := Rat.natCast_le_natCast.2 hK
  have e : ((1000000 : Nat) : Rat) = 1000000 := rfl
  rw [e] at this
  grind

theorem a2At_zero (a : Option Addr) (len cap : Nat) (zs : List Int) (w : World) (hr : IsRow .u8 w a len cap zs) :
    Calls Try.prog 7 #[.slice a len cap, .int .i64 0, .int .i64 0] w fun e w' => e = .returned (.int .i64 0) ∧ w' = w := by
  have hlen := isRow_len hr
  by_cases hl : len = 0
  · subst hl
    clear hr
    go_enter Try.func7, Try.ntmps7
    go_wp2
    go_ret
    exact ⟨rfl, rfl⟩
  · have g : decide ((len : Int) ≤ 0) = false := decide_eq_false (by omega)
    clear hr
    go_enter Try.func7, Try.ntmps7
    go_wp2
    go_ret
    exact ⟨rfl, rfl⟩

end Go.Proofs.Ytphgibndncjaiaa
/-
  The walk of the law FnChanges.
-/
set_option linter.unusedVariables false
set_option linter.unusedSimpArgs false
namespace Go.Proofs.Ytphgibndncjaiaa
open Go.RowKit Flt Turn Fast

def lenVC : Value → Nat
  | .slice _ n _ => n
  | _ => 0
theorem few_two : Few 4611686018427387904 := ⟨32, by decide, by
  have := has_two
  rwa [show ((32 : Int) : Rat) / 16 = 2 by decide +kernel]⟩
theorem few_one : Few 4607182418800017408 := ⟨16, by decide, by
  have := has_one
  rwa [show ((16 : Int) : Rat) / 16 = 1 by decide +kernel]⟩
theorem FewC.take {xs : List C} (h : FewC xs) (L : Nat) : FewC (xs.take L) := fun p hp => h p (List.mem_of_mem_take hp)

theorem addSigN {v v' : Value} {xs ys : List C} {w : World} {n : Nat} (h : Reads w v (cvals xs)) (h' : Reads w v' (cvals ys)) (hx : xs.length = n) (hy : ys.length = n) (hl : n ≤ 256) (zx zy : Nat → Z)
    (hzx : ∀ i, i < n → IsC (xs.getD i (0, 0)) (zx i)) (hzy : ∀ i, i < n → IsC (ys.getD i (0, 0)) (zy i)) :
    Calls Try.prog 12 #[v, v'] w (SigTo3 n (fun i => addZ (zx i) (zy i)) w) := by
  subst hx
  exact addSignals_any h h' hy.symm hl zx zy hzx hzy

set_option maxRecDepth 100000 in
set_option maxHeartbeats 16000000 in
theorem fnChg_law (a0 : Option Addr) (len0 cap0 : Nat) (z0' : List Int) (a1 : Option Addr) (len1 cap1 : Nat) (z1 : List Int) (w : World) (h0 : IsRow .u8 w a0 len0 cap0 z0') (h1 : IsRow .u8 w a1 len1 cap1 z1) :
    Calls Try.prog 3 #[.slice a0 len0 cap0, .slice a1 len1 cap1] w fun e w' => e = .returned (.bool true) ∧ Below w.heap.size w w' := by
  obtain ⟨i0, hi, hy0, hy1, hy2⟩ := info_parts info_c128
  by_cases hl0 : len0 ≤ 3000
  · by_cases hl1 : len1 ≤ 3000
    · go_enter Try.func3, Try.ntmps3
      go_wp2_with (first | (go_at_call 5; go_in))
      refine (a2Signal_any a0 len0 cap0 z0' 16 (by omega) (by omega) w h0).mono ?_
      rintro e w1 ⟨v1, xs, rfl, hx, hxl, hxf, hb1⟩
      go_wp2_with fail
      refine (a2Signal_any a1 len1 cap1 z1 16 (by omega) (by omega) w1 (isRow_below h1 hb1)).mono ?_
      rintro e w2 ⟨v2, ys, rfl, hy, hyl, hyf, hb2⟩
      obtain ⟨ax, cx, rfl⟩ := writtenM hx
      obtain ⟨n, hn⟩ : ∃ n, xs.length = n := ⟨_, rfl⟩
      rw [cvals_length, hn] at hx ⊢
      rw [hn] at hxl
      have HRX := Lib.hid hx
      have HXF := Lib.hid hxf
      have HN := Lib.hid hn
      have HB1 := Lib.hid hb1
      have hz1 := hb1.size
      have H1R := Lib.hid (isRow_below h1 hb1)
      have HY := Lib.hid hy
      have HYF := Lib.hid hyf
      have HB2 := Lib.hid hb2
      clear hx hxf hb1 hy hyf hb2 h0 h1 hl0 hl1 hn
      go_wp2
      go_loopw [6] (fun v wr => ∃ (ys : List C), Row wr w1.heap.size 26 v (cvals ys) ∧ FewC ys ∧ ys.length ≤ 16 ∧ Below w1.heap.size w1 wr) (fun v _ => n - lenVC v)
      case atStart => exact ⟨ys, HY.out, HYF.out, hyl, HB2.out⟩
      case round =>
        clear HY HYF HB2 hyl
        obtain ⟨ys, hy, hyf, hyl, hbr⟩ := hrel
        obtain ⟨ay, cy, rfl⟩ := writtenM hy
        obtain ⟨m, hm⟩ : ∃ m, ys.length = m := ⟨_, rfl⟩
        have hxm : (cvals ys).length = m := by rw [cvals_length, hm]
        rw [hxm] at hy ⊢
        rw [hm] at hyl
        have HYL := Lib.hid hm
        have HY := Lib.hid hy
        have HYF := Lib.hid hyf
        have HBR := Lib.hid hbr
        have hzr := hbr.size
        clear hy hyf hbr hm
        by_cases hlt : m < n
        · go_wp2_with (at_builtin; refine wpList_append_own _ rfl _ _ 24 rfl w1.heap.size 26 i0 (.complex .f64 0 0) 1 16 Try.underlying24 hi hy0 hy1 hy2 rfl (by decide) _ _ _ rfl (HY.out.alloc _) ⟨_, 0, none⟩ 1 1 [.complex .f64 4611686018427387904 4607182418800017408] rfl rfl (cell_one_new _ _ _) (by intro u hu; simp at hu; subst hu; rfl) (by rw [hxm]; simp only [maxLen]; omega) (by rw [hxm]; omega) (by simp; omega) ?_)
          intro v' w3 hown' hgrow _
          have hlt' := (HY.out.alloc (.cells #[.complex .f64 4611686018427387904 4607182418800017408] 26)).lt
          have HB' : Hid (Below w1.heap.size w1 w3) := (HBR.out.alloc hzr _).grown hgrow (by simp; omega) (fun b e => (hlt' b e).1)
          have hr3 : Row w3 w1.heap.size 26 v' (cvals (ys ++ [(4611686018427387904, 4607182418800017408)])) := by
            show w3.ownsRow _ _ _ _ _ _
            rw [cvals_snoc, List.length_append]
            rw [hxm]
            exact hown'
          obtain ⟨a3, c3, rfl⟩ := writtenM hr3
          have e3 : (cvals (ys ++ [((4611686018427387904, 4607182418800017408) : C)])).length = m + 1 := by rw [cvals_length, List.length_append, HYL.out]; rfl
          rw [e3] at hr3 ⊢
          have HR3 := Lib.hid hr3
          have HW3 := Lib.hid (fewC_snoc HYF.out (p := 4611686018427387904) (q := 4607182418800017408) few_two few_one)
          clear hown' hgrow hlt' hr3 HY HYF HBR e3
          go_wp2
          go_roundw
          case rel => first | exact ⟨_, HR3.out, HW3.out, by rw [List.length_append, HYL.out]; simp; omega, HB'.out⟩ | ((repeat apply Exists.intro); refine ⟨?_, rfl⟩; exact ⟨_, HR3.out, HW3.out, by rw [List.length_append, HYL.out]; simp; omega, HB'.out⟩)
          case measure => simp [lenVC]; omega
        · go_upto_region 7 with fail
          go_cut [6] from 55 to 58 (fun v wx => wx = wr ∧ ∃ a c, v = .slice a n c ∧ Row wr w1.heap.size 26 v (cvals (ys.take n)))
          case first =>
            have hyy := HY.out.2
            rcases hyy with ⟨e1, e2⟩ | ⟨g, cap, cur, e1, -, -, hnc, hcm, -⟩
            · have hn0 : n = 0 := by omega
              subst hn0
              simp only [Value.slice.injEq] at e1
              obtain ⟨rfl, rfl, rfl⟩ := e1
              go_wp2_with fail
              go_meet
              exact ⟨rfl, _, _, rfl, by rw [List.take_zero]; exact World.ownsRow_nil _ _ _ _⟩
            · simp only [Value.slice.injEq] at e1
              obtain ⟨rfl, -, rfl⟩ := e1
              rw [hxm] at hnc
              have hmx := maxLen_int (Nat.le_trans hnc hcm)
              have HTK : Hid (Row wr w1.heap.size 26 (.slice (some ⟨g, 0, none⟩) n cy) (cvals (ys.take n))) := by
                have := rowTake HY.out hxm (show n ≤ m by omega)
                have e : (cvals ys).take n = cvals (ys.take n) := by simp [cvals, List.map_take]
                rwa [e] at this
              go_wp2_with fail
              go_meet
              exact ⟨rfl, _, _, rfl, HTK.out⟩
          case rest =>
            obtain ⟨rfl, ay', cy', rfl, hry⟩ := hcut
            have hyf' := HYF.out.take n
            have hyn : (ys.take n).length = n := by rw [List.length_take, HYL.out]; omega
            have HB := Lib.hid (HB1.out.trans (HBR.out.mono hz1))
            have RX := Lib.hid (rowB HRX.out HBR.out)
            have RY := Lib.hid (Row.base hry hz1)
            have HAT : Hid (∀ W, Below w1.heap.size w1 W → Calls Try.prog 7 #[.slice a1 len1 cap1, .int .i64 0, .int .i64 n] W fun e w' => ∃ k : Nat, (k < n ∨ k = 0) ∧ e = .returned (.int .i64 k) ∧ w' = W) := Lib.hid fun W hbW => by
              have hr := isRow_below H1R.out hbW
              by_cases hn0 : n = 0
              · subst hn0
                refine (a2At_zero a1 len1 cap1 z1 W hr).mono ?_
                rintro e w' ⟨rfl, rfl⟩
                exact ⟨0, .inr rfl, rfl, rfl⟩
              · refine (a2At_any a1 len1 cap1 z1 0 (by omega) n (by omega) (by omega) W hr).mono ?_
                rintro e w' ⟨r, r0, r1, rfl, rfl⟩
                exact ⟨r.toNat, .inl (by omega), by rw [show ((r.toNat : Nat) : Int) = r by omega], rfl⟩
            generalize ys.take n = ys at hyf' hyn RY
            have YN := Lib.hid hyn
            have XN := Lib.hid HN.out
            have XF := Lib.hid HXF.out
            have YF := Lib.hid hyf'
            clear HY HYF HYL hry hyf' hyn HRX HB1 HN HXF H1R hi hy0 hy1 hy2 hzr hxm hyl hlt hz1
            go_wp2_with fail
            refine (HAT.out _ HBR.out).mono ?_
            rintro e w' ⟨k, hk, rfl, rfl⟩
            have HK := Lib.hid hk
            clear HAT hk HBR
            have HS := Lib.hid (boundOf_any RX.out.reads (by rw [XN.out]; omega) XF.out)
            go_wp2_with fail
            refine HS.out.mono ?_
            rintro e w31 ⟨o1, rfl, ho, hb⟩
            replace HB := Lib.hid (below_step HB.out hb HB.out.size)
            replace RX := Lib.hid (rowB RX.out hb)
            replace RY := Lib.hid (rowB RY.out hb)
            have HO1 := Lib.hid (ho)
            clear hb HS ho
            have HS := Lib.hid (boundOf_any RY.out.reads (by rw [YN.out]; omega) YF.out)
            go_wp2_with fail
            refine HS.out.mono ?_
            rintro e w32 ⟨o2, rfl, ho, hb⟩
            replace HB := Lib.hid (below_step HB.out hb HB.out.size)
            replace RX := Lib.hid (rowB RX.out hb)
            replace RY := Lib.hid (rowB RY.out hb)
            have HO2 := Lib.hid (ho)
            clear hb HS ho
            have HB0 := HB.out.size
            have HS := Lib.hid (transformOf_any _ _ _ _ (by rw [XN.out]; omega) XF.out.wf RX.out)
            go_wp2_with fail
            refine HS.out.mono ?_
            rintro e w33 ⟨vT, qT, rfl, hr, hwf, hf, hb⟩
            replace HB := Lib.hid (below_step HB.out hb HB.out.size)
            replace RX := Lib.hid (rowB RX.out hb)
            replace RY := Lib.hid (rowB RY.out hb)
            have RT := Lib.hid (Row.base hr HB0)
            have WT := Lib.hid (hwf)
            have FT := Lib.hid (hf)
            have LT := Lib.hid (show qT.length = n by have := hf.length; rw [zsOf_length, zsOf_length, XN.out] at this; exact this)
            clear hb HS hr hwf hf HB0
            have HB0 := HB.out.size
            have HS := Lib.hid (transformOf_any _ _ _ _ (by rw [YN.out]; omega) YF.out.wf RY.out)
            go_wp2_with fail
            refine HS.out.mono ?_
            rintro e w34 ⟨vU, qU, rfl, hr, hwf, hf, hb⟩
            replace HB := Lib.hid (below_step HB.out hb HB.out.size)
            replace RX := Lib.hid (rowB RX.out hb)
            replace RY := Lib.hid (rowB RY.out hb)
            replace RT := Lib.hid (rowB RT.out hb)
            have RU := Lib.hid (Row.base hr HB0)
            have WU := Lib.hid (hwf)
            have FU := Lib.hid (hf)
            have LU := Lib.hid (show qU.length = n by have := hf.length; rw [zsOf_length, zsOf_length, YN.out] at this; exact this)
            clear hb HS hr hwf hf HB0
            have HB0 := HB.out.size
            have HS := Lib.hid (rotateSignal_any (zx := fun i => (zsOf xs).getD i z0) (k := k) RX.out.reads XN.out (fun i hi => isC_at XF.out.wf i (by rw [XN.out]; exact hi)) (by omega) HK.out)
            go_wp2_with fail
            refine HS.out.mono ?_
            rintro e w35 ⟨vR, qR, rfl, hr, hl, hg, hb⟩
            replace HB := Lib.hid (below_step HB.out hb HB.out.size)
            replace RX := Lib.hid (rowB RX.out hb)
            replace RY := Lib.hid (rowB RY.out hb)
            replace RT := Lib.hid (rowB RT.out hb)
            replace RU := Lib.hid (rowB RU.out hb)
            have RR := Lib.hid (Row.base hr HB0)
            have LR := Lib.hid (hl)
            have GR := Lib.hid (hg)
            clear hb HS hr hl hg HB0
            have HB0 := HB.out.size
            have HS := Lib.hid (mirrorSignal_any (zx := fun i => (zsOf xs).getD i z0) RX.out.reads XN.out (fun i hi => isC_at XF.out.wf i (by rw [XN.out]; exact hi)) (by omega))
            go_wp2_with fail
            refine HS.out.mono ?_
            rintro e w36 ⟨vM, qM, rfl, hr, hl, hg, hb⟩
            replace HB := Lib.hid (below_step HB.out hb HB.out.size)
            replace RX := Lib.hid (rowB RX.out hb)
            replace RY := Lib.hid (rowB RY.out hb)
            replace RT := Lib.hid (rowB RT.out hb)
            replace RU := Lib.hid (rowB RU.out hb)
            replace RR := Lib.hid (rowB RR.out hb)
            have RM := Lib.hid (Row.base hr HB0)
            have LM := Lib.hid (hl)
            have GM := Lib.hid (hg)
            clear hb HS hr hl hg HB0
            have HB0 := HB.out.size
            have HS := Lib.hid (addSigN RX.out.reads RY.out.reads XN.out YN.out (by omega) (fun i => (zsOf xs).getD i z0) (fun i => (zsOf ys).getD i z0) (fun i hi => isC_at XF.out.wf i (by rw [XN.out]; exact hi)) (fun i hi => isC_at YF.out.wf i (by rw [YN.out]; exact hi)))
            go_wp2_with fail
            refine HS.out.mono ?_
            rintro e w37 ⟨vS, qS, rfl, hr, hl, hg, hb⟩
            replace HB := Lib.hid (below_step HB.out hb HB.out.size)
            replace RX := Lib.hid (rowB RX.out hb)
            replace RY := Lib.hid (rowB RY.out hb)
            replace RT := Lib.hid (rowB RT.out hb)
            replace RU := Lib.hid (rowB RU.out hb)
            replace RR := Lib.hid (rowB RR.out hb)
            replace RM := Lib.hid (rowB RM.out hb)
            have RS := Lib.hid (Row.base hr HB0)
            have LS := Lib.hid (hl)
            have GS := Lib.hid (hg)
            clear hb HS hr hl hg HB0
            have HB0 := HB.out.size
            have HS := Lib.hid (transformOf_any _ _ _ _ (by rw [LR.out]; omega) (wf_of LR.out GR.out) RR.out)
            go_wp2_with fail
            refine HS.out.mono ?_
            rintro e w38 ⟨vA, qA, rfl, hr, hwf, hf, hb⟩
            replace HB := Lib.hid (below_step HB.out hb HB.out.size)
            replace RX := Lib.hid (rowB RX.out hb)
            replace RY := Lib.hid (rowB RY.out hb)
            replace RT := Lib.hid (rowB RT.out hb)
            replace RU := Lib.hid (rowB RU.out hb)
            replace RR := Lib.hid (rowB RR.out hb)
            replace RM := Lib.hid (rowB RM.out hb)
            replace RS := Lib.hid (rowB RS.out hb)
            have RA := Lib.hid (Row.base hr HB0)
            have WA := Lib.hid (hwf)
            have FA := Lib.hid (hf)
            have LA := Lib.hid (show qA.length = n by have := hf.length; rw [zsOf_length, zsOf_length, LR.out] at this; exact this)
            clear hb HS hr hwf hf HB0
            have HB0 := HB.out.size
            have HS := Lib.hid (modulateSignal_any (zx := fun i => (zsOf qT).getD i z0) (k := k) RT.out.reads LT.out (fun i hi => isC_at WT.out i (by rw [LT.out]; exact hi)) (by omega) HK.out)
            go_wp2_with fail
            refine HS.out.mono ?_
            rintro e w39 ⟨vB, qB, rfl, hr, hl, hg, hb⟩
            replace HB := Lib.hid (below_step HB.out hb HB.out.size)
            replace RX := Lib.hid (rowB RX.out hb)
            replace RY := Lib.hid (rowB RY.out hb)
            replace RT := Lib.hid (rowB RT.out hb)
            replace RU := Lib.hid (rowB RU.out hb)
            replace RR := Lib.hid (rowB RR.out hb)
            replace RM := Lib.hid (rowB RM.out hb)
            replace RS := Lib.hid (rowB RS.out hb)
            replace RA := Lib.hid (rowB RA.out hb)
            have RB := Lib.hid (Row.base hr HB0)
            have LB := Lib.hid (hl)
            have GB := Lib.hid (hg)
            clear hb HS hr hl hg HB0
            have HB0 := HB.out.size
            have HS := Lib.hid (transformOf_any _ _ _ _ (by rw [LM.out]; omega) (wf_of LM.out GM.out) RM.out)
            go_wp2_with fail
            refine HS.out.mono ?_
            rintro e w40 ⟨vC, qC, rfl, hr, hwf, hf, hb⟩
            replace HB := Lib.hid (below_step HB.out hb HB.out.size)
            replace RX := Lib.hid (rowB RX.out hb)
            replace RY := Lib.hid (rowB RY.out hb)
            replace RT := Lib.hid (rowB RT.out hb)
            replace RU := Lib.hid (rowB RU.out hb)
            replace RR := Lib.hid (rowB RR.out hb)
            replace RM := Lib.hid (rowB RM.out hb)
            replace RS := Lib.hid (rowB RS.out hb)
            replace RA := Lib.hid (rowB RA.out hb)
            replace RB := Lib.hid (rowB RB.out hb)
            have RC := Lib.hid (Row.base hr HB0)
            have WC := Lib.hid (hwf)
            have FC := Lib.hid (hf)
            have LC := Lib.hid (show qC.length = n by have := hf.length; rw [zsOf_length, zsOf_length, LM.out] at this; exact this)
            clear hb HS hr hwf hf HB0
            have HB0 := HB.out.size
            have HS := Lib.hid (mirrorSignal_any (zx := fun i => (zsOf qT).getD i z0) RT.out.reads LT.out (fun i hi => isC_at WT.out i (by rw [LT.out]; exact hi)) (by omega))
            go_wp2_with fail
            refine HS.out.mono ?_
            rintro e w41 ⟨vD, qD, rfl, hr, hl, hg, hb⟩
            replace HB := Lib.hid (below_step HB.out hb HB.out.size)
            replace RX := Lib.hid (rowB RX.out hb)
            replace RY := Lib.hid (rowB RY.out hb)
            replace RT := Lib.hid (rowB RT.out hb)
            replace RU := Lib.hid (rowB RU.out hb)
            replace RR := Lib.hid (rowB RR.out hb)
            replace RM := Lib.hid (rowB RM.out hb)
            replace RS := Lib.hid (rowB RS.out hb)
            replace RA := Lib.hid (rowB RA.out hb)
            replace RB := Lib.hid (rowB RB.out hb)
            replace RC := Lib.hid (rowB RC.out hb)
            have RD := Lib.hid (Row.base hr HB0)
            have LD := Lib.hid (hl)
            have GD := Lib.hid (hg)
            clear hb HS hr hl hg HB0
            have HB0 := HB.out.size
            have HS := Lib.hid (transformOf_any _ _ _ _ (by rw [LS.out]; omega) (wf_of LS.out GS.out) RS.out)
            go_wp2_with fail
            refine HS.out.mono ?_
            rintro e w42 ⟨vE, qE, rfl, hr, hwf, hf, hb⟩
            replace HB := Lib.hid (below_step HB.out hb HB.out.size)
            replace RX := Lib.hid (rowB RX.out hb)
            replace RY := Lib.hid (rowB RY.out hb)
            replace RT := Lib.hid (rowB RT.out hb)
            replace RU := Lib.hid (rowB RU.out hb)
            replace RR := Lib.hid (rowB RR.out hb)
            replace RM := Lib.hid (rowB RM.out hb)
            replace RS := Lib.hid (rowB RS.out hb)
            replace RA := Lib.hid (rowB RA.out hb)
            replace RB := Lib.hid (rowB RB.out hb)
            replace RC := Lib.hid (rowB RC.out hb)
            replace RD := Lib.hid (rowB RD.out hb)
            have RE := Lib.hid (Row.base hr HB0)
            have WE := Lib.hid (hwf)
            have FE := Lib.hid (hf)
            have LE := Lib.hid (show qE.length = n by have := hf.length; rw [zsOf_length, zsOf_length, LS.out] at this; exact this)
            clear hb HS hr hwf hf HB0
            have HB0 := HB.out.size
            have HS := Lib.hid (addSigN RT.out.reads RU.out.reads LT.out LU.out (by omega) (fun i => (zsOf qT).getD i z0) (fun i => (zsOf qU).getD i z0) (fun i hi => isC_at WT.out i (by rw [LT.out]; exact hi)) (fun i hi => isC_at WU.out i (by rw [LU.out]; exact hi)))
            go_wp2_with fail
            refine HS.out.mono ?_
            rintro e w43 ⟨vP, qP, rfl, hr, hl, hg, hb⟩
            replace HB := Lib.hid (below_step HB.out hb HB.out.size)
            replace RX := Lib.hid (rowB RX.out hb)
            replace RY := Lib.hid (rowB RY.out hb)
            replace RT := Lib.hid (rowB RT.out hb)
            replace RU := Lib.hid (rowB RU.out hb)
            replace RR := Lib.hid (rowB RR.out hb)
            replace RM := Lib.hid (rowB RM.out hb)
            replace RS := Lib.hid (rowB RS.out hb)
            replace RA := Lib.hid (rowB RA.out hb)
            replace RB := Lib.hid (rowB RB.out hb)
            replace RC := Lib.hid (rowB RC.out hb)
            replace RD := Lib.hid (rowB RD.out hb)
            replace RE := Lib.hid (rowB RE.out hb)
            have RP := Lib.hid (Row.base hr HB0)
            have LP := Lib.hid (hl)
            have GP := Lib.hid (hg)
            clear hb HS hr hl hg HB0
            have N1 := Lib.hid (chg_rot XF.out XN.out (by omega) HK.out LR.out GR.out FT.out FA.out WA.out LA.out GB.out)
            have N2 := Lib.hid (chg_mir XF.out XN.out (by omega) LM.out GM.out FT.out FC.out WC.out LC.out GD.out)
            have N3 := Lib.hid (chg_add XF.out YF.out XN.out YN.out (by omega) LS.out GS.out FT.out FU.out FE.out WE.out LE.out GP.out)
            have D1 := bnd_dy XF.out
            have D2 := bnd_dy YF.out
            have k1 : 2 * xs.length * 1024 ≤ 1000000 := by rw [XN.out]; omega
            have k2 : 2 * ys.length * 1024 ≤ 1000000 := by rw [YN.out]; omega
            obtain ⟨t1, ht1, E1⟩ := bnd_twice D1 k1 HO1.out
            obtain ⟨t2, ht2, E2⟩ := bnd_sum D1 D2 k1 k2 HO1.out HO2.out
            obtain ⟨t3, ht3, E3⟩ := bnd_twice (D1.add D2) (by rw [XN.out, YN.out]; omega) ht2
            have S1 := Lib.hid (bnd_small D1 k1)
            have S3 := Lib.hid (bnd_small (D1.add D2) (by rw [XN.out, YN.out]; omega))
            have T1 := Lib.hid ht1
            have T3 := Lib.hid ht3
            clear ht1 ht2 ht3 D1 D2 k1 k2 GR GM GS GB GD GP FT FU FA FC FE WA WC WE RX RY RT RU RR RM RS XF YF WT WU HO1 HO2
            have HS := Lib.hid (isNear_any RA.out.reads RB.out.reads (LA.out.trans LB.out.symm) (by rw [LA.out]; omega) S1.out T1.out N1.out)
            go_wp2_with fail
            refine HS.out.mono ?_
            rintro e w61 ⟨rfl, d1, rfl⟩
            have HS := Lib.hid (isNear_any (RC.out.reads.drewN d1) (RD.out.reads.drewN d1) (LC.out.trans LD.out.symm) (by rw [LC.out]; omega) S1.out T1.out N2.out)
            go_wp2_with fail
            refine HS.out.mono ?_
            rintro e w62 ⟨rfl, d2, rfl⟩
            have HS := Lib.hid (isNear_any (RE.out.reads.drewN (d1 + d2)) (RP.out.reads.drewN (d1 + d2)) (LE.out.trans LP.out.symm) (by rw [LE.out]; omega) S3.out T3.out N3.out)
            go_wp2_with fail
            refine HS.out.mono ?_
            rintro e w63 ⟨rfl, d3, rfl⟩
            clear HS
            go_wp2
            go_ret
            exact ⟨rfl, below_draws HB.out _⟩
    · have g : decide ((3000 : Int) < (len1 : Int)) = true := decide_eq_true (by omega)
      clear hi hy0 hy1 hy2 hl1 h0 h1
      go_enter Try.func3, Try.ntmps3
      go_wp2_with (first | (go_at_call 5; go_in))
      go_ret
      exact ⟨rfl, Below.refl _ _⟩
  · have g : decide ((3000 : Int) < (len0 : Int)) = true := decide_eq_true (by omega)
    clear hi hy0 hy1 hy2 hl0 h0 h1
    go_enter Try.func3, Try.ntmps3
    go_wp2_with (first | (go_at_call 5; go_in))
    go_ret
    exact ⟨rfl, Below.refl _ _⟩

end Go.Proofs.Ytphgibndncjaiaa
