/-
  Several texts of this claim, one behind the other; each says what it holds.
-/
import Derived.Test.YtphgibndncjaiaaMRealPa10
import Derived.WalkSmall
import Derived.Maps.AppendAt
/-
  BoundOf of the program: exact for signals of few sixteenths.
-/
set_option linter.unusedVariables false
set_option linter.unusedSimpArgs false
namespace Go.Proofs.Ytphgibndncjaiaa
open Go.RowKit Flt Fast

/-- The sizes of the parts of the first k numbers. -/
def sizeN (xs : List C) (i : Nat) : Nat := if i % 2 = 0 then (xs.getD (i / 2) (0, 0)).1 % 9223372036854775808 else (xs.getD (i / 2) (0, 0)).2 % 9223372036854775808
def sizesN (xs : List C) (k : Nat) : List Nat := (List.range (2 * k)).map (sizeN xs)
theorem sizesN_length (xs : List C) (k : Nat) : (sizesN xs k).length = 2 * k := by simp [sizesN]
theorem sizesN_succ (xs : List C) (k : Nat) : sizesN xs (k + 1) = sizesN xs k ++ [(xs.getD k (0, 0)).1 % 9223372036854775808, (xs.getD k (0, 0)).2 % 9223372036854775808] := by
  unfold sizesN
  rw [show 2 * (k + 1) = 2 * k + 1 + 1 by omega, List.range_succ, List.range_succ, List.map_append, List.map_append, List.append_assoc]
  congr 1
  simp only [List.map_cons, List.map_nil, List.cons_append, List.nil_append]
  have e1 : sizeN xs (2 * k) = (xs.getD k (0, 0)).1 % 9223372036854775808 := by
    unfold sizeN; rw [if_pos (by omega), show 2 * k / 2 = k by omega]
  have e2 : sizeN xs (2 * k + 1) = (xs.getD k (0, 0)).2 % 9223372036854775808 := by
    unfold sizeN; rw [if_neg (by omega), show (2 * k + 1) / 2 = k by omega]
  rw [e1, e2]
theorem sizesN_getD {xs : List C} {k i : Nat} (hi : i < 2 * k) : (sizesN xs k).getD i 0 = sizeN xs i := by simp [sizesN, List.getD, hi]

set_option maxRecDepth 100000 in
set_option maxHeartbeats 4000000 in
theorem sumOfSizes_any {v : Value} {xs : List C} {w : World} (h : Reads w v (cvals xs)) (hl : xs.length ≤ 256) (hwf : WfC xs) (z : Nat → Option Nat) (hz : ∀ i, i < 2 * xs.length → IsF (sizeN xs i) (z i)) :
    Calls Try.prog 20 #[v] w fun e w' => ∃ a, e = .returned (.float .f64 a) ∧ IsF a (sumO z (2 * xs.length)) ∧ Below w.heap.size w w' := by
  obtain ⟨i0, hi, hz0, hz1, hz2⟩ := info_parts info_f64
  have hrd := readsAt' h
  obtain ⟨a, cap, rfl⟩ := h.form
  rw [cvals_length] at h hrd ⊢
  obtain ⟨L, hL⟩ : ∃ L, xs.length = L := ⟨_, rfl⟩
  have hmax := maxLen_int (readsMaxN h)
  rw [hL] at h hrd hmax hl hz ⊢
  have HC : Hid (∀ k, k < L → ∃ g, a = some ⟨g, 0, none⟩ ∧ g < w.heap.size ∧ w.cell? ⟨g, k, none⟩ = some (.complex .f64 (xs.getD k (0, 0)).1 (xs.getD k (0, 0)).2)) := hrd _ _ _ rfl
  have HWF : Hid (∀ j, j < L → (xs.getD j (0, 0)).1 < 18446744073709551616 ∧ (xs.getD j (0, 0)).2 < 18446744073709551616) := fun j hj => hwf _ (getD_memC (by omega))
  have HFIN : Hid (∀ (v : Value) (w1 : World), Below w.heap.size w w1 → Row w1 w.heap.size 28 v (fvals (sizesN xs L)) → Calls Try.prog 43 #[v] w1 fun e w' => ∃ a, e = .returned (.float .f64 a) ∧ IsF a (sumO z (2 * L)) ∧ ∃ n, w' = w1.drewN n) := fun v w1 hb hr => by
    have := sumF_any hr.reads (by rw [sizesN_length]; omega) z (fun i hi => by rw [sizesN_length] at hi; rw [sizesN_getD hi]; exact hz i hi)
    rwa [sizesN_length] at this
  clear h hrd hwf hz hL
  go_enter Try.func20, Try.ntmps20
  go_wp2
  go_loopw [3, 8] (fun v3 i wr => ∃ k : Nat, i = .int .i64 k ∧ k ≤ L ∧ Row wr w.heap.size 28 v3 (fvals (sizesN xs k)) ∧ Below w.heap.size w wr) (fun _ i _ => L - (intOf i).toNat)
  case atStart => exact ⟨0, rfl, Nat.zero_le _, World.ownsRow_nil _ _ _ _, Below.refl _ _⟩
  case round =>
    obtain ⟨k, rfl, hk, hrw, hbw⟩ := hrel
    have HRW := Lib.hid hrw
    have HBW := Lib.hid hbw
    clear hrw hbw
    by_cases hlt : k < L
    · obtain ⟨g, rfl, hg, c1⟩ := HC.out k hlt
      have wf := HWF.out k hlt
      have hss := sizesN_succ xs k
      obtain ⟨⟨x, y⟩, hxy⟩ : ∃ q, xs.getD k (0, 0) = q := ⟨_, rfl⟩
      rw [hxy] at c1 wf hss
      replace c1 : wr.cell? ⟨g, k, none⟩ = some (.complex .f64 x y) := by rw [HBW.out.cell hg]; exact c1
      have A1 := Lib.hid (fun w => abs_any x wf.1 w)
      have A2 := Lib.hid (fun w => abs_any y wf.2 w)
      have HSS := Lib.hid hss
      generalize x % 9223372036854775808 = ax at *
      generalize y % 9223372036854775808 = ay at *
      clear hxy wf hss
      have HL8 : Hid ((fvals (sizesN xs k)).length = 2 * k) := by show _ = _; rw [fvals_length, sizesN_length]
      go_wp2_with fail
      refine (A1.out _).mono ?_
      rintro e w' ⟨rfl, rfl⟩
      go_wp2_with fail
      refine (A2.out _).mono ?_
      rintro e w'' ⟨rfl, rfl⟩
      clear A1 A2
      go_wp2_with (at_builtin; refine wpList_append_own _ rfl _ _ 37 rfl w.heap.size 28 i0 (.float .f64 0) 1 8 Try.underlying37 hi hz0 hz1 hz2 rfl (by decide) _ _ _ rfl (HRW.out.alloc _) ⟨_, 0, none⟩ 2 2 [.float .f64 ax, .float .f64 ay] rfl rfl (cell_two_new _ _ _ _) (by intro u hu; simp at hu; rcases hu with rfl | rfl <;> rfl) (by rw [HL8.out]; simp only [maxLen]; omega) (by rw [HL8.out]; omega) (by have := HBW.out.size; simp; omega) ?_)
      intro v' w1 hown' hgrow _
      have hlt' := (HRW.out.alloc (.cells #[.float .f64 ax, .float .f64 ay] 28)).lt
      have HB' : Hid (Below w.heap.size w w1) := (HBW.out.alloc HBW.out.size _).grown hgrow (by have := HBW.out.size; simp; omega) (fun b e => (hlt' b e).1)
      have HO' : Hid (Row w1 w.heap.size 28 v' (fvals (sizesN xs (k + 1)))) := by
        show w1.ownsRow _ _ _ _ _ _
        rw [HSS.out]
        have e : fvals (sizesN xs k ++ [ax, ay]) = fvals (sizesN xs k) ++ [.float .f64 ax, .float .f64 ay] := by simp [fvals, fval]
        rw [e, List.length_append]
        exact hown'
      clear hown' hgrow hlt' HRW HBW HSS HL8
      go_wp2
      go_roundw
      case rel => first | exact ⟨k + 1, by go_num, by omega, HO'.out, HB'.out⟩ | ((repeat apply Exists.intro); refine ⟨?_, rfl⟩; exact ⟨k + 1, by go_num, by omega, HO'.out, HB'.out⟩)
      case measure => simp [intOf]; omega
    · have e : k = L := by omega
      subst e
      go_wp2_with fail
      refine (HFIN.out _ _ HBW.out HRW.out).mono ?_
      rintro e w' ⟨s, rfl, hs, n, rfl⟩
      have HS := Lib.hid hs
      clear hs
      go_wp2
      go_ret
      exact ⟨_, rfl, HS.out, below_draws HBW.out n⟩

/-- Values of the parts of signals of few sixteenths. -/
def qC (u : C) : Q2 := (fq u.1, fq u.2)
def xQ (xs : List C) (j : Nat) : Q2 := qC (xs.getD j (0, 0))
theorem Few.has {p : Nat} (h : Few p) : Has p (fq p) := by
  obtain ⟨k, -, h⟩ := h
  exact ⟨h.1, rfl⟩
theorem Few.dy {p : Nat} (h : Few p) : Dy 4 1024 (fq p) := by
  obtain ⟨k, hk, h⟩ := h
  exact ⟨k, hk, by rw [h.2, show two 4 = 16 from rfl]; exact Rat.div_mul_cancel (by decide)⟩
theorem dy_ab {e K : Nat} {q : Rat} (h : Dy e K q) : Dy e K (Flt.ab q) := by
  unfold Flt.ab
  split
  · exact h
  · exact h.neg
theorem FewC.at {xs : List C} (h : FewC xs) {j : Nat} (hj : j < xs.length) : Few (xs.getD j (0, 0)).1 ∧ Few (xs.getD j (0, 0)).2 := h _ (getD_memC hj)

/-- The sum of the sizes. -/
def sumS (xs : List C) : Rat := psum (fun j => nrm (xQ xs j)) xs.length
def pS (xs : List C) (i : Nat) : Rat := if i % 2 = 0 then Flt.ab (xQ xs (i / 2)).1 else Flt.ab (xQ xs (i / 2)).2
theorem psum_pS (xs : List C) (k : Nat) : psum (pS xs) (2 * k) = psum (fun j => nrm (xQ xs j)) k := by
  induction k with
  | zero => rfl
  | succ k ih =>
    rw [show 2 * (k + 1) = 2 * k + 1 + 1 by omega, psum_succ, psum_succ, psum_succ, ih]
    have e1 : pS xs (2 * k) = Flt.ab (xQ xs k).1 := by unfold pS; rw [if_pos (by omega), show 2 * k / 2 = k by omega]
    have e2 : pS xs (2 * k + 1) = Flt.ab (xQ xs k).2 := by unfold pS; rw [if_neg (by omega), show (2 * k + 1) / 2 = k by omega]
    rw [e1, e2]
    unfold nrm
    grind
theorem few_size {xs : List C} (h : FewC xs) {i : Nat} (hi : i < 2 * xs.length) : Has (sizeN xs i) (pS xs i) ∧ Dy 4 1024 (pS xs i) := by
  have hf := h.at (show i / 2 < xs.length by omega)
  unfold sizeN pS xQ qC
  split
  · exact ⟨has_abs hf.1.has, dy_ab hf.1.dy⟩
  · exact ⟨has_abs hf.2.has, dy_ab hf.2.dy⟩
theorem sumS_dy {xs : List C} (h : FewC xs) : Dy 4 (2 * xs.length * 1024) (sumS xs) := by
  unfold sumS
  rw [← psum_pS]
  exact psum_dy fun i hi => (few_size h hi).2

theorem has_bound : Has 4769312005385355264 68719476736 := has_int (n := 68719476736) (by decide) (by decide)

/-- The bound of a signal of few sixteenths, exactly. -/
def BndR (xs : List C) (w : World) (e : Ending) (w' : World) : Prop := ∃ u, e = .returned (.tuple #[.float .f64 u, .int .i64 0]) ∧ Has u (sumS xs / 68719476736) ∧ Below w.heap.size w w'

set_option maxRecDepth 100000 in
set_option maxHeartbeats 4000000 in
theorem boundOf_any {v : Value} {xs : List C} {w : World} (h : Reads w v (cvals xs)) (hl : xs.length ≤ 64) (hf : FewC xs) :
    Calls Try.prog 8 #[v] w (BndR xs w) := by
  have S := Lib.hid (sumOfSizes_any h (by omega) hf.wf (fun i => some (sizeN xs i)) (fun i hi => (few_size hf hi).1.isF))
  have hS : Fv (sumO (fun i => some (sizeN xs i)) (2 * xs.length)) (sumS xs) := by
    rcases Nat.eq_zero_or_pos xs.length with h0 | h0
    · unfold sumS; rw [h0]; exact has_zero.fv
    · have := sumO_dy (z := fun i => some (sizeN xs i)) (p := pS xs) (e := 4) (K := 1024) (n := 2 * xs.length) (fun i hi => (few_size hf hi).1.fv) (fun i hi => (few_size hf hi).2) (by omega) (by decide) (by omega)
      rw [psum_pS] at this
      exact this
  have hD : Dy 40 (2 * xs.length * 1024) (sumS xs / 68719476736) := by
    obtain ⟨k, hk, e⟩ := sumS_dy hf
    refine ⟨k, hk, ?_⟩
    rw [← e]
    have : two 40 = 68719476736 * two 4 := by rw [show two 40 = 1099511627776 from rfl, show two 4 = 16 from rfl]; decide +kernel
    rw [this, ← Rat.mul_assoc, Rat.div_mul_cancel (by decide)]
  have HQ : Hid (∀ s, IsF s (sumO (fun i => some (sizeN xs i)) (2 * xs.length)) → ∃ d, Has d (sumS xs / 68719476736) ∧ ∀ (P : Program) (t : TypeId) (w : World), (binOp .quo t (.float .f64 s) (.float .f64 4769312005385355264)).run P w = .ok (.float .f64 d) w) := fun s hs => by
    have h1 : Has s (sumS xs) := Has.of hs hS
    exact run_has (.inr (.inr (.inr rfl))) (hD.fv_div (by omega) (by decide) (by decide) h1.fv has_bound.fv)
  obtain ⟨a, cap, rfl⟩ := h.form
  have hmax := maxLen_int (readsMaxN h)
  rw [cvals_length] at S hmax ⊢
  obtain ⟨n, hn⟩ : ∃ n, xs.length = n := ⟨_, rfl⟩
  rw [hn] at S HQ hmax hl ⊢
  clear h hf hS hD hn
  go_enter Try.func8, Try.ntmps8
  go_wp2_with fail
  refine S.out.mono ?_
  rintro e w' ⟨s, rfl, hs, hb⟩
  obtain ⟨d, hd, E⟩ := HQ.out s hs
  have HB := Lib.hid (And.intro hd hb)
  clear S HQ hs hd hb
  go_wp2
  go_ret2
  exact ⟨_, rfl, HB.out⟩

end Go.Proofs.Ytphgibndncjaiaa
/-
  The fast transform of signals of few sixteenths; what is rotated, mirrored and added. No program.
-/
set_option linter.unusedVariables false
set_option linter.unusedSimpArgs false
namespace Go.Proofs.Ytphgibndncjaiaa
open Go Flt
namespace Flt
open Turn Fast

/-- The sum of the sizes of a signal, which is 0 or not too small. -/
structure Sz (x : Nat → Q2) (n : Nat) (S : Rat) : Prop where
  sum : psum (fun j => nrm (x j)) n = S
  lo : S = 0 ∨ 1 / 16 ≤ S
  hi : S ≤ 1048576
theorem Sz.nonneg {x : Nat → Q2} {n : Nat} {S : Rat} (h : Sz x n S) : 0 ≤ S := by
  rw [← h.sum]; exact psum_nonneg fun i _ => nrm_nonneg _
theorem nrm_zero {z : Q2} (h : nrm z = 0) : z = (0, 0) := by
  have h1 := size_nrm z
  rw [h] at h1
  obtain ⟨a, b⟩ := h1.re
  obtain ⟨c, d⟩ := h1.im
  refine Prod.ext ?_ ?_
  · show z.1 = 0; grind
  · show z.2 = 0; grind
theorem Sz.zeros {x : Nat → Q2} {n : Nat} (h : Sz x n 0) : ∀ j, j < n → x j = (0, 0) := fun j hj => by
  have h1 := psum_term (p := fun j => nrm (x j)) (fun i _ => nrm_nonneg _) hj
  rw [h.sum] at h1
  exact nrm_zero (Rat.le_antisymm h1 (nrm_nonneg _))
theorem dft_zeros {x : Nat → Q2} {n : Nat} (h : ∀ j, j < n → x j = (0, 0)) (k : Nat) : dft x n k = (0, 0) := by
  have : ∀ m, m ≤ n → sumQ (fun j => mulQ (x j) (cisr n (j * k))) m = (0, 0) := by
    intro m
    induction m with
    | zero => intro _; rfl
    | succ m ih =>
      intro hm
      show addQ (sumQ _ m) (mulQ (x m) _) = _
      rw [ih (by omega), h m (by omega), zero_mulQ, addQ_zero]
  exact this n (Nat.le_refl _)
theorem Sz.mid {x : Nat → Q2} {n : Nat} {S : Rat} (h : Sz x n S) (h0 : 1 / 16 ≤ S) : Mid S := ⟨Rat.le_trans (by decide +kernel) h0, Rat.le_trans h.hi (by decide +kernel)⟩
theorem Sz.size {x : Nat → Q2} {n : Nat} {S : Rat} (h : Sz x n S) (hn : 0 < n) (k : Nat) : SizeQ (dft x n k) (S * (1001 / 1000)) := by
  have hd := dl_small
  rw [← h.sum]
  exact weighted_size (by decide +kernel) (fun i _ => Rat.le_refl) fun i hi => (cisr_size _ hn).mono (by grind)
theorem psum_const (c : Rat) (n : Nat) : psum (fun _ => c) n = (n : Rat) * c := by
  induction n with
  | zero => show (0 : Rat) = ((0 : Nat) : Rat) * c; rw [show ((0 : Nat) : Rat) = 0 from rfl, Rat.zero_mul]
  | succ n ih => rw [psum_succ, ih, Rat.natCast_add]; show _ = ((n : Rat) + 1) * c; grind

/-- The fast transform of few sixteenths. -/
theorem few_fast {xs ys : List Z} (h : Fast xs ys) {x : Nat → Q2} {n : Nat} {S : Rat} (hl : xs.length = n) (hn : n ≤ 20) (hx : ∀ j, j < n → FvQ (xs.getD j z0) (x j)) (hS : Sz x n S) :
    ∀ k, k < n → ∃ v, FvQ (ys.getD k z0) v ∧ NearQ v (dft x n k) (S / 2199023255552) := by
  intro k hk
  rcases hS.lo with h0 | h0
  · subst h0
    have hz := hS.zeros
    refine ⟨(0, 0), fast_zero h (by omega) (fun j hj => by have := hx j (by omega); rwa [hz j (by omega)] at this) k (by omega), ?_⟩
    rw [dft_zeros hz]
    exact NearQ.refl _ (by decide +kernel)
  · have hsum : psum (fun j => nrm (x j) + 1 / 1099511627776) n = S + (n : Rat) * (1 / 1099511627776) := by
      rw [psum_add (fun j => nrm (x j)) (fun _ => 1 / 1099511627776), hS.sum, psum_const]
    have hn2 : (n : Rat) ≤ 20 := Rat.natCast_le_natCast.2 (show n ≤ 20 by omega)
    have hn1 : (1 : Rat) ≤ (n : Rat) := Rat.natCast_le_natCast.2 (show 1 ≤ n by omega)
    have hhi := hS.hi
    obtain ⟨v, h1, h2⟩ := fast_near h x (fun j => nrm (x j) + 1 / 1099511627776) (fun j hj => hx j (by omega)) (by
      rw [hl]
      exact ⟨fun j hj => by grind, fun j hj => by have := nrm_nonneg (x j); grind⟩) (by omega) (by
        rw [hl, hsum]; grind) k (by omega)
    rw [hl] at h2
    refine ⟨v, h1, h2.mono ?_⟩
    rw [hsum]
    have he : err n ≤ 1140 := by unfold err; grind
    have hu : 4503599627370496 * ulp = 1 := by decide +kernel
    have hb : S + (n : Rat) * (1 / 1099511627776) ≤ S * (1001 / 1000) := by grind
    have hp : 0 ≤ ulp * (S * (1001 / 1000)) := Rat.mul_nonneg (Rat.le_of_lt ulp_pos) (by grind)
    have he0 : 0 ≤ err n := by unfold err; grind
    have a1 : ulp * (S + (n : Rat) * (1 / 1099511627776)) ≤ ulp * (S * (1001 / 1000)) := Rat.mul_le_mul_of_nonneg_left hb (Rat.le_of_lt ulp_pos)
    have a2 := Rat.mul_le_mul_of_nonneg_left a1 he0
    have a3 := Rat.mul_le_mul_of_nonneg_right he hp
    have a4 : ulp * (S * (1001 / 1000)) = S * (1001 / 1000) / 4503599627370496 := by
      rw [show ulp = 1 / 4503599627370496 from rfl, Rat.div_def, Rat.div_def, Rat.one_mul]
      exact Rat.mul_comm _ _
    rw [a4] at a3
    refine Rat.le_trans a2 ?_
    rw [a4]
    refine Rat.le_trans a3 ?_
    clear h h1 h2 hx hS hsum a1 a2 a3 a4 hu hp hb
    grind

/-- Both are near one number. -/
theorem NearQ.meet {a b c : Q2} {e f : Rat} (h : NearQ a c e) (k : NearQ b c f) : NearQ a b (e + f) := h.trans k.symm

/-- Rotated: the transform of what is rotated, and the transform that is modulated. -/
theorem rot_near {xs rs ts bs : List Z} {x : Nat → Q2} {n k : Nat} {S : Rat} (hx : ∀ j, j < n → FvQ (xs.getD j z0) (x j)) (hl : xs.length = n) (hn : n ≤ 20) (hk : k < n) (hr : rs.length = n) (hrs : ∀ j, j < n → rs.getD j z0 = xs.getD ((j + k) % n) z0) (hS : Sz x n S) (ht : Fast xs ts) (ha : Fast rs bs) :
    ∀ K, K < n → ∃ v u, FvQ (bs.getD K z0) v ∧ FvQ (mulZ (ts.getD K z0) (turn n (K * k % n))) u ∧ NearQ v u (2 * (S / 68719476736)) := by
  intro K hK
  have hn0 : 0 < n := by omega
  have hx' : ∀ j, j < n → FvQ (rs.getD j z0) (x ((j + k) % n)) := fun j hj => by rw [hrs j hj]; exact hx _ (Nat.mod_lt _ hn0)
  have hS' : Sz (fun j => x ((j + k) % n)) n S := ⟨by
    rw [← hS.sum]
    have := congrArg Prod.fst (sumQ_rot (fun j => (nrm (x j), 0)) (Nat.le_of_lt hk))
    have e : ∀ (f : Nat → Rat) m, (sumQ (fun j => (f j, 0)) m).1 = psum f m := fun f m => by
      induction m with
      | zero => rfl
      | succ m ih => rw [psum_succ, ← ih]; rfl
    rw [e (fun j => nrm (x j))] at this
    rw [← this, ← e (fun j => nrm (x ((j + k) % n)))], hS.lo, hS.hi⟩
  obtain ⟨v, v1, v2⟩ := few_fast ha hr hn hx' hS' K hK
  obtain ⟨t, t1, t2⟩ := few_fast ht hl hn hx hS K hK
  have hmod : K * k % n < n := Nat.mod_lt _ hn0
  rcases hS.lo with h0 | h0
  · subst h0
    have hz := hS.zeros
    rw [dft_zeros hz] at t2
    rw [dft_zeros (hS'.zeros)] at v2
    have e0 : (0 : Rat) / 2199023255552 = 0 := by decide +kernel
    rw [e0] at t2 v2
    have z : ∀ {q : Q2}, NearQ q (0, 0) 0 → q = (0, 0) := fun {q} h => by
      obtain ⟨a, b⟩ := near_size.1 h.re
      obtain ⟨c, d⟩ := near_size.1 h.im
      refine Prod.ext ?_ ?_
      · show q.1 = 0; grind
      · show q.2 = 0; grind
    rw [z t2] at t1
    rw [z v2] at v1
    obtain ⟨c, s, hc⟩ := TV.ex (k := K * k % n) hn0 (by omega) (Nat.le_of_lt hmod)
    exact ⟨(0, 0), (0, 0), v1, mulZ_zero_l (q := (c, s)) t1 hc, NearQ.refl _ (by decide +kernel)⟩
  · have hm := hS.mid h0
    have hd := dl_small
    have hp := hm.pos
    obtain ⟨u, u1, u2⟩ := cmul_cis (n := n) (k := K * k % n) t1 t2 (hS.size hn0 K) (by grind) (by grind) hm (by have := hS.hi; grind) hn0 (by omega) (Nat.le_of_lt hmod)
    have ec : cis (((K * k % n : Nat) : Rat) / (n : Rat)) = cisr n ((n - 1) * (K * k)) := by unfold cisr; rw [rst_back _ hn0]
    rw [ec] at u2
    have hrot := dft_rot (K := K) hk (fun j hj => (Rat.le_refl : nrm (x j) ≤ nrm (x j)))
    rw [hS.sum] at hrot
    refine ⟨v, u, v1, u1, ((v2.trans hrot).meet u2).mono ?_⟩
    have hu : ulp * S = S / 4503599627370496 := by
      rw [show ulp = 1 / 4503599627370496 from rfl, Rat.div_def, Rat.div_def, Rat.one_mul]
      exact Rat.mul_comm _ _
    have hdS : S * (6 * dl) ≤ S * (6 * (1 / 1000000000000)) := Rat.mul_le_mul_of_nonneg_left (by grind) (Rat.le_of_lt hp)
    rw [hu]
    generalize S * (6 * dl) = G at *
    clear v1 v2 t1 t2 u1 u2 hrot hS hS' hx hx' hm hd hu ec ht ha hrs
    grind

/-- Mirrored. -/
theorem mir_near {xs rs ts bs : List Z} {x : Nat → Q2} {n : Nat} {S : Rat} (hx : ∀ j, j < n → FvQ (xs.getD j z0) (x j)) (hl : xs.length = n) (hn : n ≤ 20) (hr : rs.length = n) (hrs : ∀ j, j < n → rs.getD j z0 = xs.getD ((n - j) % n) z0) (hS : Sz x n S) (ht : Fast xs ts) (ha : Fast rs bs) :
    ∀ K, K < n → ∃ v u, FvQ (bs.getD K z0) v ∧ FvQ (ts.getD ((n - K) % n) z0) u ∧ NearQ v u (2 * (S / 68719476736)) := by
  intro K hK
  have hn0 : 0 < n := by omega
  have hx' : ∀ j, j < n → FvQ (rs.getD j z0) (x ((n - j) % n)) := fun j hj => by rw [hrs j hj]; exact hx _ (Nat.mod_lt _ hn0)
  have hS' : Sz (fun j => x ((n - j) % n)) n S := ⟨by
    rw [← hS.sum]
    have := congrArg Prod.fst (sumQ_mirror (fun j => (nrm (x j), 0)) n)
    have e : ∀ (f : Nat → Rat) m, (sumQ (fun j => (f j, 0)) m).1 = psum f m := fun f m => by
      induction m with
      | zero => rfl
      | succ m ih => rw [psum_succ, ← ih]; rfl
    rw [e (fun j => nrm (x j))] at this
    rw [← this, ← e (fun j => nrm (x ((n - j) % n)))], hS.lo, hS.hi⟩
  obtain ⟨v, v1, v2⟩ := few_fast ha hr hn hx' hS' K hK
  obtain ⟨t, t1, t2⟩ := few_fast ht hl hn hx hS ((n - K) % n) (Nat.mod_lt _ hn0)
  rw [dft_mirror x hK] at v2
  refine ⟨v, t, v1, t1, (v2.meet t2).mono ?_⟩
  have := hS.nonneg
  clear v1 v2 t1 t2 hS hS' hx hx' ht ha hrs
  grind

/-- Added. -/
theorem add_near' {xs ys ss ts us bs : List Z} {x y : Nat → Q2} {n : Nat} {S R T : Rat} (hx : ∀ j, j < n → FvQ (xs.getD j z0) (x j)) (hy : ∀ j, j < n → FvQ (ys.getD j z0) (y j)) (hl : xs.length = n) (hl' : ys.length = n) (hn : n ≤ 20) (hr : ss.length = n) (hss : ∀ j, j < n → FvQ (ss.getD j z0) (addQ (x j) (y j))) (hS : Sz x n S) (hR : Sz y n R) (hT : Sz (fun j => addQ (x j) (y j)) n T) (hTle : T ≤ S + R) (ht : Fast xs ts) (hu : Fast ys us) (ha : Fast ss bs) :
    ∀ K, K < n → ∃ v u, FvQ (bs.getD K z0) v ∧ FvQ (addZ (ts.getD K z0) (us.getD K z0)) u ∧ NearQ v u (2 * (S / 68719476736 + R / 68719476736)) := by
  intro K hK
  have hn0 : 0 < n := by omega
  obtain ⟨v, v1, v2⟩ := few_fast ha hr hn hss hT K hK
  obtain ⟨t, t1, t2⟩ := few_fast ht hl hn hx hS K hK
  obtain ⟨r, r1, r2⟩ := few_fast hu hl' hn hy hR K hK
  rw [dft_add] at v2
  have hS0 := hS.nonneg
  have hR0 := hR.nonneg
  by_cases h0 : 1 / 16 ≤ S + R
  · have z1 := (t2.add r2).size ((hS.size hn0 K).add (hR.size hn0 K))
    obtain ⟨u, u1, u2⟩ := cadd_near t1 r1 (Y := 11 / 10 * (S + R)) (z1.mono (by clear v1 v2 t1 t2 r1 r2 z1 hS hR hT hx hy hss ht hu ha; grind)) ⟨by grind, by have := hS.hi; have := hR.hi; grind⟩
    refine ⟨v, u, v1, u1, (v2.meet (u2.trans (t2.add r2))).mono ?_⟩
    have e : ulp * (11 / 10 * (S + R)) = 11 / 10 * (S + R) / 4503599627370496 := by
      rw [show ulp = 1 / 4503599627370496 from rfl, Rat.div_def, Rat.div_def, Rat.one_mul]
      exact Rat.mul_comm _ _
    rw [e]
    clear v1 v2 t1 t2 r1 r2 u1 u2 z1 hS hR hT hx hy hss ht hu ha e
    grind
  · have hS' : S = 0 := by rcases hS.lo with h | h; exact h; grind
    have hR' : R = 0 := by rcases hR.lo with h | h; exact h; grind
    subst hS'
    subst hR'
    have hT' : T = 0 := Rat.le_antisymm (by grind) hT.nonneg
    subst hT'
    have e0 : (0 : Rat) / 2199023255552 = 0 := by decide +kernel
    have z : ∀ {q : Q2}, NearQ q (0, 0) 0 → q = (0, 0) := fun {q} h => by
      obtain ⟨a, b⟩ := near_size.1 h.re
      obtain ⟨c, d⟩ := near_size.1 h.im
      refine Prod.ext ?_ ?_
      · show q.1 = 0; grind
      · show q.2 = 0; grind
    rw [e0, dft_zeros hS.zeros] at t2
    rw [e0, dft_zeros hR.zeros] at r2
    rw [e0, dft_zeros hS.zeros, dft_zeros hR.zeros, addQ_zero] at v2
    rw [z t2] at t1
    rw [z r2] at r1
    rw [z v2] at v1
    exact ⟨(0, 0), (0, 0), v1, addZ_zero t1 r1, NearQ.refl _ (by decide +kernel)⟩

end Flt
end Go.Proofs.Ytphgibndncjaiaa
/-
  What the law of changes compares.
-/
set_option linter.unusedVariables false
set_option linter.unusedSimpArgs false
namespace Go.Proofs.Ytphgibndncjaiaa
open Go.RowKit Flt Turn Fast

theorem rowB {w w' : World} {B e : Nat} {v : Value} {cs : List Value} (h : Row w B e v cs) (hb : Below w.heap.size w w') : Row w' B e v cs := h.below hb (fun k e => (h.lt k e).2)
theorem rowTake {w : World} {B e g m n c : Nat} {cs : List Value} (h : Row w B e (.slice (some ⟨g, 0, none⟩) m c) cs) (hm : cs.length = m) (hn : n ≤ m) : Row w B e (.slice (some ⟨g, 0, none⟩) n c) (cs.take n) := by
  have hl : (cs.take n).length = n := by rw [List.length_take]; omega
  obtain ⟨h1, h2⟩ := h
  rcases h2 with ⟨e1, -⟩ | ⟨g', cap, cur, e1, hb, hh, hc, hx, hs, ht⟩
  · simp at e1
  · rw [hm] at e1 hc ht
    simp only [Value.slice.injEq, Option.some.injEq, Addr.mk.injEq] at e1
    obtain ⟨⟨rfl, -⟩, -, rfl⟩ := e1
    show w.ownsRow B e 1 _ _ _
    rw [hl]
    refine ⟨by rw [hl]; omega, .inr ⟨_, _, cur, rfl, hb, hh, by omega, hx, hs, ?_⟩⟩
    rw [← ht, List.take_take]
    congr 1
    omega
theorem hasOf {p : C} {z : Z} {q : Q2} (h : IsC p z) (hz : FvQ z q) : Has p.1 q.1 ∧ Has p.2 q.2 := ⟨Has.of h.re hz.1, Has.of h.im hz.2⟩
theorem fvQ_few {u : C} (h : Few u.1 ∧ Few u.2) : FvQ (zOf u) (qC u) := by
  unfold zOf
  rw [h.1.has.isF.cn, h.2.has.isF.cn]
  exact ⟨h.1.has.fv, h.2.has.fv⟩
theorem fvQ_at {xs : List C} (h : FewC xs) : ∀ j, j < xs.length → FvQ ((zsOf xs).getD j z0) (xQ xs j) := fun j hj => by
  rw [zsOf_getD hj]
  exact fvQ_few (h.at hj)
theorem isC_at {xs : List C} (h : WfC xs) : ∀ j, j < xs.length → IsC (xs.getD j (0, 0)) ((zsOf xs).getD j z0) := fun j hj => by
  rw [zsOf_getD hj]
  exact isC_zOf (h _ (getD_memC hj))
theorem zs_of {xs : List C} {z : Nat → Z} {n : Nat} (hl : xs.length = n) (h : ∀ j, j < n → IsC (xs.getD j (0, 0)) (z j)) : ∀ j, j < n → (zsOf xs).getD j z0 = z j := fun j hj => by
  rw [zsOf_getD (by omega)]
  have := h j hj
  unfold zOf
  rw [this.re.cn, this.im.cn]
theorem wf_of {xs : List C} {z : Nat → Z} {n : Nat} (hl : xs.length = n) (h : ∀ j, j < n → IsC (xs.getD j (0, 0)) (z j)) : WfC xs := fun p hp => by
  obtain ⟨i, hi, rfl⟩ := List.getElem_of_mem hp
  have := h i (by omega)
  simp only [List.getD, hi, List.getElem?_eq_getElem, Option.getD_some] at this
  exact ⟨this.re.lt, this.im.lt⟩
theorem nearC_of {gs bs : List C} {zb : Nat → Z} {n : Nat} {B : Rat} (hl : gs.length = n) (hw : WfC gs) (hb : ∀ j, j < n → IsC (bs.getD j (0, 0)) (zb j)) (h : ∀ K, K < n → ∃ v u, FvQ ((zsOf gs).getD K z0) v ∧ FvQ (zb K) u ∧ NearQ v u B) : NearC gs bs B := fun i hi => by
  obtain ⟨v, u, h1, h2, h3⟩ := h i (by omega)
  have a1 := hasOf (isC_at hw i hi) h1
  have a2 := hasOf (hb i (by omega)) h2
  exact ⟨v.1, v.2, u.1, u.2, a1.1, a1.2, a2.1, a2.2, h3.re, h3.im⟩

theorem dy_lo {K : Nat} {q : Rat} (h : Dy 4 K q) (h0 : 0 ≤ q) : q = 0 ∨ 1 / 16 ≤ q := by
  obtain ⟨k, -, e⟩ := h
  rw [show two 4 = 16 from rfl] at e
  by_cases hk : k ≤ 0
  · left
    have : (k : Rat) ≤ ((0 : Int) : Rat) := Rat.intCast_le_intCast.2 hk
    have e0 : ((0 : Int) : Rat) = 0 := rfl
    rw [e0] at this
    grind
  · right
    have : ((1 : Int) : Rat) ≤ (k : Rat) := Rat.intCast_le_intCast.2 (by omega)
    have e0 : ((1 : Int) : Rat) = 1 := rfl
    rw [e0] at this
    grind
theorem dy_hi {K : Nat} {q : Rat} (h : Dy 4 K q) (hK : K ≤ 1048576) : q ≤ 1048576 := by
  obtain ⟨b, a⟩ := h.size
  have : (K : Rat) ≤ ((1048576 : Nat) : Rat) := Rat.natCast_le_natCast.2 hK
  exact Rat.le_trans b (Rat.le_trans this (by decide +kernel))
theorem sz_few {xs : List C} {n : Nat} (h : FewC xs) (hl : xs.length = n) (hn : n ≤ 20) : Sz (xQ xs) n (sumS xs) := by
  subst hl
  have hd := sumS_dy h
  exact ⟨rfl, dy_lo hd (psum_nonneg fun i _ => nrm_nonneg _), dy_hi hd (by omega)⟩
theorem xq_dy {xs : List C} (h : FewC xs) {j : Nat} (hj : j < xs.length) : Dy 4 1024 (xQ xs j).1 ∧ Dy 4 1024 (xQ xs j).2 := ⟨(h.at hj).1.dy, (h.at hj).2.dy⟩
theorem sz_sum {xs ys : List C} {n : Nat} (h : FewC xs) (h' : FewC ys) (hl : xs.length = n) (hl' : ys.length = n) (hn : n ≤ 20) : ∃ T, Sz (fun j => addQ (xQ xs j) (xQ ys j)) n T ∧ T ≤ sumS xs + sumS ys := by
  refine ⟨psum (fun j => nrm (addQ (xQ xs j) (xQ ys j))) n, ⟨rfl, ?_, ?_⟩, ?_⟩
  · refine dy_lo (K := n * 4096) (psum_dy fun i hi => ?_) (psum_nonneg fun i _ => nrm_nonneg _)
    have a := xq_dy h (show i < xs.length by omega)
    have b := xq_dy h' (show i < ys.length by omega)
    exact (dy_ab (a.1.add b.1)).add (dy_ab (a.2.add b.2))
  · refine dy_hi (K := n * 4096) (psum_dy fun i hi => ?_) (by omega)
    have a := xq_dy h (show i < xs.length by omega)
    have b := xq_dy h' (show i < ys.length by omega)
    exact (dy_ab (a.1.add b.1)).add (dy_ab (a.2.add b.2))
  · unfold sumS
    rw [hl, hl', ← Flt.psum_add]
    refine psum_le fun i _ => ?_
    have k : ∀ a b : Rat, Flt.ab (a + b) ≤ Flt.ab a + Flt.ab b := fun a b => by unfold Flt.ab; split <;> split <;> split <;> grind
    have k1 := k (xQ xs i).1 (xQ ys i).1
    have k2 := k (xQ xs i).2 (xQ ys i).2
    unfold nrm addQ
    grind
theorem sum_fv {xs ys : List C} {n : Nat} (h : FewC xs) (h' : FewC ys) (hl : xs.length = n) (hl' : ys.length = n) : ∀ j, j < n → FvQ (addZ ((zsOf xs).getD j z0) ((zsOf ys).getD j z0)) (addQ (xQ xs j) (xQ ys j)) := fun j hj => by
  have a := fvQ_at h j (by omega)
  have b := fvQ_at h' j (by omega)
  have a' := xq_dy h (show j < xs.length by omega)
  have b' := xq_dy h' (show j < ys.length by omega)
  exact ⟨(a'.1.add b'.1).fv_add (by decide) (by decide) a.1 b.1, (a'.2.add b'.2).fv_add (by decide) (by decide) a.2 b.2⟩

theorem chg_rot {xs rs ts gs bs : List C} {n k : Nat} (h : FewC xs) (hl : xs.length = n) (hn : n ≤ 20) (hk : k < n ∨ k = 0) (hr : rs.length = n) (hrs : ∀ j, j < n → IsC (rs.getD j (0, 0)) ((zsOf xs).getD ((j + k) % n) z0)) (ht : Fast (zsOf xs) (zsOf ts)) (ha : Fast (zsOf rs) (zsOf gs)) (hwa : WfC gs) (hla : gs.length = n) (hb : ∀ j, j < n → IsC (bs.getD j (0, 0)) (mulZ ((zsOf ts).getD j z0) (turn n (j * k % n)))) : NearC gs bs (2 * (sumS xs / 68719476736)) := by
  refine nearC_of hla hwa hb fun K hK => ?_
  exact rot_near (x := xQ xs) (fun j hj => fvQ_at h j (by omega)) (by rw [zsOf_length]; exact hl) hn (by omega) (by rw [zsOf_length]; exact hr) (zs_of hr hrs) (sz_few h hl hn) ht ha K hK
theorem chg_mir {xs rs ts gs bs : List C} {n : Nat} (h : FewC xs) (hl : xs.length = n) (hn : n ≤ 20) (hr : rs.length = n) (hrs : ∀ j, j < n → IsC (rs.getD j (0, 0)) ((zsOf xs).getD ((n - j) % n) z0)) (ht : Fast (zsOf xs) (zsOf ts)) (ha : Fast (zsOf rs) (zsOf gs)) (hwa : WfC gs) (hla : gs.length = n) (hb : ∀ j, j < n → IsC (bs.getD j (0, 0)) ((zsOf ts).getD ((n - j) % n) z0)) : NearC gs bs (2 * (sumS xs / 68719476736)) := by
  refine nearC_of hla hwa hb fun K hK => ?_
  exact mir_near (x := xQ xs) (fun j hj => fvQ_at h j (by omega)) (by rw [zsOf_length]; exact hl) hn (by rw [zsOf_length]; exact hr) (zs_of hr hrs) (sz_few h hl hn) ht ha K hK
theorem chg_add {xs ys ss ts us gs bs : List C} {n : Nat} (h : FewC xs) (h' : FewC ys) (hl : xs.length = n) (hl' : ys.length = n) (hn : n ≤ 20) (hr : ss.length = n) (hss : ∀ j, j < n → IsC (ss.getD j (0, 0)) (addZ ((zsOf xs).getD j z0) ((zsOf ys).getD j z0))) (ht : Fast (zsOf xs) (zsOf ts)) (hu : Fast (zsOf ys) (zsOf us)) (ha : Fast (zsOf ss) (zsOf gs)) (hwa : WfC gs) (hla : gs.length = n) (hb : ∀ j, j < n → IsC (bs.getD j (0, 0)) (addZ ((zsOf ts).getD j z0) ((zsOf us).getD j z0))) : NearC gs bs (2 * (sumS xs / 68719476736 + sumS ys / 68719476736)) := by
  obtain ⟨T, hT, hTle⟩ := sz_sum h h' hl hl' hn
  refine nearC_of hla hwa hb fun K hK => ?_
  exact add_near' (x := xQ xs) (y := xQ ys) (fun j hj => fvQ_at h j (by omega)) (fun j hj => fvQ_at h' j (by omega)) (by rw [zsOf_length]; exact hl) (by rw [zsOf_length]; exact hl') hn (by rw [zsOf_length]; exact hr) (fun j hj => by rw [zs_of hr hss j hj]; exact sum_fv h h' hl hl' j hj) (sz_few h hl hn) (sz_few h' hl' hn) hT hTle ht hu ha K hK

/-- The law's own sums of bounds, exactly. -/
theorem bnd_dy {xs : List C} (h : FewC xs) : Dy 40 (2 * xs.length * 1024) (sumS xs / 68719476736) := by
  obtain ⟨k, hk, e⟩ := sumS_dy h
  refine ⟨k, hk, ?_⟩
  rw [← e]
  have : two 40 = 68719476736 * two 4 := by rw [show two 40 = 1099511627776 from rfl, show two 4 = 16 from rfl]; decide +kernel
  rw [this, ← Rat.mul_assoc, Rat.div_mul_cancel (by decide)]
theorem has_two : Has 4611686018427387904 2 := has_int (n := 2) (by decide) (by decide)
theorem bnd_twice {K u : Nat} {q : Rat} (h : Dy 40 K q) (hK : K ≤ 1000000) (hu : Has u q) : ∃ d, Has d (2 * q) ∧ ∀ (P : Program) (t : TypeId) (w : World), (binOp .mul t (.float .f64 4611686018427387904) (.float .f64 u)).run P w = .ok (.float .f64 d) w := by
  have hd : Dy (0 + 40) (2 * K) (2 * q) := Dy.mul (Dy.of_int (n := 2) (K := 2) (by decide)) h
  exact run_has (.inr (.inr (.inl rfl))) (hd.fv_mul (by omega) (by decide) has_two.fv hu.fv)
theorem bnd_sum {K L u v : Nat} {p q : Rat} (h : Dy 40 K p) (h' : Dy 40 L q) (hK : K ≤ 1000000) (hL : L ≤ 1000000) (hu : Has u p) (hv : Has v q) : ∃ d, Has d (p + q) ∧ ∀ (P : Program) (t : TypeId) (w : World), (binOp .add t (.float .f64 u) (.float .f64 v)).run P w = .ok (.float .f64 d) w :=
  run_has (.inl rfl) ((h.add h').fv_add (by omega) (by decide) hu.fv hv.fv)
theorem bnd_small {K : Nat} {q : Rat} (h : Dy 40 K q) (hK : K ≤ 1000000) : 2 * q ≤ 1152921504606846976 := by
  obtain ⟨a, b⟩ := h.size
  have : (K : Rat) ≤ ((1000000 : Nat) : Rat) := Rat.natCast_le_natCast.2 hK
  have e : ((1000000 : Nat) : Rat) = 1000000 := rfl
  rw [e] at this
  grind

theorem a2At_zero (a : Option Addr) (len cap : Nat) (zs : List Int) (w : World) (hr : IsRow .u8 w a len cap zs) :
    Calls Try.prog 7 #[.slice a len cap, .int .i64 0, .int .i64 0] w fun e w' => e = .returned (.int .i64 0) ∧ w' = w := by
  have hlen := isRow_len hr
  by_cases hl : len = 0
  · subst hl
    clear hr
    go_enter Try.func7, Try.ntmps7
    go_wp2
    go_ret
    exact ⟨rfl, rfl⟩
  · have g : decide ((len : Int) ≤ 0) = false := decide_eq_false (by omega)
    clear hr
    go_enter Try.func7, Try.ntmps7
    go_wp2
    go_ret
    exact ⟨rfl, rfl⟩

end Go.Proofs.Ytphgibndncjaiaa
/-
  RealPair: what it finds, and the model's.
-/
set_option linter.unusedVariables false
set_option linter.unusedSimpArgs false
namespace Go.Proofs.Ytphgibndncjaiaa
open Go.RowKit Flt Turn Fast
attribute [local go_sem] run_fadd run_fsub run_fmul run_fquo run_cadd run_csub

def halfO (a : Option Nat) : Option Nat := fop .mul .f64 a (some 4602678819172646912)
def otherZ (z : List Z) (n k : Nat) : Z := conjZ (z.getD ((n - k) % n) z0)
def firstZ (z : List Z) (n k : Nat) : Z := (halfO (addZ (z.getD k z0) (otherZ z n k)).1, halfO (addZ (z.getD k z0) (otherZ z n k)).2)
def secondZ (z : List Z) (n k : Nat) : Z := (halfO (subZ (z.getD k z0) (otherZ z n k)).2, fneg .f64 (halfO (subZ (z.getD k z0) (otherZ z n k)).1))
def bothN (xs ys : List Nat) (j : Nat) : List C := (List.range j).map fun i => (xs.getD i 0, ys.getD i 0)
theorem bothN_length (xs ys : List Nat) (j : Nat) : (bothN xs ys j).length = j := by simp [bothN]
theorem bothN_succ (xs ys : List Nat) (j : Nat) : bothN xs ys (j + 1) = bothN xs ys j ++ [(xs.getD j 0, ys.getD j 0)] := by simp [bothN, List.range_succ]
theorem bothN_wf {xs ys : List Nat} {j : Nat} (hx : ∀ z ∈ xs, z < 18446744073709551616) (hy : ∀ z ∈ ys, z < 18446744073709551616) : WfC (bothN xs ys j) := by
  have one : ∀ (zs : List Nat) (i : Nat), (∀ z ∈ zs, z < 18446744073709551616) → zs.getD i 0 < 18446744073709551616 := fun zs i h => by
    by_cases hi : i < zs.length
    · apply h
      rw [List.getD_eq_getElem?_getD, List.getElem?_eq_getElem hi]
      exact List.getElem_mem hi
    · simp [List.getD, hi]
  intro p hp
  obtain ⟨i, _, rfl⟩ := List.mem_map.1 hp
  exact ⟨one xs i hx, one ys i hy⟩

/-- What RealPair finds of two signals of one length. -/
def PairG (xs ys : List Nat) (n : Nat) (f s : List C) : Prop :=
  ∃ zf, Fast (zsOf (bothN xs ys n)) zf ∧ f.length = n ∧ s.length = n ∧ ∀ k, k < n → IsC (f.getD k (0, 0)) (firstZ zf n k) ∧ IsC (s.getD k (0, 0)) (secondZ zf n k)

/-- What RealPair returns, of n and m numbers. -/
def PairR' (xs ys : List Nat) (n m : Nat) (w : World) (e : Ending) (w' : World) : Prop :=
  ∃ u1 u2 f s c, e = .returned (.tuple #[u1, u2, .int .i64 c]) ∧ Row w' w.heap.size 26 u1 (cvals f) ∧ Row w' w.heap.size 26 u2 (cvals s) ∧ (∀ b, u1.ownBlock = some b → u2.ownBlock ≠ some b) ∧ Below w.heap.size w w' ∧
    (((256 < n ∨ 256 < m) ∧ c = 3 ∧ f = [] ∧ s = []) ∨ (¬ (256 < n ∨ 256 < m) ∧ n ≠ m ∧ c = 2 ∧ f = [] ∧ s = []) ∨ (¬ (256 < n ∨ 256 < m) ∧ n = m ∧ c = 0 ∧ PairG xs ys n f s))
/-- What RealPair returns. -/
def PairR (xs ys : List Nat) (w : World) (e : Ending) (w' : World) : Prop := PairR' xs ys xs.length ys.length w e w'

theorem readsAtF {w : World} {v : Value} {xs : List Nat} (h : Reads w v (flts xs)) : ∀ a n cap, v = .slice a n cap → ∀ k, k < n → ∃ g, a = some ⟨g, 0, none⟩ ∧ g < w.heap.size ∧ w.cell? ⟨g, k, none⟩ = some (.float .f64 (xs.getD k 0)) := by
  intro a n cap e k hk
  generalize hcs : flts xs = cs at h
  cases h with
  | none a' cap' => simp only [Value.slice.injEq] at e; omega
  | row g cap' L cs hL h0 hc hm hcell =>
    simp only [Value.slice.injEq] at e
    obtain ⟨rfl, rfl, rfl⟩ := e
    have c := hcell k hk
    rw [← hcs, flts_getD (by rw [← hcs, flts_length] at hL; omega)] at c
    exact ⟨g, rfl, World.block_lt_of_cell? _ _ c, c⟩
theorem readsLen {w : World} {v : Value} {cs : List Value} (h : Reads w v cs) : cs.length ≤ maxLen := by
  cases h with
  | none a cap => exact Nat.zero_le _
  | row g cap L cs hL h0 hc hm hcell => omega

/-- Two rows of one type, of which the first one has grown. -/
theorem two_rows {wr w5 : World} {B nn : Nat} {O : Obj} {e : TypeId} {v v2 v' : Value} {cs cs2 : List Value} (h : Row wr B e v cs) (h2 : Row wr B e v2 cs2) (hd : ∀ b, v.ownBlock = some b → v2.ownBlock ≠ some b)
    (hg : ((wr.drewN nn).alloc O).grownBy w5 v.ownBlock) (hat : v'.ownBlock = v.ownBlock ∨ v'.ownBlock = some (wr.heap.size + 1)) : Row w5 B e v2 cs2 ∧ ∀ b, v'.ownBlock = some b → v2.ownBlock ≠ some b := by
  constructor
  · refine ((h2.drewN nn).alloc O).kept hg ?_
    cases h1 : v2.ownBlock with
    | none => exact .inl rfl
    | some b => exact .inr (fun e => hd b e.symm h1)
  · intro b hb h1
    rcases hat with e | e
    · exact hd b (e ▸ hb) h1
    · have := (h2.lt b h1).2
      rw [hb] at e
      have e2 := Option.some.inj e
      omega

/-- Two empty rows that have just been made. -/
theorem lit_two (w : World) : Row ((w.alloc (.cells #[] 26)).alloc (.cells #[] 26)) w.heap.size 26 (.slice (some ⟨w.heap.size, 0, none⟩) 0 0) (cvals []) ∧
    Row ((w.alloc (.cells #[] 26)).alloc (.cells #[] 26)) w.heap.size 26 (.slice (some ⟨w.heap.size + 1, 0, none⟩) 0 0) (cvals []) ∧
    (∀ b, (Value.slice (some ⟨w.heap.size, 0, none⟩) 0 0).ownBlock = some b → (Value.slice (some ⟨w.heap.size + 1, 0, none⟩) 0 0).ownBlock ≠ some b) ∧ Below w.heap.size w ((w.alloc (.cells #[] 26)).alloc (.cells #[] 26)) := by
  refine ⟨(World.ownsRow_lit w #[] 0 (Nat.le_refl _) (by unfold maxLen; omega) rfl : Row _ _ _ _ _).alloc _, ?_, fun b e => ?_, ((Below.refl _ _).alloc (Nat.le_refl _) _).alloc (by simp) _⟩
  · have := World.ownsRow_lit (w.alloc (.cells #[] 26)) (e := 26) (base := w.heap.size) (size := 1) #[] 0 (by simp) (by unfold maxLen; omega) rfl
    unfold Row
    simpa [cvals] using this
  · intro h
    simp only [Value.ownBlock, Option.some.injEq] at e h
    omega

theorem isF_half : IsF 4602678819172646912 (some 4602678819172646912) := IsF.lit (by decide) (by omega)

end Go.Proofs.Ytphgibndncjaiaa
/-
  Real pairs: the conjugate of an exact transform, and float sums with both signs turned. No program.
-/
set_option linter.unusedVariables false
set_option linter.unusedSimpArgs false
namespace Go.Proofs.Ytphgibndncjaiaa
open Go Flt
namespace Flt
open Turn Fast Ieee

def conjQ (z : Q2) : Q2 := (z.1, -z.2)
theorem conjQ_add (a b : Q2) : conjQ (addQ a b) = addQ (conjQ a) (conjQ b) := by
  unfold conjQ addQ; refine Prod.ext rfl ?_; simp only; grind
theorem conjQ_mul (a b : Q2) : conjQ (mulQ a b) = mulQ (conjQ a) (conjQ b) := by
  unfold conjQ mulQ; refine Prod.ext ?_ ?_ <;> simp only <;> grind
theorem conjQ_sum (t : Nat → Q2) (n : Nat) : conjQ (sumQ t n) = sumQ (fun i => conjQ (t i)) n := by
  induction n with
  | zero => show conjQ (0, 0) = (0, 0); unfold conjQ; refine Prod.ext rfl ?_; simp only; grind
  | succ n ih => show conjQ (addQ (sumQ t n) (t n)) = addQ _ _; rw [conjQ_add, ih]
theorem conj_cisr {n j k : Nat} (hj : j < n) (hk : k < n) : NearQ (conjQ (cisr n (j * ((n - k) % n)))) (cisr n (j * k)) (5 * dl) := by
  have hn : 0 < n := by omega
  have hd := dl_small.1
  -- the place of the other one
  have hm : rst n (j * ((n - k) % n)) = j * k % n := by
    rw [← rst_back (j * k) hn]
    refine rst_congr ?_
    rw [Nat.mul_mod, Nat.mod_mod, ← Nat.mul_mod]
    obtain ⟨m, rfl⟩ : ∃ m, n = k + m := ⟨n - k, by omega⟩
    have e : (k + m - 1) * (j * k) + j * k = (k + m) * (j * k) := by
      have := Nat.succ_mul (k + m - 1) (j * k)
      rw [show (k + m - 1).succ = k + m by omega] at this
      exact this.symm
    have e2 : j * (k + m - k) + j * k = (k + m) * j := by
      rw [show k + m - k = m by omega, ← Nat.mul_add, Nat.mul_comm, Nat.add_comm]
    have h1 : (j * (k + m - k) + j * k) % (k + m) = 0 := by rw [e2, Nat.mul_mod_right]
    have h2 : ((k + m - 1) * (j * k) + j * k) % (k + m) = 0 := by rw [e, Nat.mul_mod_right]
    generalize j * (k + m - k) = A at *
    generalize (k + m - 1) * (j * k) = B at *
    generalize j * k = D at *
    generalize k + m = N at *
    have : ∀ A, (A + D) % N = 0 → A % N = (N - D % N) % N := fun A h => by
      rw [Nat.add_mod] at h
      have a1 := Nat.mod_lt A hn
      have a2 := Nat.mod_lt D hn
      generalize A % N = x at *
      generalize D % N = y at *
      by_cases hxy : x + y < N
      · rw [Nat.mod_eq_of_lt hxy] at h
        rw [show y = 0 by omega, Nat.sub_zero, Nat.mod_self]; omega
      · rw [Nat.mod_eq_sub_mod (by omega), Nat.mod_eq_of_lt (by omega)] at h
        rw [Nat.mod_eq_of_lt (by omega)]; omega
    rw [this A h1, this B h2]
  have hr := Nat.mod_lt (j * k) hn
  unfold cisr
  rw [hm]
  have hk2 : rst n (j * k) = (n - j * k % n) % n := rfl
  rw [hk2]
  generalize j * k % n = r at *
  by_cases h0 : r = 0
  · subst h0
    rw [Nat.sub_zero, Nat.mod_self]
    have : ((0 : Nat) : Rat) / (n : Rat) = 0 := by rw [Rat.div_def]; exact Rat.zero_mul _
    rw [this]
    unfold cis conjQ
    rw [cq_zero.1, cq_zero.2]
    have e : ((1, -0) : Q2) = (1, 0) := by refine Prod.ext rfl ?_; simp only; grind
    simp only
    rw [show (-0 : Rat) = 0 by grind]
    exact NearQ.refl _ (by grind)
  · rw [Nat.mod_eq_of_lt (by omega)]
    have e : ((n - r : Nat) : Rat) / (n : Rat) = 1 - (r : Rat) / (n : Rat) := by
      have g0 := Rat.mul_inv_cancel _ (Rat.ne_of_gt (Rat.natCast_pos.2 hn))
      have e1 : ((n - r : Nat) : Rat) = (n : Rat) - (r : Rat) := by
        have : ((n - r : Nat) : Rat) + (r : Rat) = (n : Rat) := by rw [← Rat.natCast_add]; congr 1; omega
        grind
      rw [e1, Rat.div_def, Rat.div_def]; grind
    rw [e]
    obtain ⟨m1, m2⟩ := cq_mirror (part_size hn (Nat.le_of_lt hr))
    exact ⟨m1.symm, by
      show Near (-sq _) (sq _) _
      exact m2.symm⟩
/-- The conjugate of the transform of a real signal. -/
theorem dft_conj {x : Nat → Q2} {s : Nat → Rat} {n k : Nat} (hk : k < n) (hx : ∀ j, j < n → nrm (x j) ≤ s j) (hr : ∀ j, j < n → (x j).2 = 0) : NearQ (conjQ (dft x n ((n - k) % n))) (dft x n k) (psum s n * (5 * dl)) := by
  have hd := dl_small.1
  unfold dft
  rw [conjQ_sum]
  have e : sumQ (fun i => conjQ (mulQ (x i) (cisr n (i * ((n - k) % n))))) n = sumQ (fun i => mulQ (x i) (conjQ (cisr n (i * ((n - k) % n))))) n := sumQ_congr fun i hi => by
    show conjQ (mulQ (x i) _) = _
    rw [conjQ_mul]
    congr 1
    unfold conjQ
    refine Prod.ext rfl ?_
    simp only
    rw [hr i hi]; grind
  rw [e]
  exact weighted_near (by grind) hx fun i hi => conj_cisr hi hk

/-- A sum with both signs turned. -/
theorem sum_turned {s t : Bool} {m n : Nat} {i j : Int} : (((Datum.number (!s) m i).sum (.number (!t) n j)).map Ieee.double.write = (((Datum.number s m i).sum (.number t n j)).map Ieee.double.write).map (Op.negFloat .f64)) ∨
    ((∃ u, ((Datum.number s m i).sum (.number t n j)).map Ieee.double.write = some u ∧ Has u 0) ∧ (∃ u, ((Datum.number (!s) m i).sum (.number (!t) n j)).map Ieee.double.write = some u ∧ Has u 0)) := by
  simp only [Datum.sum, Option.map_some, Ieee.Format.write]
  have hs : ∀ (b : Bool) (m e : Nat), signed (!b) m e = -signed b m e := fun b m e => by unfold signed; cases b <;> simp
  rw [hs, hs]
  generalize signed s m (i - min i j).toNat = A
  generalize signed t n (j - min i j).toNat = B
  by_cases h0 : A + B = 0
  · right
    have h1 : -A + -B = 0 := by omega
    have hz : ∀ (b : Bool) (p : Int), Has (Ieee.double.nearest b 0 p) 0 := fun b p => by
      unfold Ieee.Format.nearest
      rw [if_pos rfl]
      have hf : 0 < Ieee.double.infRung := by rw [ir64]; omega
      refine ⟨fin_word _ hf, ?_⟩
      rw [fq_word _ hf, rq_zero]
      split <;> grind
    rw [h0, h1]
    exact ⟨⟨_, rfl, hz _ _⟩, ⟨_, rfl, hz _ _⟩⟩
  · left
    rw [if_neg h0, if_neg (show ¬ -A + -B = 0 by omega)]
    have e1 : (-A + -B).natAbs = (A + B).natAbs := by omega
    have e2 : decide (-A + -B < 0) = !decide (A + B < 0) := by
      by_cases h : A + B < 0
      · rw [decide_eq_true h, decide_eq_false (by omega)]; rfl
      · rw [decide_eq_false h, decide_eq_true (by omega)]; rfl
    rw [e1, e2]
    exact congrArg some (nearest_neg _ _ _)

end Flt
end Go.Proofs.Ytphgibndncjaiaa
/-
  Real pairs: halves of sums and differences. No program.
-/
set_option linter.unusedVariables false
set_option linter.unusedSimpArgs false
namespace Go.Proofs.Ytphgibndncjaiaa
open Go Flt
namespace Flt
open Turn Fast Ieee

def hlf (a : Option Nat) : Option Nat := fop .mul .f64 a (some 4602678819172646912)
theorem half_dy : double.read 4602678819172646912 = double.read 4602678819172646912 := rfl
theorem has_half' : Has 4602678819172646912 (1 / 2) := by
  have h1 : Has 4607182418800017408 1 := has_int (n := 1) (by decide) (by decide)
  have h2 : Has 4611686018427387904 2 := has_int (n := 2) (by decide) (by decide)
  have hd : Dy 1 1 ((1 : Rat) / 2) := ⟨1, by decide, by rw [show two 1 = 2 from rfl]; decide +kernel⟩
  have := hd.fv_div (by decide) (by decide) (by decide) h1.fv h2.fv
  obtain ⟨u, e, hu, hq⟩ := this
  have e' : fop .quo .f64 (some 4607182418800017408) (some 4611686018427387904) = some 4602678819172646912 := by decide +kernel
  rw [e'] at e
  cases e
  exact ⟨hu, hq⟩

theorem hlf_zero {a : Option Nat} (h : Fv a 0) : Fv (hlf a) 0 := fv_mul_zero h has_half'.fv (Rat.zero_mul _)
theorem hlf_near {s : Option Nat} {r T B : Rat} {d : Rat} (hs : Fv s r) (hr : Near r T d) (hT : Size T B) (hd : d ≤ B) (hB1 : 1 / 16 ≤ B) (hB2 : B ≤ 8388608) : ∃ v, Fv (hlf s) v ∧ Near v (T / 2) (d / 2 + 2 * (B * ulp)) := by
  have hsz : Size (r * (1 / 2)) B := by
    obtain ⟨a, b⟩ := hT
    obtain ⟨c, e⟩ := hr
    constructor <;> grind
  obtain ⟨v, h1, h2⟩ := fmul_near hs has_half'.fv hsz (by grind)
  refine ⟨v, h1, ?_⟩
  have ht := tiny_le
  have hu : 4503599627370496 * (B * ulp) = B := by
    have : 4503599627370496 * ulp = 1 := by decide +kernel
    grind
  obtain ⟨c, e⟩ := hr
  obtain ⟨a, b⟩ := h2
  generalize B * ulp = U at *
  clear h1 hs hsz hT
  constructor <;> grind
theorem pair_add {a b : Option Nat} {p q P Q e f S : Rat} (ha : Fv a p) (hb : Fv b q) (hp : Near p P e) (hq : Near q Q f) (hs : Size (P + Q) (21 / 10 * S)) (hef : e + f ≤ S / 20) (hef0 : 0 ≤ e + f) (h1 : 1 / 16 ≤ S) (h2 : S ≤ 1048576) : ∃ v, Fv (hlf (fop .add .f64 a b)) v ∧ Near v ((P + Q) / 2) ((e + f) / 2 + 20 * (S * ulp)) := by
  have hsz : Size (p + q) (3 * S) := by
    obtain ⟨a, b⟩ := hs; obtain ⟨c, d⟩ := hp; obtain ⟨g, h⟩ := hq
    constructor <;> grind
  obtain ⟨r, r1, r2⟩ := fadd_near ha hb hsz (by grind)
  have ht := tiny_le
  have hu : 4503599627370496 * (S * ulp) = S := by
    have : 4503599627370496 * ulp = 1 := by decide +kernel
    grind
  have e3 : 3 * S * ulp = 3 * (S * ulp) := by grind
  rw [e3] at r2
  have hr : Near r (P + Q) (e + f + 4 * (S * ulp)) := by
    obtain ⟨c, d⟩ := hp; obtain ⟨g, h⟩ := hq; obtain ⟨i, j⟩ := r2
    generalize S * ulp = U at *
    constructor <;> grind
  obtain ⟨v, v1, v2⟩ := hlf_near (B := 3 * S) r1 hr (by obtain ⟨a, b⟩ := hs; constructor <;> grind) (by generalize S * ulp = U at *; grind) (by grind) (by grind)
  refine ⟨v, v1, ?_⟩
  rw [e3] at v2
  obtain ⟨i, j⟩ := v2
  generalize S * ulp = U at *
  clear hs hp hq r1 r2 hr v1 ha hb hsz
  constructor <;> grind
theorem pair_sub {a b : Option Nat} {p q P Q e f S : Rat} (ha : Fv a p) (hb : Fv b q) (hp : Near p P e) (hq : Near q Q f) (hs : Size (P - Q) (21 / 10 * S)) (hef : e + f ≤ S / 20) (hef0 : 0 ≤ e + f) (h1 : 1 / 16 ≤ S) (h2 : S ≤ 1048576) : ∃ v, Fv (hlf (fop .sub .f64 a b)) v ∧ Near v ((P - Q) / 2) ((e + f) / 2 + 20 * (S * ulp)) := by
  have hsz : Size (p - q) (3 * S) := by
    obtain ⟨a, b⟩ := hs; obtain ⟨c, d⟩ := hp; obtain ⟨g, h⟩ := hq
    constructor <;> grind
  obtain ⟨r, r1, r2⟩ := fsub_near ha hb hsz (by grind)
  have ht := tiny_le
  have hu : 4503599627370496 * (S * ulp) = S := by
    have : 4503599627370496 * ulp = 1 := by decide +kernel
    grind
  have e3 : 3 * S * ulp = 3 * (S * ulp) := by grind
  rw [e3] at r2
  have hr : Near r (P - Q) (e + f + 4 * (S * ulp)) := by
    obtain ⟨c, d⟩ := hp; obtain ⟨g, h⟩ := hq; obtain ⟨i, j⟩ := r2
    generalize S * ulp = U at *
    constructor <;> grind
  obtain ⟨v, v1, v2⟩ := hlf_near (B := 3 * S) r1 hr (by obtain ⟨a, b⟩ := hs; constructor <;> grind) (by generalize S * ulp = U at *; grind) (by grind) (by grind)
  refine ⟨v, v1, ?_⟩
  rw [e3] at v2
  obtain ⟨i, j⟩ := v2
  generalize S * ulp = U at *
  clear hs hp hq r1 r2 hr v1 ha hb hsz
  constructor <;> grind

/-- The two transforms of a pair, exactly. -/
def reQ (x : Nat → Q2) (j : Nat) : Q2 := ((x j).1, 0)
def imQ (x : Nat → Q2) (j : Nat) : Q2 := ((x j).2, 0)
theorem dft_pair (x : Nat → Q2) (n k : Nat) : dft x n k = addQ (dft (reQ x) n k) (mulQ (dft (imQ x) n k) (0, 1)) := by
  unfold dft
  rw [sumQ_mul, ← sumQ_add]
  refine sumQ_congr fun j _ => ?_
  show mulQ (x j) _ = addQ (mulQ (reQ x j) _) (mulQ (mulQ (imQ x j) _) _)
  generalize cisr n (j * k) = c
  unfold reQ imQ addQ mulQ
  refine Prod.ext ?_ ?_ <;> simp only <;> grind

/-- Both numbers of a pair at a place, of the number there and of the other one. -/
theorem pair_vals {zk wk : Z} {v w A B A' B' : Q2} {S : Rat} (hZ : FvQ zk v) (hW : FvQ wk w) (hv : NearQ v (addQ A (mulQ B (0, 1))) (S / 2199023255552)) (hw : NearQ w (addQ A' (mulQ B' (0, 1))) (S / 2199023255552)) (hA : NearQ (conjQ A') A (S * (5 * dl))) (hB : NearQ (conjQ B') B (S * (5 * dl))) (sA : SizeQ A (S * (1001 / 1000))) (sB : SizeQ B (S * (1001 / 1000))) (h1 : 1 / 16 ≤ S) (h2 : S ≤ 1048576) :
    (∃ p : Q2, FvQ (hlf (fop .add .f64 zk.1 wk.1), hlf (fop .add .f64 zk.2 (fneg .f64 wk.2))) p ∧ NearQ p A (S / 549755813888)) ∧ (∃ q : Q2, FvQ (hlf (fop .sub .f64 zk.2 (fneg .f64 wk.2)), fneg .f64 (hlf (fop .sub .f64 zk.1 wk.1))) q ∧ NearQ q B (S / 549755813888)) := by
  obtain ⟨d0, d1, d2⟩ := dl_small
  have hdS : S * (5 * dl) ≤ S * ulp := Rat.mul_le_mul_of_nonneg_left (by have := ulp_pos; grind) (by grind)
  have hdS0 : 0 ≤ S * (5 * dl) := Rat.mul_nonneg (by grind) (by grind)
  -- the other number
  have hw1 : Near w.1 (A.1 + B.2) (S / 2199023255552 + 2 * (S * (5 * dl))) := by
    have a := hw.re; have b := hA.re; have c := hB.im
    have e1 : (addQ A' (mulQ B' (0, 1))).1 = A'.1 - B'.2 := by unfold addQ mulQ; simp only; grind
    rw [e1] at a
    have e2 : (conjQ A').1 = A'.1 := rfl
    have e3 : (conjQ B').2 = -B'.2 := rfl
    rw [e2] at b; rw [e3] at c
    obtain ⟨a1, a2⟩ := a; obtain ⟨b1, b2⟩ := b; obtain ⟨c1, c2⟩ := c
    constructor <;> grind
  have hw2 : Near (-w.2) (A.2 - B.1) (S / 2199023255552 + 2 * (S * (5 * dl))) := by
    have a := hw.im; have b := hA.im; have c := hB.re
    have e1 : (addQ A' (mulQ B' (0, 1))).2 = A'.2 + B'.1 := by unfold addQ mulQ; simp only; grind
    rw [e1] at a
    have e2 : (conjQ A').2 = -A'.2 := rfl
    have e3 : (conjQ B').1 = B'.1 := rfl
    rw [e2] at b; rw [e3] at c
    obtain ⟨a1, a2⟩ := a; obtain ⟨b1, b2⟩ := b; obtain ⟨c1, c2⟩ := c
    constructor <;> grind
  have hv1 : Near v.1 (A.1 - B.2) (S / 2199023255552) := by
    have a := hv.re
    have e1 : (addQ A (mulQ B (0, 1))).1 = A.1 - B.2 := by unfold addQ mulQ; simp only; grind
    rwa [e1] at a
  have hv2 : Near v.2 (A.2 + B.1) (S / 2199023255552) := by
    have a := hv.im
    have e1 : (addQ A (mulQ B (0, 1))).2 = A.2 + B.1 := by unfold addQ mulQ; simp only; grind
    rwa [e1] at a
  have hWn := fv_neg hW.2
  have hu : 4503599627370496 * (S * ulp) = S := by
    have : 4503599627370496 * ulp = 1 := by decide +kernel
    grind
  have hE : S / 2199023255552 + (S / 2199023255552 + 2 * (S * (5 * dl))) ≤ S / 20 := by
    generalize S * (5 * dl) = D at *
    generalize S * ulp = U at *
    clear hv hw hA hB sA sB hw1 hw2 hv1 hv2 hWn
    grind
  have hE0 : 0 ≤ S / 2199023255552 + (S / 2199023255552 + 2 * (S * (5 * dl))) := by
    generalize S * (5 * dl) = D at *
    generalize S * ulp = U at *
    clear hv hw hA hB sA sB hw1 hw2 hv1 hv2 hWn hE
    grind
  have sA1 := sA.re; have sA2 := sA.im; have sB1 := sB.re; have sB2 := sB.im
  have fin : ∀ {t T X : Rat}, Near t T ((S / 2199023255552 + (S / 2199023255552 + 2 * (S * (5 * dl)))) / 2 + 20 * (S * ulp)) → T = X → Near t X (S / 549755813888) := fun {t T X} h e => by
    rw [← e]
    refine h.mono ?_
    generalize S * (5 * dl) = D at *
    generalize S * ulp = U at *
    clear hv hw hA hB sA sB hw1 hw2 hv1 hv2 hWn hE hE0 h e sA1 sA2 sB1 sB2
    grind
  obtain ⟨r1, f1, g1⟩ := pair_add hZ.1 hW.1 hv1 hw1 (S := S) (by obtain ⟨a, b⟩ := sA1; constructor <;> grind) hE hE0 h1 h2
  obtain ⟨r2, f2, g2⟩ := pair_add hZ.2 hWn hv2 hw2 (S := S) (by obtain ⟨a, b⟩ := sA2; constructor <;> grind) hE hE0 h1 h2
  obtain ⟨r3, f3, g3⟩ := pair_sub hZ.2 hWn hv2 hw2 (S := S) (by obtain ⟨a, b⟩ := sB1; constructor <;> grind) hE hE0 h1 h2
  obtain ⟨r4, f4, g4⟩ := pair_sub hZ.1 hW.1 hv1 hw1 (S := S) (by obtain ⟨a, b⟩ := sB2; constructor <;> grind) hE hE0 h1 h2
  refine ⟨⟨(r1, r2), ⟨f1, f2⟩, ⟨fin g1 (by grind), fin g2 (by grind)⟩⟩, ⟨(r3, -r4), ⟨f3, fv_neg f4⟩, ⟨fin g3 (by grind), ?_⟩⟩⟩
  have := fin g4 (X := -B.2) (by grind)
  obtain ⟨a, b⟩ := this
  constructor <;> grind

end Flt
end Go.Proofs.Ytphgibndncjaiaa
/-
  Real pairs: the numbers of places that lie opposite. No program.
-/
set_option linter.unusedVariables false
set_option linter.unusedSimpArgs false
namespace Go.Proofs.Ytphgibndncjaiaa
open Go Flt
namespace Flt
open Turn Fast Ieee

theorem fneg_fneg (a : Option Nat) : fneg .f64 (fneg .f64 a) = a := by
  cases a with
  | none => rfl
  | some x =>
    show some ((x ^^^ 2 ^ 63) ^^^ 2 ^ 63) = some x
    rw [Nat.xor_assoc, Nat.xor_self, Nat.xor_zero]
theorem Fv.wfO {a : Option Nat} {p : Rat} (h : Fv a p) : WfO a := fun x e => by
  obtain ⟨u, e', h1, -⟩ := h
  rw [e] at e'
  cases e'
  exact h1.1
/-- Floats that are each other's opposite. -/
def Opp (X Y : Option Nat) : Prop := Y = fneg .f64 X ∨ (Fv X 0 ∧ Fv Y 0)
theorem add_turned {a b : Option Nat} {p q : Rat} (ha : Fv a p) (hb : Fv b q) : Opp (fop .add .f64 a b) (fop .add .f64 (fneg .f64 a) (fneg .f64 b)) := by
  obtain ⟨x, rfl, hx, -⟩ := ha
  obtain ⟨y, rfl, hy, -⟩ := hb
  obtain ⟨s, m, i, e1, -, -⟩ := read_dq hx
  obtain ⟨t, n, j, e2, -, -⟩ := read_dq hy
  have r1 : double.read (Op.negFloat .f64 x) = .number (!s) m i := by rw [read_neg hx.1, e1]; rfl
  have r2 : double.read (Op.negFloat .f64 y) = .number (!t) n j := by rw [read_neg hy.1, e2]; rfl
  have f1 : fop .add .f64 (some x) (some y) = ((Datum.number s m i).sum (.number t n j)).map double.write := by
    rw [← e1, ← e2]; rfl
  have f2 : fop .add .f64 (fneg .f64 (some x)) (fneg .f64 (some y)) = ((Datum.number (!s) m i).sum (.number (!t) n j)).map double.write := by
    rw [← r1, ← r2]; rfl
  rw [f1, f2]
  rcases sum_turned (s := s) (t := t) (m := m) (n := n) (i := i) (j := j) with h | ⟨⟨u, h1, h2⟩, ⟨v, h3, h4⟩⟩
  · left
    rw [h]
    cases ((Datum.number s m i).sum (.number t n j)).map double.write <;> rfl
  · right
    rw [h1, h3]
    exact ⟨h2.fv, h4.fv⟩
theorem hlf_opp {X Y : Option Nat} (h : Opp X Y) (hX : WfO X) {r s : Rat} (h1 : Fv (hlf X) r) (h2 : Fv (hlf Y) s) : s = -r := by
  rcases h with rfl | ⟨a, b⟩
  · have e : hlf (fneg .f64 X) = fneg .f64 (hlf X) := by
      unfold hlf
      rw [fop_mul_comm, fop_mul_neg hX, fop_mul_comm]
    rw [e] at h2
    exact h2.uniq (fv_neg h1)
  · rw [h1.uniq (hlf_zero a), h2.uniq (hlf_zero b)]
    grind
/-- The first number of a pair, and that of the opposite place. -/
theorem first_opp {Z W : Fast.Z} {v w : Q2} (hZ : FvQ Z v) (hW : FvQ W w) {r s : Rat} (h1 : Fv (hlf (fop .add .f64 Z.2 (fneg .f64 W.2))) r) (h2 : Fv (hlf (fop .add .f64 W.2 (fneg .f64 Z.2))) s) : s = -r := by
  have h := add_turned hZ.2 (fv_neg hW.2)
  rw [fneg_fneg, fop_add_comm _ (fneg .f64 Z.2)] at h
  exact hlf_opp h (wfO_fop _ _ _) h1 h2
theorem second_opp {Z W : Fast.Z} {v w : Q2} (hZ : FvQ Z v) (hW : FvQ W w) {r s : Rat} (h1 : Fv (hlf (fop .sub .f64 Z.1 W.1)) r) (h2 : Fv (hlf (fop .sub .f64 W.1 Z.1)) s) : s = -r := by
  have e : ∀ a b : Option Nat, WfO b → fop .sub .f64 a b = fop .add .f64 a (fneg .f64 b) := fun a b hb => by
    have := fop_sub_neg (a := a) (wfO_neg hb)
    rwa [fneg_fneg] at this
  rw [e _ _ hW.1.wfO] at h1
  rw [e _ _ hZ.1.wfO] at h2
  have h := add_turned hZ.1 (fv_neg hW.1)
  rw [fneg_fneg, fop_add_comm _ (fneg .f64 Z.1)] at h
  exact hlf_opp h (wfO_fop _ _ _) h1 h2

/-- Both numbers of a pair are near the transforms of both parts. -/
theorem pair_near {xs zf : List Fast.Z} (h : Fast xs zf) {x : Nat → Q2} {n : Nat} {S : Rat} (hl : xs.length = n) (hn : n ≤ 20) (hx : ∀ j, j < n → FvQ (xs.getD j z0) (x j)) (hS : Sz x n S) {k : Nat} (hk : k < n) :
    (∃ p : Q2, FvQ (hlf (fop .add .f64 (zf.getD k z0).1 (zf.getD ((n - k) % n) z0).1), hlf (fop .add .f64 (zf.getD k z0).2 (fneg .f64 (zf.getD ((n - k) % n) z0).2))) p ∧ NearQ p (dft (reQ x) n k) (S / 549755813888)) ∧
    (∃ q : Q2, FvQ (hlf (fop .sub .f64 (zf.getD k z0).2 (fneg .f64 (zf.getD ((n - k) % n) z0).2)), fneg .f64 (hlf (fop .sub .f64 (zf.getD k z0).1 (zf.getD ((n - k) % n) z0).1))) q ∧ NearQ q (dft (imQ x) n k) (S / 549755813888)) := by
  have hn0 : 0 < n := by omega
  have hk' : (n - k) % n < n := Nat.mod_lt _ hn0
  rcases hS.lo with h0 | h0
  · subst h0
    have hz := hS.zeros
    have hzz := fast_zero h (by omega) (fun j hj => by have := hx j (by omega); rwa [hz j (by omega)] at this)
    have a := hzz k (by omega)
    have b := hzz ((n - k) % n) (by omega)
    have nz : (-0 : Rat) = 0 := by grind
    have c := fv_neg b.2
    rw [nz] at c
    have e0 : (0 : Rat) / 549755813888 = 0 := by decide +kernel
    rw [dft_zeros (x := reQ x) (fun j hj => by unfold reQ; rw [hz j hj]), dft_zeros (x := imQ x) (fun j hj => by unfold imQ; rw [hz j hj]), e0]
    have d := fv_neg (hlf_zero (fv_sub_zero a.1 b.1))
    rw [nz] at d
    exact ⟨⟨(0, 0), ⟨hlf_zero (fv_add_zero a.1 b.1), hlf_zero (fv_add_zero a.2 c)⟩, NearQ.refl _ Rat.le_refl⟩, ⟨(0, 0), ⟨hlf_zero (fv_sub_zero a.2 c), d⟩, NearQ.refl _ Rat.le_refl⟩⟩
  · obtain ⟨v, v1, v2⟩ := few_fast h hl hn hx hS k hk
    obtain ⟨w, w1, w2⟩ := few_fast h hl hn hx hS ((n - k) % n) hk'
    rw [dft_pair] at v2 w2
    have nr : ∀ j, j < n → nrm (reQ x j) ≤ nrm (x j) := fun j _ => by
      show Flt.ab (x j).1 + Flt.ab 0 ≤ Flt.ab (x j).1 + Flt.ab (x j).2
      have := ab_nonneg (x j).2
      have e : Flt.ab 0 = 0 := by decide +kernel
      rw [e]; grind
    have ni : ∀ j, j < n → nrm (imQ x j) ≤ nrm (x j) := fun j _ => by
      show Flt.ab (x j).2 + Flt.ab 0 ≤ Flt.ab (x j).1 + Flt.ab (x j).2
      have := ab_nonneg (x j).1
      have e : Flt.ab 0 = 0 := by decide +kernel
      rw [e]; grind
    have hA := dft_conj hk nr (fun j _ => rfl)
    have hB := dft_conj hk ni (fun j _ => rfl)
    rw [hS.sum] at hA hB
    have hd := dl_small
    have sA : SizeQ (dft (reQ x) n k) (S * (1001 / 1000)) := by
      rw [← hS.sum]
      exact weighted_size (by decide +kernel) nr fun i hi => (cisr_size _ hn0).mono (by grind)
    have sB : SizeQ (dft (imQ x) n k) (S * (1001 / 1000)) := by
      rw [← hS.sum]
      exact weighted_size (by decide +kernel) ni fun i hi => (cisr_size _ hn0).mono (by grind)
    exact pair_vals v1 w1 v2 w2 hA hB sA sB h0 hS.hi

end Flt
end Go.Proofs.Ytphgibndncjaiaa
