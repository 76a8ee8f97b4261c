/-
  Several texts of this claim, one behind the other; each says what it holds.
-/
import Derived.Test.YtocjhanehphibaaMConvol4
import Derived.RangeFuncWrites
import Derived.RangeFuncNested
import Derived.RangeFuncBound
import Derived.RangeFuncCalls
import Derived.RangeFuncLeaves
import Derived.Shelf.Abstract
import Derived.Shelf.RegionOpen
import Derived.WalkKit
import Derived.OwnWalkIn
import Derived.TacticsInMore
import Derived.LoopNIn
import Derived.LoopIn
/-
  Convolutions of sixteenths are exact: their numbers as integers. No program.
-/
set_option linter.unusedVariables false
set_option linter.unusedSimpArgs false
namespace Go.Proofs.Ytocjhanehphibaa
open Go.RowKit Flt Fast

/-- A float (up to NaN) is k / 2^e, k no greater than K. -/
def IV (e K : Nat) (z : Option Nat) (k : Int) : Prop := k.natAbs ≤ K ∧ ∃ q, Fv z q ∧ q * two e = (k : Rat)
theorem IV.mono {e K L : Nat} {z : Option Nat} {k : Int} (h : IV e K z k) (hl : K ≤ L) : IV e L z k := ⟨Nat.le_trans h.1 hl, h.2⟩
theorem IV.add {e K L : Nat} {a b : Option Nat} {k l : Int} (h : IV e K a k) (h' : IV e L b l) (hs : K + L < 2 ^ 53) (he : e ≤ 1000) : IV e (K + L) (fop .add .f64 a b) (k + l) := by
  obtain ⟨h1, q, hq, e1⟩ := h
  obtain ⟨h2, r, hr, e2⟩ := h'
  have d1 : Dy e K q := ⟨k, h1, e1⟩
  have d2 : Dy e L r := ⟨l, h2, e2⟩
  exact ⟨by omega, q + r, (d1.add d2).fv_add hs he hq hr, by rw [Rat.intCast_add, ← e1, ← e2]; grind⟩
theorem IV.sub {e K L : Nat} {a b : Option Nat} {k l : Int} (h : IV e K a k) (h' : IV e L b l) (hs : K + L < 2 ^ 53) (he : e ≤ 1000) : IV e (K + L) (fop .sub .f64 a b) (k - l) := by
  obtain ⟨h1, q, hq, e1⟩ := h
  obtain ⟨h2, r, hr, e2⟩ := h'
  have d1 : Dy e K q := ⟨k, h1, e1⟩
  have d2 : Dy e L r := ⟨l, h2, e2⟩
  exact ⟨by omega, q - r, (d1.sub d2).fv_sub hs he hq hr, by rw [Rat.intCast_sub, ← e1, ← e2]; grind⟩
theorem IV.mul {e f K L : Nat} {a b : Option Nat} {k l : Int} (h : IV e K a k) (h' : IV f L b l) (hs : K * L < 2 ^ 53) (he : e + f ≤ 1000) : IV (e + f) (K * L) (fop .mul .f64 a b) (k * l) := by
  obtain ⟨h1, q, hq, e1⟩ := h
  obtain ⟨h2, r, hr, e2⟩ := h'
  have d1 : Dy e K q := ⟨k, h1, e1⟩
  have d2 : Dy f L r := ⟨l, h2, e2⟩
  exact ⟨by rw [Int.natAbs_mul]; exact Nat.mul_le_mul h1 h2, q * r, (d1.mul d2).fv_mul hs he hq hr, by rw [Rat.intCast_mul, ← e1, ← e2, two_add]; grind⟩

abbrev KK := Int × Int
def mulK (a b : KK) : KK := (a.1 * b.1 - a.2 * b.2, a.1 * b.2 + a.2 * b.1)
def addK (a b : KK) : KK := (a.1 + b.1, a.2 + b.2)
theorem mulK_comm (a b : KK) : mulK a b = mulK b a := by unfold mulK; refine Prod.ext ?_ ?_ <;> simp only <;> grind
theorem mulK_zero (a : KK) : mulK a (0, 0) = (0, 0) := by simp [mulK]
theorem zero_mulK (a : KK) : mulK (0, 0) a = (0, 0) := by simp [mulK]
theorem addK_zero (a : KK) : addK a (0, 0) = a := by simp [addK]
theorem zero_addK (a : KK) : addK (0, 0) a = a := by simp [addK]
theorem addK_comm (a b : KK) : addK a b = addK b a := by unfold addK; rw [Int.add_comm, Int.add_comm b.2]
theorem addK_assoc (a b c : KK) : addK (addK a b) c = addK a (addK b c) := by simp [addK, Int.add_assoc]
theorem addK_four (a b c d : KK) : addK (addK a b) (addK c d) = addK (addK a c) (addK b d) := by unfold addK; refine Prod.ext ?_ ?_ <;> simp only <;> omega
def sumK (t : Nat → KK) : Nat → KK
  | 0 => (0, 0)
  | n + 1 => addK (sumK t n) (t n)
theorem sumK_congr {s t : Nat → KK} {n : Nat} (h : ∀ i, i < n → s i = t i) : sumK s n = sumK t n := by
  induction n with
  | zero => rfl
  | succ n ih => show addK _ _ = addK _ _; rw [ih (fun i hi => h i (by omega)), h n (by omega)]
theorem sumK_zero {t : Nat → KK} {n : Nat} (h : ∀ i, i < n → t i = (0, 0)) : sumK t n = (0, 0) := by
  induction n with
  | zero => rfl
  | succ n ih => show addK _ _ = _; rw [ih (fun i hi => h i (by omega)), h n (by omega), addK_zero]
theorem sumK_split (t : Nat → KK) (a b : Nat) : sumK t (a + b) = addK (sumK t a) (sumK (fun i => t (a + i)) b) := by
  induction b with
  | zero => exact (addK_zero _).symm
  | succ b ih => show addK (sumK t (a + b)) (t (a + b)) = addK _ (addK _ _); rw [ih, addK_assoc]
theorem sumK_add (s t : Nat → KK) (n : Nat) : sumK (fun i => addK (s i) (t i)) n = addK (sumK s n) (sumK t n) := by
  induction n with
  | zero => rfl
  | succ n ih => show addK _ _ = addK (addK _ _) (addK _ _); rw [ih, addK_four]
theorem sumK_first (t : Nat → KK) (n : Nat) : sumK t (n + 1) = addK (t 0) (sumK (fun i => t (i + 1)) n) := by
  rw [show n + 1 = 1 + n by omega, sumK_split]
  show addK (addK (0, 0) (t 0)) _ = _
  rw [zero_addK]
  congr 1
  exact sumK_congr fun i _ => by rw [Nat.add_comm]
theorem sumK_rev (t : Nat → KK) (n : Nat) : sumK t (n + 1) = sumK (fun i => t (n - i)) (n + 1) := by
  induction n generalizing t with
  | zero => rfl
  | succ n ih =>
    rw [sumK_first, ih (fun i => t (i + 1))]
    show addK (t 0) (sumK _ (n + 1)) = addK (sumK _ (n + 1)) (t (n + 1 - (n + 1)))
    rw [addK_comm, Nat.sub_self]
    congr 1
    exact sumK_congr fun i hi => by rw [show n + 1 - i = n - i + 1 by omega]
/-- Zeros on both sides of a window. -/
theorem sumK_window {t : Nat → KK} {lo c M : Nat} (h1 : ∀ k, k < lo → t k = (0, 0)) (h2 : ∀ k, lo + c ≤ k → k < M → t k = (0, 0)) (h : lo + c ≤ M) : sumK t M = sumK (fun j => t (lo + j)) c := by
  obtain ⟨d, rfl⟩ : ∃ d, M = lo + (c + d) := ⟨M - (lo + c), by omega⟩
  rw [sumK_split, sumK_zero h1, zero_addK, sumK_split, sumK_zero (t := fun i => t (lo + (c + i))) (fun i hi => h2 _ (by omega) (by omega)), addK_zero]
theorem sumK_single {t : Nat → KK} {r m : Nat} (hr : r < m) (h : ∀ k, k < m → k ≠ r → t k = (0, 0)) : sumK t m = t r := by
  rw [sumK_window (lo := r) (c := 1) (fun k hk => h k (by omega) (by omega)) (fun k hk hm => h k hm (by omega)) (by omega)]
  show addK (0, 0) (t (r + 0)) = _
  rw [zero_addK, Nat.add_zero]
theorem sumK_stride {t : Nat → KK} {r m : Nat} (hr : r < m) (h : ∀ k, k % m ≠ r → t k = (0, 0)) (J : Nat) : sumK t (m * J) = sumK (fun j => t (r + m * j)) J := by
  induction J with
  | zero => rfl
  | succ J ih =>
    rw [Nat.mul_succ, sumK_split, ih, sumK_single hr (t := fun i => t (m * J + i)) (fun k hk hne => h _ (by rw [Nat.mul_add_mod, Nat.mod_eq_of_lt hk]; exact hne))]
    show addK _ (t (m * J + r)) = addK _ (t (r + m * J))
    rw [Nat.add_comm r]

/-- A complex number is k / 2^e. -/
def IVC (e K : Nat) (z : Z) (k : KK) : Prop := IV e K z.1 k.1 ∧ IV e K z.2 k.2
theorem IVC.mono {e K L : Nat} {z : Z} {k : KK} (h : IVC e K z k) (hl : K ≤ L) : IVC e L z k := ⟨h.1.mono hl, h.2.mono hl⟩
theorem IVC.add {e K L : Nat} {a b : Z} {k l : KK} (h : IVC e K a k) (h' : IVC e L b l) (hs : K + L < 2 ^ 53) (he : e ≤ 1000) : IVC e (K + L) (addZ a b) (addK k l) := ⟨h.1.add h'.1 hs he, h.2.add h'.2 hs he⟩
theorem IVC.mul {e f K L : Nat} {a b : Z} {k l : KK} (h : IVC e K a k) (h' : IVC f L b l) (hs : 2 * (K * L) < 2 ^ 53) (he : e + f ≤ 1000) : IVC (e + f) (2 * (K * L)) (mulZ a b) (mulK k l) := by
  rw [Nat.two_mul]
  exact ⟨(h.1.mul h'.1 (by omega) he).sub (h.2.mul h'.2 (by omega) he) (by omega) he, (h.1.mul h'.2 (by omega) he).add (h.2.mul h'.1 (by omega) he) (by omega) he⟩
theorem iv_zero (e K : Nat) : IV e K (some 0) 0 := ⟨by simp, 0, ⟨0, rfl, has_zero⟩, by rw [Rat.zero_mul]; rfl⟩
theorem ivc_zero (e K : Nat) : IVC e K z0 (0, 0) := ⟨iv_zero e K, iv_zero e K⟩
theorem ivc_sum {z : Nat → Z} {t : Nat → KK} {e K n : Nat} (h : ∀ i, i < n → IVC e K (z i) (t i)) (hs : n * K < 2 ^ 53) (he : e ≤ 1000) : IVC e (n * K) (sumC z n) (sumK t n) := by
  induction n with
  | zero => exact ivc_zero _ _
  | succ n ih =>
    rw [Nat.succ_mul] at hs ⊢
    have h1 := ih (fun i hi => h i (by omega)) (by omega)
    by_cases h0 : n = 0
    · subst h0
      show IVC e _ (z 0) (addK (0, 0) (t 0))
      rw [zero_addK]
      exact (h 0 (by omega)).mono (by omega)
    · rw [sumC_succ _ h0]
      exact h1.add (h n (by omega)) hs he
/-- The same integer, the same number. -/
theorem IV.eq {e K L : Nat} {a b : Nat} {z z' : Option Nat} {k : Int} (ha : IsF a z) (hb : IsF b z') (h : IV e K z k) (h' : IV e L z' k) : (FloatKind.f64.format.order a b == some .eq) = true := by
  obtain ⟨-, q, hq, e1⟩ := h
  obtain ⟨-, r, hr, e2⟩ := h'
  have : q = r := by
    have h0 := Rat.ne_of_gt (two_pos e)
    have h1 : q * two e = r * two e := by rw [e1, e2]
    have h2 := Rat.mul_inv_cancel _ h0
    calc q = q * two e * (two e)⁻¹ := by rw [Rat.mul_assoc, h2, Rat.mul_one]
      _ = r * two e * (two e)⁻¹ := by rw [h1]
      _ = r := by rw [Rat.mul_assoc, h2, Rat.mul_one]
  subst this
  exact eq_has (Has.of ha hq) (Has.of hb hr)

/-- Sixteenths. -/
def kOf (p : Nat) : Int := (fq p * 16).num
def Sx (p : Nat) : Prop := (kOf p).natAbs ≤ 64 ∧ Has p ((kOf p : Rat) / 16)
def kC (p : C) : KK := (kOf p.1, kOf p.2)
theorem sx_of {p : Nat} {k : Int} (h : k.natAbs ≤ 64) (hp : Has p ((k : Rat) / 16)) : Sx p ∧ kOf p = k := by
  have e : kOf p = k := by
    unfold kOf
    rw [hp.2, Rat.div_mul_cancel (by decide)]
    rfl
  exact ⟨⟨by rw [e]; exact h, by rw [e]; exact hp⟩, e⟩
theorem sx_zero : Sx 0 ∧ kOf 0 = 0 := sx_of (k := 0) (by decide) (by rw [show ((0 : Int) : Rat) / 16 = 0 by decide +kernel]; exact has_zero)
theorem Sx.lt {p : Nat} (h : Sx p) : p < 18446744073709551616 := h.2.lt
theorem Sx.iv {p : Nat} (h : Sx p) : IV 4 64 (cn .f64 p) (kOf p) := by
  have : cn .f64 p = some p := h.2.isF.1
  rw [this]
  exact ⟨h.1, _, h.2.fv, by rw [show two 4 = 16 from rfl]; exact Rat.div_mul_cancel (by decide)⟩
def PlainC (xs : List C) : Prop := ∀ u ∈ xs, Sx u.1 ∧ Sx u.2
theorem PlainC.wf {xs : List C} (h : PlainC xs) : WfC xs := fun u hu => ⟨(h u hu).1.lt, (h u hu).2.lt⟩
theorem plainC_snoc {xs : List C} {p q : Nat} (h : PlainC xs) (hp : Sx p) (hq : Sx q) : PlainC (xs ++ [(p, q)]) := by
  intro u hu
  rcases List.mem_append.1 hu with h1 | h1
  · exact h u h1
  · rw [List.mem_singleton.1 h1]; exact ⟨hp, hq⟩
/-- The numbers of a signal as integers; 0 outside of it. -/
def kAt (xs : List C) (i : Nat) : KK := kC (xs.getD i (0, 0))
theorem kAt_out {xs : List C} {i : Nat} (h : xs.length ≤ i) : kAt xs i = (0, 0) := by
  have : xs.getD i (0, 0) = (0, 0) := by simp [List.getD, List.getElem?_eq_none h]
  unfold kAt kC; rw [this, sx_zero.2]
theorem PlainC.at {xs : List C} (h : PlainC xs) (i : Nat) : IVC 4 64 ((zsOf xs).getD i z0) (kAt xs i) := by
  by_cases hi : i < xs.length
  · rw [zsOf_getD hi]
    have hm : xs.getD i (0, 0) ∈ xs := by simp [List.getD, hi]
    exact ⟨(h _ hm).1.iv, (h _ hm).2.iv⟩
  · rw [kAt_out (by omega), show (zsOf xs).getD i z0 = z0 by simp [List.getD, List.getElem?_eq_none, zsOf_length, Nat.le_of_not_lt hi]]
    exact ivc_zero _ _

/-- The number of a convolution as an integer. -/
def cvK (kx kh : Nat → KK) (n M : Nat) : KK := sumK (fun k => if k ≤ n then mulK (kh k) (kx (n - k)) else (0, 0)) M
/-- Numbers that are sixteenths, and 0 outside. -/
structure Ks (X : List Z) (kx : Nat → KK) : Prop where
  at_ : ∀ i, IVC 4 64 (X.getD i z0) (kx i)
  out : ∀ i, X.length ≤ i → kx i = (0, 0)
theorem PlainC.ks {xs : List C} (h : PlainC xs) : Ks (zsOf xs) (kAt xs) := ⟨h.at, fun i hi => kAt_out (by rwa [zsOf_length] at hi)⟩
theorem cvAt_iv {X H : List Z} {kx kh : Nat → KK} (hx : Ks X kx) (hh : Ks H kh) {n M : Nat} (hn : n < cvLen X.length H.length) (hM : H.length ≤ M) (hb : H.length ≤ 1000) :
    IVC 8 (1000 * 8192) (cvAt X H n) (cvK kx kh n M) := by
  have hlc := cvLo_cnt hn
  have hcb := cvCnt_le X.length H.length n
  have e : cvK kx kh n M = sumK (fun j => mulK (kh (cvLo X.length n + j)) (kx (n - (cvLo X.length n + j)))) (cvCnt X.length H.length n) := by
    unfold cvK
    rw [sumK_window (lo := cvLo X.length n) (c := cvCnt X.length H.length n)]
    · exact sumK_congr fun j hj => if_pos (cvIn hj).2.1
    · intro k hk
      show (if k ≤ n then _ else _) = _
      split
      · rw [hx.out _ (by unfold cvLo at hk; omega), mulK_zero]
      · rfl
    · intro k hk hkM
      show (if k ≤ n then _ else _) = _
      split
      · rw [hh.out _ (by omega), zero_mulK]
      · rfl
    · omega
  rw [e]
  unfold cvAt cvSum
  refine (ivc_sum (e := 8) (K := 8192) (fun j hj => ?_) (by omega) (by omega)).mono (by omega)
  exact ((hh.at_ _).mul (hx.at_ _) (by decide) (by decide))
theorem cvK_comm (kx kh : Nat → KK) (n : Nat) : cvK kx kh n (n + 1) = cvK kh kx n (n + 1) := by
  unfold cvK
  rw [sumK_rev]
  refine sumK_congr fun k hk => ?_
  show (if n - k ≤ n then _ else _) = (if k ≤ n then _ else _)
  rw [if_pos (by omega), if_pos (by omega), mulK_comm, show n - (n - k) = k by omega]
theorem cvK_more {kx kh : Nat → KK} {L : Nat} (h0 : ∀ i, L ≤ i → kh i = (0, 0)) (n M M' : Nat) (hM : L ≤ M ∨ n < M) (hM' : L ≤ M' ∨ n < M') : cvK kx kh n M = cvK kx kh n M' := by
  have aux : ∀ M d, (L ≤ M ∨ n < M) → cvK kx kh n (M + d) = cvK kx kh n M := fun M d hM => by
    unfold cvK
    rw [sumK_split, sumK_zero (t := fun i => if M + i ≤ n then _ else _), addK_zero]
    intro i hi
    show (if M + i ≤ n then _ else _) = _
    split
    · rw [h0 _ (by omega), zero_mulK]
    · rfl
  rcases Nat.le_total M M' with h1 | h1
  · obtain ⟨d, rfl⟩ := Nat.exists_eq_add_of_le h1; exact (aux M d hM).symm
  · obtain ⟨d, rfl⟩ := Nat.exists_eq_add_of_le h1; exact aux M' d hM'

end Go.Proofs.Ytocjhanehphibaa
/-
  P6Plain: a signal of sixteenths.
-/
set_option linter.unusedVariables false
set_option linter.unusedSimpArgs false
namespace Go.Proofs.Ytocjhanehphibaa
open Go.RowKit Flt Fast

theorem has_16 : Has 4625196817309499392 16 := has_int (n := 16) (by decide) (by decide)
/-- A drawn number by sixteen: no draw of its own. -/
theorem sx_run {r : Int} (h0 : 0 ≤ r) (h1 : r ≤ 128) : ∃ d, Sx d ∧ ∀ (P : Program) (t : TypeId) (w : World), (binOp .quo t (.float .f64 (floatOfInt .f64 (r - 64))) (.float .f64 4625196817309499392)).run P w = .ok (.float .f64 d) w := by
  have hF := fv_int_exact (n := r - 64) (by omega)
  have hd : Dy 4 64 (((r - 64 : Int) : Rat) / 16) := ⟨r - 64, by omega, by rw [show two 4 = 16 from rfl]; exact Rat.div_mul_cancel (by decide)⟩
  obtain ⟨d, hd, hr⟩ := run_has (.inr (.inr (.inr rfl))) (hd.fv_div (by omega) (by omega) (by decide) hF has_16.fv)
  exact ⟨d, (sx_of (k := r - 64) (by omega) hd).1, hr⟩

set_option maxRecDepth 100000 in
set_option maxHeartbeats 4000000 in
theorem p6Plain_any (a : Option Addr) (len cap : Nat) (n : Nat) (hn : n ≤ 100) (w : World) (hr : ∃ zs, IsRow .u8 w a len cap zs) :
    Calls Try.prog 7 #[.slice a len cap, .int .i64 n] w fun e w' => ∃ v xs, e = .returned v ∧ Row w' w.heap.size 30 v (cvals xs) ∧ xs.length = n ∧ PlainC xs ∧ Below w.heap.size w w' := by
  obtain ⟨i0, hi, hz0, hz1, hz2⟩ := info_parts info_c128
  have HRR := Lib.hid hr
  obtain ⟨B, hB⟩ : ∃ B, w.heap.size = B := ⟨_, rfl⟩
  have HSRC : Hid (Src w B a len cap 0 (w.alloc (.cells #[.slice a len cap, .int .i64 0, .int .u64 0] 81))) := by rw [← hB]; exact Lib.hid src_new
  have HBB := Lib.hid hB
  clear hr
  go_enter Try.func7, Try.ntmps7
  go_wp2_with (first | (go_at_call 33; go_in))
  clear hB
  go_loopw [6, 7] (fun v k wr => ∃ (m : Nat) (xs : List C) (j : Int), k = .int .i64 m ∧ m ≤ n ∧ xs.length = m ∧ 0 ≤ j ∧ j ≤ 4 * (m : Int) ∧ B + 1 ≤ wr.heap.size ∧ Src w B a len cap j wr ∧ Row wr (B + 1) 30 v (cvals xs) ∧ PlainC xs) (fun _ k _ => n - (intOf k).toNat)
  case atStart =>
    refine ⟨0, [], 0, rfl, Nat.zero_le _, rfl, by omega, by omega, by simp [HBB.out], HSRC.out.alloc _, ?_, by intro u hu; cases hu⟩
    have := World.ownsRow_lit (w.alloc (.cells #[.slice a len cap, .int .i64 0, .int .u64 0] 81)) (e := 30) (base := B + 1) #[] 0 (size := 1) (by simp [HBB.out]) (by unfold maxLen; omega) rfl
    rw [show (w.alloc (.cells #[.slice a len cap, .int .i64 0, .int .u64 0] 81)).heap.size = B + 1 by simp [HBB.out]] at this
    exact this
  case round =>
    clear HSRC
    obtain ⟨m, xs, j, rfl, hm, hx, hj0, hj1, hsz, hs, hrw, hwf⟩ := hrel
    have HX := Lib.hid hx
    have HS := Lib.hid hs
    have HR := Lib.hid hrw
    have HW := Lib.hid hwf
    clear hx hs hrw hwf
    by_cases hlt : m < n
    · go_wp2_with fail
      refine (pick_any w B a len cap HRR.out j (by omega) 129 (by omega) (by omega) _ HS.out).mono ?_
      rintro e w2 ⟨r, j2, r0, r1, rfl, k0, k1, hs2, hg2⟩
      obtain ⟨p, hp, hrun⟩ := sx_run r0 (by omega)
      have HS2 := Lib.hid hs2
      have HG2 := Lib.hid hg2
      have HP := Lib.hid hp
      clear hs2 hg2 hp
      go_wp2_with fail
      clear hrun
      refine (pick_any w B a len cap HRR.out j2 (by omega) 129 (by omega) (by omega) _ HS2.out).mono ?_
      rintro e w4 ⟨r', j4, r0', r1', rfl, k2, k3, hs4, hg4⟩
      obtain ⟨q, hq, hrun⟩ := sx_run r0' (by omega)
      have hg := grown_trans HG2.out hg4
      have hr4 : Row w4 (B + 1) 30 u6 (cvals xs) := HR.out.kept hg (.inr (fun e => by have := (HR.out.lt _ e).1; omega))
      have hz4 : B + 1 ≤ w4.heap.size := Nat.le_trans hsz hg.size
      have hxl : (cvals xs).length = m := by rw [cvals_length, HX.out]
      have HFin : Hid (∀ (w6 : World) v', w6.ownsRow (B + 1) 30 1 v' (m + 1) (cvals xs ++ [.complex .f64 p q]) → (w4.alloc (.cells #[.complex .f64 p q] 30)).grownBy w6 u6.ownBlock →
          B + 1 ≤ w6.heap.size ∧ Src w B a len cap j4 w6 ∧ Row w6 (B + 1) 30 v' (cvals (xs ++ [(p, q)])) ∧ PlainC (xs ++ [(p, q)])) := fun w6 v' hown hgr => by
        refine ⟨by have := hgr.size; simp at *; omega, (hs4.alloc _).other hgr (fun e => ?_) (fun k e => ?_), ?_, plainC_snoc HW.out HP.out hq⟩
        · have := (hr4.lt _ e).1; omega
        · have h1 := (hr4.lt _ e).1; have h2 := hs4.new; omega
        · show w6.ownsRow _ _ _ _ _ _
          rw [cvals_snoc, List.length_append, hxl]
          exact hown
      have HR4 := Lib.hid hr4
      clear hr4 hs4 hg4 hg HR HS HS2 HG2 HP hq
      go_wp2_with (at_builtin; refine wpList_append_own _ rfl _ _ 24 rfl (B + 1) 30 i0 (.complex .f64 0 0) 1 16 Try.underlying24 hi hz0 hz1 hz2 rfl (by decide) _ _ _ rfl (HR4.out.alloc _) ⟨_, 0, none⟩ 1 1 [.complex .f64 p q] rfl rfl (cell_one_new _ _ _) (by intro u hu; simp at hu; subst hu; rfl) (by rw [hxl]; simp only [maxLen]; omega) (by rw [hxl]; omega) (by simp; omega) ?_)
      intro v' w6 hown' hgrow _
      have HE := Lib.hid (HFin.out w6 v' hown' hgrow)
      clear hown' hgrow HR4 HFin hrun hxl
      go_wp2
      go_roundw
      case rel => first | exact ⟨m + 1, xs ++ [(p, q)], j4, by go_num, by omega, by simp [HX.out], by omega, by omega, HE.out⟩ | ((repeat apply Exists.intro); refine ⟨?_, rfl⟩; exact ⟨m + 1, xs ++ [(p, q)], j4, by go_num, by omega, by simp [HX.out], by omega, by omega, HE.out⟩)
      case measure => simp [intOf]; omega
    · have e : m = n := by omega
      subst e
      go_wp2
      go_ret
      exact ⟨_, xs, rfl, HR.out.base (by rw [HBB.out]; omega), HX.out, HW.out, HS.out.below⟩

end Go.Proofs.Ytocjhanehphibaa
/-
  Floats of 32 bits as rational numbers (written by genfs.py out of those of 64 bits). No program.
-/
set_option linter.unusedVariables false
set_option linter.unusedSimpArgs false
namespace Go.Proofs.Ytocjhanehphibaa
open Go Flt
namespace Flt.Nar
open Ieee (single Format Datum signed)

def lps : Nat := 149
theorem lpn_eq : single.leastPlace = -(lps : Int) := by decide
theorem two24 : two 24 = 16777216 := rfl
theorem two23 : two 23 = 8388608 := rfl

/-- What a finite word stands for. -/
def fq (x : Nat) : Rat := (rsv single x : Rat) / two lps
/-- A finite word. -/
def Fin (x : Nat) : Prop := x < 4294967296 ∧ x % 2147483648 < 2139095040
/-- A number that there is. -/
def Rep (q : Rat) : Prop := ∃ x, Fin x ∧ fq x = q

theorem rsv_word (neg : Bool) {r : Nat} (h : r < single.infRung) : rsv single (single.word neg r) = sval single neg r := by
  have hs : single.signWeight = 2147483648 := by decide
  rw [ir32] at h
  unfold rsv Format.word
  rw [hs]
  cases neg
  · simp only [Bool.false_eq_true, if_false]
    have e1 : r / 2147483648 = 0 := Nat.div_eq_of_lt (by omega)
    have e2 : r % 2147483648 = r := Nat.mod_eq_of_lt (by omega)
    rw [e1, e2]
    rfl
  · simp only [if_true]
    have e1 : (2147483648 + r) / 2147483648 = 1 := by omega
    have e2 : (2147483648 + r) % 2147483648 = r := by omega
    rw [e1, e2]
    rfl

theorem fin_word (neg : Bool) {r : Nat} (h : r < single.infRung) : Fin (single.word neg r) := by
  have hs : single.signWeight = 2147483648 := by decide
  rw [ir32] at h
  unfold Fin Format.word
  rw [hs]
  cases neg
  · simp only [Bool.false_eq_true, if_false]; omega
  · simp only [if_true]; omega

theorem word_self' {x : Nat} (h : x < 4294967296) : single.word (x / 2147483648 % 2 == 1) (x % 2147483648) = x := by
  have hs : single.signWeight = 2147483648 := by decide
  unfold Format.word
  rw [hs]
  by_cases h1 : x < 2147483648
  · rw [Nat.div_eq_of_lt h1, Nat.mod_eq_of_lt h1]; rfl
  · have e1 : x / 2147483648 = 1 := by omega
    have e2 : x % 2147483648 = x - 2147483648 := by omega
    rw [e1, e2]
    show 2147483648 + (x - 2147483648) = x
    omega

/-- The value of a rung. -/
def rq (r : Nat) : Rat := (val single r : Rat) / two lps
theorem fq_word (neg : Bool) {r : Nat} (h : r < single.infRung) : fq (single.word neg r) = if neg then -rq r else rq r := by
  unfold fq rq
  rw [rsv_word neg h]
  unfold sval
  cases neg
  · simp only [Bool.false_eq_true, if_false, Rat.intCast_natCast]
  · simp only [if_true, Rat.intCast_neg, Rat.intCast_natCast]
    grind

theorem rq_le {r s : Nat} : rq r ≤ rq s ↔ r ≤ s := by
  unfold rq
  constructor
  · intro h
    have := Rat.natCast_le_natCast.1 (le_of_div (two_pos _) h)
    apply Nat.le_of_not_lt
    intro hc
    have := val_lt single hc
    omega
  · intro h
    exact div_le_div (two_pos _) (Rat.natCast_le_natCast.2 (val_mono h))
theorem rq_zero : rq 0 = 0 := by
  unfold rq; rw [val_zero, Rat.div_def]; simp
theorem rq_nonneg (r : Nat) : 0 ≤ rq r := by rw [← rq_zero]; exact rq_le.2 (Nat.zero_le _)

/-- A word is its sign and its rung. -/
theorem fin_parts {x : Nat} (h : Fin x) : ∃ neg r, r < single.infRung ∧ x = single.word neg r := by
  refine ⟨_, x % 2147483648, ?_, (word_self' h.1).symm⟩
  rw [ir32]; exact h.2

theorem rep_neg {q : Rat} (h : Rep q) : Rep (-q) := by
  obtain ⟨x, hx, rfl⟩ := h
  obtain ⟨neg, r, hr, rfl⟩ := fin_parts hx
  refine ⟨single.word (!neg) r, fin_word _ hr, ?_⟩
  rw [fq_word _ hr, fq_word _ hr]
  cases neg
  · simp
  · simp only [Bool.not_true, Bool.false_eq_true, if_false, if_true]; grind
theorem rep_rq {r : Nat} (h : r < single.infRung) : Rep (rq r) := ⟨single.word false r, fin_word _ h, by rw [fq_word _ h]; rfl⟩
theorem rep_zero : Rep 0 := by rw [← rq_zero]; exact rep_rq (by rw [ir32]; omega)

/-- A number that there is and that is not negative is that of a rung. -/
theorem rep_rung {q : Rat} (h : Rep q) (h0 : 0 ≤ q) : ∃ r, r < single.infRung ∧ rq r = q := by
  obtain ⟨x, hx, rfl⟩ := h
  obtain ⟨neg, r, hr, rfl⟩ := fin_parts hx
  rw [fq_word _ hr] at h0 ⊢
  cases neg
  · exact ⟨r, hr, rfl⟩
  · simp only [if_true] at h0 ⊢
    have := rq_nonneg r
    have e : rq r = 0 := by grind
    exact ⟨0, by rw [ir32]; omega, by rw [rq_zero, e]; grind⟩

/-- How far a rounded number may be from the number. -/
def slack (t : Rat) : Rat := t / two 23 + 1 / two (lps + 1)
def slack' (t : Rat) : Rat := t / two 24 + 1 / two (lps + 1)
/-- r is what t is rounded to: near, and on the same side of each number that there is. -/
structure Rnd (t r : Rat) : Prop where
  rep : Rep r
  up : r - t ≤ slack t ∨ r - t ≤ slack (-t)
  down : t - r ≤ slack t ∨ t - r ≤ slack (-t)
  le : ∀ s, Rep s → t ≤ s → r ≤ s
  ge : ∀ s, Rep s → s ≤ t → s ≤ r

theorem Rnd.neg {t r : Rat} (h : Rnd t r) : Rnd (-t) (-r) := by
  obtain ⟨h0, h1, h2, h3, h4⟩ := h
  refine ⟨rep_neg h0, ?_, ?_, fun s hs hts => ?_, fun s hs hst => ?_⟩
  · rw [Rat.neg_neg]; grind
  · rw [Rat.neg_neg]; grind
  · have := h4 (-s) (rep_neg hs) (by grind)
    grind
  · have := h3 (-s) (rep_neg hs) (by grind)
    grind
theorem Rnd.exact {t r : Rat} (h : Rnd t r) (ht : Rep t) : r = t := Rat.le_antisymm (h.le t ht (Rat.le_refl)) (h.ge t ht (Rat.le_refl))
theorem Rnd.nonneg {t r : Rat} (h : Rnd t r) (ht : 0 ≤ t) : 0 ≤ r := h.ge 0 rep_zero ht

theorem rq_at {b : Nat} (hb : lps ≤ b) (s : Nat) : rq s = ((val single s * 2 ^ (b - lps) : Nat) : Rat) / two b := by
  have e : two b = two lps * two (b - lps) := two_cut hb
  unfold rq
  rw [e, Rat.natCast_mul]
  have h1 := two_pos lps
  have h2 := two_pos (b - lps)
  show _ = _ * two (b - lps) / _
  generalize two (b - lps) = u at *
  generalize two lps = v at *
  generalize ((val single s : Nat) : Rat) = a
  rw [Rat.div_def, Rat.div_def, Rat.inv_mul_rev]
  have := Rat.mul_inv_cancel u (Rat.ne_of_gt h2)
  grind

theorem rung_rnd {m : Nat} {p : Int} {b R : Nat} (hb : lps ≤ b) (hp : -(b : Int) ≤ p) (hR : R < single.infRung) (hB : ((at_ m p (-(b : Int)) : Nat) : Rat) / two b ≤ rq R) :
    rungOf single m p < single.infRung ∧ Rnd (((at_ m p (-(b : Int)) : Nat) : Rat) / two b) (rq (rungOf single m p)) ∧
      rq (rungOf single m p) - ((at_ m p (-(b : Int)) : Nat) : Rat) / two b ≤ slack' (((at_ m p (-(b : Int)) : Nat) : Rat) / two b) ∧
      ((at_ m p (-(b : Int)) : Nat) : Rat) / two b - rq (rungOf single m p) ≤ slack' (((at_ m p (-(b : Int)) : Nat) : Rat) / two b) := by
  have h2 : -(b : Int) ≤ single.leastPlace := by rw [lpn_eq]; omega
  have e : (single.leastPlace - -(b : Int)).toNat = b - lps := by rw [lpn_eq]; omega
  have hle : ∀ s, ((at_ m p (-(b : Int)) : Nat) : Rat) / two b ≤ rq s → rungOf single m p ≤ s := fun s hs => by
    rw [rq_at hb, cast_le_div] at hs
    exact rung_le hp h2 (by rw [e]; exact hs)
  have hge : ∀ s, s < single.infRung → rq s ≤ ((at_ m p (-(b : Int)) : Nat) : Rat) / two b → s ≤ rungOf single m p := fun s hi hs => by
    rw [rq_at hb, cast_le_div] at hs
    exact le_rung hp h2 (Nat.le_of_lt hi) (by rw [e]; exact hs)
  have hlt : rungOf single m p < single.infRung := Nat.lt_of_le_of_lt (hle R hB) hR
  have ht0 : 0 ≤ ((at_ m p (-(b : Int)) : Nat) : Rat) / two b := by
    have := div_le_div (two_pos b) (Rat.natCast_nonneg (a := at_ m p (-(b : Int))))
    rwa [Rat.div_def, Rat.zero_mul] at this
  have near : rq (rungOf single m p) - ((at_ m p (-(b : Int)) : Nat) : Rat) / two b ≤ slack' (((at_ m p (-(b : Int)) : Nat) : Rat) / two b) ∧
      ((at_ m p (-(b : Int)) : Nat) : Rat) / two b - rq (rungOf single m p) ≤ slack' (((at_ m p (-(b : Int)) : Nat) : Rat) / two b) := by
    by_cases hm : m = 0
    · have e1 : rungOf single m p = 0 := by unfold rungOf; rw [if_pos hm]
      have e2 : at_ m p (-(b : Int)) = 0 := by unfold at_; rw [hm, Nat.zero_mul]
      have e3 : ((0 : Nat) : Rat) / two b = 0 := by rw [Rat.div_def]; exact Rat.zero_mul _
      have e4 : (0 : Rat) ≤ 1 / two (lps + 1) := by
        have := div_le_div (two_pos (lps + 1)) (show (0 : Rat) ≤ 1 by decide)
        rwa [Rat.div_def, Rat.zero_mul] at this
      rw [e1, e2, rq_zero, e3]
      unfold slack'
      rw [show (0 : Rat) / two 24 = 0 by rw [Rat.div_def]; exact Rat.zero_mul _]
      constructor <;> grind
    · obtain ⟨L, k, hr, hq, hk, k1, k2, hbig⟩ := rung_spec (f := single) hm hp h2
      have hr' : rungOf single m p = L * single.binade + k := by omega
      have hv : val single (rungOf single m p) = k * 2 ^ L := by rw [hr']; exact val_of hq hk
      rw [rq_at hb, hv]
      rw [e] at k1 k2 hbig
      have hbin : single.binade = 8388608 := by decide
      rw [hbin] at hbig
      clear hle hge hr hr' hv hq hk hB
      generalize hM : at_ m p (-(b : Int)) = M at *
      have hW : L = 0 → 2 ^ L * 2 ^ (b - lps) = 2 ^ (b - lps) := fun h => by rw [h]; simp
      have e5 : k * 2 ^ L * 2 ^ (b - lps) = k * (2 ^ L * 2 ^ (b - lps)) := Nat.mul_assoc _ _ _
      rw [e5]
      generalize 2 ^ L * 2 ^ (b - lps) = W at *
      have e6 : two b = two lps * two (b - lps) := two_cut hb
      have e7 : two (lps + 1) = two lps * 2 := by rw [two_add]; rfl
      have c1 : ∀ a : Nat, ((2 * a : Nat) : Rat) = 2 * (a : Rat) := fun a => by rw [Rat.natCast_mul]; rfl
      have q1 : (2 : Rat) * ((k * W : Nat) : Rat) ≤ 2 * (M : Rat) + (W : Rat) := by
        have := Rat.natCast_le_natCast.2 k1
        rw [Nat.mul_assoc 2 k W, c1, Rat.natCast_add, c1] at this
        exact this
      have q2 : (2 : Rat) * (M : Rat) ≤ 2 * ((k * W : Nat) : Rat) + (W : Rat) := by
        have := Rat.natCast_le_natCast.2 k2
        rw [Nat.add_mul, Nat.one_mul, Nat.mul_assoc 2 k W, c1, Rat.natCast_add, c1] at this
        exact this
      have hbp := two_pos b
      have hlp := two_pos lps
      have hup := two_pos (b - lps)
      -- the unit
      have key : (W : Rat) * (two b)⁻¹ ≤ 2 * slack' ((M : Rat) / two b) := by
        have hM0 : 0 ≤ (M : Rat) * (two b)⁻¹ := Rat.mul_nonneg Rat.natCast_nonneg (Rat.le_of_lt (Rat.inv_pos.2 hbp))
        unfold slack'
        rw [two24, e7, Rat.div_def (M : Rat)]
        by_cases hL : L = 0
        · rw [hW hL]
          have e8 : ((2 ^ (b - lps) : Nat) : Rat) * (two b)⁻¹ = (two lps)⁻¹ := by
            rw [e6]
            show two (b - lps) * _ = _
            have := Rat.mul_inv_cancel _ (Rat.ne_of_gt hup)
            rw [Rat.inv_mul_rev]
            grind
          rw [e8]
          have : 1 / (two lps * 2) = (two lps)⁻¹ / 2 := by rw [Rat.div_def, Rat.inv_mul_rev]; grind
          rw [this]
          grind
        · have q3 := Rat.natCast_le_natCast.2 (hbig hL)
          rw [Rat.natCast_mul] at q3
          have q4 := Rat.mul_le_mul_of_nonneg_right q3 (Rat.le_of_lt (Rat.inv_pos.2 hbp))
          have q5 : 0 ≤ 1 / (two lps * 2) := by
            rw [Rat.div_def]
            exact Rat.mul_nonneg (by decide) (Rat.le_of_lt (Rat.inv_pos.2 (Rat.mul_pos hlp (by decide))))
          have q6 : ((8388608 : Nat) : Rat) = 8388608 := rfl
          rw [q6] at q4
          grind
      have hi : 0 ≤ (two b)⁻¹ := Rat.le_of_lt (Rat.inv_pos.2 hbp)
      have q3 := Rat.mul_le_mul_of_nonneg_right q1 hi
      have q4 := Rat.mul_le_mul_of_nonneg_right q2 hi
      generalize hS : slack' ((M : Rat) / two b) = S at *
      rw [Rat.div_def, Rat.div_def]
      generalize (two b)⁻¹ = c at *
      constructor <;> grind
  have hss : slack' (((at_ m p (-(b : Int)) : Nat) : Rat) / two b) ≤ slack (((at_ m p (-(b : Int)) : Nat) : Rat) / two b) := by
    unfold slack slack'
    rw [two23, two24]
    grind
  refine ⟨hlt, ⟨rep_rq hlt, .inl (Rat.le_trans near.1 hss), .inl (Rat.le_trans near.2 hss), fun s hs hts => ?_, fun s hs hst => ?_⟩, near.1, near.2⟩
  · obtain ⟨r, hr, rfl⟩ := rep_rung hs (Rat.le_trans ht0 hts)
    exact rq_le.2 (hle r hts)
  · by_cases h0 : 0 ≤ s
    · obtain ⟨r, hr, rfl⟩ := rep_rung hs h0
      exact rq_le.2 (hge r hr hst)
    · exact Rat.le_trans (Rat.le_of_lt (Rat.not_le.1 h0)) (rq_nonneg _)

/-- The least that is lost. -/
def tiny : Rat := 1 / two (lps + 1)
theorem Rnd.near {t r B : Rat} (h : Rnd t r) (hb : Size t B) : Near r t (B / two 23 + tiny) := by
  obtain ⟨h0, h1, h2, -, -⟩ := h
  obtain ⟨b1, b2⟩ := hb
  have hp : (0 : Rat) < two 23 := two_pos 52
  have s1 : slack t ≤ B / two 23 + tiny := by
    have := div_le_div hp b1
    unfold slack tiny; grind
  have s2 : slack (-t) ≤ B / two 23 + tiny := by
    have := div_le_div hp b2
    unfold slack tiny; grind
  constructor
  · rcases h1 with h | h <;> exact Rat.le_trans h (by assumption)
  · rcases h2 with h | h <;> exact Rat.le_trans h (by assumption)

/-- A number of a datum, in units of the last place. -/
def dq (neg : Bool) (m : Nat) (p : Int) : Rat := (signed neg m (p + lps).toNat : Rat) / two lps

theorem read_dq {x : Nat} (h : Fin x) : ∃ s m p, single.read x = .number s m p ∧ -(lps : Int) ≤ p ∧ fq x = dq s m p := by
  have hs : single.signWeight = 2147483648 := by decide
  obtain ⟨m, p, e, l, v⟩ := read_fin single (x := x) (by rw [hs, ir32]; exact h.2)
  rw [lpn_eq] at l v
  refine ⟨_, m, p, e, l, ?_⟩
  unfold fq dq rsv sval
  rw [signed_eq, show p + (lps : Int) = p - -(lps : Int) by omega, v]

theorem dq_neg (s : Bool) (m : Nat) (p : Int) : dq (!s) m p = -dq s m p := by
  unfold dq
  rw [signed_eq, signed_eq]
  cases s
  · simp only [Bool.not_false, if_true, Bool.false_eq_true, if_false, Rat.intCast_neg]; grind
  · simp only [Bool.not_true, if_true, Bool.false_eq_true, if_false, Rat.intCast_neg]; grind

/-- What is written of a number. -/
theorem write_rnd {neg : Bool} {m : Nat} {p : Int} {b R : Nat} {t : Rat} (hb : lps ≤ b) (hp : -(b : Int) ≤ p) (hR : R < single.infRung)
    (ht : t = (if neg then -(((at_ m p (-(b : Int)) : Nat) : Rat) / two b) else ((at_ m p (-(b : Int)) : Nat) : Rat) / two b)) (hB : Size t (rq R)) :
    Fin (single.nearest neg m p) ∧ Rnd t (fq (single.nearest neg m p)) := by
  have hB' : ((at_ m p (-(b : Int)) : Nat) : Rat) / two b ≤ rq R := by
    obtain ⟨b1, b2⟩ := hB
    cases neg
    · rw [ht] at b1; exact b1
    · rw [ht] at b2
      simp only [if_true, Rat.neg_neg] at b2
      exact b2
  obtain ⟨h1, h2, -, -⟩ := rung_rnd hb hp hR hB'
  rw [nearest_rung]
  refine ⟨fin_word _ h1, ?_⟩
  rw [fq_word _ h1, ht]
  cases neg
  · exact h2
  · exact h2.neg

/-- A sum of two data. -/
theorem sum_rnd {s t : Bool} {m n : Nat} {i j : Int} {R : Nat} (hi : -(lps : Int) ≤ i) (hj : -(lps : Int) ≤ j) (hR : R < single.infRung) (hB : Size (dq s m i + dq t n j) (rq R)) :
    ∃ r, ((Datum.number s m i).sum (.number t n j)).map single.write = some r ∧ Fin r ∧ Rnd (dq s m i + dq t n j) (fq r) := by
  simp only [Datum.sum, Option.map_some, Format.write]
  obtain ⟨b, hb⟩ : ∃ b, min i j = b := ⟨_, rfl⟩
  rw [hb]
  have hbl : -(lps : Int) ≤ b := by omega
  have e1 : signed s m (i + lps).toNat = signed s m (i - b).toNat * (2 ^ (b + lps).toNat : Nat) := by
    rw [← signed_scale]; congr 1; omega
  have e2 : signed t n (j + lps).toNat = signed t n (j - b).toNat * (2 ^ (b + lps).toNat : Nat) := by
    rw [← signed_scale]; congr 1; omega
  have hq : dq s m i + dq t n j = (((signed s m (i - b).toNat + signed t n (j - b).toNat) * (2 ^ (b + lps).toNat : Nat) : Int) : Rat) / two lps := by
    unfold dq
    rw [e1, e2, Int.add_mul, Rat.intCast_add]
    generalize ((signed s m (i - b).toNat * (2 ^ (b + lps).toNat : Nat) : Int) : Rat) = x
    generalize ((signed t n (j - b).toNat * (2 ^ (b + lps).toNat : Nat) : Int) : Rat) = y
    grind
  rw [hq] at hB ⊢
  generalize signed s m (i - b).toNat + signed t n (j - b).toNat = T at *
  clear e1 e2 hq hb
  refine ⟨_, rfl, write_rnd (b := lps) (Nat.le_refl _) hbl hR ?_ hB⟩
  have ea : at_ T.natAbs b (-(lps : Int)) = T.natAbs * 2 ^ (b + lps).toNat := by
    unfold at_; congr 2; try omega
  rw [ea]
  by_cases h0 : T = 0
  · subst h0
    rw [if_pos rfl]
    have e0 : ((((0 : Int) * (2 ^ (b + lps).toNat : Nat) : Int)) : Rat) / two lps = 0 := by
      rw [Int.zero_mul, Rat.div_def]; exact Rat.zero_mul _
    have e1 : (((Int.natAbs 0 * 2 ^ (b + lps).toNat : Nat)) : Rat) / two lps = 0 := by
      rw [show Int.natAbs 0 = 0 from rfl, Nat.zero_mul, Rat.div_def]; exact Rat.zero_mul _
    rw [e0, e1]
    split <;> grind
  · rw [if_neg h0]
    by_cases hn : T < 0
    · rw [decide_eq_true hn, if_pos rfl]
      obtain ⟨k, hk⟩ : ∃ k : Nat, T = -(k : Int) := ⟨T.natAbs, by omega⟩
      subst hk
      rw [show (-(k : Int)).natAbs = k by omega, Int.neg_mul, Rat.intCast_neg, ← Int.natCast_mul, Rat.intCast_natCast]
      grind
    · rw [decide_eq_false hn]
      simp only [Bool.false_eq_true, if_false]
      obtain ⟨k, hk⟩ : ∃ k : Nat, T = (k : Int) := ⟨T.natAbs, by omega⟩
      subst hk
      rw [show ((k : Int)).natAbs = k by omega, ← Int.natCast_mul, Rat.intCast_natCast]

theorem add_rnd {x y R : Nat} (hx : Fin x) (hy : Fin y) (hR : R < single.infRung) (hB : Size (fq x + fq y) (rq R)) :
    ∃ r, single.add x y = some r ∧ Fin r ∧ Rnd (fq x + fq y) (fq r) := by
  obtain ⟨s, m, i, e1, l1, v1⟩ := read_dq hx
  obtain ⟨t, n, j, e2, l2, v2⟩ := read_dq hy
  unfold Format.add
  rw [v1, v2] at hB ⊢
  rw [e1, e2]
  exact sum_rnd l1 l2 hR hB
theorem sub_rnd {x y R : Nat} (hx : Fin x) (hy : Fin y) (hR : R < single.infRung) (hB : Size (fq x - fq y) (rq R)) :
    ∃ r, single.sub x y = some r ∧ Fin r ∧ Rnd (fq x - fq y) (fq r) := by
  obtain ⟨s, m, i, e1, l1, v1⟩ := read_dq hx
  obtain ⟨t, n, j, e2, l2, v2⟩ := read_dq hy
  unfold Format.sub
  have e : fq x - fq y = dq s m i + dq (!t) n j := by rw [v1, v2, dq_neg]; grind
  rw [e] at hB ⊢
  rw [e1, e2]
  exact sum_rnd l1 l2 hR hB

theorem dq_abs (s : Bool) (m : Nat) (p : Int) : dq s m p = if s then -(((m * 2 ^ (p + lps).toNat : Nat) : Rat) / two lps) else ((m * 2 ^ (p + lps).toNat : Nat) : Rat) / two lps := by
  unfold dq
  rw [signed_eq]
  cases s
  · simp only [Bool.false_eq_true, if_false, Rat.intCast_natCast]
  · simp only [if_true, Rat.intCast_neg, Rat.intCast_natCast]; grind

theorem mul_rnd {x y R : Nat} (hx : Fin x) (hy : Fin y) (hR : R < single.infRung) (hB : Size (fq x * fq y) (rq R)) :
    ∃ r, single.mul x y = some r ∧ Fin r ∧ Rnd (fq x * fq y) (fq r) := by
  obtain ⟨s, m, i, e1, l1, v1⟩ := read_dq hx
  obtain ⟨t, n, j, e2, l2, v2⟩ := read_dq hy
  unfold Format.mul
  rw [e1, e2]
  simp only [Datum.product, Option.map_some, Format.write]
  refine ⟨_, rfl, write_rnd (b := lps + lps) (by omega) (by omega) hR ?_ hB⟩
  have ea : at_ (m * n) (i + j) (-((lps + lps : Nat) : Int)) = (m * 2 ^ (i + lps).toNat) * (n * 2 ^ (j + lps).toNat) := by
    unfold at_
    rw [Nat.mul_mul_mul_comm, ← Nat.pow_add]
    congr 2; omega
  rw [ea, v1, v2, dq_abs, dq_abs, two_add, Rat.natCast_mul (m * 2 ^ (i + lps).toNat) (n * 2 ^ (j + lps).toNat)]
  generalize ((m * 2 ^ (i + lps).toNat : Nat) : Rat) = a
  generalize ((n * 2 ^ (j + lps).toNat : Nat) : Rat) = c
  have hl := Rat.mul_inv_cancel _ (Rat.ne_of_gt (two_pos lps))
  have e : a * c / (two lps * two lps) = (a / two lps) * (c / two lps) := by
    rw [Rat.div_def, Rat.div_def, Rat.div_def, Rat.inv_mul_rev]; grind
  rw [e]
  generalize a / two lps = a
  generalize c / two lps = c
  cases s <;> cases t <;> simp only [Bool.xor_false, Bool.xor_true, Bool.not_true, Bool.not_false, Bool.false_eq_true, if_true, if_false] <;> grind

/-- How two finite words stand. -/
theorem order_q {x y : Nat} (hx : Fin x) (hy : Fin y) : single.order x y = some (compare (rsv single x) (rsv single y)) := by
  have hs : single.signWeight = 2147483648 := by decide
  rw [order_fin single (x := x) (y := y) (by rw [hs, ir32]; exact hx.2) (by rw [hs, ir32]; exact hy.2), place_eq, place_eq, ← compare_sval]
  rfl
theorem fq_lt {x y : Nat} : fq x < fq y ↔ rsv single x < rsv single y := by
  have h : ∀ a b : Nat, fq a ≤ fq b ↔ rsv single a ≤ rsv single b := fun a b =>
    ⟨fun h => Rat.intCast_le_intCast.1 (le_of_div (two_pos _) h), fun h => div_le_div (two_pos _) (Rat.intCast_le_intCast.2 h)⟩
  rw [← Rat.not_le, h]; omega
theorem order_lt {x y : Nat} (hx : Fin x) (hy : Fin y) (h : fq x < fq y) : single.order x y = some .lt := by
  rw [order_q hx hy, Int.compare_eq_lt.2 (fq_lt.1 h)]
theorem order_gt {x y : Nat} (hx : Fin x) (hy : Fin y) (h : fq y < fq x) : single.order x y = some .gt := by
  rw [order_q hx hy, Int.compare_eq_gt.2 (fq_lt.1 h)]
theorem order_eq_q {x y : Nat} (hx : Fin x) (hy : Fin y) (h : fq x = fq y) : single.order x y = some .eq := by
  have h1 : ¬ rsv single x < rsv single y := fun k => by have := fq_lt.2 k; rw [h] at this; exact Rat.lt_irrefl this
  have h2 : ¬ rsv single y < rsv single x := fun k => by have := fq_lt.2 k; rw [h] at this; exact Rat.lt_irrefl this
  rw [order_q hx hy, Int.compare_eq_eq.2 (by omega)]

end Flt.Nar
end Go.Proofs.Ytocjhanehphibaa
/-
  Conversions between both widths. No program.
-/
set_option linter.unusedVariables false
set_option linter.unusedSimpArgs false
namespace Go.Proofs.Ytocjhanehphibaa
open Go Flt
namespace Flt.Nar
open Ieee (double single Format Datum signed)

/-- A rung that is great enough for all that is narrowed. -/
def bigR : Nat := 1904214016
theorem bigR_lt : bigR < single.infRung := by rw [ir32]; decide
theorem bigR_q : rq bigR = two 100 := by
  have h := rung_of (f := single) (k := 1) (q := lps + 100) (by decide) (by decide) (by
    have : single.fractionBits = 23 := by decide
    rw [this]; unfold lps; omega)
  have e1 : (1 : Nat).log2 = 0 := by decide
  have e2 : single.fractionBits = 23 := by decide
  have e3 : single.binade = 8388608 := by decide
  rw [e1, e2, e3] at h
  have e4 : (lps + 100 + 0 - 23) * 8388608 + 1 * 2 ^ (23 - 0) = bigR := by unfold lps bigR; decide
  rw [e4] at h
  unfold rq
  rw [h, Nat.one_mul, ← two_nat, Nat.add_comm, two_add]
  rw [Rat.div_def, Rat.mul_assoc, Rat.mul_inv_cancel _ (Rat.ne_of_gt (two_pos lps)), Rat.mul_one]

/-- A wide number that is narrowed. -/
theorem narrow_rnd {x : Nat} (hx : Flt.Fin x) (hB : Size (Flt.fq x) (two 100)) :
    ∃ u, floatToFloatBits .f64 x .f32 = some u ∧ Fin u ∧ Rnd (Flt.fq x) (fq u) := by
  obtain ⟨s, m, p, e, l, v⟩ := Flt.read_dq hx
  have hb : lps ≤ lpn := by unfold lps lpn; omega
  have ea : at_ m p (-(lpn : Int)) = m * 2 ^ (p + lpn).toNat := by unfold at_; congr 2; try omega
  obtain ⟨h1, h2⟩ := write_rnd (neg := s) (m := m) (p := p) (b := lpn) (R := bigR) (t := Flt.fq x) hb l bigR_lt (by rw [v, Flt.dq_abs, ea]) (by rw [bigR_q]; exact hB)
  refine ⟨single.nearest s m p, ?_, h1, h2⟩
  obtain ⟨s', m', p', e', -, -⟩ := read_dq h1
  unfold floatToFloatBits
  rw [if_neg (by decide)]
  have d1 : FloatKind.f64.decode x = .number s m p := e
  rw [d1]
  have d2 : FloatKind.f32.encode (.number s m p) = single.nearest s m p := rfl
  simp only [d2]
  have d3 : FloatKind.f32.decode (single.nearest s m p) = .number s' m' p' := e'
  rw [d3]
  rfl

/-- A narrow number that is widened keeps its value. -/
theorem widen_fq {u : Nat} (hu : Fin u) : ∃ x, floatToFloatBits .f32 u .f64 = some x ∧ Flt.Fin x ∧ Flt.fq x = fq u := by
  obtain ⟨r, h1, h2, h3⟩ := widen_fin hu.2
  have h1' : r < double.infRung := by rw [ir64]; exact h1
  refine ⟨_, h3, Flt.fin_word _ h1', ?_⟩
  rw [Flt.fq_word _ h1']
  have e1 : Flt.rq r = (val single (u % 2147483648) : Rat) / two lps := by
    unfold Flt.rq
    rw [h2, Rat.natCast_mul]
    have hs : two lpn = two lps * two wideUp := by rw [← two_add]; rfl
    rw [hs]
    show _ * two wideUp / _ = _
    have c1 := Rat.mul_inv_cancel _ (Rat.ne_of_gt (two_pos wideUp))
    have c2 := Rat.mul_inv_cancel _ (Rat.ne_of_gt (two_pos lps))
    rw [Rat.div_def, Rat.div_def, Rat.inv_mul_rev]; grind
  rw [e1]
  have hsw : single.signWeight = 2147483648 := by decide
  unfold fq rsv sval
  rw [hsw]
  split
  · rw [Rat.intCast_neg, Rat.intCast_natCast]; rw [Rat.div_def, Rat.div_def]; grind
  · rw [Rat.intCast_natCast]

theorem rep_nat {k e : Nat} (hk : k < 2 ^ 24) (he : e ≤ 100) {q : Rat} (h : q * two e = (k : Rat)) : Rep q := by
  have hl : e ≤ lps := by unfold lps; omega
  by_cases h0 : k = 0
  · have : q = 0 := by
      have h1 : q * two e = 0 := by rw [h, h0]; rfl
      rcases Rat.mul_eq_zero.1 h1 with h | h
      · exact h
      · exact absurd h (Rat.ne_of_gt (two_pos e))
    rw [this]; exact rep_zero
  · have e2 : single.fractionBits = 23 := by decide
    have e3 : single.binade = 8388608 := by decide
    have hl53 : k.log2 < 24 := (Nat.log2_lt h0).2 hk
    have hv := rung_of (f := single) (k := k) (q := lps - e) h0 (by rw [e3]; omega) (by rw [e2]; unfold lps; omega)
    rw [e2, e3] at hv
    have hhi := Nat.lt_log2_self (n := k)
    have h53 : k * 2 ^ (23 - k.log2) ≤ 2 ^ (k.log2 + 1) * 2 ^ (23 - k.log2) := Nat.mul_le_mul_right _ (Nat.le_of_lt hhi)
    rw [← Nat.pow_add, show k.log2 + 1 + (23 - k.log2) = 24 by omega] at h53
    have hlt : (lps - e + k.log2 - 23) * 8388608 + k * 2 ^ (23 - k.log2) < single.infRung := by
      rw [ir32]
      have : lps - e + k.log2 - 23 ≤ 150 := by unfold lps; omega
      omega
    have hr := rep_rq hlt
    have : rq ((lps - e + k.log2 - 23) * 8388608 + k * 2 ^ (23 - k.log2)) = q := by
      have hs : two lps = two e * two (lps - e) := two_cut hl
      unfold rq
      rw [hv, Rat.natCast_mul, ← h, hs]
      show q * two e * two (lps - e) / (two e * two (lps - e)) = q
      have h1 := Rat.mul_inv_cancel _ (Rat.ne_of_gt (two_pos e))
      have h2 := Rat.mul_inv_cancel _ (Rat.ne_of_gt (two_pos (lps - e)))
      rw [Rat.div_def, Rat.inv_mul_rev]; grind
    rw [this] at hr
    exact hr
theorem rep_int {k : Int} {e : Nat} (hk : k.natAbs < 2 ^ 24) (he : e ≤ 100) {q : Rat} (h : q * two e = (k : Rat)) : Rep q := by
  by_cases h0 : 0 ≤ k
  · obtain ⟨n, rfl⟩ : ∃ n : Nat, k = (n : Int) := ⟨k.natAbs, by omega⟩
    exact rep_nat (k := n) (by omega) he (by rw [h, Rat.intCast_natCast])
  · obtain ⟨n, rfl⟩ : ∃ n : Nat, k = -(n : Int) := ⟨k.natAbs, by omega⟩
    have := rep_neg (rep_nat (k := n) (q := -q) (by omega) he (by rw [Rat.intCast_neg, Rat.intCast_natCast] at h; grind))
    rwa [Rat.neg_neg] at this

end Flt.Nar
end Go.Proofs.Ytocjhanehphibaa
/-
  A range over a function whose rounds come in a told order: the body may know which one comes next.
-/
set_option linter.unusedVariables false
set_option linter.unusedSimpArgs false
namespace Go.Proofs.Ytocjhanehphibaa
open Go Go.RowKit

/-- What comes: states, the steps with what yield is handed, and silent steps. -/
structure Told (σ α : Type) where
  encs : α → Array Value
  step : σ → α → σ → Prop
  silent : σ → σ → Prop
  start : σ
  last : σ

/-- An iterator hands yield what is told, in the told order, to its end or until a round says that it is enough. -/
def Tells {σ α : Type} (F : Fence) (n : Nat) (P : Program) (g : Nat) (lb : Array Value) (T : Told σ α) (Kp : World → World → Prop) (w : World) : Prop :=
  ∀ (l : Nat) (J Jx : σ → World → Prop) (W : World), Below w.heap.size w W → AbidesFrom W.heap.size J → AbidesFrom W.heap.size Jx →
    (∀ s s' W1, J s W1 → T.silent s s' → J s' W1) →
    (∀ s x s' W1, J s W1 → T.step s x s' → YieldAt F (n - 1) P l (T.encs x) W1 fun e W' =>
      (e = .returned (.bool true) ∧ J s' W' ∧ Kp W1 W') ∨ (e = .returned (.bool false) ∧ Jx s' W')) →
    J T.start W →
    CallsIn F n P g (#[.func (.yield l) #[] #[]] ++ lb) W fun e W' => (∃ v, e = .returned v) ∧ (J T.last W' ∨ ∃ s, Jx s W')

/-- How a round's body may be left. -/
def LeavesAt {σ : Type} (B : Nat) (Kp : World → World → Prop) (I : σ → World → Prop) (Ix : Code → σ → World → Prop) (s : σ) (W : World) : Exit → Act → World → Prop
  | .normal, _, W' => KeepsFrom B W W' ∧ Kp W W' ∧ I s W'
  | .panic _, _, _ => False
  | .outgrown, _, _ => False
  | .ret, _, W' => KeepsFrom B W W' ∧ Ix .ret s W'
  | .exit id, _, W' => KeepsFrom B W W' ∧ Ix (.exit id) s W'
  | .goto t, _, W' => KeepsFrom B W W' ∧ Ix (.goto t) s W'

section
variable {F : Fence} {n : Nat} {P : Program} {σ α : Type}

/-- The law: a loop over such an iterator, in a function of its own (no round of another loop). -/
theorem wpIn_range_told {g : Operand} {ps : Array Tmp} {assign body : Code} {Q : Exit → Act → World → Prop} {a : Act} {w w0 : World} {gf : Nat} {lb : Array Value} {T : Told σ α} {Kp : World → World → Prop}
    (hro : F.round = none) (h1 : 1 ≤ n) (hg : a.eval g = .func (.func gf) #[] lb) (hFg : F.fn gf) (eg : ∀ args w, (callFunc gf args).run P w = .ok (.enter gf args) w)
    (hT : Tells F (n - 1) P gf lb T Kp w0) (hb0 : Below w0.heap.size w0 w)
    (hKt : ∀ {A B C : World}, Kp A B → Kp B C → Kp A C) (hKb : ∀ (W : World) (l : Nat) (o o' : Obj), w.heap.size ≤ l → W.heap[l]? = some o → o.isCells = false → o.isWalk = false → Kp W (W.putObj l o'))
    (hps : ∀ x, (T.encs x).size = ps.size)
    (I : σ → World → Prop) (Ix : Code → σ → World → Prop) (hI : OwnFrom w.heap.size I) (hIx : ∀ c, OwnFrom w.heap.size (Ix c)) (hs : ∀ s s' W, I s W → T.silent s s' → I s' W) (h0 : I T.start w) (a₁ : α → Act)
    (hassign : ∀ (l : Nat) (x : α) (W : World) (K : Act → World → Prop), K (a₁ x) W →
      assign.wpIn (F.inRound l) (n - 1 - 1) P (Exit.then K (fun _ _ _ => False)) { tmps := (ps.zip (T.encs x)).foldl (fun t (p, v) => t.setIfInBounds p v) a.tmps, defers := [] } W)
    (hbody : ∀ (l : Nat) (s s' : σ) (x : α) (W : World), I s W → T.step s x s' → body.wpIn (F.inRound l) (n - 1 - 1) P (LeavesAt w.heap.size Kp I Ix s' W) (a₁ x) W)
    (hdone : ∀ (D : Nat) (W : World), w.heap.size ≤ D → I T.last W → W.heap[D]? = some (.deferred (some [])) → Q .normal { a with defers := { target := .collected D, args := #[] } :: a.defers } W)
    (hstop : ∀ (D : Nat) (c : Code) (s : σ) (W : World), w.heap.size ≤ D → Ix c s W → W.heap[D]? = some (.deferred (some [])) → c.wpIn F n P Q { a with defers := { target := .collected D, args := #[] } :: a.defers } W) :
    (Code.rangeFunc g ps assign body).wpIn F n P Q a w := by
  refine wpIn_rangeFunc fun fn hfn => ?_
  rw [hro]
  -- the record, with its state and what is pending
  let rec' : LoopState → Option Code → Loop := fun st pe => { state := st, pending := pe, fn, tmps := a.tmps, params := ps, assign, body, defers := w.heap.size }
  obtain ⟨recd, hrecd⟩ : ∃ r, r = rec' := ⟨_, rfl⟩
  have hp : ∀ st pe, (recd st pe).params = ps := fun st pe => by rw [hrecd]
  obtain ⟨M, hM⟩ : ∃ M, M = w.heap.size := ⟨_, rfl⟩
  let Book : LoopState → Option Code → World → Prop := fun st pe W => W.heap[M + 1]? = some (.loop (recd st pe)) ∧ W.heap[M]? = some (.deferred (some []))
  obtain ⟨W1, hW1⟩ : ∃ W1, W1 = (w.alloc (.deferred (some []))).alloc (.loop (recd .ready none)) := ⟨_, rfl⟩
  have hsz : W1.heap.size = M + 2 := by rw [hW1, hM]; simp
  have hbook : Book .ready none W1 := by
    constructor
    · have := World.alloc_heap_new (w.alloc (.deferred (some []))) (.loop (recd .ready none))
      rw [World.size_alloc] at this
      rw [hW1, hM]; exact this
    · rw [hW1, hM]; exact (Below.heap_alloc _ _ _ (by simp)).trans (World.alloc_heap_new w _)
  -- a block of the iterator's own is none of ours
  have ours : ∀ {A B : World} {row : Option Nat}, (∀ r, row = some r → W1.heap.size ≤ r ∧ ∃ o : Obj, A.heap[r]? = some o ∧ o.isWalk = true) → ∀ r, row = some r → w.heap.size ≤ r ∧ ∃ o : Obj, A.heap[r]? = some o ∧ o.isCells = false := fun h r e => by
    obtain ⟨h1, o, ho, hw⟩ := h r e
    exact ⟨by omega, o, ho, Obj.not_cells_of_walk hw⟩
  have book_kept : ∀ {A B : World} {row : Option Nat} {st : LoopState} {pe : Option Code}, Book st pe A → A.grownBy B row → (∀ r, row = some r → W1.heap.size ≤ r ∧ ∃ o : Obj, A.heap[r]? = some o ∧ o.isWalk = true) → Book st pe B := fun h hg hr =>
    ⟨(grownBy_keeps hg (fun r e => (hr r e).2) h.1 rfl).trans h.1, (grownBy_keeps hg (fun r e => (hr r e).2) h.2 rfl).trans h.2⟩
  -- the record turns
  have turn : ∀ {W : World} {st : LoopState} {pe : Option Code} (st' : LoopState) (pe' : Option Code), Book st pe W → Book st' pe' (W.putObj (M + 1) (.loop (recd st' pe'))) := fun st' pe' h =>
    ⟨World.putObj_heap_same (Array.getElem?_eq_some_iff.1 h.1).1, (World.putObj_heap_other (by omega)).trans h.2⟩
  refine ⟨M + 1, [{ target := .collected M, args := #[] }], W1, { target := .fn (.func gf) lb, args := #[.func (.yield (M + 1)) #[] #[]] }, W1, gf, #[.func (.yield (M + 1)) #[] #[]] ++ lb, W1, ?_, ?_, ?_, ?_, fun _ => h1, ?_⟩
  · rw [hW1, hM, hrecd]; exact run_enterLoop_outer _ _ _ _ _
  · simp only [resolve, hg]
    simp [go_sem]
  · intro f' hf'; simp [Target.leads] at hf'; subst hf'; exact hFg
  · simp [invoke, go_sem, eg]
  refine (hT (M + 1) (fun s W => I s W ∧ Book .ready none W) (fun s W => ∃ c, Ix c s W ∧ Book .done (some c) W) W1 ?_ ?_ ?_ ?_ ?_ ⟨?_, hbook⟩).mono ?_
  · rw [hW1]; exact hb0.trans ((((Below.refl _ w).alloc (Nat.le_refl _) _).alloc (by simp) _).mono hb0.size)
  · exact fun s A B row h hg hr => ⟨hI s A B row h.1 hg (ours (B := B) hr), book_kept h.2 hg hr⟩
  · rintro s A B row ⟨c, hc, hb⟩ hg hr
    exact ⟨c, hIx c s A B row hc hg (ours (B := B) hr), book_kept hb hg hr⟩
  · exact fun s s' W h hs' => ⟨hs _ _ _ h.1 hs', h.2⟩
  · rintro s x s' W ⟨hi, hb⟩ hst
    have hy := run_yield (P := P) (args := T.encs x) hb.1 (by rw [hp]; exact hps x)
    rw [hrecd] at hy
    refine ⟨fn, _, assign, body, hy, roundIn_of_wpIn hfn (hassign _ x W _ ⟨_, run_beginRound hb.1 (by rw [hrecd]), ?_⟩)⟩
    have hbusy : { recd .ready none with state := .busy } = recd .busy none := by rw [hrecd]
    rw [hbusy]
    have hb2 := turn .busy none hb
    have hk2 : Kp W (W.putObj (M + 1) (.loop (recd .busy none))) := hKb _ _ _ _ (by omega) hb.1 rfl rfl
    refine wpIn_mono (hbody _ s s' x _ (hI.putObj _ hi (by omega) hb.1 rfl) hst) ?_
    -- the round's end, by whatever jump
    have fin : ∀ (jump : Option Code) (W3 : World), KeepsFrom w.heap.size (W.putObj (M + 1) (.loop (recd .busy none))) W3 →
        (Instr.endRound (M + 1) jump).run P W3 = .ok (.bool jump.isNone) (W3.putObj (M + 1) (.loop (recd (if jump.isNone then .ready else .done) jump))) ∧ Book .busy none W3 := fun jump W3 hk3 => by
      have hb3 : Book .busy none W3 := ⟨hk3.same _ _ (by omega) hb2.1 rfl, hk3.same _ _ (by omega) hb2.2 rfl⟩
      have h := run_endRound (P := P) jump hb3.1
      refine ⟨?_, hb3⟩
      rw [h, hrecd]
    have stop : ∀ (c : Code) (W3 : World), KeepsFrom w.heap.size (W.putObj (M + 1) (.loop (recd .busy none))) W3 → Ix c s' W3 →
        ∃ v w', (Instr.endRound (M + 1) (some c)).run P W3 = .ok v w' ∧ ((Ending.returned v = .returned (.bool true) ∧ (I s' w' ∧ Book .ready none w') ∧ Kp W w') ∨ (Ending.returned v = .returned (.bool false) ∧ ∃ c, Ix c s' w' ∧ Book .done (some c) w')) := fun c W3 hk3 hi3 => by
      obtain ⟨hr, hb3⟩ := fin (some c) W3 hk3
      exact ⟨_, _, hr, .inr ⟨rfl, c, (hIx _).putObj _ hi3 (by omega) hb3.1 rfl, turn _ _ hb3⟩⟩
    rintro e a3 W3 hq
    cases e with
    | normal =>
      obtain ⟨hk3, hkp, hi3⟩ := hq
      obtain ⟨hr, hb3⟩ := fin none W3 hk3
      exact ⟨_, _, hr, .inl ⟨rfl, ⟨hI.putObj _ hi3 (by omega) hb3.1 rfl, turn _ _ hb3⟩, hKt (hKt hk2 hkp) (hKb _ _ _ _ (by omega) hb3.1 rfl rfl)⟩⟩
    | ret => exact stop _ W3 hq.1 hq.2
    | exit id => exact stop _ W3 hq.1 hq.2
    | goto t => exact stop _ W3 hq.1 hq.2
    | panic ch => exact hq.elim
    | outgrown => exact hq.elim
  · rw [hW1]; exact hI.alloc _ (hI.alloc _ h0)
  · rintro e W2 ⟨⟨v, rfl⟩, (⟨hi, hb⟩ | ⟨s, c, hi, hb⟩)⟩
    · refine ⟨none, W2.putObj (M + 1) (.loop (recd .exhausted none)), ?_, ?_⟩
      · have h := run_endLoop (P := P) hb.1 (by rw [hrecd]; simp [rec'])
        rw [hrecd] at h ⊢; exact h
      · have := hdone M (W2.putObj (M + 1) (.loop (recd .exhausted none))) (by omega) (hI.putObj _ hi (by omega) hb.1 rfl) ((World.putObj_heap_other (by omega)).trans hb.2)
        exact this
    · refine ⟨some c, W2.putObj (M + 1) (.loop (recd .exhausted (some c))), ?_, ?_⟩
      · have h := run_endLoop (P := P) hb.1 (by rw [hrecd]; simp [rec'])
        rw [hrecd] at h ⊢; exact h
      · have := hstop M c s (W2.putObj (M + 1) (.loop (recd .exhausted (some c)))) (by omega) ((hIx c).putObj _ hi (by omega) hb.1 rfl) ((World.putObj_heap_other (by omega)).trans hb.2)
        exact this
end

end Go.Proofs.Ytocjhanehphibaa
/-
  The iterator over the terms of a convolution.
-/
set_option linter.unusedVariables false
set_option linter.unusedSimpArgs false
namespace Go.Proofs.Ytocjhanehphibaa
open Go.RowKit Go.Shelf Flt Fast
attribute [local go_sem] Oper.semAt_some

theorem wide_fn (k : Nat) : Fence.wide.fn k = True := rfl
theorem wide_depth : Fence.wide.depth.isSome = false := rfl
theorem wide_round : Fence.wide.round = none := rfl
theorem wide_fnR (l k : Nat) : (Fence.wide.inRound l).fn k = True := rfl
theorem wide_depthR (l : Nat) : (Fence.wide.inRound l).depth.isSome = false := rfl

/-- The greater one, as one word: the walk does not part on it. -/
def maxI (x y : Int) : Int := if y > x then y else x
theorem run_max_word {P : Program} {w : World} (ts : Array TypeId) (t : TypeId) (k k' : IntKind) (x y : Int) : (Builtin.max_ ts t #[.int k x, .int k' y]).run P w = .ok (.int k (maxI x y)) w := by
  simp [Builtin.max_, Builtin.max2, maxI]

/-- Whatever lay below n, but for block B, lies as it lay. -/
structure KeptBut (n B : Nat) (W W' : World) : Prop where
  os : W'.os = W.os
  tape : W'.tape = W.tape
  output : W'.output = W.output
  size : W.heap.size ≤ W'.heap.size
  block : ∀ k, k < n → k ≠ B → W'.heap[k]? = W.heap[k]?
theorem KeptBut.refl (n B : Nat) (W : World) : KeptBut n B W W := ⟨rfl, rfl, rfl, Nat.le_refl _, fun _ _ _ => rfl⟩
theorem KeptBut.trans {n B : Nat} {X Y Z : World} (h : KeptBut n B X Y) (k : KeptBut n B Y Z) : KeptBut n B X Z :=
  ⟨k.os.trans h.os, k.tape.trans h.tape, k.output.trans h.output, Nat.le_trans h.size k.size, fun b h1 h2 => (k.block b h1 h2).trans (h.block b h1 h2)⟩
theorem KeptBut.of_below {n B : Nat} {W W' : World} (h : Below W.heap.size W W') (hn : n ≤ W.heap.size) : KeptBut n B W W' :=
  ⟨h.os, h.tape, h.output, h.size, fun b h1 _ => h.block b (by omega)⟩
theorem KeptBut.cell {n B : Nat} {W W' : World} (h : KeptBut n B W W') {b o : Nat} (h1 : b < n) (h2 : b ≠ B) : W'.cell? ⟨b, o, none⟩ = W.cell? ⟨b, o, none⟩ := by
  simp [World.cell?, h.block b h1 h2]
theorem RdO.keptBut {n₀ n B : Nat} {w w' : World} {v : Value} {xs : List C} (h : RdO n₀ w v xs) (hk : KeptBut n B w w') (h1 : n₀ ≤ n) (h2 : n₀ ≤ B) : RdO n₀ w' v xs := by
  cases h with
  | nil a cap hm => exact .nil a cap hm
  | row g o cap L xs hL h0 hc hm hg h => exact .row g o cap L xs hL h0 hc hm hg fun j hj => by rw [hk.cell (by omega) (by omega)]; exact h j hj
theorem KeptBut.putObj {n B : Nat} (W : World) (l : Nat) (o : Obj) (h : n ≤ l) : KeptBut n B W (W.putObj l o) :=
  ⟨rfl, rfl, rfl, by simp, fun k hk _ => World.putObj_heap_other (by omega)⟩
theorem grown_of_below {W W' : World} (h : Below W.heap.size W W') : W.grownBy W' none := ⟨h.os, h.tape, h.output, h.size, fun k hk _ => h.block k hk⟩

set_option maxRecDepth 100000 in
set_option maxHeartbeats 1000000 in
theorem cvLength_any (a1 a2 : Option Addr) (n1 c1 n2 c2 : Nat) (h1 : n1 ≤ 1000000) (h2 : n2 ≤ 1000000) (w : World) :
    Calls Try.prog 57 #[.agg #[.slice a1 n1 c1, .slice a2 n2 c2]] w fun e w' => e = .returned (.int .i64 (cvLen n1 n2)) ∧ Below w.heap.size w w' := by
  by_cases hz : n1 = 0
  · subst hz
    rw [cvLen_nil]
    go_enter Try.func57, Try.ntmps57
    go_wp2
    go_ret
    exact ⟨rfl, (Below.refl _ _).alloc (Nat.le_refl _) _⟩
  · by_cases hy : n2 = 0
    · subst hy
      rw [cvLen_nil']
      have g1 : ((n1 : Int) == 0) = false := by simp; omega
      go_enter Try.func57, Try.ntmps57
      go_wp2
      go_ret
      exact ⟨rfl, (Below.refl _ _).alloc (Nat.le_refl _) _⟩
    · obtain ⟨L, hL⟩ : ∃ L, cvLen n1 n2 = L := ⟨_, rfl⟩
      have hL2 : ((n1 : Int) + n2 - 1) = (L : Int) := by rw [← hL, cvLen_pos hz hy]; omega
      rw [hL]
      have g1 : ((n1 : Int) == 0) = false := by simp; omega
      have g2 : ((n2 : Int) == 0) = false := by simp; omega
      have HL := Lib.hid hL2
      clear hL hL2
      go_enter Try.func57, Try.ntmps57
      go_wp2
      go_ret
      exact ⟨by rw [HL.out]; rfl, (Below.refl _ _).alloc (Nat.le_refl _) _⟩

end Go.Proofs.Ytocjhanehphibaa
