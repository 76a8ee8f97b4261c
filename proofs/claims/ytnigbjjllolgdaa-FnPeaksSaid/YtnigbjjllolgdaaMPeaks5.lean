/-
  Several texts of this claim, one behind the other; each says what it holds.
-/
import Derived.Test.YtnigbjjllolgdaaMPeaks4
import Derived.Deep.RegionLaw
import Derived.Deep.AppendLies
import Derived.IntWalk
import Derived.Laws.EntriesVeiled
import Derived.Test.YtnigbjjllolgdaaRows
import Derived.Lib.Hide
/-
  The value of the greatest integer that is at most a number.
-/
set_option linter.unusedVariables false
set_option linter.unusedSimpArgs false
namespace Go.Proofs.Ytnigbjjllolgdaa
open Go.RowKit Flt Ieee

theorem cut_down (s : Bool) (n d : Nat) : Toward.down.cut s n d = n / 2 ^ d + (s && n % 2 ^ d != 0).toNat := by
  unfold Toward.cut
  simp only [Nat.shiftLeft_eq, Nat.one_mul]
  rcases Nat.lt_or_ge (n.log2 + 2) d with h | h
  · rw [Nat.min_eq_right (by omega)]
    have h1 : n < 2 ^ (n.log2 + 2) := by
      have := Nat.lt_log2_self (n := n)
      rw [Nat.pow_succ]; omega
    have h2 : n < 2 ^ d := Nat.lt_of_lt_of_le h1 (Nat.pow_le_pow_right (by omega) (by omega))
    rw [Nat.div_eq_of_lt h1, Nat.div_eq_of_lt h2, Nat.mod_eq_of_lt h1, Nat.mod_eq_of_lt h2]
  · rw [Nat.min_eq_left h]

theorem floor_pos {f q r D : Int} (hD : 0 < D) (h0 : 0 ≤ r) (h1 : r < D) (h2 : f * D ≤ q * D + r) (h3 : q * D + r < (f + 1) * D) : f = q := by
  rcases Int.lt_trichotomy f q with h | h | h
  · have := Int.mul_le_mul_of_nonneg_right (show f + 1 ≤ q by omega) (Int.le_of_lt hD)
    omega
  · exact h
  · have := Int.mul_le_mul_of_nonneg_right (show q + 1 ≤ f by omega) (Int.le_of_lt hD)
    rw [Int.add_mul, Int.one_mul] at this
    omega
theorem floor_neg {f q r D : Int} (hD : 0 < D) (h0 : 0 ≤ r) (h1 : r < D) (h2 : f * D ≤ -(q * D + r)) (h3 : -(q * D + r) < (f + 1) * D) : f = -(q + if r = 0 then 0 else 1) := by
  by_cases hr : r = 0
  · rw [if_pos hr]
    refine floor_pos (q := -(q + 0)) hD (r := 0) (by omega) hD ?_ ?_
    · rw [Int.neg_mul, Int.add_mul, Int.zero_mul]; omega
    · rw [Int.neg_mul, Int.add_mul, Int.zero_mul]; omega
  · rw [if_neg hr]
    refine floor_pos (q := -(q + 1)) hD (r := D - r) (by omega) (by omega) ?_ ?_
    · rw [Int.neg_mul, Int.add_mul, Int.one_mul]; omega
    · rw [Int.neg_mul, Int.add_mul, Int.one_mul]; omega

theorem two_nat' (n : Nat) : two n = (((2 ^ n : Nat) : Int) : Rat) := by rw [Rat.intCast_natCast]; rfl

/-- A number's value over a power of 2. -/
theorem dq_cut (s : Bool) (m : Nat) (p : Int) (hp : -(lpn : Int) ≤ p) : dq s m p * two (-p).toNat = (((if s then -((m <<< p.toNat : Nat) : Int) else ((m <<< p.toNat : Nat) : Int)) : Int) : Rat) := by
  unfold dq
  rw [signed_eq, Nat.shiftLeft_eq]
  have h1 := Rat.mul_inv_cancel _ (Rat.ne_of_gt (two_pos lpn))
  have key : ((m * 2 ^ (p + lpn).toNat : Nat) : Rat) / two lpn * two (-p).toNat = ((m * 2 ^ p.toNat : Nat) : Rat) := by
    rw [Rat.natCast_mul, Rat.natCast_mul]
    have e : ((2 ^ (p + lpn).toNat : Nat) : Rat) * two (-p).toNat = ((2 ^ p.toNat : Nat) : Rat) * two lpn := by
      show two (p + lpn).toNat * two (-p).toNat = two p.toNat * two lpn
      rw [← two_add, ← two_add]; congr 1; omega
    rw [Rat.div_def]
    generalize ((2 ^ (p + lpn).toNat : Nat) : Rat) = A at *
    generalize ((2 ^ p.toNat : Nat) : Rat) = B at *
    generalize (m : Rat) = M at *
    grind
  cases s
  · simp only [Bool.false_eq_true, if_false]
    rw [Rat.intCast_natCast, Rat.intCast_natCast]; exact key
  · simp only [if_true]
    rw [Rat.intCast_neg, Rat.intCast_natCast, Rat.intCast_neg, Rat.intCast_natCast, ← key]
    generalize ((m * 2 ^ (p + lpn).toNat : Nat) : Rat) = A
    rw [Rat.div_def, Rat.div_def]; grind

theorem flo_parts {x : Nat} {f : Int} (hx : Flt.Fin x) (h1 : (f : Rat) ≤ fq x) (h2 : fq x < (f : Rat) + 1) : ∃ C s, floW x = double.nearest s C 0 ∧ (if s then -((C : Nat) : Int) else ((C : Nat) : Int)) = f := by
  obtain ⟨s, m, p, e, hp, hv⟩ := read_dq hx
  have hfl : floW x = double.nearest s (Toward.down.cut s (m <<< p.toNat) (-p).toNat) 0 := by
    show double.write ((double.read x).integral .down) = _
    rw [e]; rfl
  have hc := dq_cut s m p hp
  rw [← hv] at hc
  obtain ⟨n, hn⟩ : ∃ n, m <<< p.toNat = n := ⟨_, rfl⟩
  obtain ⟨d, hd⟩ : ∃ d, (-p).toNat = d := ⟨_, rfl⟩
  rw [hn, hd] at hfl hc
  have hpd := two_pos d
  have l1 : (f : Rat) * two d ≤ fq x * two d := Rat.mul_le_mul_of_nonneg_right h1 (Rat.le_of_lt hpd)
  have l2 : fq x * two d < ((f : Rat) + 1) * two d := Rat.mul_lt_mul_of_pos_right h2 hpd
  rw [hc, two_nat', ← Rat.intCast_mul, Rat.intCast_le_intCast] at l1
  rw [hc, two_nat', show ((f : Rat) + 1) = ((f + 1 : Int) : Rat) by rw [Rat.intCast_add]; rfl, ← Rat.intCast_mul, Rat.intCast_lt_intCast] at l2
  have hD : (0 : Int) < ((2 ^ d : Nat) : Int) := by have := Nat.two_pow_pos d; omega
  have hdm := Nat.div_add_mod n (2 ^ d)
  have hml := Nat.mod_lt n (Nat.two_pow_pos d)
  have hC : (if s then -((Toward.down.cut s n d : Nat) : Int) else ((Toward.down.cut s n d : Nat) : Int)) = f := by
    rw [cut_down]
    obtain ⟨q, hq⟩ : ∃ q, n / 2 ^ d = q := ⟨_, rfl⟩
    obtain ⟨r, hr⟩ : ∃ r, n % 2 ^ d = r := ⟨_, rfl⟩
    rw [hq, hr] at hdm ⊢
    rw [hr] at hml
    have hni : (n : Int) = (q : Int) * ((2 ^ d : Nat) : Int) + (r : Int) := by
      rw [← hdm, Nat.mul_comm]; simp
    rw [hni] at l1 l2
    have hml' : (r : Int) < ((2 ^ d : Nat) : Int) := by omega
    generalize ((2 ^ d : Nat) : Int) = D at *
    cases s
    · simp only [Bool.false_eq_true, if_false] at l1 l2
      simp only [Bool.false_eq_true, if_false, Bool.false_and]
      have := floor_pos hD (Int.natCast_nonneg r) hml' l1 l2
      rw [this]; simp
    · simp only [if_true] at l1 l2
      simp only [if_true, Bool.true_and]
      have := floor_neg hD (Int.natCast_nonneg r) hml' l1 l2
      rw [this]
      by_cases h0 : r = 0
      · subst h0; simp
      · have hb : (r != 0) = true := by simpa using h0
        rw [hb, if_neg (by omega)]; simp
  exact ⟨_, s, hfl, hC⟩

theorem flo_write {C : Nat} {s : Bool} {f : Int} (hC : (if s then -((C : Nat) : Int) else ((C : Nat) : Int)) = f) :
    (f : Rat) = (if s then -(((at_ C 0 (-(lpn : Int)) : Nat) : Rat) / two lpn) else ((at_ C 0 (-(lpn : Int)) : Nat) : Rat) / two lpn) := by
  have ea : at_ C 0 (-(lpn : Int)) = C * 2 ^ lpn := by unfold at_; congr 2
  have h1 := Rat.mul_inv_cancel _ (Rat.ne_of_gt (two_pos lpn))
  have ek : ((C * 2 ^ lpn : Nat) : Rat) / two lpn = (C : Rat) := by
    rw [Rat.natCast_mul, Rat.div_def]
    show (C : Rat) * two lpn * (two lpn)⁻¹ = _
    grind
  rw [ea, ek, ← hC]
  cases s
  · simp only [Bool.false_eq_true, if_false]; rw [Rat.intCast_natCast]
  · simp only [if_true]; rw [Rat.intCast_neg, Rat.intCast_natCast]

theorem flo_val {x : Nat} {f : Int} (hx : Flt.Fin x) (h1 : (f : Rat) ≤ fq x) (h2 : fq x < (f : Rat) + 1) (hf : f.natAbs < 2 ^ 53) : Flt.Fin (floW x) ∧ fq (floW x) = (f : Rat) := by
  obtain ⟨C, s, hfl, hC⟩ := flo_parts hx h1 h2
  rw [hfl]
  have hw := write_rnd (neg := s) (m := C) (p := 0) (b := lpn) (R := bigR) (t := (f : Rat)) (Nat.le_refl _) (by omega) bigR_lt (flo_write hC) ((Dy.of_int (n := f) (Nat.le_refl _)).moderate (by omega)).big
  exact ⟨hw.1, hw.2.exact ((Dy.of_int (n := f) (Nat.le_refl _)).rep hf (by omega))⟩

/-- The floor of a number of few digits. -/
theorem fv_flo {z : Option Nat} {q : Rat} {f : Int} (h : Fv z q) (h1 : (f : Rat) ≤ q) (h2 : q < (f : Rat) + 1) (hf : f.natAbs < 2 ^ 53) : Fv (floO z) (f : Rat) := by
  obtain ⟨x, rfl, hx, rfl⟩ := h
  have := flo_val hx h1 h2 hf
  exact ⟨_, rfl, this.1, this.2⟩

theorem cut_zero (s : Bool) (n d : Nat) : Ieee.Toward.zero.cut s n d = n / 2 ^ d := by
  unfold Ieee.Toward.cut
  simp only [Nat.shiftLeft_eq, Nat.one_mul, Bool.toNat_false, Nat.add_zero]
  rcases Nat.lt_or_ge (n.log2 + 2) d with h | h
  · rw [Nat.min_eq_right (by omega)]
    have h1 : n < 2 ^ (n.log2 + 2) := by
      have := Nat.lt_log2_self (n := n)
      rw [Nat.pow_succ]; omega
    have h2 : n < 2 ^ d := Nat.lt_of_lt_of_le h1 (Nat.pow_le_pow_right (by omega) (by omega))
    rw [Nat.div_eq_of_lt h1, Nat.div_eq_of_lt h2]
  · rw [Nat.min_eq_left h]

theorem toInt_val {x : Nat} {D : Int} (hx : Flt.Fin x) (hv : fq x = (D : Rat)) : (FloatKind.f64.decode x).toInt .zero = some D := by
  obtain ⟨s, m, p, e, hp, hq⟩ := read_dq hx
  have e' : FloatKind.f64.decode x = .number s m p := e
  have hc := dq_cut s m p hp
  rw [← hq, hv] at hc
  rw [e']
  show some (Ieee.signed s (Ieee.Toward.zero.cut s (m <<< p.toNat) (-p).toNat) 0) = some D
  obtain ⟨n, hn⟩ : ∃ n, m <<< p.toNat = n := ⟨_, rfl⟩
  obtain ⟨d, hd⟩ : ∃ d, (-p).toNat = d := ⟨_, rfl⟩
  rw [hn, hd] at hc ⊢
  rw [two_nat', ← Rat.intCast_mul, Rat.intCast_inj] at hc
  have hD : 0 < 2 ^ d := Nat.two_pow_pos d
  rw [cut_zero]
  congr 1
  unfold Ieee.signed
  cases s
  · simp only [Bool.false_eq_true, if_false] at hc ⊢
    obtain ⟨k, rfl⟩ : ∃ k : Nat, D = k := by
      refine ⟨D.toNat, ?_⟩
      have : 0 ≤ D := by
        refine Int.not_lt.1 fun h => ?_
        have := Int.mul_lt_mul_of_pos_right h (show (0 : Int) < ((2 ^ d : Nat) : Int) by omega)
        omega
      omega
    have hk : k * 2 ^ d = n := by
      have h2 : ((k * 2 ^ d : Nat) : Int) = (n : Int) := by rw [← hc]; simp
      omega
    rw [← hk, Nat.mul_div_cancel _ hD, Nat.shiftLeft_zero]
  · simp only [if_true] at hc ⊢
    obtain ⟨k, rfl⟩ : ∃ k : Nat, D = -(k : Int) := by
      refine ⟨(-D).toNat, ?_⟩
      have : D ≤ 0 := by
        refine Int.not_lt.1 fun h => ?_
        have := Int.mul_lt_mul_of_pos_right h (show (0 : Int) < ((2 ^ d : Nat) : Int) by omega)
        omega
      omega
    have hk : k * 2 ^ d = n := by
      have h2 : ((k * 2 ^ d : Nat) : Int) = (n : Int) := by
        have h3 : -((k : Int) * ((2 ^ d : Nat) : Int)) = -(n : Int) := by rw [← hc, Int.neg_mul]
        have h4 : ((k * 2 ^ d : Nat) : Int) = (k : Int) * ((2 ^ d : Nat) : Int) := by simp
        omega
      omega
    rw [← hk, Nat.mul_div_cancel _ hD, Nat.shiftLeft_zero]

theorem run_toInt {P : Program} (src dst : TypeId) {x : Nat} {D : Int} (hx : Flt.Fin x) (hv : fq x = (D : Rat)) (hb : D.natAbs < 2 ^ 53) (hs : (P.underlying src).isSome = true) (hd : P.underlying dst = some (.int .i64)) (w : World) :
    (convert src dst (.float .f64 x)).run P w = .ok (.int .i64 D) w := by
  have h := toInt_val hx hv
  have hr : IntKind.i64.min ≤ D ∧ D ≤ IntKind.i64.max := by
    show (-9223372036854775808 : Int) ≤ D ∧ D ≤ 9223372036854775807
    omega
  obtain ⟨u, hs'⟩ := Option.isSome_iff_exists.1 hs
  cases u <;> simp [convert, run_underlying hs', run_underlying hd, Conv.floatToInt, h, hr] <;> (intro hc; exfalso; omega)

end Go.Proofs.Ytnigbjjllolgdaa
/-
  mapSignal with a function that keeps something; UnwrapPhases and DelaysOf.
-/
set_option linter.unusedVariables false
set_option linter.unusedSimpArgs false
namespace Go.Proofs.Ytnigbjjllolgdaa
open Go.RowKit Flt Fast
attribute [local go_sem] run_fadd run_fsub run_fmul run_fquo run_cadd run_csub

/-- The blocks from B on stay as they were. -/
def HiB (B : Nat) (w w' : World) : Prop := w.heap.size ≤ w'.heap.size ∧ ∀ k, B ≤ k → k < w.heap.size → w'.heap[k]? = w.heap[k]?
theorem HiB.refl (B : Nat) (w : World) : HiB B w w := ⟨Nat.le_refl _, fun _ _ _ => rfl⟩
theorem HiB.trans {B : Nat} {a b c : World} (h : HiB B a b) (h' : HiB B b c) : HiB B a c := ⟨Nat.le_trans h.1 h'.1, fun k h1 h2 => (h'.2 k h1 (Nat.lt_of_lt_of_le h2 h.1)).trans (h.2 k h1 h2)⟩
theorem HiB.drewN {B : Nat} {w w' : World} (h : HiB B w w') (n : Nat) : HiB B w (w'.drewN n) := h
theorem HiB.setCell {B : Nat} {w w' : World} (h : HiB B w w') (g j : Nat) (u : Value) (hg : g < B) : HiB B w (w'.setCell ⟨g, j, none⟩ u) :=
  ⟨by simpa using h.1, fun k h1 h2 => by rw [heap_setCell_other w' ⟨g, j, none⟩ k u (by show k ≠ g; omega)]; exact h.2 k h1 h2⟩
theorem Row.hi {w w' : World} {B : Nat} {e : TypeId} {v : Value} {cs : List Value} (h : Row w B e v cs) (hb : HiB B w w') : Row w' B e v cs := by
  have hlt := h.lt
  refine ⟨h.1, ?_⟩
  rcases h.2 with hn | ⟨g, cap, cur, rfl, hbb, hgg, rest⟩
  · exact .inl hn
  · refine .inr ⟨g, cap, cur, rfl, hbb, ?_, rest⟩
    rw [hb.2 g hbb (hlt g rfl).2]
    exact hgg

set_option maxRecDepth 100000 in
set_option maxHeartbeats 4000000 in
theorem map_f64_st {v : Value} {xs : List Nat} {w : World} (h : Reads w v (fvals xs)) (hl : xs.length ≤ 256) (fn : Nat) (capt : Array Value)
    (hfn : ∀ (args : Array Value) (w : World), (callFunc fn args).run Try.prog w = .ok (.enter fn args) w) (G : Nat → Nat → Prop) (I : Nat → World → Prop) (hI0 : ∀ w1, w.grownBy w1 none → I 0 w1)
    (hIs : ∀ i w1 w2, w.heap.size < w1.heap.size → I i w1 → w1.grownBy w2 (some w.heap.size) → I i w2)
    (hIr : ∀ i w1, I i w1 → Reads w1 v (fvals xs))
    (hcall : ∀ i w1, i < xs.length → w.heap.size < w1.heap.size → I i w1 → Calls Try.prog fn (#[.float .f64 (xs.getD i 0)] ++ capt) w1 fun e w2 => ∃ q : Nat, e = .returned (fval q) ∧ G i q ∧ I (i + 1) w2 ∧ HiB w.heap.size w1 w2) :
    Calls Try.prog 27 #[v, .func (.func fn) #[] capt] w fun e w' => ∃ v qs, e = .returned (.tuple #[v, .int .i64 0]) ∧ Row w' w.heap.size 30 v (fvals qs) ∧ qs.length = xs.length ∧ (∀ i, i < xs.length → G i (qs.getD i 0)) ∧ I xs.length w' := by
  obtain ⟨i0, hi, hz0, hz1, hz2⟩ := info_parts info_f64'
  have HF := Lib.hid hcall
  have HI0 := Lib.hid hI0
  have HIS := Lib.hid hIs
  have HIR := Lib.hid hIr
  clear hcall hI0 hIs hIr
  generalize hcs : fvals xs = cs at h
  have hcl : cs.length = xs.length := by rw [← hcs, fvals_length]
  cases h with
  | none a cap =>
    have h0 : xs.length = 0 := by rw [← hcl]; rfl
    rw [h0]
    clear hcs hcl h0 HF hl HIS HIR
    go_enter Try.func27, Try.ntmps27
    go_wp2_with (at_make; refine wpList_make_full _ rfl _ _ 24 rfl w.heap.size 30 i0 (.float .f64 0) 1 Try.underlying24 hi hz0 hz1 .i64 .i64 _ _ 0 rfl rfl rfl rfl (by rw [hz2]; omega) (by simp only [maxLen]; omega) (Nat.le_refl _) ?_)
    intro w1 hown hg1
    rw [toList_madeCells_one] at hown
    have HO : Hid (Row w1 w.heap.size 30 (.slice (some ⟨w.heap.size, 0, none⟩) 0 0) []) := by
      show w1.ownsRow _ _ _ _ _ _
      simpa using hown
    have HG := Lib.hid (HI0.out w1 hg1)
    clear hown hg1 hi hz0 hz1 hz2
    go_wp2
    refine wp_loop_rounds 1 ?_
    rw [rounds_succ]
    go_wp2
    go_ret2
    exact ⟨_, [], rfl, HO.out, rfl, fun i hi => by omega, HG.out⟩
  | row g cap L cs hL h0 hc hm hcell =>
    obtain rfl : L = xs.length := by rw [← hL]; exact hcl
    obtain ⟨L, hxl⟩ : ∃ L, xs.length = L := ⟨_, rfl⟩
    rw [hxl] at hl h0 hc ⊢
    have hmax := maxLen_int (Nat.le_trans hc hm)
    have hgl : g < w.heap.size := World.block_lt_of_cell? _ _ (hcell 0 (by omega))
    have HC : Hid (∀ i w1, I i w1 → ∀ j, j < L → w1.cell? ⟨g, j, none⟩ = some (.float .f64 (xs.getD j 0))) := fun i w1 hI j hj => by
      obtain ⟨g', e', -, hc'⟩ := fl_reads (xs := xs) (HIR.out i w1 hI) _ _ _ rfl j (by omega)
      simp only [Option.some.injEq, Addr.mk.injEq, and_true] at e'
      subst e'
      exact hc'
    have HX := Lib.hid hxl
    clear hcell hcs hcl hL hm hxl HIR
    go_enter Try.func27, Try.ntmps27
    go_wp2_with (at_make; refine wpList_make_full _ rfl _ _ 24 rfl w.heap.size 30 i0 (.float .f64 0) 1 Try.underlying24 hi hz0 hz1 .i64 .i64 _ _ L rfl rfl rfl rfl (by rw [hz2]; omega) (by simp only [maxLen]; omega) (Nat.le_refl _) ?_)
    intro w1 hown hg1
    rw [toList_madeCells_one] at hown
    have HO : Hid (Row w1 w.heap.size 30 (.slice (some ⟨w.heap.size, 0, none⟩) L L) (List.replicate L (.float .f64 0))) := by
      show w1.ownsRow _ _ _ _ _ _
      simpa using hown
    have HG := Lib.hid (HI0.out w1 hg1)
    have HSZ := Lib.hid ((HO.out.lt _ rfl).2)
    clear hown hg1 hi hz0 hz1 hz2
    go_wp2
    go_loopw [16] (fun i wr => ∃ (k : Nat) (qs : List Nat), i = .int .i64 k ∧ k ≤ L ∧ qs.length = k ∧ Row wr w.heap.size 30 (.slice (some ⟨w.heap.size, 0, none⟩) L L) (fvals qs ++ List.replicate (L - k) (.float .f64 0)) ∧ (∀ j, j < k → G j (qs.getD j 0)) ∧ I k wr ∧ w.heap.size < wr.heap.size) (fun i _ => L - (intOf i).toNat)
    case atStart => exact ⟨0, [], rfl, Nat.zero_le _, rfl, HO.out, fun j hj => by omega, HG.out, HSZ.out⟩
    case round =>
      obtain ⟨k, qs, rfl, hk, hx, hrw, hgd, hbw, hsz⟩ := hrel
      have HQ := Lib.hid hx
      have HRW := Lib.hid hrw
      have HGD := Lib.hid hgd
      have HBW := Lib.hid hbw
      clear hx hrw hgd hbw
      by_cases hlt : k < L
      · have c1 : wr.cell? ⟨g, k, none⟩ = some (.float .f64 (xs.getD k 0)) := HC.out k _ HBW.out k hlt
        have hcall := HF.out k wr (by rw [HX.out]; exact hlt) hsz HBW.out
        obtain ⟨a, hab⟩ : ∃ q, xs.getD k 0 = q := ⟨_, rfl⟩
        rw [hab] at c1 hcall
        clear hab
        go_wp2_with fail
        refine hcall.mono ?_
        rintro e w2 ⟨q, rfl, hq, hi2, hb2⟩
        have hr2 := HRW.out.hi hb2
        have hS := hr2.set k (fval q)
        rw [fillV hlt (by rw [fvals_length]; exact HQ.out)] at hS
        have hF := snocGood (d := 0) HQ.out HGD.out hq
        have c2 := hr2.cellAt hlt
        have f1 := hr2.frozenAt k
        have hsz2 : w.heap.size < w2.heap.size := Nat.lt_of_lt_of_le hsz hb2.1
        have hb4 : I (k + 1) (w2.setCell ⟨w.heap.size, k, none⟩ (fval q)) := HIS.out _ _ _ hsz2 hi2 hS.2
        have hsz4 : w.heap.size < (w2.setCell ⟨w.heap.size, k, none⟩ (fval q)).heap.size := Nat.lt_of_lt_of_le hsz2 hS.2.size
        simp only [fval] at hS hb4 hsz4 ⊢
        obtain ⟨u, hu⟩ : ∃ u, (fvals qs ++ List.replicate (L - k) (.float .f64 0 : Value)).getD k undef = u := ⟨_, rfl⟩
        rw [hu] at c2
        have hs2 : (Row (w2.setCell ⟨w.heap.size, k, none⟩ (.float .f64 q)) w.heap.size 30 (.slice (some ⟨w.heap.size, 0, none⟩) L L) (fvals (qs ++ [q]) ++ List.replicate (L - (k + 1)) (.float .f64 0))) := by
          have := hS.1
          simpa [fvals, fval] using this
        have HS2 := Lib.hid hs2
        have HF2 := Lib.hid hF
        have HB4 := Lib.hid hb4
        have HSZ4 := Lib.hid hsz4
        clear hu hr2 hS hF hq hb2 hb4 hs2 hi2 hsz2 hsz4
        go_wp2
        go_roundw
        case rel => exact ⟨k + 1, qs ++ [q], by go_num, by omega, HF2.out.1, HS2.out, HF2.out.2, HB4.out, HSZ4.out⟩
        case measure => simp [intOf]; omega
      · have e : k = L := by omega
        subst e
        go_wp2
        go_ret2
        refine ⟨_, qs, rfl, ?_, HQ.out, HGD.out, HBW.out⟩
        have := HRW.out
        rwa [Nat.sub_self, List.replicate_zero, List.append_nil] at this

/-- Unwrapped phases. -/
def unwO (xs : List Nat) : Nat → Option Nat
  | 0 => wO xs 0
  | i + 1 => fop .add .f64 (unwO xs i) (wrapO (fop .sub .f64 (wO xs (i + 1)) (wO xs i)))
def unwN (n : Nat) : Nat := if 256 < n then 0 else n
theorem unwN_le (n : Nat) : unwN n ≤ 100000000 := by unfold unwN; split <;> omega

/-- What the function keeps: the phase before, as it came and unwrapped, and whether there is none yet. -/
structure St (w0 w : World) (N bf un : Nat) (fi : Bool) : Prop where
  below : Below N w0 w
  size : N + 3 ≤ w.heap.size
  cb : w.cell? ⟨N, 0, none⟩ = some (.float .f64 bf)
  cu : w.cell? ⟨N + 1, 0, none⟩ = some (.float .f64 un)
  cf : w.cell? ⟨N + 2, 0, none⟩ = some (.bool fi)
  fb : w.frozen? ⟨N, 0, none⟩ = false
  fu : w.frozen? ⟨N + 1, 0, none⟩ = false
  ff : w.frozen? ⟨N + 2, 0, none⟩ = false

section
variable {w0 w w' : World} {N bf un : Nat} {fi : Bool}
theorem St.drewN (h : St w0 w N bf un fi) (n : Nat) : St w0 (w.drewN n) N bf un fi := ⟨below_draws h.below n, h.size, h.cb, h.cu, h.cf, h.fb, h.fu, h.ff⟩
theorem St.setB (h : St w0 w N bf un fi) (x : Nat) : St w0 (w.setCell ⟨N, 0, none⟩ (.float .f64 x)) N x un fi :=
  ⟨h.below.setCell (p := ⟨N, 0, none⟩) (Nat.le_refl _) _, by simpa using h.size, World.cell?_setCell_same _ _ _ h.cb, by rw [World.cell?_setCell_other _ _ _ _ (by simp)]; exact h.cu, by rw [World.cell?_setCell_other _ _ _ _ (by simp)]; exact h.cf, by rw [World.frozen?_setCell]; exact h.fb, by rw [World.frozen?_setCell]; exact h.fu, by rw [World.frozen?_setCell]; exact h.ff⟩
theorem St.setU (h : St w0 w N bf un fi) (x : Nat) : St w0 (w.setCell ⟨N + 1, 0, none⟩ (.float .f64 x)) N bf x fi :=
  ⟨h.below.setCell (p := ⟨N + 1, 0, none⟩) (Nat.le_add_right _ _) _, by simpa using h.size, by rw [World.cell?_setCell_other _ _ _ _ (by simp)]; exact h.cb, World.cell?_setCell_same _ _ _ h.cu, by rw [World.cell?_setCell_other _ _ _ _ (by simp)]; exact h.cf, by rw [World.frozen?_setCell]; exact h.fb, by rw [World.frozen?_setCell]; exact h.fu, by rw [World.frozen?_setCell]; exact h.ff⟩
theorem St.setF (h : St w0 w N bf un fi) (b : Bool) : St w0 (w.setCell ⟨N + 2, 0, none⟩ (.bool b)) N bf un b :=
  ⟨h.below.setCell (p := ⟨N + 2, 0, none⟩) (Nat.le_add_right _ _) _, by simpa using h.size, by rw [World.cell?_setCell_other _ _ _ _ (by simp)]; exact h.cb, by rw [World.cell?_setCell_other _ _ _ _ (by simp)]; exact h.cu, World.cell?_setCell_same _ _ _ h.cf, by rw [World.frozen?_setCell]; exact h.fb, by rw [World.frozen?_setCell]; exact h.fu, by rw [World.frozen?_setCell]; exact h.ff⟩
theorem St.grown (h : St w0 w N bf un fi) {row : Option Nat} (hg : w.grownBy w' row) (hr : ∀ k, row = some k → N + 3 ≤ k) : St w0 w' N bf un fi := by
  have hs := h.size
  have b : ∀ j, j < 3 → w'.heap[N + j]? = w.heap[N + j]? := fun j hj => hg.block _ (by omega) (fun e => by have := hr _ e.symm; omega)
  exact ⟨h.below.grown hg (by omega) (fun k e => by have := hr k e; omega), Nat.le_trans hs hg.size, (World.cell?_of_block (b 0 (by omega))).trans h.cb, (World.cell?_of_block (b 1 (by omega))).trans h.cu, (World.cell?_of_block (b 2 (by omega))).trans h.cf,
    (World.frozen?_of_block (b 0 (by omega))).trans h.fb, (World.frozen?_of_block (b 1 (by omega))).trans h.fu, (World.frozen?_of_block (b 2 (by omega))).trans h.ff⟩
end

/-- The state ahead of the number i. -/
def StI (xs : List Nat) (w0 : World) (N i : Nat) (w : World) : Prop := ∃ bf un, St w0 w N bf un (decide (i = 0)) ∧ (i ≠ 0 → IsF bf (wO xs (i - 1)) ∧ IsF un (unwO xs (i - 1)))

set_option maxRecDepth 100000 in
set_option maxHeartbeats 4000000 in
theorem unwrap1_any (xs : List Nat) (hz : ∀ z ∈ xs, z < 18446744073709551616) (i : Nat) (hi : i < xs.length) (w0 : World) (N : Nat) (w : World) (h : StI xs w0 N i w) :
    Calls Try.prog 57 #[.float .f64 (xs.getD i 0), .pointer (some ⟨N + 2, 0, none⟩), .pointer (some ⟨N + 1, 0, none⟩), .pointer (some ⟨N, 0, none⟩)] w
      fun e w' => ∃ q, e = .returned (fval q) ∧ IsF q (unwO xs i) ∧ StI xs w0 N (i + 1) w' ∧ HiB (N + 3) w w' := by
  obtain ⟨bf, un, hs, hf⟩ := h
  have hx := wO_isF hz hi
  obtain ⟨x, hxx⟩ : ∃ x, xs.getD i 0 = x := ⟨_, rfl⟩
  rw [hxx] at hx ⊢
  by_cases h0 : i = 0
  · subst h0
    rw [show decide ((0 : Nat) = 0) = true from rfl] at hs
    have cf := hs.cf
    have cb := hs.cb
    have cu := hs.cu
    have fb := hs.fb
    have fu := hs.fu
    have ff := hs.ff
    have HS := Lib.hid hs
    have HX := Lib.hid hx
    clear hs hx hf hxx hi hz
    go_enter Try.func57, Try.ntmps57
    go_wp2
    go_ret
    exact ⟨x, rfl, HX.out, ⟨x, x, ((HS.out.setU x).setF false).setB x, fun _ => ⟨HX.out, HX.out⟩⟩, (((HiB.refl _ _).setCell _ _ _ (by omega)).setCell _ _ _ (by omega)).setCell _ _ _ (by omega)⟩
  · obtain ⟨j, rfl⟩ : ∃ j, i = j + 1 := ⟨i - 1, by omega⟩
    obtain ⟨hbf, hun⟩ := hf h0
    rw [show decide (j + 1 = 0) = false from rfl] at hs
    rw [Nat.add_sub_cancel] at hbf hun
    have cf := hs.cf
    have cb := hs.cb
    have cu := hs.cu
    have fb := hs.fb
    have fu := hs.fu
    have ff := hs.ff
    have HS := Lib.hid hs
    have HX := Lib.hid hx
    have HBF := Lib.hid hbf
    have HUN := Lib.hid hun
    have HN : Hid (∀ r q : Nat, IsF r (wrapO (fop .sub .f64 (wO xs (j + 1)) (wO xs j))) → ∀ w, IsF (fres .add .f64 un r w) (unwO xs (j + 1))) := fun r q hr w => by
      unfold unwO
      exact isF_fres hun hr w
    clear hs hx hf hxx hi hz hbf hun
    go_enter Try.func57, Try.ntmps57
    go_wp2
    go_region_law (go_simp; go_at_call 13; refine (wrap_impl _ _ (isF_fres HX.out HBF.out _) _).mono ?_; rintro e w' ⟨q, rfl, hq, nn, rfl⟩; have HQ := Lib.hid hq; clear hq)
    all_goals
      go_wp2
      go_ret
      exact ⟨_, rfl, HN.out _ 0 HQ.out _, ⟨x, _, ((HS.out.drewN _).setU _).setB x, fun _ => ⟨HX.out, HN.out _ 0 HQ.out _⟩⟩, (((HiB.refl _ _).drewN _).setCell _ _ _ (by omega)).setCell _ _ _ (by omega)⟩

end Go.Proofs.Ytnigbjjllolgdaa
/-
  UnwrapPhases of both.
-/
set_option linter.unusedVariables false
set_option linter.unusedSimpArgs false
namespace Go.Proofs.Ytnigbjjllolgdaa
open Go.RowKit Flt Fast
attribute [local go_sem] run_fadd run_fsub run_fmul run_fquo run_cadd run_csub

theorem unwO_next (xs : List Nat) {j J : Nat} (h : J = j + 1) : unwO xs J = fop .add .f64 (unwO xs j) (wrapO (fop .sub .f64 (wO xs J) (wO xs j))) := by subst h; rfl
theorem one_single (k : FloatKind) (a : Nat) : ∀ u ∈ [Value.float k a], u.oneCell' = true := by intro u hu; simp at hu; subst hu; rfl

set_option maxRecDepth 100000 in
set_option maxHeartbeats 8000000 in
theorem unwrap_model (xs : List Nat) (hz : ∀ z ∈ xs, z < 18446744073709551616) (hl : xs.length ≤ 256) (v : Value) (w : World) (h : Reads w v (flts xs)) :
    Calls Try.prog 29 #[v] w fun e w' => ∃ u fs, e = .returned u ∧ Row w' w.heap.size 30 u (flts fs) ∧ fs.length = xs.length ∧ (∀ i, i < xs.length → IsF (fs.getD i 0) (unwO xs i)) ∧ Below w.heap.size w w' := by
  obtain ⟨i0, hi, hz0, hz1, hz2⟩ := info_parts info_f64'
  have hrd := fl_reads h
  obtain ⟨a, cap, rfl⟩ := fl_form h
  rw [flts_length] at *
  replace hrd := hrd _ _ _ rfl
  have hW : ∀ i, i < xs.length → IsF (xs.getD i 0) (wO xs i) := fun i hi => wO_isF hz hi
  obtain ⟨n, hn⟩ : ∃ n, xs.length = n := ⟨_, rfl⟩
  rw [hn] at hrd hW hl ⊢
  have HRD := Lib.hid hrd
  have HW := Lib.hid hW
  have hlit := World.ownsRow_lit w (e := 30) (base := w.heap.size) (size := 1) #[] 0 (Nat.le_refl _) (by unfold maxLen; omega) rfl
  have HLIT := Lib.hid hlit
  clear h hrd hW hz hn hlit
  go_enter Try.func29, Try.ntmps29
  go_wp2
  go_loopw [3, 4] (fun v3 i wr => ∃ (k : Nat) (fs : List Nat), i = .int .i64 k ∧ k ≤ n ∧ Row wr w.heap.size 30 v3 (flts fs) ∧ fs.length = k ∧ (∀ j, j < k → IsF (fs.getD j 0) (unwO xs j)) ∧ Below w.heap.size w wr) (fun _ i _ => n - (intOf i).toNat)
  case atStart => exact ⟨0, [], rfl, Nat.zero_le _, HLIT.out, rfl, fun j hj => by omega, (Below.refl _ _).alloc (Nat.le_refl _) _⟩
  case round =>
    obtain ⟨k, fs, rfl, hk, hrw, hfs, hgd, hbw⟩ := hrel
    have HRW := Lib.hid hrw
    have HFS := Lib.hid hfs
    have HGD := Lib.hid hgd
    have HBW := Lib.hid hbw
    have hsh := hrw.shape
    clear hrw hfs hgd hbw
    by_cases hlt : k < n
    · obtain ⟨g, rfl, hg, hc⟩ := HRD.out k hlt
      have c1 : wr.cell? ⟨g, k, none⟩ = some (.float .f64 (xs.getD k 0)) := by rw [HBW.out.cell hg]; exact hc
      have hx := HW.out k hlt
      obtain ⟨x, hxx⟩ : ∃ x, xs.getD k 0 = x := ⟨_, rfl⟩
      rw [hxx] at c1 hx
      have HX := Lib.hid hx
      have hl8 : (flts fs).length = k := by rw [flts_length, HFS.out]
      have hs63 : k + 1 ≤ maxLen := by simp only [maxLen]; omega
      have hsby : (k + 1) * 8 ≤ 140737488355328 := by omega
      have hsba : ∀ (nn : Nat) (o : Obj), w.heap.size ≤ ((wr.drewN nn).alloc o).heap.size := fun nn o => by
        have := HBW.out.size
        show _ ≤ (wr.alloc o).heap.size
        simp; omega
      clear hxx hx hc
      by_cases h0 : k = 0
      · subst h0
        rcases hsh with ⟨a8, cap8, rfl, hcs⟩ | ⟨g8, cap8, rfl, hp, -⟩
        · have HROW2 : Hid (Row (wr.alloc (.cells #[.float .f64 x] 30)) w.heap.size 30 (.slice a8 0 cap8) (flts fs)) := HRW.out.alloc _
          clear hcs
          go_wp2_with (at_builtin; refine wpList_append_own _ rfl _ _ 24 rfl w.heap.size 30 i0 (.float .f64 0) 1 8 Try.underlying24 hi hz0 hz1 hz2 rfl (by decide) _ _ _ rfl HROW2.out ⟨_, 0, none⟩ 1 1 [.float .f64 x] rfl rfl (cell_one_new _ _ _) (one_single _ _) (by rw [hl8]; simp only [maxLen]; omega) (by rw [hl8]; omega) (by have := HBW.out.size; simp; omega) ?_)
          intro v' w1 hown' hgrow _
          have hb' : Below w.heap.size w w1 := (HBW.out.alloc HBW.out.size _).grown hgrow (by have := HBW.out.size; simp; omega) (fun b e => (HROW2.out.lt b e).1)
          have HO' : Hid (Row w1 w.heap.size 30 v' (flts (fs ++ [x]))) := by
            show w1.ownsRow _ _ _ _ _ _
            rw [flts_snoc, List.length_append, hl8]
            (try rw [hl8] at hown')
            exact hown'
          have HB' := Lib.hid hb'
          have HF := Lib.hid (snocGood (d := (0 : Nat)) (G := fun i p' => IsF p' (unwO xs i)) HFS.out HGD.out HX.out)
          clear hown' hgrow hb' HROW2 HRW HBW hl8
          go_wp2
          go_roundw
          case rel => first | exact ⟨1, fs ++ [x], by go_num, by omega, HO'.out, HF.out.1, HF.out.2, HB'.out⟩ | ((repeat apply Exists.intro); refine ⟨?_, rfl⟩; exact ⟨1, fs ++ [x], by go_num, by omega, HO'.out, HF.out.1, HF.out.2, HB'.out⟩)
          case measure => simp [intOf]; omega
        · omega
      · obtain ⟨j, hj⟩ : ∃ j, k = j + 1 := ⟨k - 1, by omega⟩
        have hj1 : (k : Int) - 1 = (j : Int) := by omega
        have hjk : j < k := by omega
        have eW : IntKind.i64.wrap (j : Int) = (j : Int) := IntWalk.i64_in _ (by omega)
        have hi1 : (0 : Int) ≤ (j : Int) := by omega
        have hi2 : (j : Int) < (k : Int) := by omega
        have hi3 : (j : Int) < (n : Int) := by omega
        have hjn : j < n := by omega
        rcases hsh with ⟨a8, cap8, rfl, hcs⟩ | ⟨g8, cap8, rfl, hp, hB8, hg8, hc8, hm8⟩
        · rw [hcs] at hl8; simp at hl8; omega
        · rw [hl8] at HRW hc8 ⊢
          have HROW2 : Hid (∀ (nn : Nat) (o : Obj), ((wr.drewN nn).alloc o).ownsRow w.heap.size 30 1 (.slice (some ⟨g8, 0, none⟩) k cap8) k (flts fs)) := fun nn o => by
            have := (HRW.out.drewN nn).alloc o
            unfold Row at this
            rwa [hl8] at this
          obtain ⟨g', e', hg', hc'⟩ := HRD.out j hjn
          simp only [Option.some.injEq, Addr.mk.injEq, and_true] at e'
          subst e'
          have c2 : wr.cell? ⟨g, j, none⟩ = some (.float .f64 (xs.getD j 0)) := by rw [HBW.out.cell hg]; exact hc'
          have hy := HW.out j hjn
          obtain ⟨y, hyy⟩ : ∃ y, xs.getD j 0 = y := ⟨_, rfl⟩
          rw [hyy] at c2 hy
          have HY := Lib.hid hy
          have c3 := HRW.out.cellAt hjk
          rw [flts_getD (by have := HFS.out; omega)] at c3
          have hu := HGD.out j hjk
          obtain ⟨u, huu⟩ : ∃ u, fs.getD j 0 = u := ⟨_, rfl⟩
          rw [huu] at c3 hu
          have hmax : (k : Int) ≤ 9223372036854775807 := by omega
          have HU := Lib.hid hu
          have HNX : Hid (∀ (nn : Nat) (o : Obj) (v' : Value) (w3 : World) (q : Nat) (wf : World), IsF q (wrapO (fop .sub .f64 (wO xs k) (wO xs j))) → w3.ownsRow w.heap.size 30 1 v' (k + 1) (flts fs ++ [.float .f64 (fres .add .f64 u q wf)]) → ((wr.drewN nn).alloc o).grownBy w3 (some g8) →
              ∃ fs', Row w3 w.heap.size 30 v' (flts fs') ∧ fs'.length = k + 1 ∧ (∀ j, j < k + 1 → IsF (fs'.getD j 0) (unwO xs j)) ∧ Below w.heap.size w w3) := fun nn o v' w3 q wf hq h1 h2 => by
            have hF := snocGood (d := (0 : Nat)) (G := fun i p' => IsF p' (unwO xs i)) HFS.out HGD.out (p := fres .add .f64 u q wf) (by rw [unwO_next xs hj]; exact isF_fres HU.out hq wf)
            refine ⟨fs ++ [_], ?_, hF.1, hF.2, ((below_draws HBW.out nn).alloc HBW.out.size o).grown h2 (hsba nn o) (fun b e => by cases e; exact hB8)⟩
            show w3.ownsRow _ _ _ _ _ _
            rw [flts_snoc, List.length_append, hl8]
            exact h1
          clear hl8 hyy hy huu hu hc' hg' hj hB8 hg8
          go_wp2
          go_region_law (first
            | (refine step_append_lies _ rfl (.tmp 20) (.tmp 38) 24 rfl w.heap.size 30 i0 (.float .f64 0) 1 8 Try.underlying24 hi hz0 hz1 hz2 rfl (by decide) (.slice (some ⟨g8, 0, none⟩) k cap8) k (flts fs) rfl (HROW2.out _ _) ⟨_, 0, none⟩ 1 1 [.float .f64 _] rfl rfl (cell_one_new _ _ _) (one_single _ _) (by decide) hs63 hsby (hsba _ _) _ rfl ?_; intro g' cap' w3 hown hgrow hor hlt2; obtain ⟨fs', hrn, hfn, hgn, hbn⟩ := HNX.out _ _ _ _ _ _ HQ.out hown hgrow; have HRN := Lib.hid hrn; have HFN := Lib.hid hfn; have HGN := Lib.hid hgn; have HBN := Lib.hid hbn; clear hown hgrow hor hlt2 hrn hfn hgn hbn)
            | (go_simp; go_at_call 35; refine (wrap_spec _ _ (isF_fres HX.out HY.out _) _).mono ?_; rintro e w' ⟨q, rfl, hq, nn, rfl⟩; have HQ := Lib.hid hq; clear hq))
          all_goals
            go_wp2
            go_roundw
            case rel => first | exact ⟨k + 1, fs', by go_num, by omega, HRN.out, HFN.out, HGN.out, HBN.out⟩ | ((repeat apply Exists.intro); refine ⟨?_, rfl⟩; exact ⟨k + 1, fs', by go_num, by omega, HRN.out, HFN.out, HGN.out, HBN.out⟩)
            case measure => simp [intOf]; omega
    · have e : k = n := by omega
      subst e
      go_wp2
      go_ret
      exact ⟨_, fs, rfl, HRW.out, HFS.out, HGD.out, HBW.out⟩

end Go.Proofs.Ytnigbjjllolgdaa
/-
  UnwrapPhases and DelaysOf of both.
-/
set_option linter.unusedVariables false
set_option linter.unusedSimpArgs false
namespace Go.Proofs.Ytnigbjjllolgdaa
open Go.RowKit Flt Fast
attribute [local go_sem] run_fadd run_fsub run_fmul run_fquo run_cadd run_csub

theorem enter_unwrap1 (args : Array Value) (w : World) : (callFunc 57 args).run Try.prog w = .ok (.enter 57 args) w := by kernel_rfl

set_option maxRecDepth 100000 in
theorem unwrapping_any (w : World) :
    Calls Try.prog 28 #[] w fun e w' => e = .returned (.func (.func 57) #[] #[.pointer (some ⟨w.heap.size + 2, 0, none⟩), .pointer (some ⟨w.heap.size + 1, 0, none⟩), .pointer (some ⟨w.heap.size, 0, none⟩)]) ∧ St w w' w.heap.size 0 0 true ∧ w'.heap.size = w.heap.size + 3 := by
  go_enter Try.func28, Try.ntmps28
  go_wp2
  go_ret
  refine ⟨rfl, ⟨(((Below.refl _ _).alloc (Nat.le_refl _) _).alloc (by simp) _).alloc (by simp; omega) _, by simp, ?_, ?_, ?_, ?_, ?_, ?_⟩, by simp⟩
  all_goals go_simp

/-- Whatever is mapped, a list that is too long is an error. -/
theorem map_long (a : Option Addr) (n cap : Nat) (f : Value) (w : World) (h1 : 256 < n) (h2 : (n : Int) ≤ 9223372036854775807) :
    Calls Try.prog 27 #[.slice a n cap, f] w fun e w' => e = .returned (.tuple #[.slice none 0 0, .int .i64 3]) ∧ w' = w := by
  go_enter Try.func27, Try.ntmps27
  go_wp2
  go_ret2
  exact ⟨rfl, rfl⟩

set_option maxRecDepth 100000 in
set_option maxHeartbeats 4000000 in
theorem unwrap_impl (xs : List Nat) (hz : ∀ z ∈ xs, z < 18446744073709551616) (v : Value) (w : World) (h : Reads w v (flts xs)) :
    Calls Try.prog 8 #[v] w (FloatsTo (unwN xs.length) (unwO xs) (tooK xs.length) w) := by
  have U := Lib.hid (unwrapping_any w)
  have hcap := fl_cap h
  by_cases hb : 256 < xs.length
  · have e1 : unwN xs.length = 0 := if_pos hb
    have e2 : tooK xs.length = 3 := if_pos hb
    rw [e1, e2]
    obtain ⟨a, cap, rfl⟩ := fl_form h
    rw [flts_length] at *
    replace hcap := hcap _ _ _ rfl
    have M := Lib.hid (fun f w => map_long a xs.length cap f w hb hcap)
    obtain ⟨n, hn⟩ : ∃ n, xs.length = n := ⟨_, rfl⟩
    rw [hn] at M ⊢
    clear e1 e2 h hn hb hcap
    go_enter Try.func8, Try.ntmps8
    go_wp2_with fail
    refine U.out.mono ?_
    rintro e w2 ⟨rfl, hs, -⟩
    have HB := Lib.hid hs.below
    clear hs
    go_wp2_with fail
    refine (M.out _ _).mono ?_
    rintro e w' ⟨rfl, rfl⟩
    go_wp2
    go_ret2
    exact ⟨_, [], rfl, World.ownsRow_nil _ _ _ _, rfl, fun i hi => by omega, HB.out⟩
  · have e1 : unwN xs.length = xs.length := if_neg hb
    have e2 : tooK xs.length = 0 := if_neg hb
    rw [e1, e2]
    obtain ⟨N, hN⟩ : ∃ N, w.heap.size = N := ⟨_, rfl⟩
    have M : Hid (∀ w2 : World, St w w2 N 0 0 true → w2.heap.size = N + 3 → Calls Try.prog 27 #[v, .func (.func 57) #[] #[.pointer (some ⟨N + 2, 0, none⟩), .pointer (some ⟨N + 1, 0, none⟩), .pointer (some ⟨N, 0, none⟩)]] w2
        fun e w' => ∃ v qs, e = .returned (.tuple #[v, .int .i64 0]) ∧ Row w' w2.heap.size 30 v (fvals qs) ∧ qs.length = xs.length ∧ (∀ i, i < xs.length → IsF (qs.getD i 0) (unwO xs i)) ∧ StI xs w N xs.length w') := by
      refine Lib.hid fun w2 hs hz2 => ?_
      have hb2 : Below w.heap.size w w2 := by rw [hN]; exact hs.below
      refine map_f64_st (xs := xs) (h.below hb2) (by omega) 57 _ enter_unwrap1 (fun i q => IsF q (unwO xs i)) (StI xs w N) ?_ ?_ ?_ ?_
      · exact fun w1 hg => ⟨0, 0, hs.grown hg (fun k e => by cases e), fun c => absurd rfl c⟩
      · rintro i w1 w3 hsz ⟨bf, un, h1, h2⟩ hg
        exact ⟨bf, un, h1.grown hg (fun k e => by cases e; omega), h2⟩
      · rintro i w1 ⟨bf, un, h1, h2⟩
        exact h.below (by rw [hN]; exact h1.below)
      · intro i w1 hi hsz hI
        rw [hz2]
        exact unwrap1_any xs hz i hi w N w1 hI
    rw [hN] at U
    have HNN : Hid (w.heap.size = N) := hN
    obtain ⟨a, cap, rfl⟩ := fl_form h
    rw [flts_length] at *
    obtain ⟨n, hn⟩ : ∃ n, xs.length = n := ⟨_, rfl⟩
    rw [hn] at M ⊢
    clear e1 e2 h hz hn hb hcap hN
    go_enter Try.func8, Try.ntmps8
    go_wp2_with fail
    refine U.out.mono ?_
    rintro e w2 ⟨rfl, hs, hz2⟩
    have HM := Lib.hid (M.out w2 hs hz2)
    have HB : Hid (Below N w w2) := hs.below
    have HZ2 := Lib.hid hz2
    clear hs hz2 M U
    go_wp2_with fail
    refine HM.out.mono ?_
    rintro e w3 ⟨u, qs, rfl, hr, hq, hg, bf, un, hst, -⟩
    have HX : Hid (Row w3 w.heap.size 30 u (flts qs) ∧ qs.length = n ∧ (∀ i, i < n → IsF (qs.getD i 0) (unwO xs i)) ∧ Below w.heap.size w w3) :=
      ⟨hr.base (by have := HZ2.out; have := HNN.out; omega), hq, hg, by rw [HNN.out]; exact hst.below⟩
    clear hr hq hg hst HM
    go_wp2
    go_ret2
    exact ⟨u, qs, rfl, HX.out⟩

set_option maxRecDepth 100000 in
set_option maxHeartbeats 4000000 in
theorem unwrap_spec (xs : List Nat) (hz : ∀ z ∈ xs, z < 18446744073709551616) (v : Value) (w : World) (h : Reads w v (flts xs)) :
    Calls Try.prog 9 #[v] w (FloatsTo (unwN xs.length) (unwO xs) (tooK xs.length) w) := by
  have hcap := fl_cap h
  by_cases hb : 256 < xs.length
  · have e1 : unwN xs.length = 0 := if_pos hb
    have e2 : tooK xs.length = 3 := if_pos hb
    rw [e1, e2]
    obtain ⟨a, cap, rfl⟩ := fl_form h
    rw [flts_length] at *
    replace hcap := hcap _ _ _ rfl
    obtain ⟨n, hn⟩ : ∃ n, xs.length = n := ⟨_, rfl⟩
    rw [hn] at hcap hb ⊢
    clear e1 e2 h hn hz
    go_enter Try.func9, Try.ntmps9
    go_wp2
    go_ret2
    exact ⟨_, [], rfl, World.ownsRow_lit w #[] 0 (Nat.le_refl _) (by unfold maxLen; omega) rfl, rfl, fun i hi => by omega, (Below.refl _ _).alloc (Nat.le_refl _) _⟩
  · have e1 : unwN xs.length = xs.length := if_neg hb
    have e2 : tooK xs.length = 0 := if_neg hb
    rw [e1, e2]
    have M := Lib.hid (unwrap_model xs hz (by omega) v w h)
    obtain ⟨a, cap, rfl⟩ := fl_form h
    rw [flts_length] at *
    replace hcap := hcap _ _ _ rfl
    obtain ⟨n, hn⟩ : ∃ n, xs.length = n := ⟨_, rfl⟩
    rw [hn] at M hcap hb ⊢
    clear e1 e2 h hn hz
    go_enter Try.func9, Try.ntmps9
    go_wp2_with fail
    refine M.out.mono ?_
    rintro e w3 ⟨u, qs, rfl, hx⟩
    have HX := Lib.hid hx
    clear hx
    go_wp2
    go_ret2
    exact ⟨u, qs, rfl, HX.out⟩

end Go.Proofs.Ytnigbjjllolgdaa
/-
  DelaysOf of both.
-/
set_option linter.unusedVariables false
set_option linter.unusedSimpArgs false
namespace Go.Proofs.Ytnigbjjllolgdaa
open Go.RowKit Flt Fast
attribute [local go_sem] run_fadd run_fsub run_fmul run_fquo run_cadd run_csub

def delO (xs : List Nat) (i : Nat) : Option Nat := fop .sub .f64 (unwO xs i) (unwO xs (i + 1))
def delN (n : Nat) : Nat := if 256 < n then 0 else n - 1
theorem delN_le (n : Nat) : delN n ≤ 100000000 := by unfold delN; split <;> omega

theorem enter_delays1 (args : Array Value) (w : World) : (callFunc 31 args).run Try.prog w = .ok (.enter 31 args) w := by kernel_rfl

set_option maxRecDepth 100000 in
set_option maxHeartbeats 4000000 in
theorem delays1_any (fs : List Nat) (z : Nat → Option Nat) (n : Nat) (hl : fs.length = n) (hn : n ≤ 256) (hg : ∀ i, i < n → IsF (fs.getD i 0) (z i)) (v : Value) (i b : Nat) (hi : i + 1 < n) (w : World) (h : Reads w v (flts fs)) (hb : w.cell? ⟨b, 0, none⟩ = some v) :
    Calls Try.prog 31 #[.int .i64 i, .pointer (some ⟨b, 0, none⟩)] w fun e w' => ∃ q, e = .returned (fval q) ∧ IsF q (fop .sub .f64 (z i) (z (i + 1))) ∧ Below w.heap.size w w' := by
  have hrd := fl_reads h
  obtain ⟨a, cap, rfl⟩ := fl_form h
  rw [flts_length, hl] at *
  obtain ⟨g, rfl, -, c1⟩ := hrd _ _ _ rfl i (by omega)
  obtain ⟨g', e', -, c2⟩ := hrd _ _ _ rfl (i + 1) hi
  simp only [Option.some.injEq, Addr.mk.injEq, and_true] at e'
  subst e'
  have hx := hg i (by omega)
  have hy := hg (i + 1) hi
  obtain ⟨x, hxx⟩ : ∃ x, fs.getD i 0 = x := ⟨_, rfl⟩
  obtain ⟨y, hyy⟩ : ∃ y, fs.getD (i + 1) 0 = y := ⟨_, rfl⟩
  obtain ⟨j, hj⟩ : ∃ j, i + 1 = j := ⟨_, rfl⟩
  rw [hxx] at c1 hx
  rw [hyy] at c2 hy
  rw [hj] at c2 hy ⊢
  have hj1 : (i : Int) + 1 = (j : Int) := by omega
  have eW : IntKind.i64.wrap (j : Int) = (j : Int) := IntWalk.i64_in _ (by omega)
  have hi1 : (0 : Int) ≤ (j : Int) := by omega
  have hi2 : (j : Int) < (n : Int) := by omega
  have hi3 : (i : Int) < (n : Int) := by omega
  have HX := Lib.hid hx
  have HY := Lib.hid hy
  clear h hg hrd hxx hyy hx hy hl hj hi
  go_enter Try.func31, Try.ntmps31
  go_wp2
  go_region
  go_wp2
  go_ret
  exact ⟨_, rfl, isF_fres HX.out HY.out _, below_draws (Below.refl _ _) _⟩

set_option maxRecDepth 100000 in
set_option maxHeartbeats 4000000 in
theorem delays_impl (xs : List Nat) (hz : ∀ z ∈ xs, z < 18446744073709551616) (v : Value) (w : World) (h : Reads w v (flts xs)) :
    Calls Try.prog 10 #[v] w (FloatsTo (delN xs.length) (delO xs) (tooK xs.length) w) := by
  have U := Lib.hid (unwrap_impl xs hz v w h)
  have hD : ∀ i, delO xs i = fop .sub .f64 (unwO xs i) (unwO xs (i + 1)) := fun i => rfl
  obtain ⟨K, hK⟩ : ∃ K, tooK xs.length = K := ⟨_, rfl⟩
  obtain ⟨n, hn⟩ : ∃ n, unwN xs.length = n := ⟨_, rfl⟩
  have hn256 : n ≤ 256 := by rw [← hn]; unfold unwN; split <;> omega
  have hdn : delN xs.length = n - 1 := by rw [← hn]; unfold delN unwN; split <;> omega
  rw [hK, hdn]
  rw [hK, hn] at U
  clear hK hn hdn h
  obtain ⟨m, hm⟩ : ∃ m, n - 1 = m := ⟨_, rfl⟩
  rw [hm]
  have HD := Lib.hid hD
  clear hD
  go_enter Try.func10, Try.ntmps10
  go_wp2_with fail
  refine U.out.mono ?_
  rintro e w2 ⟨u, fs, rfl, hr, hl, hg, hb⟩
  have hrr := hr.reads
  have HB := Lib.hid hb
  have HG := Lib.hid hg
  have HL := Lib.hid hl
  obtain ⟨a, cap, rfl⟩ := fl_form hrr
  rw [flts_length, hl] at hrr
  clear hr
  rw [flts_length, hl]
  have hmax : (if (n : Int) - 1 < 0 then (0 : Int) else (n : Int) - 1) = (m : Int) := by split <;> omega
  have C := Lib.hid (fun (i : Nat) (hi : i < m) (w1 : World) (b : Nat) (h1 : Reads w1 (.slice a n cap) (flts fs)) => delays1_any fs (unwO xs) n HL.out hn256 HG.out (.slice a n cap) i b (by omega) w1 h1)
  have L : Hid (∀ w3 : World, Below w2.heap.size w2 w3 → w2.heap.size < w3.heap.size → w3.cell? ⟨w2.heap.size, 0, none⟩ = some (.slice a n cap) → Calls Try.prog 30 #[.int .i64 m, .func (.func 31) #[] #[.pointer (some ⟨w2.heap.size, 0, none⟩)]] w3 fun e w' =>
      ∃ v xs', e = .returned v ∧ Row w' w3.heap.size 30 v (flts xs') ∧ xs'.length = m ∧ (∀ i, i < m → IsF (xs'.getD i 0) (delO xs i)) ∧ Below w3.heap.size w3 w') := by
    refine Lib.hid fun w3 hb3 hlt hc => listOf_f64' 31 _ m (by omega) (delO xs) w3 enter_delays1 fun i w1 hi hb1 => ?_
    refine (C.out i hi w1 w2.heap.size ((hrr.below hb3).below hb1) (by rw [hb1.cell hlt]; exact hc)).mono ?_
    rintro e w4 ⟨q, rfl, hq, hb4⟩
    exact ⟨q, rfl, by rw [HD.out]; exact hq, hb4⟩
  clear hrr hl hg hb C
  go_wp2_with (go_at_call 30; with_reducible refine (L.out _ ?_ ?_ ?_).mono ?_)
  · exact (Below.refl _ _).alloc (Nat.le_refl _) _
  · simp
  · go_simp
  rintro e w3 ⟨v', fs', rfl, hr', hl', hg', hb'⟩
  have HX : Hid (Row w3 w.heap.size 30 v' (flts fs') ∧ fs'.length = m ∧ (∀ i, i < m → IsF (fs'.getD i 0) (delO xs i)) ∧ Below w.heap.size w w3) := by
    have hs := HB.out.size
    refine ⟨hr'.base (by simp; omega), hl', hg', ?_⟩
    exact below_step (HB.out.alloc hs _) hb' (by simp; omega)
  clear hr' hl' hg' hb'
  go_wp2
  go_ret2
  exact ⟨v', fs', rfl, HX.out⟩

end Go.Proofs.Ytnigbjjllolgdaa
/-
  DelaysOf of the model.
-/
set_option linter.unusedVariables false
set_option linter.unusedSimpArgs false
namespace Go.Proofs.Ytnigbjjllolgdaa
open Go.RowKit Flt Fast
attribute [local go_sem] run_fadd run_fsub run_fmul run_fquo run_cadd run_csub

end Go.Proofs.Ytnigbjjllolgdaa
/-
  Phases that are multiples of a 32nd: wrapped and unwrapped, exactly.
-/
set_option linter.unusedVariables false
set_option linter.unusedSimpArgs false
namespace Go.Proofs.Ytnigbjjllolgdaa
open Go.RowKit Flt

/-- A multiple of a 32nd. -/
def th (k : Int) : Rat := (k : Rat) / 32
theorem th_dy {k : Int} {K : Nat} (h : k.natAbs ≤ K) : Dy 5 K (th k) := ⟨k, h, by show (k : Rat) / 32 * 32 = _; rw [Rat.div_def]; grind⟩
theorem th_add (a b : Int) : th a + th b = th (a + b) := by unfold th; rw [Rat.intCast_add, Rat.div_def, Rat.div_def, Rat.div_def]; grind
theorem th_sub (a b : Int) : th a - th b = th (a - b) := by unfold th; rw [Rat.intCast_sub, Rat.div_def, Rat.div_def, Rat.div_def]; grind
theorem th_int (d : Int) : (d : Rat) = th (32 * d) := by unfold th; rw [Rat.intCast_mul, Rat.div_def]; show _ = (32 : Rat) * _ * _; grind
theorem th_le {a b : Int} (h : a ≤ b) : th a ≤ th b := by
  unfold th
  rw [Rat.div_def, Rat.div_def]
  exact Rat.mul_le_mul_of_nonneg_right (Rat.intCast_le_intCast.2 h) (by decide +kernel)
theorem th_lt {a b : Int} (h : a < b) : th a < th b := by
  unfold th
  rw [Rat.div_def, Rat.div_def]
  exact Rat.mul_lt_mul_of_pos_right (Rat.intCast_lt_intCast.2 h) (by decide +kernel)

theorem fv_th_add {a b : Option Nat} {k m : Int} (h : (k + m).natAbs ≤ 1073741824) (ha : Fv a (th k)) (hb : Fv b (th m)) : Fv (fop .add .f64 a b) (th (k + m)) := by
  rw [← th_add] at *
  exact Dy.fv_add (e := 5) (K := 1073741824) (by rw [th_add]; exact th_dy h) (by decide) (by decide) ha hb
theorem fv_th_sub {a b : Option Nat} {k m : Int} (h : (k - m).natAbs ≤ 1073741824) (ha : Fv a (th k)) (hb : Fv b (th m)) : Fv (fop .sub .f64 a b) (th (k - m)) := by
  rw [← th_sub] at *
  exact Dy.fv_sub (e := 5) (K := 1073741824) (by rw [th_sub]; exact th_dy h) (by decide) (by decide) ha hb

/-- A phase without whole turns. -/
def wrI (k : Int) : Int := k - 32 * ((k + 16) / 32)
theorem wrI_range (k : Int) : -16 ≤ wrI k ∧ wrI k ≤ 15 := by unfold wrI; omega

theorem half_fv : Fv (some half) (th 16) := by
  refine ⟨half, rfl, ⟨by decide, by decide⟩, ?_⟩
  decide +kernel

theorem fv_finO {z : Option Nat} {q : Rat} (h : Fv z q) : finO z = true := by
  obtain ⟨x, rfl, hx, -⟩ := h
  exact decide_eq_true hx.2

theorem fv_wrap {z : Option Nat} {k : Int} (hk : k.natAbs ≤ 1000000) (h : Fv z (th k)) : Fv (wrapO z) (th (wrI k)) := by
  have h1 := fv_th_add (by omega) h half_fv
  have h2 := fv_flo (f := (k + 16) / 32) h1 (by rw [th_int]; exact th_le (by omega)) (by
    rw [show (((k + 16) / 32 : Int) : Rat) + 1 = (((k + 16) / 32 + 1 : Int) : Rat) by rw [Rat.intCast_add]; rfl, th_int]; exact th_lt (by omega)) (by omega)
  rw [th_int] at h2
  unfold wrapO
  rw [if_pos (fv_finO h)]
  exact fv_th_sub (by omega) h h2

/-- Unwrapped phases. -/
def unI (K : Nat → Int) : Nat → Int
  | 0 => K 0
  | i + 1 => unI K i + wrI (K (i + 1) - K i)
theorem unI_range (K : Nat → Int) (hK : ∀ i, -128 ≤ K i ∧ K i ≤ 128) (i : Nat) : (unI K i).natAbs ≤ 128 + 16 * i := by
  induction i with
  | zero => have := hK 0; unfold unI; omega
  | succ i ih =>
    have := wrI_range (K (i + 1) - K i)
    unfold unI
    omega
theorem unI_whole (K : Nat → Int) (i : Nat) : ∃ D : Int, unI K i = K i + 32 * D := by
  induction i with
  | zero => exact ⟨0, by unfold unI; omega⟩
  | succ i ih =>
    obtain ⟨D, hD⟩ := ih
    refine ⟨D - (K (i + 1) - K i + 16) / 32, ?_⟩
    unfold unI wrI
    omega

theorem unw_fv {xs : List Nat} {n : Nat} {K : Nat → Int} (hK : ∀ i, -128 ≤ K i ∧ K i ≤ 128) (hx : ∀ i, i < n → Fv (wO xs i) (th (K i))) (hn : n ≤ 100) : ∀ i, i < n → Fv (unwO xs i) (th (unI K i)) := by
  intro i
  induction i with
  | zero => intro hi; exact hx 0 hi
  | succ i ih =>
    intro hi
    have h0 := ih (by omega)
    have k0 := hK i
    have k1 := hK (i + 1)
    have h1 := fv_wrap (by omega) (fv_th_sub (by omega) (hx (i + 1) hi) (hx i (by omega)))
    have r0 := unI_range K hK i
    have r1 := wrI_range (K (i + 1) - K i)
    unfold unwO unI
    exact fv_th_add (by omega) h0 h1

end Go.Proofs.Ytnigbjjllolgdaa
/-
  Bytes that came in; a2At, a2Long.
-/
set_option linter.unusedVariables false
set_option linter.unusedSimpArgs false
namespace Go.Proofs.Ytnigbjjllolgdaa
open Go.RowKit

theorem isRow_cell {w0 w : World} {x : Addr} {len cap : Nat} {zs : List Int} (hr : IsRow .u8 w0 (some x) len cap zs) (hb : Below w0.heap.size w0 w) {k : Nat} (hk : k < len) :
    ∃ z : Int, w.cell? (x.add k) = some (.int .u8 z) ∧ 0 ≤ z ∧ z ≤ 255 := by
  rcases hr with ⟨h, -⟩ | ⟨y, h, hl, hm, hz, hc, hw⟩
  · cases h
  · obtain rfl := Option.some.inj h
    have hk' : k < zs.length := by omega
    have c := hc k hk'
    refine ⟨zs.getD k 0, ?_, ?_⟩
    · rw [hb.cell (World.block_lt_of_cell? _ _ c), c]
    · have hmem : zs.getD k 0 ∈ zs := by
        rw [List.getD_eq_getElem?_getD, List.getElem?_eq_getElem hk']
        exact List.getElem_mem hk'
      have := hw _ hmem
      simp only [Lit.wf, decide_eq_true_eq] at this
      have h1 : IntKind.u8.min = 0 := by decide
      have h2 : IntKind.u8.max = 255 := by decide
      rw [h1, h2] at this
      simpa using this

theorem isRow_len {w0 : World} {a : Option Addr} {len cap : Nat} {zs : List Int} (hr : IsRow .u8 w0 a len cap zs) : len ≤ 9223372036854775807 := by
  rcases hr with ⟨-, rfl, -⟩ | ⟨y, h, hl, hm, hz, hc, hw⟩
  · omega
  · unfold maxLen at hm; omega

theorem isRow_below {k : IntKind} {w0 w1 : World} {a : Option Addr} {len cap : Nat} {zs : List Int} (hr : IsRow k w0 a len cap zs) (hb : Below w0.heap.size w0 w1) : IsRow k w1 a len cap zs := by
  rcases hr with h | ⟨x, h, hl, hm, hz, hc, hw⟩
  · exact .inl h
  · exact .inr ⟨x, h, hl, hm, hz, fun i hi => by rw [hb.cell (World.block_lt_of_cell? _ _ (hc i hi)), hc i hi], hw⟩

/-- A number from 0 to n - 1 is returned. -/
def Upto (n : Int) (w : World) (e : Ending) (w' : World) : Prop := ∃ r : Int, 0 ≤ r ∧ r < n ∧ e = .returned (.int .i64 r) ∧ w' = w

end Go.Proofs.Ytnigbjjllolgdaa
