/-
  Several texts of this claim, one behind the other; each says what it holds.
-/
import Derived.Test.YtocjhanehphibaaMConvol11
import Derived.Lib.Hide
/-
  CircleConvolve of the program.
-/
set_option linter.unusedVariables false
set_option linter.unusedSimpArgs false
namespace Go.Proofs.Ytocjhanehphibaa
open Go.RowKit Flt Fast

theorem checkPairC_any (a1 a2 : Option Addr) (n c1 c2 : Nat) (hn : n ≤ 256) (w : World) :
    Calls Try.prog 44 #[.slice a1 n c1, .slice a2 n c2] w fun e w' => e = .returned (.int .i64 0) ∧ w' = w := by
  have g : decide ((256 : Int) < (n : Int)) = false := decide_eq_false (by omega)
  go_enter Try.func44, Try.ntmps44
  go_wp2
  go_ret
  exact ⟨rfl, rfl⟩

theorem cvPart_circle (X H : List Z) (n : Nat) (hn : 0 < n) (hX : X.length = 2 * n) (hH : H.length = n) : cvPart X H n (2 * n) = (List.range n).map fun i => cvAt X H (n + i) := by
  unfold cvPart
  rw [hX, hH, cvLen_pos (by omega) (by omega), show min (2 * n) (max n (2 * n + n - 1)) - n = n by omega]

set_option maxRecDepth 100000 in
set_option maxHeartbeats 4000000 in
theorem circle_impl (x h : List C) (v1 v2 : Value) (n : Nat) (hn : 0 < n) (hn2 : n ≤ 256) (hx : x.length = n) (hh : h.length = n) (hwx : WfC x) (hwh : WfC h) (w : World) (hrx : RdO w.heap.size w v1 x) (hrh : RdO w.heap.size w v2 h) :
    Calls Try.prog 16 #[v1, v2] w fun e w' =>
      ∃ v ps, e = .returned (.tuple #[v, .int .i64 0]) ∧ Row w' w.heap.size 30 v (cvals ps) ∧ ps.length = n ∧ (∀ i, i < n → IsC (ps.getD i (0, 0)) (cvAt (zsOf (x ++ x)) (zsOf h) (n + i))) ∧ Below w.heap.size w w' := by
  have hwxx : WfC (x ++ x) := fun p hp => by rcases List.mem_append.1 hp with h | h <;> exact hwx p h
  have hxx : (x ++ x).length = 2 * n := by rw [List.length_append, hx]; omega
  have HNUM : Hid (∀ (w1 : World) (u : Value), Below w.heap.size w w1 → RdO w1.heap.size w1 u (x ++ x) → Calls Try.prog 46 #[.agg #[u, v2], .int .i64 n, .int .i64 ((2 * n : Nat) : Int)] w1 fun e w' =>
      ∃ v ps, e = .returned v ∧ Row w' w1.heap.size 30 v (cvals ps) ∧ ps.length = n ∧ (∀ i, i < n → IsC (ps.getD i (0, 0)) (cvAt (zsOf (x ++ x)) (zsOf h) (n + i))) ∧ Below w1.heap.size w1 w') := Lib.hid fun w1 u hb hr => by
    refine (numbers_any (x ++ x) h n (2 * n) u v2 (by omega) (by omega) (by omega) (by omega) hwxx hwh w1 hr ((hrh.below hb).base hb.size)).mono ?_
    rintro e w' ⟨v, ps, rfl, hr, hf, hB⟩
    rw [cvPart_circle _ _ _ hn (by rw [zsOf_length]; exact hxx) (by rw [zsOf_length]; exact hh)] at hf
    have hl : ps.length = n := by rw [hf.1]; simp
    refine ⟨v, ps, rfl, hr, hl, fun i hi => ?_, hB⟩
    have := hf.2 i (by simpa using hi)
    simpa [List.getD, hi] using this
  have HCAT : Hid (∀ (w1 : World) (g : Nat), Below w.heap.size w w1 → g < w1.heap.size → w1.cell? ⟨g, 0, none⟩ = some v1 → w1.cell? ⟨g, 1, none⟩ = some v1 → Calls Try.prog 45 #[.slice (some ⟨g, 0, none⟩) 2 2] w1 fun e w' => ∃ v, e = .returned v ∧ Row w' w1.heap.size 30 v (cvals (x ++ x)) ∧ Below w1.heap.size w1 w') := Lib.hid fun w1 g hb hg h0 h1 =>
    concat_any x x v1 v1 (by omega) g w1 ((hrx.below hb).base hb.size) ((hrx.below hb).base hb.size) hg h0 h1
  obtain ⟨a1, c1, e1, -, -, -⟩ := hrx.find
  obtain ⟨a2, c2, e2, -, -, -⟩ := hrh.find
  subst e1
  subst e2
  rw [hx] at HCAT ⊢
  rw [hh] at HNUM ⊢
  have HCK := Lib.hid (fun w => checkPairC_any a1 a2 n c1 c2 hn2 w)
  obtain ⟨zz, hzz⟩ : ∃ zz, (fun i => cvAt (zsOf (x ++ x)) (zsOf h) (n + i)) = zz := ⟨_, rfl⟩
  have hzz' : ∀ i, cvAt (zsOf (x ++ x)) (zsOf h) (n + i) = zz i := fun i => by rw [← hzz]
  simp only [hzz'] at HNUM ⊢
  have e2n : 2 * (n : Int) = ((2 * n : Nat) : Int) := by omega
  obtain ⟨n2, hn2'⟩ : ∃ k, 2 * n = k := ⟨_, rfl⟩
  rw [hn2'] at HNUM e2n
  have hn3 : n2 ≤ 512 := by omega
  clear hrx hrh hwx hwh hwxx hxx hx hh hzz hzz' hn2'
  go_enter Try.func16, Try.ntmps16
  go_wp2_with fail
  refine (HCK.out _).mono ?_
  rintro e w' ⟨rfl, rfl⟩
  obtain ⟨N, hN⟩ : ∃ N, w'.heap.size = N := ⟨_, rfl⟩
  obtain ⟨W1, hW1⟩ : ∃ W, w'.alloc (.cells #[.slice a1 n c1, .slice a1 n c1] 24) = W := ⟨_, rfl⟩
  have hs1 : W1.heap.size = N + 1 := by rw [← hW1, ← hN]; simp
  have hb1 : Below N w' W1 := by rw [← hW1, ← hN]; exact (Below.refl _ _).alloc (Nat.le_refl _) _
  have hc0 : W1.cell? ⟨N, 0, none⟩ = some (.slice a1 n c1) := by rw [← hW1, ← hN]; exact cell_of_heap (World.alloc_heap_new w' _) rfl
  have hc1 : W1.cell? ⟨N, 1, none⟩ = some (.slice a1 n c1) := by rw [← hW1, ← hN]; exact cell_of_heap (World.alloc_heap_new w' _) rfl
  have K := Lib.hid (HCAT.out W1 N (by rw [hN]; exact hb1) (by omega) hc0 hc1)
  have HW1 := Lib.hid hW1
  have HS1 := Lib.hid hs1
  have HB1 := Lib.hid hb1
  have HN := Lib.hid hN
  clear hW1 hs1 hb1 hc0 hc1 HCAT hN
  go_wp2_with fail
  rw [HW1.out]
  try rw [HN.out]
  refine K.out.mono ?_
  rintro e w2 ⟨v, rfl, hr, hb⟩
  obtain ⟨va, vc, rfl⟩ := hr.written rfl
  have hz1 : N ≤ W1.heap.size := by rw [HS1.out]; omega
  have hb2 : Below N w' w2 := HB1.out.trans (hb.mono hz1)
  obtain ⟨W2, hW2⟩ : ∃ W, w2.alloc (.cells #[.slice va (cvals (x ++ x)).length vc, .slice a2 n c2] 65) = W := ⟨_, rfl⟩
  have hbA : Below w2.heap.size w2 W2 := by rw [← hW2]; exact (Below.refl _ _).alloc (Nat.le_refl _) _
  have hz2 : N ≤ w2.heap.size := Nat.le_trans hz1 hb.size
  have hb3 : Below N w' W2 := hb2.trans (hbA.mono hz2)
  have hc0 : W2.cell? ⟨w2.heap.size, 0, none⟩ = some (.slice va (cvals (x ++ x)).length vc) := by rw [← hW2]; exact cell_of_heap (World.alloc_heap_new w2 _) rfl
  have hc1 : W2.cell? ⟨w2.heap.size, 1, none⟩ = some (.slice a2 n c2) := by rw [← hW2]; exact cell_of_heap (World.alloc_heap_new w2 _) rfl
  have hrd : RdO W2.heap.size W2 (.slice va (cvals (x ++ x)).length vc) (x ++ x) := RdO.of_row (hr.below hbA (fun k e => (hr.lt k e).2)) (fun k e => Nat.lt_of_lt_of_le (hr.lt k e).2 hbA.size)
  have K2 := Lib.hid (HNUM.out W2 _ (by rw [HN.out]; exact hb3) hrd)
  have HW2 := Lib.hid hW2
  have HB3 := Lib.hid hb3
  obtain ⟨ln, hln⟩ : ∃ ln, (cvals (x ++ x)).length = ln := ⟨_, rfl⟩
  rw [hln] at K2 HW2 hc0 ⊢
  have hzW : N ≤ W2.heap.size := Nat.le_trans hz2 hbA.size
  clear K hr hb hb2 hbA hb3 hrd hW2 HNUM hln HB1
  go_wp2_with fail
  rw [HW2.out]
  refine K2.out.mono ?_
  rintro e w4 ⟨v, ps, rfl, hr, hpl, hps, hb⟩
  obtain ⟨ua, uc, rfl⟩ := hr.written rfl
  have HR := Lib.hid (hr.base hzW)
  have HPL := Lib.hid hpl
  have HPS := Lib.hid hps
  have HB := Lib.hid (below_step HB3.out hb hzW)
  clear hr hpl hps hb
  go_wp2
  go_ret2
  exact ⟨_, ps, rfl, by rw [HN.out]; exact HR.out, HPL.out, HPS.out, by rw [HN.out]; exact HB.out⟩

end Go.Proofs.Ytocjhanehphibaa
/-
  The model's comparisons of numbers that are the same.
-/
set_option linter.unusedVariables false
set_option linter.unusedSimpArgs false
namespace Go.Proofs.Ytocjhanehphibaa
open Go.RowKit Flt

theorem l01NaN_any (a : Nat) (w : World) :
    Calls Try.prog 98 #[.float .f64 a] w fun e w' => e = .returned (.bool (nan FloatKind.f64.format a)) ∧ w' = w := by
  by_cases ha : nan FloatKind.f64.format a = true
  · have ho : FloatKind.f64.format.order a a = none := ord_nan_l _ ha
    rw [ha]
    clear ha
    go_enter Try.func98, Try.ntmps98
    go_wp2
    go_ret
    exact ⟨rfl, rfl⟩
  · have ha : nan FloatKind.f64.format a = false := by simpa using ha
    have ho : FloatKind.f64.format.order a a = some .eq := ord_eq ha ha rfl
    rw [ha]
    clear ha
    go_enter Try.func98, Try.ntmps98
    go_wp2
    go_ret
    exact ⟨rfl, rfl⟩

theorem l01SameFloat_cn (a b : Nat) (h : cn .f64 a = cn .f64 b) (w : World) :
    Calls Try.prog 85 #[.float .f64 a, .float .f64 b] w fun e w' => e = .returned (.bool true) ∧ w' = w := by
  have na := l01NaN_any a
  have nb := l01NaN_any b
  by_cases ha : nan FloatKind.f64.format a = true
  · have hb : nan FloatKind.f64.format b = true := by
      rw [cn_none ha] at h
      by_cases hb : nan FloatKind.f64.format b = true
      · exact hb
      · rw [cn_some (by simpa using hb)] at h; cases h
    rw [ha] at na
    rw [hb] at nb
    clear ha hb h
    go_enter Try.func85, Try.ntmps85
    go_wp2_with (go_at_call 98; (first | ((with_reducible refine (na _).mono ?_); rintro e w' ⟨rfl, rfl⟩) | ((with_reducible refine (nb _).mono ?_); rintro e w' ⟨rfl, rfl⟩)))
    go_ret
    exact ⟨rfl, rfl⟩
  · have ha : nan FloatKind.f64.format a = false := by simpa using ha
    have hb : nan FloatKind.f64.format b = false := by
      rw [cn_some ha] at h
      by_cases hb : nan FloatKind.f64.format b = true
      · rw [cn_none hb] at h; cases h
      · simpa using hb
    obtain rfl : a = b := by rw [cn_some ha, cn_some hb] at h; exact Option.some.inj h
    rw [ha] at na
    clear ha hb h nb
    go_enter Try.func85, Try.ntmps85
    go_wp2_with (go_at_call 98; refine (na _).mono ?_; rintro e w' ⟨rfl, rfl⟩)
    go_ret
    exact ⟨rfl, rfl⟩

theorem l01Same_cn (a b c d : Nat) (h1 : cn .f64 a = cn .f64 c) (h2 : cn .f64 b = cn .f64 d) (w : World) :
    Calls Try.prog 67 #[.complex .f64 a b, .complex .f64 c d] w fun e w' => e = .returned (.bool true) ∧ w' = w := by
  have s1 := l01SameFloat_cn a c h1
  have s2 := l01SameFloat_cn b d h2
  clear h1 h2
  go_enter Try.func67, Try.ntmps67
  go_wp2_with (go_at_call 85; (first | ((with_reducible refine (s1 _).mono ?_); rintro e w' ⟨rfl, rfl⟩) | ((with_reducible refine (s2 _).mono ?_); rintro e w' ⟨rfl, rfl⟩)))
  go_ret
  exact ⟨rfl, rfl⟩

theorem widen_same {a c : Nat} (h : cn .f32 a = cn .f32 c) : floatToFloatBits .f32 a .f64 = floatToFloatBits .f32 c .f64 := by
  by_cases ha : nan FloatKind.f32.format a = true
  · have hc : nan FloatKind.f32.format c = true := by
      rw [cn_none ha] at h
      by_cases hb : nan FloatKind.f32.format c = true
      · exact hb
      · rw [cn_some (by simpa using hb)] at h; cases h
    rw [widen_nan ha, widen_nan hc]
  · have ha : nan FloatKind.f32.format a = false := by simpa using ha
    by_cases hc : nan FloatKind.f32.format c = true
    · rw [cn_some ha, cn_none hc] at h; cases h
    · rw [cn_some ha, cn_some (by simpa using hc)] at h
      rw [Option.some.inj h]

end Go.Proofs.Ytocjhanehphibaa
/-
  AddSignals, EnergyOf, DotOf, SumOf, NarrowSignal, WidenSignal, ScaleSignal of the program.
-/
set_option linter.unusedVariables false
set_option linter.unusedSimpArgs false
namespace Go.Proofs.Ytocjhanehphibaa
open Go.RowKit Flt Fast
attribute [local go_sem] run_fadd run_fsub run_fmul run_fquo run_cadd run_csub

/-- The shape of what is read. -/
theorem Reads.form {w : World} {v : Value} {cs : List Value} (h : Reads w v cs) : ∃ a cap, v = .slice a cs.length cap := by
  cases h with
  | none a cap => exact ⟨a, cap, rfl⟩
  | row g cap L cs hL => subst hL; exact ⟨_, cap, rfl⟩

theorem checkPair_any (a a' : Option Addr) (L cap cap' : Nat) (hL : L ≤ 256) (w : World) :
    Calls Try.prog 44 #[.slice a L cap, .slice a' L cap'] w fun e w' => e = .returned (.int .i64 0) ∧ w' = w := by
  go_enter Try.func44, Try.ntmps44
  go_wp2
  go_ret
  exact ⟨rfl, rfl⟩

/-- The conjugate. -/
def conjZ (x : Z) : Z := (x.1, fneg .f64 x.2)

end Go.Proofs.Ytocjhanehphibaa
/-
  What is widened is narrowed to what it was. No program.
-/
set_option linter.unusedVariables false
set_option linter.unusedSimpArgs false
namespace Go.Proofs.Ytocjhanehphibaa.Flt
open Go

theorem word_parts {u : Nat} (hu : u < 4294967296) : Ieee.single.word (u / 2147483648 % 2 == 1) (u % 2147483648) = u := by
  have hs : Ieee.single.signWeight = 2147483648 := sw32
  unfold Ieee.Format.word
  rw [hs]
  by_cases h : u / 2147483648 % 2 = 1
  · rw [h]; simp only [beq_self_eq_true, if_true]; omega
  · have : (u / 2147483648 % 2 == 1) = false := by simpa using h
    rw [this]; simp only [Bool.false_eq_true, if_false]; omega

theorem narrow_widen {u v : Nat} (hu : u < 4294967296) (hn : nan FloatKind.f32.format u = false) (h : floatToFloatBits .f32 u .f64 = some v) : floatToFloatBits .f64 v .f32 = some u := by
  have h0 : ¬ 2139095040 < u % 2147483648 := by
    have h' : nan Ieee.single u = false := hn
    rw [nan32] at h'
    exact of_decide_eq_false h'
  by_cases h1 : u % 2147483648 = 2139095040
  · rw [widen_inf h1] at h
    obtain rfl := Option.some.inj h
    have hs : Ieee.double.signWeight = 9223372036854775808 := sw64
    have e : ∀ s : Bool, Ieee.double.word s 9218868437227405312 % 9223372036854775808 = 9218868437227405312 ∧ (Ieee.double.word s 9218868437227405312 / 9223372036854775808 % 2 == 1) = s := by
      intro s
      unfold Ieee.Format.word
      rw [hs]
      cases s <;> decide
    have d1 : FloatKind.f64.decode (Ieee.double.word (u / 2147483648 % 2 == 1) 9218868437227405312) = .infinity (u / 2147483648 % 2 == 1) := by
      have := read_inf Ieee.double (x := Ieee.double.word (u / 2147483648 % 2 == 1) 9218868437227405312) (by rw [sw64, ir64]; exact (e _).1) hbi64
      rw [sw64, (e _).2] at this
      exact this
    unfold floatToFloatBits
    rw [if_neg (by decide), d1]
    show some (Ieee.single.word _ Ieee.single.infRung) = _
    rw [ir32, ← h1, word_parts hu]
  · obtain ⟨r', h2, h3, h4⟩ := widen_fin (u := u) (by omega)
    rw [h4] at h
    obtain rfl := Option.some.inj h
    obtain ⟨m, p, e, l, v⟩ := read_word Ieee.double (u / 2147483648 % 2 == 1) (r := r') (by rw [ir64]; exact h2)
    have l32 : Ieee.single.leastPlace = -149 := by decide
    have l64 : Ieee.double.leastPlace = -1074 := by decide
    have hw : Ieee.single.nearest (u / 2147483648 % 2 == 1) m p = Ieee.single.word (u / 2147483648 % 2 == 1) (u % 2147483648) := by
      refine nearest_exact Ieee.single _ (base := -1074) (by rw [ir32]; omega) (by rw [l64] at l; exact l) (by rw [l32]; omega) ?_
      rw [l64] at v
      rw [l32, show ((-149 : Int) - -1074).toNat = wideUp from rfl, ← h3]
      exact v
    obtain ⟨m', p', e', -, -⟩ := read_word Ieee.single (u / 2147483648 % 2 == 1) (r := u % 2147483648) (by rw [ir32]; omega)
    rw [word_parts hu] at hw e'
    unfold floatToFloatBits
    rw [if_neg (by decide)]
    have d1 : FloatKind.f64.decode (Ieee.double.word (u / 2147483648 % 2 == 1) r') = .number (u / 2147483648 % 2 == 1) m p := e
    rw [d1]
    have d2 : FloatKind.f32.encode (.number (u / 2147483648 % 2 == 1) m p) = u := hw
    simp only [d2]
    have d3 : FloatKind.f32.decode u = .number (u / 2147483648 % 2 == 1) m' p' := e'
    rw [d3]
    rfl

/-- What is narrowed, widened and narrowed again is the same. -/
theorem narrow_again {u r u' : Nat} (hu : u < 4294967296) (hr : cn .f64 r = floatToFloatBits .f32 u .f64) (h' : Narrows r u') : cn .f32 u = cn .f32 u' := by
  by_cases hn : nan FloatKind.f32.format u = true
  · rw [widen_nan hn] at hr
    rw [cn_none hn, cn_none (h'.nan (nan_of_cn hr))]
  · have hn : nan FloatKind.f32.format u = false := by simpa using hn
    obtain ⟨v, e, -, -⟩ := widen_num hn
    rw [e] at hr
    obtain ⟨-, rfl⟩ := num_of_cn hr
    rw [h'.val u (narrow_widen hu hn e)]
end Go.Proofs.Ytocjhanehphibaa.Flt
/-
  SameSignals of the program and of the model, SameNarrows, where they are the same.
-/
set_option linter.unusedVariables false
set_option linter.unusedSimpArgs false
namespace Go.Proofs.Ytocjhanehphibaa
open Go.RowKit Flt Fast

theorem sameB_of {a b : Nat} {z : Option Nat} (h : IsF a z) (k : IsF b z) : sameB a b = true := by unfold sameB; rw [h.cn, k.cn]; simp

set_option maxRecDepth 100000 in
set_option maxHeartbeats 4000000 in
theorem l01SameSignals_any {v v' : Value} {xs ys : List C} {w : World} (h : Reads w v (cvals xs)) (h' : Reads w v' (cvals ys)) (hxy : xs.length = ys.length)
    (he : ∀ j, j < xs.length → ∃ z, IsC (xs.getD j (0, 0)) z ∧ IsC (ys.getD j (0, 0)) z) :
    Calls Try.prog 38 #[v, v'] w fun e w' => e = .returned (.bool true) ∧ ∃ n, w' = w.drewN n := by
  generalize hcs : cvals xs = cs at h
  generalize hcs' : cvals ys = cs' at h'
  have hcl : cs.length = xs.length := by rw [← hcs, cvals_length]
  have hcl' : cs'.length = ys.length := by rw [← hcs', cvals_length]
  cases h with
  | none a cap =>
    have h0 : xs.length = 0 := by rw [← hcl]; rfl
    cases h' with
    | row g' cap' L' _ hL' h0' => rw [hL'] at hcl'; omega
    | none a' cap' =>
      clear hcs hcl hcs' hcl' h0 he hxy
      go_enter Try.func38, Try.ntmps38
      go_wp2
      refine wp_loop_rounds 1 ?_
      rw [rounds_succ]
      go_wp2
      go_ret
      exact ⟨rfl, 0, rfl⟩
  | row g cap L cs hL h0 hc hm hcell =>
    cases h' with
    | none a' cap' => simp at hcl'; omega
    | row g' cap' L' cs' hL' h0' hc' hm' hcell' =>
      obtain rfl : L = xs.length := by rw [← hL]; exact hcl
      obtain rfl : L' = xs.length := by rw [← hL', hcl', hxy]
      obtain ⟨L, hxl⟩ : ∃ L, xs.length = L := ⟨_, rfl⟩
      rw [hxl] at h0 hc hc'
      have hmax := maxLen_int (Nat.le_trans hc hm)
      have hgl : g < w.heap.size := World.block_lt_of_cell? _ _ (hcell 0 (by omega))
      have hgl' : g' < w.heap.size := World.block_lt_of_cell? _ _ (hcell' 0 (by omega))
      have HC : Hid (∀ j, j < L → w.cell? ⟨g, j, none⟩ = some (.complex .f64 (xs.getD j (0, 0)).1 (xs.getD j (0, 0)).2)) := fun j hj => by rw [hcell j (by omega), ← hcs, cvals_getD (by omega)]
      have HC' : Hid (∀ j, j < L → w.cell? ⟨g', j, none⟩ = some (.complex .f64 (ys.getD j (0, 0)).1 (ys.getD j (0, 0)).2)) := fun j hj => by rw [hcell' j (by omega), ← hcs', cvals_getD (by omega)]
      have HE : Hid (∀ j, j < L → ∃ z, IsC (xs.getD j (0, 0)) z ∧ IsC (ys.getD j (0, 0)) z) := fun j hj => he j (by omega)
      rw [hxl]
      clear hcell hcs hcl hL hm hxl hcell' hcs' hcl' hL' hm' hxy he h0'
      go_enter Try.func38, Try.ntmps38
      go_wp2
      go_loopw [5] (fun i wr => ∃ k n : Nat, i = .int .i64 k ∧ k ≤ L ∧ wr = w.drewN n) (fun i _ => L - (intOf i).toNat)
      case atStart => exact ⟨0, 0, rfl, Nat.zero_le _, rfl⟩
      case round =>
        obtain ⟨k, n, rfl, hk, hw⟩ := hrel
        have HW := Lib.hid hw
        clear hw
        by_cases hlt : k < L
        · have c1 : wr.cell? ⟨g, k, none⟩ = some (.complex .f64 (xs.getD k (0, 0)).1 (xs.getD k (0, 0)).2) := by rw [HW.out]; exact HC.out k hlt
          have c2 : wr.cell? ⟨g', k, none⟩ = some (.complex .f64 (ys.getD k (0, 0)).1 (ys.getD k (0, 0)).2) := by rw [HW.out]; exact HC'.out k hlt
          obtain ⟨z, z1, z2⟩ := HE.out k hlt
          obtain ⟨⟨a, b⟩, hab⟩ : ∃ q, xs.getD k (0, 0) = q := ⟨_, rfl⟩
          obtain ⟨⟨c, d⟩, hcd⟩ : ∃ q, ys.getD k (0, 0) = q := ⟨_, rfl⟩
          rw [hab] at c1 z1
          rw [hcd] at c2 z2
          have S := fun w => l01Same_cn a b c d (z1.re.cn.trans z2.re.cn.symm) (z1.im.cn.trans z2.im.cn.symm) w
          clear hab hcd z1 z2
          go_wp2
          go_quiet ((go_at_call 67; exact Calls.quiet_of_same (S _)))
          go_wp2
          go_roundw
          case rel => exact ⟨k + 1, n + nq, by go_num, by omega, by rw [HW.out, World.drewN_drewN]⟩
          case measure => simp [intOf]; omega
        · have e : k = L := by omega
          subst e
          go_wp2
          go_ret
          exact ⟨rfl, n, HW.out⟩

set_option maxRecDepth 100000 in
theorem sameSignals_spec {v v' : Value} {xs ys : List C} {w : World} (h : Reads w v (cvals xs)) (h' : Reads w v' (cvals ys)) (hxy : xs.length = ys.length)
    (he : ∀ j, j < xs.length → ∃ z, IsC (xs.getD j (0, 0)) z ∧ IsC (ys.getD j (0, 0)) z) :
    Calls Try.prog 11 #[v, v'] w fun e w' => e = .returned (.bool true) ∧ ∃ n, w' = w.drewN n := by
  have HS := Lib.hid (l01SameSignals_any h h' hxy he)
  obtain ⟨a, cap, rfl⟩ := h.form
  obtain ⟨a', cap', rfl⟩ := h'.form
  clear h h' he hxy
  go_enter Try.func11, Try.ntmps11
  go_wp2_with fail
  refine HS.out.mono ?_
  rintro e w2 ⟨rfl, n, rfl⟩
  go_wp2
  go_ret
  exact ⟨rfl, n, rfl⟩

end Go.Proofs.Ytocjhanehphibaa
/-
  What narrow convolutions and those on a circle come to, as integers; SameNarrowSignals.
-/
set_option linter.unusedVariables false
set_option linter.unusedSimpArgs false
namespace Go.Proofs.Ytocjhanehphibaa
open Go.RowKit Flt Fast

theorem cvK_cnt {kx kh : Nat → KK} {a b : Nat} (hx0 : ∀ i, a ≤ i → kx i = (0, 0)) (hh0 : ∀ i, b ≤ i → kh i = (0, 0)) {n M : Nat} (hn : n < cvLen a b) (hM : b ≤ M) :
    cvK kx kh n M = sumK (fun j => mulK (kh (cvLo a n + j)) (kx (n - (cvLo a n + j)))) (cvCnt a b n) := by
  have hlc := cvLo_cnt hn
  unfold cvK
  rw [sumK_window (lo := cvLo a n) (c := cvCnt a b n)]
  · exact sumK_congr fun j hj => if_pos (cvIn hj).2.1
  · intro k hk
    show (if k ≤ n then _ else _) = _
    split
    · rw [hx0 _ (by unfold cvLo at hk; omega), mulK_zero]
    · rfl
  · intro k hk hkM
    show (if k ≤ n then _ else _) = _
    split
    · rw [hh0 _ (by omega), zero_mulK]
    · rfl
  · omega

/-- A narrowed signal. -/
structure Nard (us xs : List C) : Prop where
  len : us.length = xs.length
  at_ : ∀ i, i < xs.length → IsS (us.getD i (0, 0)) (kAt xs i)
theorem Nard.plain {us xs : List C} (h : Nard us xs) : PlainN us := by
  intro p hp
  obtain ⟨i, hi, rfl⟩ := List.getElem_of_mem hp
  have h1 := h.at_ i (by rw [← h.len]; exact hi)
  rw [show us.getD i (0, 0) = us[i] by simp [List.getD, hi]] at h1
  rw [h1.kCN]; exact h1
theorem Nard.ws {us xs : List C} (h : Nard us xs) (i : Nat) : ((wsOf us).getD i w0).2 = kAt xs i := by
  by_cases hi : i < us.length
  · rw [wsOf_getD hi]
    exact (h.at_ i (by rw [← h.len]; exact hi)).kCN
  · rw [kAt_out (by rw [← h.len]; omega), show (wsOf us).getD i w0 = w0 by simp [List.getD, List.getElem?_eq_none, wsOf_length, Nat.le_of_not_lt hi]]
    rfl
theorem cvTermK_snd {us xs vs hs : List C} (h : Nard us xs) (k : Nard vs hs) (n j : Nat) : (cvTermK (wsOf us) (wsOf vs) n j).2 = mulK (kAt hs (cvLo xs.length n + j)) (kAt xs (n - (cvLo xs.length n + j))) := by
  unfold cvTermK
  show mulK ((wsOf vs).getD _ w0).2 ((wsOf us).getD _ w0).2 = _
  rw [k.ws, h.ws, wsOf_length, h.len]
theorem cvAtK_snd {us xs vs hs : List C} (h : Nard us xs) (k : Nard vs hs) {n M : Nat} (hn : n < cvLen xs.length hs.length) (hM : hs.length ≤ M) : (cvAtK (wsOf us) (wsOf vs) n).2 = cvK (kAt xs) (kAt hs) n M := by
  rw [cvK_cnt (fun i hi => kAt_out hi) (fun i hi => kAt_out hi) hn hM]
  unfold cvAtK cvSumK
  rw [sumW_snd, wsOf_length, wsOf_length, h.len, k.len]
  exact sumK_congr fun j _ => cvTermK_snd h k n j
theorem sumK_bound {t : Nat → KK} {B : Nat} (h : ∀ i, (t i).1.natAbs ≤ B ∧ (t i).2.natAbs ≤ B) (j : Nat) : (sumK t j).1.natAbs ≤ j * B ∧ (sumK t j).2.natAbs ≤ j * B := by
  induction j with
  | zero => exact ⟨by simp [sumK], by simp [sumK]⟩
  | succ j ih =>
    have h1 := h j
    rw [Nat.succ_mul]
    show ((sumK t j).1 + (t j).1).natAbs ≤ _ ∧ ((sumK t j).2 + (t j).2).natAbs ≤ _
    omega
theorem mulK_bound {a b : KK} (ha : a.1.natAbs ≤ 64 ∧ a.2.natAbs ≤ 64) (hb : b.1.natAbs ≤ 64 ∧ b.2.natAbs ≤ 64) : (mulK a b).1.natAbs ≤ 8192 ∧ (mulK a b).2.natAbs ≤ 8192 := by
  have m : ∀ p q : Int, p.natAbs ≤ 64 → q.natAbs ≤ 64 → (p * q).natAbs ≤ 4096 := fun p q h1 h2 => by
    rw [Int.natAbs_mul]; exact Nat.mul_le_mul h1 h2
  have m1 := m _ _ ha.1 hb.1
  have m2 := m _ _ ha.2 hb.2
  have m3 := m _ _ ha.1 hb.2
  have m4 := m _ _ ha.2 hb.1
  unfold mulK
  simp only
  omega
theorem kAt_bound {xs : List C} (h : PlainC xs) (i : Nat) : (kAt xs i).1.natAbs ≤ 64 ∧ (kAt xs i).2.natAbs ≤ 64 := ⟨(h.at i).1.1, (h.at i).2.1⟩
theorem small_cv {us xs vs hs : List C} (h : Nard us xs) (k : Nard vs hs) (hx : PlainC xs) (hh : PlainC hs) (hl : hs.length ≤ 1000) : ∀ n j, j ≤ (wsOf vs).length → Small (cvSumK (wsOf us) (wsOf vs) n j) := by
  intro n j hj
  rw [wsOf_length, k.len] at hj
  have h1 : (cvSumK (wsOf us) (wsOf vs) n j).2 = sumK (fun i => mulK (kAt hs (cvLo xs.length n + i)) (kAt xs (n - (cvLo xs.length n + i)))) j := by
    unfold cvSumK
    rw [sumW_snd]
    exact sumK_congr fun i _ => cvTermK_snd h k n i
  have h2 := sumK_bound (B := 8192) (t := fun i => mulK (kAt hs (cvLo xs.length n + i)) (kAt xs (n - (cvLo xs.length n + i)))) (fun i => mulK_bound (kAt_bound hh _) (kAt_bound hx _)) j
  unfold Small
  rw [h1]
  omega

/-- A narrow number that is widened, as an equation. -/
theorem conv_narrow {u v : Nat} {z : KW} (h : IsN (u, v) z) : ∃ a b, (∀ w, (convert 36 30 (.complex .f32 u v)).run Try.prog w = .ok (.complex .f64 a b) w) ∧ IsC (a, b) (some a, some b) ∧ ∃ K, IVC 8 K (some a, some b) z.2 := by
  obtain ⟨-, h1, h2⟩ := h
  obtain ⟨a, e1, e2, e3⟩ := Nar.widen_fq h1.1
  obtain ⟨b, e4, e5, e6⟩ := Nar.widen_fq h2.1
  have e1' : floatToFloatBits .f32 u .f64 = some a := e1
  have e4' : floatToFloatBits .f32 v .f64 = some b := e4
  refine ⟨a, b, fun w => run_convert_complex w _ _ .f32 .f64 u v a b (by kernel_rfl) Try.underlying30 (by unfold cConvBits; rw [e1', e4']; rfl), ⟨Has.isF ⟨e2, rfl⟩, Has.isF ⟨e5, rfl⟩⟩, z.2.1.natAbs + z.2.2.natAbs, ⟨by omega, fq a, ⟨a, rfl, e2, rfl⟩, by rw [e3]; exact h1.2⟩, ⟨by omega, fq b, ⟨b, rfl, e5, rfl⟩, by rw [e6]; exact h2.2⟩⟩

theorem kAt_long {hs long : List C} (hl : hs.length ≤ long.length) (h : ∀ i, i < long.length → long.getD i (0, 0) = hs.getD i (0, 0)) (i : Nat) : kAt long i = kAt hs i := by
  by_cases hi : i < long.length
  · unfold kAt; rw [h i hi]
  · rw [kAt_out (by omega), kAt_out (by omega)]
theorem kAt_twice (xs : List C) (j : Nat) : kAt (xs ++ xs) j = if j < xs.length then kAt xs j else kAt xs (j - xs.length) := by
  unfold kAt
  by_cases h : j < xs.length
  · rw [if_pos h]; simp [List.getD, List.getElem?_append_left h]
  · rw [if_neg h]; simp [List.getD, List.getElem?_append_right (Nat.le_of_not_lt h)]
theorem PlainC.twice {xs : List C} (h : PlainC xs) : PlainC (xs ++ xs) := fun p hp => by rcases List.mem_append.1 hp with h' | h' <;> exact h p h'

theorem cvK_circle (xs : List C) (kh : Nat → KK) {i : Nat} (hi : i < xs.length) : cvK (kAt (xs ++ xs)) kh (xs.length + i) xs.length = addK (cvK (kAt xs) kh i xs.length) (cvK (kAt xs) kh (i + xs.length) xs.length) := by
  unfold cvK
  rw [← sumK_add]
  refine sumK_congr fun k hk => ?_
  show (if k ≤ xs.length + i then mulK (kh k) (kAt (xs ++ xs) (xs.length + i - k)) else (0, 0)) = addK (if k ≤ i then mulK (kh k) (kAt xs (i - k)) else (0, 0)) (if k ≤ i + xs.length then mulK (kh k) (kAt xs (i + xs.length - k)) else (0, 0))
  rw [if_pos (show k ≤ xs.length + i by omega), if_pos (show k ≤ i + xs.length by omega), kAt_twice]
  by_cases h : k ≤ i
  · rw [if_neg (by omega), if_pos h, kAt_out (i := i + xs.length - k) (by omega), mulK_zero, addK_zero]
    congr 2; omega
  · rw [if_pos (by omega), if_neg h, zero_addK]
    congr 2; omega
theorem cvK_end (xs : List C) {kh : Nat → KK} {b n : Nat} (hh0 : ∀ i, b ≤ i → kh i = (0, 0)) (hn : xs.length + b ≤ n + 1) (M : Nat) : cvK (kAt xs) kh n M = (0, 0) := by
  unfold cvK
  refine sumK_zero fun k _ => ?_
  show (if k ≤ n then _ else _) = _
  split
  · by_cases h : k < b
    · rw [kAt_out (by omega), mulK_zero]
    · rw [hh0 _ (by omega), zero_mulK]
  · rfl

end Go.Proofs.Ytocjhanehphibaa
/-
  SameNarrowSignals: both are the same words.
-/
set_option linter.unusedVariables false
set_option linter.unusedSimpArgs false
namespace Go.Proofs.Ytocjhanehphibaa
open Go.RowKit Flt Fast

theorem n_readsK {w : World} {v : Value} {xs : List C} (h : Reads w v (nvals xs)) : ∃ a cap, v = .slice a xs.length cap ∧ (xs.length : Int) ≤ 9223372036854775807 ∧ ∀ k, k < xs.length → ∃ g, a = some ⟨g, 0, none⟩ ∧ g < w.heap.size ∧ w.cell? ⟨g, k, none⟩ = some (.complex .f32 (xs.getD k (0, 0)).1 (xs.getD k (0, 0)).2) := by
  generalize hcs : nvals xs = cs at h
  cases h with
  | none a cap =>
    have h0 : xs.length = 0 := by rw [← nvals_length, hcs]; rfl
    exact ⟨a, cap, by rw [h0], by omega, fun k hk => by omega⟩
  | row g cap L cs hL h0 hc hm hh =>
    have hl : xs.length = L := by rw [← hL, ← hcs, nvals_length]
    have := maxLen_int (Nat.le_trans hc hm)
    refine ⟨_, cap, by rw [hl], by rw [hl]; exact this, fun k hk => ?_⟩
    have hc := hh k (by omega)
    refine ⟨g, rfl, World.block_lt_of_cell? _ _ hc, ?_⟩
    rw [hc, ← hcs, nvals_getD hk]

set_option maxRecDepth 100000 in
set_option maxHeartbeats 4000000 in
theorem l09SameNarrow_any {v v' : Value} {ps qs : List C} {zs : List KW} {w : World} (h : Reads w v (nvals ps)) (h' : Reads w v' (nvals qs)) (hp : IsNs ps zs) (hq : IsNs qs zs) :
    Calls Try.prog 43 #[v, v'] w fun e w' => e = .returned (.bool true) ∧ ∃ n, w' = w.drewN n := by
  obtain ⟨a, cap, rfl, hmx, hf⟩ := n_readsK h
  obtain ⟨a', cap', rfl, -, hf'⟩ := n_readsK h'
  have hl : qs.length = ps.length := by rw [hp.1, hq.1]
  rw [hl] at hf' ⊢
  have HF : Hid (∀ k, k < ps.length → ∃ g g' u x y b c, a = some ⟨g, 0, none⟩ ∧ a' = some ⟨g', 0, none⟩ ∧ w.cell? ⟨g, k, none⟩ = some (.complex .f32 u x) ∧ w.cell? ⟨g', k, none⟩ = some (.complex .f32 u x) ∧ y = 0 ∧ (∀ w, (convert 36 30 (.complex .f32 u x)).run Try.prog w = .ok (.complex .f64 b c) w)) := Lib.hid fun k hk => by
    obtain ⟨g, e1, -, e2⟩ := hf k hk
    obtain ⟨g', e3, -, e4⟩ := hf' k hk
    have n1 := hp.2 k (by rw [← hp.1]; exact hk)
    have n2 := hq.2 k (by rw [← hp.1]; exact hk)
    have e : qs.getD k (0, 0) = ps.getD k (0, 0) := by rw [n1.1, n2.1]
    rw [e] at e4
    obtain ⟨b, c, hc, -, -⟩ := conv_narrow n1
    exact ⟨g, g', _, _, 0, b, c, e1, e3, e2, e4, rfl, hc⟩
  obtain ⟨L, hL⟩ : ∃ L, ps.length = L := ⟨_, rfl⟩
  rw [hL] at HF hmx ⊢
  clear h h' hf hf' hp hq hl hL
  go_enter Try.func43, Try.ntmps43
  go_wp2
  go_loopw [5] (fun i wr => ∃ k n : Nat, i = .int .i64 k ∧ k ≤ L ∧ wr = w.drewN n) (fun i _ => L - (intOf i).toNat)
  case atStart => exact ⟨0, 0, rfl, Nat.zero_le _, rfl⟩
  case round =>
    obtain ⟨k, n, rfl, hk, hw⟩ := hrel
    have HW := Lib.hid hw
    clear hw
    by_cases hlt : k < L
    · obtain ⟨g, g', u, x, y, b, c, rfl, rfl, h1, h2, -, hcv⟩ := HF.out k hlt
      have c1 : wr.cell? ⟨g, k, none⟩ = some (.complex .f32 u x) := by rw [HW.out]; exact h1
      have c2 : wr.cell? ⟨g', k, none⟩ = some (.complex .f32 u x) := by rw [HW.out]; exact h2
      have S := fun w => l01Same_cn b c b c rfl rfl w
      clear h1 h2
      go_wp2
      go_quiet ((go_at_call 67; exact Calls.quiet_of_same (S _)))
      go_wp2
      go_roundw
      case rel => exact ⟨k + 1, n + nq, by go_num, by omega, by rw [HW.out, World.drewN_drewN]⟩
      case measure => simp [intOf]; omega
    · have e : k = L := by omega
      subst e
      go_wp2
      go_ret
      exact ⟨rfl, n, HW.out⟩

set_option maxRecDepth 100000 in
theorem sameNarrowSignals_any {v v' : Value} {ps qs : List C} {zs : List KW} {w : World} (h : Reads w v (nvals ps)) (h' : Reads w v' (nvals qs)) (hp : IsNs ps zs) (hq : IsNs qs zs) :
    Calls Try.prog 15 #[v, v'] w fun e w' => e = .returned (.bool true) ∧ ∃ n, w' = w.drewN n := by
  have S := Lib.hid (l09SameNarrow_any h h' hp hq)
  obtain ⟨a, cap, rfl, -, -⟩ := n_readsK h
  obtain ⟨a', cap', rfl, -, -⟩ := n_readsK h'
  clear h h'
  go_enter Try.func15, Try.ntmps15
  go_wp2_with fail
  refine S.out.mono ?_
  rintro e w' ⟨rfl, n, rfl⟩
  go_wp2
  go_ret
  exact ⟨rfl, n, rfl⟩

end Go.Proofs.Ytocjhanehphibaa
/-
  FnConvolve: what is equal.
-/
set_option linter.unusedVariables false
set_option linter.unusedSimpArgs false
namespace Go.Proofs.Ytocjhanehphibaa
open Go.RowKit Flt Fast

theorem eqC_of {e K L : Nat} {a b : C} {z z' : Z} {k : KK} (ha : IsC a z) (hb : IsC b z') (h : IVC e K z k) (h' : IVC e L z' k) : eqC .f64 a.1 a.2 b.1 b.2 = true := by
  have e1 := IV.eq ha.re hb.re h.1 h'.1
  have e2 := IV.eq ha.im hb.im h.2 h'.2
  unfold eqC
  rw [e1, e2]; rfl

theorem cv_iv {xs hs : List C} (hx : PlainC xs) (hh : PlainC hs) (hl : hs.length ≤ 1000) {i : Nat} (hi : i < cvLen xs.length hs.length) (M : Nat) (hM : hs.length ≤ M ∨ i < M) : IVC 8 (1000 * 8192) (cvAt (zsOf xs) (zsOf hs) i) (cvK (kAt xs) (kAt hs) i M) := by
  rw [cvK_more (L := hs.length) (fun j hj => kAt_out hj) i M hs.length hM (.inl (Nat.le_refl _))]
  exact cvAt_iv hx.ks hh.ks (by rw [zsOf_length, zsOf_length]; exact hi) (by rw [zsOf_length]; exact Nat.le_refl _) (by rw [zsOf_length]; exact hl)

theorem cvLen_symm (a b : Nat) : cvLen a b = cvLen b a := by
  unfold cvLen
  by_cases h : a = 0 ∨ b = 0
  · rw [if_pos h, if_pos (h.symm)]
  · rw [if_neg h, if_neg (fun h' => h h'.symm), Nat.add_comm]

theorem cv_comm_eq {xs hs : List C} (hx : PlainC xs) (hh : PlainC hs) (hl : hs.length ≤ 1000) (hl' : xs.length ≤ 1000) {i : Nat} (hi : i < cvLen xs.length hs.length) {a b : C} (ha : IsC a (cvAt (zsOf hs) (zsOf xs) i)) (hb : IsC b (cvAt (zsOf xs) (zsOf hs) i)) : eqC .f64 a.1 a.2 b.1 b.2 = true := by
  have h1 := cv_iv hh hx hl' (i := i) (by rw [cvLen_symm]; exact hi) (i + 1) (.inr (by omega))
  have h2 := cv_iv hx hh hl hi (i + 1) (.inr (by omega))
  rw [cvK_comm] at h1
  exact eqC_of ha hb h1 h2

theorem cv_nar_eq {us xs vs hs : List C} (hx : PlainC xs) (hh : PlainC hs) (h : Nard us xs) (k : Nard vs hs) (hl : hs.length ≤ 1000) {i : Nat} (hi : i < cvLen xs.length hs.length) {p d : C} (hp : IsN p (cvAtK (wsOf us) (wsOf vs) i)) (hd : IsC d (cvAt (zsOf xs) (zsOf hs) i)) :
    ∃ a b, (∀ w, (convert 36 30 (.complex .f32 p.1 p.2)).run Try.prog w = .ok (.complex .f64 a b) w) ∧ eqC .f64 a b d.1 d.2 = true := by
  obtain ⟨a, b, h1, h2, K, h3⟩ := conv_narrow (u := p.1) (v := p.2) hp
  rw [cvAtK_snd h k hi (Nat.le_refl _)] at h3
  exact ⟨a, b, h1, eqC_of h2 hd h3 (cv_iv hx hh hl hi _ (.inl (Nat.le_refl _)))⟩

theorem cv_circ_eq {xs hs long : List C} (hx : PlainC xs) (hh : PlainC hs) (hlong : PlainC long) (hxl : xs.length ≤ 500) (hll : long.length = xs.length) (hhl : hs.length ≤ xs.length) (hh0 : 0 < hs.length) (hk : ∀ i, i < long.length → long.getD i (0, 0) = hs.getD i (0, 0))
    {i : Nat} (hi : i < xs.length) {a d : C} (ha : IsC a (cvAt (zsOf (xs ++ xs)) (zsOf long) (xs.length + i))) (hd : IsC d (cvAt (zsOf xs) (zsOf hs) i)) :
    (∀ d' : C, i + xs.length < cvLen xs.length hs.length → IsC d' (cvAt (zsOf xs) (zsOf hs) (i + xs.length)) → ∀ w w', eqC .f64 a.1 a.2 (fres .add .f64 d.1 d'.1 w) (fres .add .f64 d.2 d'.2 w') = true) ∧
    (cvLen xs.length hs.length ≤ i + xs.length → eqC .f64 a.1 a.2 d.1 d.2 = true) := by
  have hT : cvLen xs.length hs.length = xs.length + hs.length - 1 := cvLen_pos (by omega) (by omega)
  have hkl : kAt long = kAt hs := funext fun j => kAt_long (by omega) hk j
  have h1 := cv_iv hx.twice hlong (by omega) (i := xs.length + i) (by rw [List.length_append, hll, cvLen_pos (by omega) (by omega)]; omega) xs.length (.inl (by omega))
  rw [hkl, cvK_circle xs _ hi] at h1
  have h2 := cv_iv hx hh (by omega) (i := i) (by rw [hT]; omega) xs.length (.inl hhl)
  constructor
  · intro d' hlt hd' w w'
    have h3 := cv_iv hx hh (by omega) hlt xs.length (.inl hhl)
    exact eqC_of (b := (fres .add .f64 d.1 d'.1 w, fres .add .f64 d.2 d'.2 w')) ha ⟨isF_fres hd.re hd'.re _, isF_fres hd.im hd'.im _⟩ h1 (h2.add h3 (by decide) (by decide))
  · intro hge
    rw [cvK_end xs (b := hs.length) (n := i + xs.length) (fun j hj => kAt_out hj) (by omega), addK_zero] at h1
    exact eqC_of ha hd h1 h2

end Go.Proofs.Ytocjhanehphibaa
