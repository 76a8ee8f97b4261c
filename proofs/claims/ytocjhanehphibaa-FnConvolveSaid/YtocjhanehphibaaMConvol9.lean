/-
  Several texts of this claim, one behind the other; each says what it holds.
-/
import Derived.Test.YtocjhanehphibaaMConvol8
/-
  Adders: valid ones, new ones.
-/
set_option linter.unusedVariables false
set_option linter.unusedSimpArgs false
namespace Go.Proofs.Ytocjhanehphibaa
open Go.RowKit Flt Fast

theorem wrap_in (x : Int) (h1 : -9223372036854775808 ≤ x) (h2 : x ≤ 9223372036854775807) : IntKind.i64.wrap x = x := by
  simp only [IntKind.wrap, IntKind.bits, IntKind.signed]
  simp
  omega

/-- An adder of this size and hop with t numbers in its tail is valid. -/
def AddOk (s h : Int) (t : Nat) : Prop := (1 ≤ s ∧ s ≤ 256) ∧ (1 ≤ h ∧ h ≤ s) ∧ (t = 0 ∨ (t : Int) = s - h)
instance (s h : Int) (t : Nat) : Decidable (AddOk s h t) := by unfold AddOk; infer_instance
def addB (s h : Int) (t : Nat) : Bool := decide (AddOk s h t)
theorem addB_t {s h : Int} {t : Nat} (k : AddOk s h t) : addB s h t = true := decide_eq_true k
theorem addB_f {s h : Int} {t : Nat} (k : ¬ AddOk s h t) : addB s h t = false := decide_eq_false k

end Go.Proofs.Ytocjhanehphibaa
/-
  slices.Clone of complex numbers.
-/
set_option linter.unusedVariables false
set_option linter.unusedSimpArgs false
namespace Go.Proofs.Ytocjhanehphibaa
open Go.RowKit Flt Fast

theorem addr_off (g o j : Nat) : (⟨g, o, none⟩ : Addr).add j = ⟨g, o + j, none⟩ := by unfold Addr.add; split <;> simp_all

end Go.Proofs.Ytocjhanehphibaa
/-
  append of complex numbers to a row of the call's own, guarded or not, whatever slice they come from.
-/
set_option linter.unusedVariables false
set_option linter.unusedSimpArgs false
namespace Go.Proofs.Ytocjhanehphibaa
open Go.RowKit Flt Fast

theorem app_eq {P : Program} (hu : P.underlying 24 = some (.slice 30)) (i : TypeInfo) (hi : P.info? 30 = some i) (hz : i.zero = some (.complex .f64 0 0)) (hsz : i.size = 1) (hby : i.bytes = 16) (ty : TypeId)
    {w : World} {B : Nat} {v u : Value} {xs ys : List C} (hv : Row w B 30 v (cvals xs)) (hr : RdC w u ys) (hB : B ≤ w.heap.size) (hl : xs.length + ys.length ≤ 1000000) :
    ∃ v' w', (Builtin.append_ #[24, 24] ty #[v, u]).run P w = .ok v' w' ∧ Row w' B 30 v' (cvals (xs ++ ys)) ∧ w.grownBy w' v.ownBlock := by
  obtain ⟨a, cap, rfl, h1, h2, h3⟩ := hr
  cases a with
  | none =>
    have h0 : ys.length = 0 := by
      apply Nat.eq_zero_of_not_pos
      intro hp
      obtain ⟨g, o, e, -⟩ := h3 0 hp
      cases e
    obtain rfl := List.eq_nil_of_length_eq_zero h0
    refine ⟨v, w, ?_, by simpa using hv, ⟨rfl, rfl, rfl, Nat.le_refl _, fun _ _ _ => rfl⟩⟩
    rcases hv.2 with ⟨rfl, h0'⟩ | ⟨g, cap', cur, rfl, -, hg, hnc, -⟩
    · simp [Builtin.append_, run_underlying hu, sizeOf, typeInfo, hi, Builtin.lenOf, Builtin.firstCells, loadCells, loadCellsFrom]
    · simp [Builtin.append_, run_underlying hu, sizeOf, typeInfo, hi, Builtin.lenOf, Builtin.firstCells, loadCells, loadCellsFrom, hnc, storeCells]
  | some x =>
    have hn : ∀ (j : Nat) (u : Value), (cvals ys)[j]? = some u → w.cell? (x.add j) = some u := by
      intro j u hu
      have hj : j < ys.length := by have := (List.getElem?_eq_some_iff.1 hu).1; rwa [cvals_length] at this
      obtain ⟨g, o, e, hg, hc⟩ := h3 j hj
      cases e
      rw [addr_off, hc]
      have e2 := cvals_getD hj
      have e3 : (cvals ys).getD j undef = u := by simp [List.getD, hu]
      rw [← e3, e2]
    have hone : ∀ u ∈ cvals ys, u.oneCell' = true := by
      intro u hu
      obtain ⟨p, -, rfl⟩ := List.mem_map.1 hu
      rfl
    obtain ⟨v', w', e1, e2, e3, -⟩ := run_append_own (P := P) w B 24 ty 30 i (.complex .f64 0 0) 1 16 hu hi hz hsz hby rfl (by decide) v (cvals xs).length (cvals xs) hv x ys.length cap (cvals ys) (by rw [cvals_length, Nat.mul_one]) hn hone
      (by rw [cvals_length]; simp only [maxLen]; omega) (by rw [cvals_length]; omega) hB
    refine ⟨v', w', e1, ?_, e3⟩
    show w'.ownsRow _ _ _ _ _ _
    have e4 : cvals (xs ++ ys) = cvals xs ++ cvals ys := by simp [cvals]
    rw [e4, List.length_append, cvals_length ys]
    exact e2

theorem wpList_app {P : Program} {w : World} {ops : Array Oper} {rest : List Oper} {o : Oper} {a : Act} {Q : Exit → Act → World → Prop} (hw : Region.wanted o (yielded ops a.tmps) = true) (s x : Operand)
    (ho : o.op = .call { callee := .builtin .append, args := #[s, x], argTypes := #[24, 24] })
    (hu : P.underlying 24 = some (.slice 30)) (i : TypeInfo) (hi : P.info? 30 = some i) (hz : i.zero = some (.complex .f64 0 0)) (hsz : i.size = 1) (hby : i.bytes = 16)
    (B : Nat) (v u : Value) (xs ys : List C) (hs : a.eval s = v) (hx : a.eval x = u) (hv : Row w B 30 v (cvals xs)) (hr : RdC w u ys) (hB : B ≤ w.heap.size) (hl : xs.length + ys.length ≤ 1000000)
    (h : ∀ v' w', Row w' B 30 v' (cvals (xs ++ ys)) → w.grownBy w' v.ownBlock → wpList P ops Q rest (a.put o.dst v') w') : wpList P ops Q (o :: rest) a w := by
  refine BigFrame.wpList_want hw fun K hK => ?_
  obtain ⟨v', w', hrun, h2, h3⟩ := app_eq hu i hi hz hsz hby o.type hv hr hB hl
  unfold Oper.wp execOp
  simp only [ho, resolve, invoke, builtin, Sem.run_bind, Sem.run_pure, Result.andThen_ok, List.map_toArray, List.map_cons, List.map_nil, hs, hx, hrun]
  exact hK _ _ (h v' w' h2 h3)

end Go.Proofs.Ytocjhanehphibaa
/-
  Convolve of the program.
-/
set_option linter.unusedVariables false
set_option linter.unusedSimpArgs false
namespace Go.Proofs.Ytocjhanehphibaa
open Go.RowKit Flt Fast

theorem run_max_word3 {P : Program} {w : World} (ts : Array TypeId) (t : TypeId) (k k' k'' : IntKind) (x y z : Int) : (Builtin.max_ ts t #[.int k x, .int k' y, .int k'' z]).run P w = .ok (.int k (maxI (maxI x y) z)) w := by
  simp [Builtin.max_, Builtin.max2, maxI]
attribute [local go_sem ↓] run_max_word run_max_word3
theorem maxI_le {x y z : Int} (hx : x ≤ z) (hy : y ≤ z) : maxI x y ≤ z := by unfold maxI; split <;> omega

set_option maxRecDepth 100000 in
set_option maxHeartbeats 4000000 in
theorem cvCheck_any (a1 a2 : Option Addr) (n1 c1 n2 c2 : Nat) (h1 : n1 ≤ 256) (h2 : n2 ≤ 256) (hl : cvLen n1 n2 ≤ 256) (w : World) :
    Calls Try.prog 56 #[.agg #[.slice a1 n1 c1, .slice a2 n2 c2]] w fun e w' => e = .returned (.int .i64 0) ∧ Below w.heap.size w w' := by
  have HLen := Lib.hid (fun w => cvLength_any a1 a2 n1 c1 n2 c2 (by omega) (by omega) w)
  obtain ⟨L, hL⟩ : ∃ L, cvLen n1 n2 = L := ⟨_, rfl⟩
  rw [hL] at HLen hl
  clear hL
  have hm : decide ((256 : Int) < maxI (maxI (n1 : Int) (n2 : Int)) (L : Int)) = false := decide_eq_false (by
    have : maxI (maxI (n1 : Int) (n2 : Int)) (L : Int) ≤ 256 := maxI_le (maxI_le (by omega) (by omega)) (by omega)
    omega)
  obtain ⟨N, hN⟩ : ∃ N, w.heap.size = N := ⟨_, rfl⟩
  have HC : Hid (∀ W, Below (N + 1) (w.alloc (.cells #[.slice a1 n1 c1, .slice a2 n2 c2] 65)) W → W.cell? ⟨N, 0, none⟩ = some (.slice a1 n1 c1) ∧ W.cell? ⟨N, 1, none⟩ = some (.slice a2 n2 c2)) := fun W hW => by
    subst hN
    have hn := World.alloc_heap_new w (.cells #[.slice a1 n1 c1, .slice a2 n2 c2] 65)
    exact ⟨by rw [hW.cell (by simp)]; exact cell_of_heap hn rfl, by rw [hW.cell (by simp)]; exact cell_of_heap hn rfl⟩
  obtain ⟨w1, hw1⟩ : ∃ w1, w.alloc (.cells #[.slice a1 n1 c1, .slice a2 n2 c2] 65) = w1 := ⟨_, rfl⟩
  have hs1 : w1.heap.size = N + 1 := by rw [← hw1, ← hN]; simp
  have HB1 : Hid (Below w.heap.size w w1) := by rw [← hw1]; exact (Below.refl _ _).alloc (Nat.le_refl _) _
  have HW1 := Lib.hid hw1
  rw [hw1] at HC
  have d := HC.out w1.drew (below_draws (Below.refl _ _) 1)
  have d0 := d.1
  have d1 := d.2
  have HS1 := Lib.hid hs1
  have HN := Lib.hid hN
  clear d hw1 hs1
  go_enter Try.func56, Try.ntmps56
  go_wp2_with fail
  rw [HW1.out]
  try rw [HN.out]
  clear hN
  go_region_held3 (fun w' => w'.cell? ⟨N, 0, none⟩ = some (.slice a1 n1 c1) ∧ w'.cell? ⟨N, 1, none⟩ = some (.slice a2 n2 c2))
    (first
      | exact ⟨d0, d1⟩
      | exact HC.out _ HB2.out
      | go_keep)
    (first
      | (go_at_call 57; refine (HLen.out _).mono ?_; rintro e w2 ⟨rfl, hb⟩; have HB2 : Hid (Below (N + 1) w1 w2) := (below_draws (Below.refl _ _) 1).trans (hb.mono (by rw [← HS1.out]; exact Nat.le_refl _)); clear hb))
  all_goals
    go_wp2
    go_ret
    exact ⟨rfl, HB1.out.trans (HB2.out.mono (by rw [HN.out]; omega))⟩

theorem cvPart_all (x h : List Z) : cvPart x h 0 (cvLen x.length h.length) = cvAll x h := by
  unfold cvPart cvAll
  rw [show min (cvLen x.length h.length) (max 0 (cvLen x.length h.length)) - 0 = cvLen x.length h.length by omega]
  simp

set_option maxRecDepth 100000 in
set_option maxHeartbeats 4000000 in
theorem convolved_any (x h : List C) (v1 v2 : Value) (hx : x.length ≤ 256) (hh : h.length ≤ 256) (hl : cvLen x.length h.length ≤ 256) (hwx : WfC x) (hwh : WfC h) (w : World) (hrx : RdO w.heap.size w v1 x) (hrh : RdO w.heap.size w v2 h) :
    Calls Try.prog 35 #[v1, v2] w fun e w' =>
      ∃ v ps, e = .returned (.tuple #[v, .int .i64 0]) ∧ Row w' w.heap.size 30 v (cvals ps) ∧ IsCs ps (cvAll (zsOf x) (zsOf h)) ∧ Below w.heap.size w w' := by
  have hnum : ∀ w1, Below w.heap.size w w1 → Calls Try.prog 46 #[.agg #[v1, v2], .int .i64 0, .int .i64 (cvLen x.length h.length)] w1 fun e w' =>
      ∃ v ps, e = .returned v ∧ Row w' w.heap.size 30 v (cvals ps) ∧ IsCs ps (cvAll (zsOf x) (zsOf h)) ∧ Below w1.heap.size w1 w' := fun w1 hb => by
    refine (numbers_any x h 0 (cvLen x.length h.length) v1 v2 (by omega) (by omega) (Nat.zero_le _) (by omega) hwx hwh w1 ((hrx.below hb).base hb.size) ((hrh.below hb).base hb.size)).mono ?_
    rintro e w' ⟨v, ps, rfl, hr, hf, hB⟩
    refine ⟨v, ps, rfl, hr.base hb.size, ?_, hB⟩
    rw [← cvPart_all, zsOf_length, zsOf_length]; exact hf
  have HNUM := Lib.hid hnum
  obtain ⟨a1, c1, e1, -, -, -⟩ := hrx.find
  obtain ⟨a2, c2, e2, -, -, -⟩ := hrh.find
  subst e1
  subst e2
  clear hrx hrh hnum
  have HCK := Lib.hid (fun w => cvCheck_any a1 a2 x.length c1 h.length c2 hx hh hl w)
  have HLen := Lib.hid (fun w => cvLength_any a1 a2 x.length c1 h.length c2 (by omega) (by omega) w)
  obtain ⟨T, hT⟩ : ∃ T, cvLen x.length h.length = T := ⟨_, rfl⟩
  rw [hT] at HNUM HLen
  clear hT hl
  obtain ⟨L, hL⟩ : ∃ L, x.length = L := ⟨_, rfl⟩
  obtain ⟨M, hM⟩ : ∃ M, h.length = M := ⟨_, rfl⟩
  rw [hL] at hx HNUM HCK HLen ⊢
  rw [hM] at hh HNUM HCK HLen ⊢
  clear hL hM
  have HC : Hid (∀ W, Below (w.heap.size + 1) (w.alloc (.cells #[.slice a1 L c1, .slice a2 M c2] 65)) W → W.cell? ⟨w.heap.size, 0, none⟩ = some (.slice a1 L c1) ∧ W.cell? ⟨w.heap.size, 1, none⟩ = some (.slice a2 M c2)) := fun W hW => by
    have hn := World.alloc_heap_new w (.cells #[.slice a1 L c1, .slice a2 M c2] 65)
    exact ⟨by rw [hW.cell (by simp)]; exact cell_of_heap hn rfl, by rw [hW.cell (by simp)]; exact cell_of_heap hn rfl⟩
  go_enter Try.func35, Try.ntmps35
  go_wp2_with fail
  with_reducible refine (HCK.out _).mono ?_
  rintro e w2 ⟨rfl, hb⟩
  have HB2 : Hid (Below (w.heap.size + 1) (w.alloc (.cells #[.slice a1 L c1, .slice a2 M c2] 65)) w2) := hb.mono (by simp)
  have HW2 : Hid (Below w.heap.size w w2) := ((Below.refl _ _).alloc (Nat.le_refl _) _).trans (HB2.out.mono (by omega))
  have hs2 : w.heap.size + 1 ≤ w2.heap.size := by have := hb.size; simpa using this
  have d := HC.out w2.drew (below_draws HB2.out 1)
  have d0 := d.1
  have d1 := d.2
  clear d hb
  go_wp2_with fail
  go_region_held3 (fun w' => w'.cell? ⟨w.heap.size, 0, none⟩ = some (.slice a1 L c1) ∧ w'.cell? ⟨w.heap.size, 1, none⟩ = some (.slice a2 M c2))
    (first
      | exact ⟨d0, d1⟩
      | exact HC.out _ HB3.out
      | exact HC.out _ HB4.out
      | go_keep)
    (first
      | (go_at_call 57; refine (HLen.out _).mono ?_; rintro e w3 ⟨rfl, hb⟩; have HB3 : Hid (Below (w.heap.size + 1) (w.alloc (.cells #[.slice a1 L c1, .slice a2 M c2] 65)) w3) := (below_draws HB2.out 1).trans (hb.mono hs2); have HW3 : Hid (Below w.heap.size w w3) := (below_draws HW2.out 1).trans (hb.mono (by show w.heap.size ≤ w2.heap.size; omega)); have hs3 : w.heap.size + 1 ≤ w3.heap.size := Nat.le_trans hs2 hb.size; clear hb)
      | (go_at_call 46; refine (HNUM.out _ HW3.out).mono ?_; rintro e w4 ⟨v, ps, rfl, hr, hf, hb⟩; obtain ⟨va, vc, rfl⟩ := hr.written rfl; have HE := Lib.hid (And.intro hr (And.intro hf (below_step HW3.out hb HW3.out.size))); have HB4 : Hid (Below (w.heap.size + 1) (w.alloc (.cells #[.slice a1 L c1, .slice a2 M c2] 65)) w4) := HB3.out.trans (hb.mono hs3); clear hr hf hb))
  all_goals
    go_wp2
    go_ret2
    exact ⟨_, ps, rfl, HE.out.1, HE.out.2.1, HE.out.2.2⟩

theorem convolve_impl (x h : List C) (v1 v2 : Value) (hx : x.length ≤ 256) (hh : h.length ≤ 256) (hl : cvLen x.length h.length ≤ 256) (hwx : WfC x) (hwh : WfC h) (w : World) (hrx : RdO w.heap.size w v1 x) (hrh : RdO w.heap.size w v2 h) :
    Calls Try.prog 9 #[v1, v2] w fun e w' =>
      ∃ v ps, e = .returned (.tuple #[v, .int .i64 0]) ∧ Row w' w.heap.size 30 v (cvals ps) ∧ IsCs ps (cvAll (zsOf x) (zsOf h)) ∧ Below w.heap.size w w' := by
  have K := Lib.hid (convolved_any x h v1 v2 hx hh hl hwx hwh w hrx hrh)
  obtain ⟨a1, c1, e1, -, -, -⟩ := hrx.find
  obtain ⟨a2, c2, e2, -, -, -⟩ := hrh.find
  subst e1
  subst e2
  clear hrx hrh
  go_enter Try.func9, Try.ntmps9
  go_wp2_with fail
  with_reducible refine K.out.mono ?_
  rintro e w1 ⟨v, ps, rfl, hr, hf, hb⟩
  obtain ⟨va, vc, rfl⟩ := hr.written rfl
  have HE := Lib.hid (And.intro hr (And.intro hf hb))
  clear hr hf hb
  go_wp2
  go_ret2
  exact ⟨_, ps, rfl, HE.out.1, HE.out.2.1, HE.out.2.2⟩

end Go.Proofs.Ytocjhanehphibaa
/-
  Narrow sixteenths and their products: values as integers.
-/
set_option linter.unusedVariables false
set_option linter.unusedSimpArgs false
namespace Go.Proofs.Ytocjhanehphibaa
open Go.RowKit Flt Fast
attribute [local go_sem] run_fadd run_fsub run_fmul run_fquo run_cadd run_csub

/-- A narrow word is k / 2^e. -/
def NV (e : Nat) (u : Nat) (k : Int) : Prop := Nar.Fin u ∧ Nar.fq u * two e = (k : Rat)
def kN (u : Nat) : Int := (Nar.fq u * 16).num
theorem NV.kN {u : Nat} {k : Int} (h : NV 4 u k) : kN u = k := by
  have e : (two 4 : Rat) = 16 := rfl
  unfold Proofs.Ytocjhanehphibaa.kN
  rw [← e, h.2]; rfl
def kCN (p : C) : KK := (kN p.1, kN p.2)
/-- A narrow number: its words, and what they are as integers. -/
abbrev KW := C × KK
def w0 : KW := ((0, 0), (0, 0))
def wsOf (xs : List C) : List KW := xs.map fun p => (p, kCN p)
/-- The words when they are widened; what is narrowed; products, sums. -/
def zw (p : C) : Z := (floatToFloatBits .f32 p.1 .f64, floatToFloatBits .f32 p.2 .f64)
def nar (z : Option Nat) : Nat := (z.bind fun x => floatToFloatBits .f64 x .f32).getD 0
def mulW (a b : KW) : KW := ((nar (mulZ (zw a.1) (zw b.1)).1, nar (mulZ (zw a.1) (zw b.1)).2), mulK a.2 b.2)
def add32 (x y : Nat) : Nat := (floatBits .add .f32 x y).getD 0
def addW (a b : KW) : KW := ((add32 a.1.1 b.1.1, add32 a.1.2 b.1.2), addK a.2 b.2)
def sumW (t : Nat → KW) : Nat → KW
  | 0 => w0
  | n + 1 => if n = 0 then t 0 else addW (sumW t n) (t n)
theorem sumW_one (t : Nat → KW) : sumW t 1 = t 0 := rfl
theorem sumW_succ (t : Nat → KW) {n : Nat} (hn : n ≠ 0) : sumW t (n + 1) = addW (sumW t n) (t n) := if_neg hn
theorem sumW_snd (t : Nat → KW) (n : Nat) : (sumW t n).2 = sumK (fun i => (t i).2) n := by
  induction n with
  | zero => rfl
  | succ n ih =>
    by_cases h : n = 0
    · subst h; exact (zero_addK _).symm
    · rw [sumW_succ t h]
      show addK (sumW t n).2 (t n).2 = addK (sumK _ n) _
      rw [ih]
/-- A narrow number of small sixteenths. -/
def IsS (p : C) (k : KK) : Prop := (k.1.natAbs ≤ 64 ∧ NV 4 p.1 k.1) ∧ (k.2.natAbs ≤ 64 ∧ NV 4 p.2 k.2)
def IsSW (p : C) (z : KW) : Prop := p = z.1 ∧ IsS p z.2
/-- A narrow number of 256ths. -/
def IsN (p : C) (z : KW) : Prop := p = z.1 ∧ NV 8 p.1 z.2.1 ∧ NV 8 p.2 z.2.2
def PlainN (xs : List C) : Prop := ∀ p ∈ xs, IsS p (kCN p)
theorem IsS.kCN {p : C} {k : KK} (h : IsS p k) : kCN p = k := Prod.ext h.1.2.kN h.2.2.kN
theorem wsOf_length (xs : List C) : (wsOf xs).length = xs.length := by simp [wsOf]
theorem wsOf_getD {xs : List C} {j : Nat} (h : j < xs.length) : (wsOf xs).getD j w0 = (xs.getD j (0, 0), kCN (xs.getD j (0, 0))) := by simp [wsOf, List.getD, h]
theorem isS_getD {xs : List C} {j : Nat} (hw : PlainN xs) (h : j < xs.length) : IsSW (xs.getD j (0, 0)) ((wsOf xs).getD j w0) := by
  rw [wsOf_getD h]; exact ⟨rfl, hw _ (getD_memC h)⟩

/-- Exact narrowing. -/
theorem narrow_iv {r : Nat} {z : Option Nat} {e : Nat} {k : Int} (hr : IsF r z) (hz : IV e 16777215 z k) (he : e ≤ 100) {u : Nat} (hn : Narrows r u) : NV e u k ∧ u = nar z := by
  obtain ⟨hk, q, hq, e1⟩ := hz
  have h1 := Has.of hr hq
  have ez : z = some r := by rw [← hr.1]; exact h1.isF.1
  have hB : Size (fq r) (two 100) := by
    have d : Dy e 16777215 (fq r) := ⟨k, hk, by rw [h1.2]; exact e1⟩
    have h2 := d.size
    have h3 : ((16777215 : Nat) : Rat) ≤ two 100 := cast_le_two (by decide)
    exact ⟨Rat.le_trans h2.1 h3, Rat.le_trans h2.2 h3⟩
  obtain ⟨x, e2, e3, e4⟩ := Nar.narrow_rnd h1.1 hB
  have e5 : u = x := hn.val x e2
  rw [e5]
  have hrep : Nar.Rep (fq r) := Nar.rep_int (k := k) (by omega) he (by rw [h1.2]; exact e1)
  exact ⟨⟨e3, by rw [e4.exact hrep, h1.2]; exact e1⟩, by rw [ez]; show x = ((some r).bind _).getD 0; rw [Option.bind_some, e2]; rfl⟩
/-- Exact widening. -/
theorem widen_iv {u r : Nat} {e K : Nat} {k : Int} (h : NV e u k) (hk : k.natAbs ≤ K) (hr : cn .f64 r = floatToFloatBits .f32 u .f64) (hl : r < 18446744073709551616) : IsF r (floatToFloatBits .f32 u .f64) ∧ IV e K (floatToFloatBits .f32 u .f64) k := by
  obtain ⟨x, e1, e2, e3⟩ := Nar.widen_fq h.1
  rw [e1] at hr ⊢
  exact ⟨⟨hr, hl⟩, hk, fq x, ⟨x, rfl, e2, rfl⟩, by rw [e3]; exact h.2⟩
/-- An exact narrow sum. -/
theorem nv_fres {e : Nat} {x y : Nat} {k l : Int} (hx : NV e x k) (hy : NV e y l) (hb : (k + l).natAbs < 16777216) (he : e ≤ 100) (w : World) : NV e (fres .add .f32 x y w) (k + l) ∧ fres .add .f32 x y w = add32 x y := by
  have hq : (Nar.fq x + Nar.fq y) * two e = ((k + l : Int) : Rat) := by rw [Rat.intCast_add, ← hx.2, ← hy.2]; grind
  have hrep : Nar.Rep (Nar.fq x + Nar.fq y) := Nar.rep_int hb he hq
  have hB : Size (Nar.fq x + Nar.fq y) (Nar.rq Nar.bigR) := by
    rw [Nar.bigR_q]
    have d : Dy e 16777215 (Nar.fq x + Nar.fq y) := ⟨k + l, by omega, hq⟩
    have h2 := d.size
    have h3 : ((16777215 : Nat) : Rat) ≤ two 100 := cast_le_two (by decide)
    exact ⟨Rat.le_trans h2.1 h3, Rat.le_trans h2.2 h3⟩
  obtain ⟨r, e2, h3, h4⟩ := Nar.add_rnd hx.1 hy.1 Nar.bigR_lt hB
  have e3 : floatBits .add .f32 x y = some r := e2
  have e4 : fres .add .f32 x y w = r := by unfold fres; rw [e3]
  rw [e4]
  exact ⟨⟨h3, by rw [h4.exact hrep]; exact hq⟩, by unfold add32; rw [e3]; rfl⟩
/-- Sums that a narrow number holds. -/
def Small (z : KW) : Prop := z.2.1.natAbs < 16777216 ∧ z.2.2.natAbs < 16777216
theorem isN_add {p q r s : Nat} {z y : KW} (h : IsN (p, q) z) (h' : IsN (r, s) y) (hs : Small (addW z y)) (w w' : World) : IsN (fres .add .f32 p r w, fres .add .f32 q s w') (addW z y) := by
  obtain ⟨e1, a1, a2⟩ := h
  obtain ⟨e2, b1, b2⟩ := h'
  obtain ⟨c1, d1⟩ := nv_fres a1 b1 hs.1 (by decide) w
  obtain ⟨c2, d2⟩ := nv_fres a2 b2 hs.2 (by decide) w'
  refine ⟨?_, c1, c2⟩
  rw [d1, d2]
  show _ = (add32 z.1.1 y.1.1, add32 z.1.2 y.1.2)
  rw [← e1, ← e2]

/-- A narrow product is returned. -/
def RetsNW (z : KW) (w : World) (e : Ending) (w' : World) : Prop := ∃ a b, e = .returned (.complex .f32 a b) ∧ IsN (a, b) z ∧ Below w.heap.size w w'
/-- Sixteenths that are widened. -/
def Wid (p : C) (k : KK) (a b : Nat) : Prop := IsC (a, b) (zw p) ∧ IVC 4 64 (zw p) k
theorem wid_of {p : C} {k : KK} (h : IsS p k) {a b : Nat} (ha : cn .f64 a = floatToFloatBits .f32 p.1 .f64) (hb : cn .f64 b = floatToFloatBits .f32 p.2 .f64) (la : a < 18446744073709551616) (lb : b < 18446744073709551616) : Wid p k a b := by
  obtain ⟨h1, h2⟩ := widen_iv h.1.2 h.1.1 ha la
  obtain ⟨h3, h4⟩ := widen_iv h.2.2 h.2.1 hb lb
  exact ⟨⟨h1, h3⟩, h2, h4⟩
theorem isN_of {a b u v : Nat} {x y : KW} (hc : IsC (a, b) (mulZ (zw x.1) (zw y.1))) (hz : IVC 8 8192 (mulZ (zw x.1) (zw y.1)) (mulK x.2 y.2)) (hu : Narrows a u) (hv : Narrows b v) : IsN (u, v) (mulW x y) := by
  obtain ⟨h1, e1⟩ := narrow_iv hc.re (hz.1.mono (by decide)) (by decide) hu
  obtain ⟨h2, e2⟩ := narrow_iv hc.im (hz.2.mono (by decide)) (by decide) hv
  exact ⟨Prod.ext e1 e2, h1, h2⟩

theorem numberOfN_any (a b : Nat) (w : World) :
    Calls Try.prog 101 #[.complex .f32 a b] w (Rets (.agg #[.complex .f32 a b]) w) := by
  go_enter Try.func101, Try.ntmps101
  go_wp2
  exact bodyPost_ret (v := .agg #[.complex .f32 a b]) (by simp [results, Try.results101, go_sem]) rfl ⟨rfl, by repeat (first | exact Below.refl _ _ | refine Below.alloc ?_ (by simp; try omega) _)⟩

theorem wideN_any (a b : Nat) (k : KK) (h : IsS (a, b) k) (w : World) :
    Calls Try.prog 115 #[.agg #[.complex .f32 a b]] w fun e w' => ∃ c d, e = .returned (.complex .f64 c d) ∧ Wid (a, b) k c d ∧ Below w.heap.size w w' := by
  have H := Lib.hid h
  clear h
  go_enter Try.func115, Try.ntmps115
  go_wp2_with (refine wpList_widenC _ rfl 36 30 _ rfl a b rfl (by kernel_rfl) Try.underlying30 ?_; intro r s n hr hs lr ls; have HW := Lib.hid (wid_of H.out hr hs lr ls); clear hr hs lr ls)
  go_ret
  exact ⟨_, _, rfl, HW.out, below_draws ((Below.refl _ _).alloc (Nat.le_refl _) _) _⟩

theorem partsN_any (a b : Nat) (k : KK) (h : IsS (a, b) k) (w : World) :
    Calls Try.prog 111 #[.agg #[.complex .f32 a b]] w fun e w' => ∃ c d, e = .returned (.tuple #[.float .f64 c, .float .f64 d]) ∧ Wid (a, b) k c d ∧ Below w.heap.size w w' := by
  have H := Lib.hid (fun w => wideN_any a b k h w)
  clear h
  go_enter Try.func111, Try.ntmps111
  go_wp2_with fail
  refine (H.out _).mono ?_
  rintro e w2 ⟨c, d, rfl, hw, hb⟩
  have HW := Lib.hid hw
  have HB : Hid (Below w.heap.size w w2) := Lib.hid (((Below.refl _ _).alloc (Nat.le_refl _) _).trans (hb.mono (by simp)))
  clear hw hb
  go_wp2
  go_ret2
  exact ⟨_, _, rfl, HW.out, HB.out⟩

set_option maxRecDepth 100000 in
set_option maxHeartbeats 4000000 in
theorem timesN_any (a b c d : Nat) (x y : KW) (h1 : IsSW (a, b) x) (h2 : IsSW (c, d) y) (w : World) :
    Calls Try.prog 102 #[.agg #[.complex .f32 a b], .agg #[.complex .f32 c d]] w (RetsNW (mulW x y) w) := by
  have H1 := Lib.hid (fun w => partsN_any a b x.2 h1.2 w)
  have H2 := Lib.hid (fun w => partsN_any c d y.2 h2.2 w)
  have HE1 := Lib.hid h1.1
  have HE2 := Lib.hid h2.1
  clear h1 h2
  go_enter Try.func102, Try.ntmps102
  go_wp2_with fail
  refine (H1.out _).mono ?_
  rintro e w1 ⟨p, q, rfl, hw1, hb1⟩
  have hy : w.heap.size + 1 < w1.heap.size := by have := hb1.size; simp at this; omega
  have c3 : w1.cell? ⟨w.heap.size + 1, 0, none⟩ = some (.complex .f32 c d) := by
    rw [hb1.cell (by simp)]; simp
  have HB1 : Hid (Below w.heap.size w w1) := (((Below.refl _ _).alloc (Nat.le_refl _) _).alloc (by simp) _).trans (hb1.mono (by simp; omega))
  have HW1 := Lib.hid hw1
  clear hb1 hw1
  go_wp2_with fail
  refine (H2.out _).mono ?_
  rintro e w2 ⟨r, s, rfl, hw2, hb2⟩
  have HB2 : Hid (Below w.heap.size w w2) := HB1.out.trans (hb2.mono HB1.out.size)
  have HW2 := Lib.hid hw2
  clear hb2 hw2 HB1 c3 hy
  obtain ⟨i1, v1⟩ := HW1.out
  obtain ⟨i2, v2⟩ := HW2.out
  rw [HE1.out] at i1 v1
  rw [HE2.out] at i2 v2
  have HI1 := Lib.hid i1
  have HI2 := Lib.hid i2
  have HV : Hid (IVC 8 8192 (mulZ (zw x.1) (zw y.1)) (mulK x.2 y.2)) := Lib.hid (v1.mul v2 (by decide) (by decide))
  clear i1 i2 v1 v2 HW1 HW2
  go_wp2_with (refine wpList_narrowD _ rfl 30 36 _ rfl _ _ rfl (by kernel_rfl) Try.underlying36 ?_; intro u v n hu hv; have HN := Lib.hid (isN_of ⟨isF_fres (isF_fres HI1.out.re HI2.out.re _) (isF_fres HI1.out.im HI2.out.im _) _, isF_fres (isF_fres HI1.out.re HI2.out.im _) (isF_fres HI1.out.im HI2.out.re _) _⟩ HV.out hu hv); clear hu hv)
  go_ret
  exact ⟨_, _, rfl, HN.out, below_draws HB2.out _⟩

end Go.Proofs.Ytocjhanehphibaa
