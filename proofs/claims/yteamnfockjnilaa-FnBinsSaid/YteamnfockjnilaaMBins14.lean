/-
  Several texts of this claim, one behind the other; each says what it holds.
-/
import Derived.Test.YteamnfockjnilaaMBins13
import Derived.RangeFuncBox
import Derived.Maps.AppendAt
import Derived.OwnWalk
/-
  P6Plain: a signal of sixteenths.
-/
set_option linter.unusedVariables false
set_option linter.unusedSimpArgs false
namespace Go.Proofs.Yteamnfockjnilaa
open Go.RowKit Flt Fast

theorem has_16 : Has 4625196817309499392 16 := has_int (n := 16) (by decide) (by decide)
/-- A drawn number by sixteen: no draw of its own. -/
theorem sx_run {r : Int} (h0 : 0 ≤ r) (h1 : r ≤ 128) : ∃ d, Sx d ∧ ∀ (P : Program) (t : TypeId) (w : World), (binOp .quo t (.float .f64 (floatOfInt .f64 (r - 64))) (.float .f64 4625196817309499392)).run P w = .ok (.float .f64 d) w := by
  have hF := fv_int_exact (n := r - 64) (by omega)
  have hd : Dy 4 64 (((r - 64 : Int) : Rat) / 16) := ⟨r - 64, by omega, by rw [show two 4 = 16 from rfl]; exact Rat.div_mul_cancel (by decide)⟩
  obtain ⟨d, hd, hr⟩ := run_has (.inr (.inr (.inr rfl))) (hd.fv_div (by omega) (by omega) (by decide) hF has_16.fv)
  exact ⟨d, (sx_of (k := r - 64) (by omega) hd).1, hr⟩

set_option maxRecDepth 100000 in
set_option maxHeartbeats 4000000 in
theorem p6Plain_any (a : Option Addr) (len cap : Nat) (n : Nat) (hn : n ≤ 100) (w : World) (hr : ∃ zs, IsRow .u8 w a len cap zs) :
    Calls Try.prog 5 #[.slice a len cap, .int .i64 n] w fun e w' => ∃ v xs, e = .returned v ∧ Row w' w.heap.size 27 v (cvals xs) ∧ xs.length = n ∧ PlainC xs ∧ Below w.heap.size w w' := by
  obtain ⟨i0, hi, hz0, hz1, hz2⟩ := info_parts info_c128
  have HRR := Lib.hid hr
  obtain ⟨B, hB⟩ : ∃ B, w.heap.size = B := ⟨_, rfl⟩
  have HSRC : Hid (Src w B a len cap 0 (w.alloc (.cells #[.slice a len cap, .int .i64 0, .int .u64 0] 59))) := by rw [← hB]; exact Lib.hid src_new
  have HBB := Lib.hid hB
  clear hr
  go_enter Try.func5, Try.ntmps5
  go_wp2_with (first | (go_at_call 14; go_in))
  clear hB
  go_loopw [6, 7] (fun v k wr => ∃ (m : Nat) (xs : List C) (j : Int), k = .int .i64 m ∧ m ≤ n ∧ xs.length = m ∧ 0 ≤ j ∧ j ≤ 4 * (m : Int) ∧ B + 1 ≤ wr.heap.size ∧ Src w B a len cap j wr ∧ Row wr (B + 1) 27 v (cvals xs) ∧ PlainC xs) (fun _ k _ => n - (intOf k).toNat)
  case atStart =>
    refine ⟨0, [], 0, rfl, Nat.zero_le _, rfl, by omega, by omega, by simp [HBB.out], HSRC.out.alloc _, ?_, by intro u hu; cases hu⟩
    have := World.ownsRow_lit (w.alloc (.cells #[.slice a len cap, .int .i64 0, .int .u64 0] 59)) (e := 27) (base := B + 1) #[] 0 (size := 1) (by simp [HBB.out]) (by unfold maxLen; omega) rfl
    rw [show (w.alloc (.cells #[.slice a len cap, .int .i64 0, .int .u64 0] 59)).heap.size = B + 1 by simp [HBB.out]] at this
    exact this
  case round =>
    clear HSRC
    obtain ⟨m, xs, j, rfl, hm, hx, hj0, hj1, hsz, hs, hrw, hwf⟩ := hrel
    have HX := Lib.hid hx
    have HS := Lib.hid hs
    have HR := Lib.hid hrw
    have HW := Lib.hid hwf
    clear hx hs hrw hwf
    by_cases hlt : m < n
    · go_wp2_with fail
      refine (pick_any w B a len cap HRR.out j (by omega) 129 (by omega) (by omega) _ HS.out).mono ?_
      rintro e w2 ⟨r, j2, r0, r1, rfl, k0, k1, hs2, hg2⟩
      obtain ⟨p, hp, hrun⟩ := sx_run r0 (by omega)
      have HS2 := Lib.hid hs2
      have HG2 := Lib.hid hg2
      have HP := Lib.hid hp
      clear hs2 hg2 hp
      go_wp2_with fail
      clear hrun
      refine (pick_any w B a len cap HRR.out j2 (by omega) 129 (by omega) (by omega) _ HS2.out).mono ?_
      rintro e w4 ⟨r', j4, r0', r1', rfl, k2, k3, hs4, hg4⟩
      obtain ⟨q, hq, hrun⟩ := sx_run r0' (by omega)
      have hg := grown_trans HG2.out hg4
      have hr4 : Row w4 (B + 1) 27 u6 (cvals xs) := HR.out.kept hg (.inr (fun e => by have := (HR.out.lt _ e).1; omega))
      have hz4 : B + 1 ≤ w4.heap.size := Nat.le_trans hsz hg.size
      have hxl : (cvals xs).length = m := by rw [cvals_length, HX.out]
      have HFin : Hid (∀ (w6 : World) v', w6.ownsRow (B + 1) 27 1 v' (m + 1) (cvals xs ++ [.complex .f64 p q]) → (w4.alloc (.cells #[.complex .f64 p q] 27)).grownBy w6 u6.ownBlock →
          B + 1 ≤ w6.heap.size ∧ Src w B a len cap j4 w6 ∧ Row w6 (B + 1) 27 v' (cvals (xs ++ [(p, q)])) ∧ PlainC (xs ++ [(p, q)])) := fun w6 v' hown hgr => by
        refine ⟨by have := hgr.size; simp at *; omega, (hs4.alloc _).other hgr (fun e => ?_) (fun k e => ?_), ?_, plainC_snoc HW.out HP.out hq⟩
        · have := (hr4.lt _ e).1; omega
        · have h1 := (hr4.lt _ e).1; have h2 := hs4.new; omega
        · show w6.ownsRow _ _ _ _ _ _
          rw [cvals_snoc, List.length_append, hxl]
          exact hown
      have HR4 := Lib.hid hr4
      clear hr4 hs4 hg4 hg HR HS HS2 HG2 HP hq
      go_wp2_with (at_builtin; refine wpList_append_own _ rfl _ _ 24 rfl (B + 1) 27 i0 (.complex .f64 0 0) 1 16 Try.underlying24 hi hz0 hz1 hz2 rfl (by decide) _ _ _ rfl (HR4.out.alloc _) ⟨_, 0, none⟩ 1 1 [.complex .f64 p q] rfl rfl (cell_one_new _ _ _) (by intro u hu; simp at hu; subst hu; rfl) (by rw [hxl]; simp only [maxLen]; omega) (by rw [hxl]; omega) (by simp; omega) ?_)
      intro v' w6 hown' hgrow _
      have HE := Lib.hid (HFin.out w6 v' hown' hgrow)
      clear hown' hgrow HR4 HFin hrun hxl
      go_wp2
      go_roundw
      case rel => first | exact ⟨m + 1, xs ++ [(p, q)], j4, by go_num, by omega, by simp [HX.out], by omega, by omega, HE.out⟩ | ((repeat apply Exists.intro); refine ⟨?_, rfl⟩; exact ⟨m + 1, xs ++ [(p, q)], j4, by go_num, by omega, by simp [HX.out], by omega, by omega, HE.out⟩)
      case measure => simp [intOf]; omega
    · have e : m = n := by omega
      subst e
      go_wp2
      go_ret
      exact ⟨_, xs, rfl, HR.out.base (by rw [HBB.out]; omega), HX.out, HW.out, HS.out.below⟩

end Go.Proofs.Yteamnfockjnilaa
/-
  l03Add, l03Many, l03Joined and OverlapAdd of the model.
-/
set_option linter.unusedVariables false
set_option linter.unusedSimpArgs false
namespace Go.Proofs.Yteamnfockjnilaa
open Go.RowKit Flt Fast
attribute [local go_sem] run_fadd run_fsub run_fmul run_fquo run_cadd run_csub

/-- Blocks of one size, in a row. -/
structure Blks (w : World) (V : Value) (vs : List Value) (bs : Nat → List C) (q : Nat → Nat → Z) (n : Nat) : Prop where
  row : Reads w V vs
  each : ∀ b, b < vs.length → RdC w (vs.getD b undef) (bs b) ∧ (bs b).length = n ∧ ∀ i, i < n → IsC ((bs b).getD i (0, 0)) (q b i)

theorem Blks.below {w w' : World} {V : Value} {vs : List Value} {bs : Nat → List C} {q : Nat → Nat → Z} {n : Nat} (h : Blks w V vs bs q n) (hb : Below w.heap.size w w') : Blks w' V vs bs q n :=
  ⟨h.row.below hb, fun b hb' => ⟨(h.each b hb').1.below hb, (h.each b hb').2⟩⟩

/-- How the walk finds a block. -/
theorem Blks.find {w : World} {V : Value} {vs : List Value} {bs : Nat → List C} {q : Nat → Nat → Z} {n : Nat} (h : Blks w V vs bs q n) :
    ∃ a cap, V = .slice a vs.length cap ∧ (vs.length : Int) ≤ 9223372036854775807 ∧ ∀ b, b < vs.length → ∃ g ab cb, a = some ⟨g, 0, none⟩ ∧ g < w.heap.size ∧ w.cell? ⟨g, b, none⟩ = some (.slice ab n cb) ∧ (n : Int) ≤ 9223372036854775807 ∧
      ∀ j, j < n → ∃ gb ob, ab = some ⟨gb, ob, none⟩ ∧ gb < w.heap.size ∧ w.cell? ⟨gb, ob + j, none⟩ = some (.complex .f64 ((bs b).getD j (0, 0)).1 ((bs b).getD j (0, 0)).2) ∧ IsC ((bs b).getD j (0, 0)) (q b j) := by
  have key : ∀ (g cap : Nat) (b : Nat), b < vs.length → w.cell? ⟨g, b, none⟩ = some (vs.getD b undef) → ∃ ab cb, g < w.heap.size ∧ w.cell? ⟨g, b, none⟩ = some (.slice ab n cb) ∧ (n : Int) ≤ 9223372036854775807 ∧
      ∀ j, j < n → ∃ gb ob, ab = some ⟨gb, ob, none⟩ ∧ gb < w.heap.size ∧ w.cell? ⟨gb, ob + j, none⟩ = some (.complex .f64 ((bs b).getD j (0, 0)).1 ((bs b).getD j (0, 0)).2) ∧ IsC ((bs b).getD j (0, 0)) (q b j) := by
    intro g cap b hb hc
    obtain ⟨⟨ab, cb, e, h1, h2, h3⟩, h4, h5⟩ := h.each b hb
    rw [h4] at e h1 h3
    refine ⟨ab, cb, World.block_lt_of_cell? _ _ hc, by rw [hc, e], maxLen_int (Nat.le_trans h1 h2), fun j hj => ?_⟩
    obtain ⟨gb, ob, e1, e2, e3⟩ := h3 j hj
    exact ⟨gb, ob, e1, e2, e3, h5 j hj⟩
  have hr := h.row
  generalize hvs : vs = cs at hr
  cases hr with
  | none a cap => subst hvs; exact ⟨a, cap, rfl, by simp, fun b hb => by simp at hb⟩
  | row g cap L cs hL h0 hcc hm hh =>
    subst hvs
    subst hL
    refine ⟨_, cap, rfl, maxLen_int (Nat.le_trans hcc hm), fun b hb => ?_⟩
    obtain ⟨ab, cb, k1, k2, k3, k4⟩ := key g cap b hb (hh b hb)
    exact ⟨g, ab, cb, rfl, k1, k2, k3, k4⟩

/-- The sums of blocks of the size n, h places apart. -/
def ovlL (q : Nat → Nat → Z) (n h c : Nat) : List Z := addAll addZ z0 q (fun _ => n) h c

end Go.Proofs.Yteamnfockjnilaa
/-
  An adder's tail and what it has told are the sums of all blocks: pure facts.
-/
set_option linter.unusedVariables false
set_option linter.unusedSimpArgs false
namespace Go.Proofs.Yteamnfockjnilaa
open Go.RowKit Flt Fast

section
variable {Y : Type} (add : Y → Y → Y) (d : Y)
theorem addAt_app (A X : List Y) (m : Nat) (p : Y) : addAt add d (A ++ X) (A.length + m) p = A ++ addAt add d X m p := by
  by_cases h : m < X.length
  · rw [addAt_lt add d (by simp; omega), addAt_lt add d h, List.set_append_right _ _ (by omega), Nat.add_sub_cancel_left]
    congr 3
    simp [List.getD, List.getElem?_append_right]
  · rw [addAt_ge add d (by simp; omega), addAt_ge add d h, List.append_assoc]
theorem addBlk_split {zs : List Y} {f : Nat} (q : Nat → Y) (hf : f ≤ zs.length) (m : Nat) : addBlk add d zs f q m = zs.take f ++ addBlk add d (zs.drop f) 0 q m := by
  have hl : (zs.take f).length = f := by simp; omega
  induction m with
  | zero => simp [addBlk]
  | succ m ih =>
    rw [addBlk, ih, addBlk, Nat.zero_add]
    have := addAt_app add d (zs.take f) (addBlk add d (zs.drop f) 0 q m) m (q m)
    rw [hl] at this
    exact this
theorem addBlk_list (T : List Y) (m : Nat) (hm : m ≤ T.length) : addBlk add d [] 0 (fun i => T.getD i d) m = T.take m := by
  induction m with
  | zero => simp [addBlk]
  | succ m ih =>
    rw [addBlk, ih (by omega), addAt_ge add d (by simp; omega), List.take_add_one]
    have : m < T.length := by omega
    simp [List.getD, this]
theorem addBlk_ext (zs : List Y) (f : Nat) (q q' : Nat → Y) (m : Nat) (h : ∀ i, i < m → q i = q' i) : addBlk add d zs f q m = addBlk add d zs f q' m := by
  induction m with
  | zero => rfl
  | succ m ih => rw [addBlk, addBlk, ih (fun i hi => h i (by omega)), h m (by omega)]
end

/-- What has been told after b blocks, and what is left. -/
def toldL (q : Nat → Nat → Z) (n h b : Nat) : List Z := (ovlL q n h b).take (b * h)
def tailL (q : Nat → Nat → Z) (n h b : Nat) : List Z := (ovlL q n h b).drop (b * h)
/-- The sums of a tail and a block. -/
def stepL (T : List Z) (q : Nat → Z) (n : Nat) : List Z := addBlk addZ z0 T 0 q n

theorem told_tail (q : Nat → Nat → Z) (n h b : Nat) : toldL q n h b ++ tailL q n h b = ovlL q n h b := List.take_append_drop _ _
theorem toldL_len (q : Nat → Nat → Z) {n h : Nat} (hh : h ≤ n) (b : Nat) : (toldL q n h b).length = b * h := by
  unfold toldL
  rw [List.length_take]
  have : b * h ≤ (ovlL q n h b).length := addAll_le _ _ _ _ _ hh b
  omega
theorem tailL_zero (q : Nat → Nat → Z) (n h : Nat) : tailL q n h 0 = [] := by simp [tailL, ovlL, addAll]
theorem tailL_len (q : Nat → Nat → Z) {n h : Nat} (hh : h ≤ n) (b : Nat) : (tailL q n h (b + 1)).length = n - h := by
  have e : (ovlL q n h (b + 1)).length = b * h + n := addAll_len _ _ _ _ _ hh b
  unfold tailL
  rw [List.length_drop, e, Nat.add_mul]
  omega
theorem ovl_succ (q : Nat → Nat → Z) {n h : Nat} (hh : h ≤ n) (b : Nat) : ovlL q n h (b + 1) = toldL q n h b ++ stepL (tailL q n h b) (q b) n := by
  have hl : b * h ≤ (ovlL q n h b).length := addAll_le _ _ _ _ _ hh b
  show addBlk addZ z0 (ovlL q n h b) (b * h) (q b) n = _
  rw [addBlk_split addZ z0 (q b) hl n]
  rfl
theorem stepL_len (T : List Z) (q : Nat → Z) (n : Nat) : (stepL T q n).length = max T.length n := by
  unfold stepL
  rw [addBlk_len addZ z0 q (Nat.zero_le _)]
  simp
theorem told_succ (q : Nat → Nat → Z) {n h : Nat} (hh : h ≤ n) (b : Nat) : toldL q n h (b + 1) = toldL q n h b ++ (stepL (tailL q n h b) (q b) n).take h := by
  have hl := toldL_len q hh b
  show (ovlL q n h (b + 1)).take ((b + 1) * h) = _
  rw [ovl_succ q hh b, Nat.add_mul, Nat.one_mul, ← hl, List.take_length_add_append]
theorem tail_succ (q : Nat → Nat → Z) {n h : Nat} (hh : h ≤ n) (b : Nat) : tailL q n h (b + 1) = (stepL (tailL q n h b) (q b) n).drop h := by
  have hl := toldL_len q hh b
  show (ovlL q n h (b + 1)).drop ((b + 1) * h) = _
  rw [ovl_succ q hh b, Nat.add_mul, Nat.one_mul, ← hl, List.drop_length_add_append]

theorem FitsC.take {fs : List C} {zs : List Z} (h : FitsC fs zs) (k : Nat) : FitsC (fs.take k) (zs.take k) := by
  refine ⟨by simp [h.len], fun i hi => ?_⟩
  rw [List.length_take] at hi
  have h1 : i < k := by omega
  rw [show (fs.take k).getD i (0, 0) = fs.getD i (0, 0) by simp [List.getD, List.getElem?_take, h1], show (zs.take k).getD i z0 = zs.getD i z0 by simp [List.getD, List.getElem?_take, h1]]
  exact h.good i (by omega)
theorem FitsC.drop {fs : List C} {zs : List Z} (h : FitsC fs zs) (k : Nat) : FitsC (fs.drop k) (zs.drop k) := by
  refine ⟨by simp [h.len], fun i hi => ?_⟩
  simp at hi
  rw [show (fs.drop k).getD i (0, 0) = fs.getD (k + i) (0, 0) by simp [List.getD, List.getElem?_drop], show (zs.drop k).getD i z0 = zs.getD (k + i) z0 by simp [List.getD, List.getElem?_drop]]
  exact h.good (k + i) (by omega)
theorem FitsC.app {fs gs : List C} {zs ys : List Z} (h : FitsC fs zs) (k : FitsC gs ys) : FitsC (fs ++ gs) (zs ++ ys) := by
  refine ⟨by simp [h.len, k.len], fun i hi => ?_⟩
  by_cases hl : i < fs.length
  · rw [show (fs ++ gs).getD i (0, 0) = fs.getD i (0, 0) by simp [List.getD, List.getElem?_append_left, hl], show (zs ++ ys).getD i z0 = zs.getD i z0 by simp [List.getD, List.getElem?_append_left, ← h.len, hl]]
    exact h.good i hl
  · have e1 : (fs ++ gs).getD i (0, 0) = gs.getD (i - fs.length) (0, 0) := by simp [List.getD, List.getElem?_append_right (Nat.le_of_not_lt hl)]
    have e2 : (zs ++ ys).getD i z0 = ys.getD (i - fs.length) z0 := by rw [h.len] at hl ⊢; simp [List.getD, List.getElem?_append_right (Nat.le_of_not_lt hl)]
    rw [e1, e2]
    exact k.good _ (by simp at hi; omega)

/-- The sums that sumsAtPlaces makes of a tail and a block. -/
theorem two_sums (T : List Z) (q : Nat → Z) (n : Nat) : addAll addZ z0 (fun b i => if b = 0 then T.getD i z0 else q i) (fun b => if b = 0 then T.length else n) 0 2 = stepL T q n := by
  show addBlk addZ z0 (addBlk addZ z0 [] (0 * 0) (fun i => if (0 : Nat) = 0 then T.getD i z0 else q i) (if (0 : Nat) = 0 then T.length else n)) (1 * 0) (fun i => if (1 : Nat) = 0 then T.getD i z0 else q i) (if (1 : Nat) = 0 then T.length else n) = _
  simp only [if_true, Nat.mul_zero]
  rw [if_neg (by omega), addBlk_list addZ z0 T T.length (Nat.le_refl _), List.take_length]
  exact addBlk_ext addZ z0 T 0 _ _ n (fun i _ => by rw [if_neg (by omega)])

end Go.Proofs.Yteamnfockjnilaa
/-
  Adders: valid ones, new ones.
-/
set_option linter.unusedVariables false
set_option linter.unusedSimpArgs false
namespace Go.Proofs.Yteamnfockjnilaa
open Go.RowKit Flt Fast

theorem wrap_in (x : Int) (h1 : -9223372036854775808 ≤ x) (h2 : x ≤ 9223372036854775807) : IntKind.i64.wrap x = x := by
  simp only [IntKind.wrap, IntKind.bits, IntKind.signed]
  simp
  omega

/-- An adder of this size and hop with t numbers in its tail is valid. -/
def AddOk (s h : Int) (t : Nat) : Prop := (1 ≤ s ∧ s ≤ 256) ∧ (1 ≤ h ∧ h ≤ s) ∧ (t = 0 ∨ (t : Int) = s - h)
instance (s h : Int) (t : Nat) : Decidable (AddOk s h t) := by unfold AddOk; infer_instance
def addB (s h : Int) (t : Nat) : Bool := decide (AddOk s h t)
theorem addB_t {s h : Int} {t : Nat} (k : AddOk s h t) : addB s h t = true := decide_eq_true k
theorem addB_f {s h : Int} {t : Nat} (k : ¬ AddOk s h t) : addB s h t = false := decide_eq_false k

end Go.Proofs.Yteamnfockjnilaa
/-
  slices.Clone of complex numbers.
-/
set_option linter.unusedVariables false
set_option linter.unusedSimpArgs false
namespace Go.Proofs.Yteamnfockjnilaa
open Go.RowKit Flt Fast

theorem addr_off (g o j : Nat) : (⟨g, o, none⟩ : Addr).add j = ⟨g, o + j, none⟩ := by unfold Addr.add; split <;> simp_all

end Go.Proofs.Yteamnfockjnilaa
/-
  append of complex numbers to a row of the call's own, guarded or not, whatever slice they come from.
-/
set_option linter.unusedVariables false
set_option linter.unusedSimpArgs false
namespace Go.Proofs.Yteamnfockjnilaa
open Go.RowKit Flt Fast

theorem app_eq {P : Program} (hu : P.underlying 24 = some (.slice 27)) (i : TypeInfo) (hi : P.info? 27 = some i) (hz : i.zero = some (.complex .f64 0 0)) (hsz : i.size = 1) (hby : i.bytes = 16) (ty : TypeId)
    {w : World} {B : Nat} {v u : Value} {xs ys : List C} (hv : Row w B 27 v (cvals xs)) (hr : RdC w u ys) (hB : B ≤ w.heap.size) (hl : xs.length + ys.length ≤ 1000000) :
    ∃ v' w', (Builtin.append_ #[24, 24] ty #[v, u]).run P w = .ok v' w' ∧ Row w' B 27 v' (cvals (xs ++ ys)) ∧ w.grownBy w' v.ownBlock := by
  obtain ⟨a, cap, rfl, h1, h2, h3⟩ := hr
  cases a with
  | none =>
    have h0 : ys.length = 0 := by
      apply Nat.eq_zero_of_not_pos
      intro hp
      obtain ⟨g, o, e, -⟩ := h3 0 hp
      cases e
    obtain rfl := List.eq_nil_of_length_eq_zero h0
    refine ⟨v, w, ?_, by simpa using hv, ⟨rfl, rfl, rfl, Nat.le_refl _, fun _ _ _ => rfl⟩⟩
    rcases hv.2 with ⟨rfl, h0'⟩ | ⟨g, cap', cur, rfl, -, hg, hnc, -⟩
    · simp [Builtin.append_, run_underlying hu, sizeOf, typeInfo, hi, Builtin.lenOf, Builtin.firstCells, loadCells, loadCellsFrom]
    · simp [Builtin.append_, run_underlying hu, sizeOf, typeInfo, hi, Builtin.lenOf, Builtin.firstCells, loadCells, loadCellsFrom, hnc, storeCells]
  | some x =>
    have hn : ∀ (j : Nat) (u : Value), (cvals ys)[j]? = some u → w.cell? (x.add j) = some u := by
      intro j u hu
      have hj : j < ys.length := by have := (List.getElem?_eq_some_iff.1 hu).1; rwa [cvals_length] at this
      obtain ⟨g, o, e, hg, hc⟩ := h3 j hj
      cases e
      rw [addr_off, hc]
      have e2 := cvals_getD hj
      have e3 : (cvals ys).getD j undef = u := by simp [List.getD, hu]
      rw [← e3, e2]
    have hone : ∀ u ∈ cvals ys, u.oneCell' = true := by
      intro u hu
      obtain ⟨p, -, rfl⟩ := List.mem_map.1 hu
      rfl
    obtain ⟨v', w', e1, e2, e3, -⟩ := run_append_own (P := P) w B 24 ty 27 i (.complex .f64 0 0) 1 16 hu hi hz hsz hby rfl (by decide) v (cvals xs).length (cvals xs) hv x ys.length cap (cvals ys) (by rw [cvals_length, Nat.mul_one]) hn hone
      (by rw [cvals_length]; simp only [maxLen]; omega) (by rw [cvals_length]; omega) hB
    refine ⟨v', w', e1, ?_, e3⟩
    show w'.ownsRow _ _ _ _ _ _
    have e4 : cvals (xs ++ ys) = cvals xs ++ cvals ys := by simp [cvals]
    rw [e4, List.length_append, cvals_length ys]
    exact e2

theorem wpList_app {P : Program} {w : World} {ops : Array Oper} {rest : List Oper} {o : Oper} {a : Act} {Q : Exit → Act → World → Prop} (hw : Region.wanted o (yielded ops a.tmps) = true) (s x : Operand)
    (ho : o.op = .call { callee := .builtin .append, args := #[s, x], argTypes := #[24, 24] })
    (hu : P.underlying 24 = some (.slice 27)) (i : TypeInfo) (hi : P.info? 27 = some i) (hz : i.zero = some (.complex .f64 0 0)) (hsz : i.size = 1) (hby : i.bytes = 16)
    (B : Nat) (v u : Value) (xs ys : List C) (hs : a.eval s = v) (hx : a.eval x = u) (hv : Row w B 27 v (cvals xs)) (hr : RdC w u ys) (hB : B ≤ w.heap.size) (hl : xs.length + ys.length ≤ 1000000)
    (h : ∀ v' w', Row w' B 27 v' (cvals (xs ++ ys)) → w.grownBy w' v.ownBlock → wpList P ops Q rest (a.put o.dst v') w') : wpList P ops Q (o :: rest) a w := by
  refine BigFrame.wpList_want hw fun K hK => ?_
  obtain ⟨v', w', hrun, h2, h3⟩ := app_eq hu i hi hz hsz hby o.type hv hr hB hl
  unfold Oper.wp execOp
  simp only [ho, resolve, invoke, builtin, Sem.run_bind, Sem.run_pure, Result.andThen_ok, List.map_toArray, List.map_cons, List.map_nil, hs, hx, hrun]
  exact hK _ _ (h v' w' h2 h3)

end Go.Proofs.Yteamnfockjnilaa
/-
  P6Any: a signal of any numbers.
-/
set_option linter.unusedVariables false
set_option linter.unusedSimpArgs false
namespace Go.Proofs.Yteamnfockjnilaa
open Go.RowKit Flt Fast

set_option maxRecDepth 100000 in
set_option maxHeartbeats 4000000 in
theorem signal_any (w0 : World) (B : Nat) (a : Option Addr) (len cap : Nat) (hr : Bytes w0 a len cap) (n : Nat) (hn : 0 < n) (hn2 : n ≤ 100) (w : World) (hB : B < w.heap.size) (h : Src w0 B a len cap 0 w) :
    Calls Try.prog 29 #[.pointer (some ⟨B, 0, none⟩), .int .i64 n] w fun e w' => ∃ v xs, e = .returned v ∧ Row w' w.heap.size 27 v (cvals xs) ∧ xs.length ≤ n ∧ WfC xs ∧ Below w0.heap.size w0 w' := by
  obtain ⟨i0, hi, hz0, hz1, hz2⟩ := info_parts info_c128
  go_enter Try.func29, Try.ntmps29
  go_wp2_with fail
  refine (pick_any w0 B a len cap hr 0 (by omega) ((n : Int) + 1) (by omega) (by omega) _ (h.alloc _)).mono ?_
  rintro e w1 ⟨k0, j0, l0, l1, rfl, i0', i1', hs, hg⟩
  have hrow : Row w1 w.heap.size 27 (.slice (some ⟨w.heap.size, 0, none⟩) 0 0) (cvals []) := Row.kept (World.ownsRow_lit w #[] 0 (Nat.le_refl _) (by unfold maxLen; omega) rfl) hg (.inr (by simp [Value.ownBlock]; omega))
  obtain ⟨kk, rfl⟩ : ∃ kk : Nat, k0 = kk := ⟨k0.toNat, by omega⟩
  have HS := Lib.hid hs
  have HR := Lib.hid hrow
  have hkn : kk ≤ n := by omega
  have hsz1 : w.heap.size ≤ w1.heap.size := by have := hg.size; simp at this; omega
  clear hs hg hrow h
  go_wp2
  go_loopw [5, 6] (fun v k wr => ∃ (m : Nat) (xs : List C) (j : Int), k = .int .i64 m ∧ m + xs.length ≤ n ∧ 0 ≤ j ∧ j ≤ 2 + 20 * (xs.length : Int) ∧ w.heap.size ≤ wr.heap.size ∧ Src w0 B a len cap j wr ∧ Row wr w.heap.size 27 v (cvals xs) ∧ WfC xs) (fun _ k _ => (intOf k).toNat)
  case atStart => exact ⟨kk, [], j0, rfl, by simpa using hkn, by omega, by simp; omega, hsz1, HS.out, HR.out, by intro p hp; cases hp⟩
  case round =>
    clear HS HR
    obtain ⟨m, xs, j, rfl, hm, hj0, hj1, hsz, hs, hrw, hwf⟩ := hrel
    have HS := Lib.hid hs
    have HR := Lib.hid hrw
    have HW := Lib.hid hwf
    clear hs hrw hwf
    by_cases hlt : 0 < m
    · have hxl : (cvals xs).length = xs.length := cvals_length xs
      have hxn : (xs.length : Int) ≤ 100 := by omega
      go_wp2_with fail
      refine (number_any w0 B a len cap hr j (by omega) _ HS.out).mono ?_
      rintro e w5 ⟨p, q, j5, hp, hq, rfl, k6, k7, hs5, hg5⟩
      have hr5 : Row w5 w.heap.size 27 u5 (cvals xs) := HR.out.kept hg5 (.inr (fun e => by have := (HR.out.lt _ e).1; omega))
      have hz5 : w.heap.size ≤ w5.heap.size := Nat.le_trans hsz hg5.size
      have HFin : Hid (∀ (w6 : World) v', w6.ownsRow w.heap.size 27 1 v' (xs.length + 1) (cvals xs ++ [.complex .f64 p q]) → (w5.alloc (.cells #[.complex .f64 p q] 27)).grownBy w6 u5.ownBlock →
          w.heap.size ≤ w6.heap.size ∧ Src w0 B a len cap j5 w6 ∧ Row w6 w.heap.size 27 v' (cvals (xs ++ [(p, q)])) ∧ WfC (xs ++ [(p, q)])) := fun w6 v' hown hgr => by
        refine ⟨by have := hgr.size; simp at *; omega, (hs5.alloc _).other hgr (fun e => ?_) (fun k e => ?_), ?_, wfC_snoc HW.out hp hq⟩
        · have := (hr5.lt _ e).1; omega
        · have h1 := (hr5.lt _ e).1; have h2 := hs5.new; omega
        · show w6.ownsRow _ _ _ _ _ _
          rw [cvals_snoc, List.length_append, cvals_length]
          exact hown
      have HR5 := Lib.hid hr5
      clear hr5 hs5 hg5 HR HS
      go_wp2_with (at_builtin; refine wpList_append_own _ rfl _ _ 24 rfl w.heap.size 27 i0 (.complex .f64 0 0) 1 16 Try.underlying24 hi hz0 hz1 hz2 rfl (by decide) _ _ _ rfl (HR5.out.alloc _) ⟨_, 0, none⟩ 1 1 [.complex .f64 _ _] rfl rfl (cell_one_new _ _ _) (by intro u hu; simp at hu; subst hu; rfl) (by rw [hxl]; simp only [maxLen]; omega) (by rw [hxl]; omega) (by simp; omega) ?_)
      intro v' w6 hown' hgrow _
      have HE := Lib.hid (HFin.out w6 v' hown' hgrow)
      clear hown' hgrow HR5 HFin hxl
      go_wp2
      go_roundw
      case rel => exact ⟨m - 1, xs ++ [(p, q)], j5, by go_num, by simp; omega, by omega, by simp; omega, HE.out⟩
      case measure => simp [intOf]; omega
    · have e : m = 0 := by omega
      subst e
      go_wp2
      go_ret
      exact ⟨_, xs, rfl, HR.out, by omega, HW.out, HS.out.below⟩

theorem p6Any_any (a : Option Addr) (len cap : Nat) (n : Nat) (hn : 0 < n) (hn2 : n ≤ 100) (w : World) (hr : ∃ zs, IsRow .u8 w a len cap zs) :
    Calls Try.prog 13 #[.slice a len cap, .int .i64 n] w (Wild n w) := by
  go_enter Try.func13, Try.ntmps13
  go_wp2_with (first | (go_at_call 14; go_in))
  refine (signal_any w w.heap.size a len cap hr n hn hn2 _ (by simp) src_new).mono ?_
  rintro e w1 ⟨v, xs, rfl, hrow, hl, hw, hb⟩
  have HE := Lib.hid (show Wild n w (.returned v) w1 from ⟨v, xs, rfl, hrow.base (by simp), hl, hw, hb⟩)
  clear hrow hl hw hb
  go_wp2
  go_ret
  exact HE.out

end Go.Proofs.Yteamnfockjnilaa

/-
  f6part: a part of a signal.
-/
set_option linter.unusedVariables false
set_option linter.unusedSimpArgs false
namespace Go.Proofs.Yteamnfockjnilaa
open Go.RowKit Flt Fast

end Go.Proofs.Yteamnfockjnilaa
/-
  FnBins: what the law needs beside the walks.
-/
set_option linter.unusedVariables false
set_option linter.unusedSimpArgs false
namespace Go.Proofs.Yteamnfockjnilaa
open Go.RowKit Flt Turn Fast

theorem bn_has {p : C} {z : Z} {q : Q2} (h : IsC p z) (hz : FvQ z q) : Has p.1 q.1 ∧ Has p.2 q.2 := ⟨Has.of h.re hz.1, Has.of h.im hz.2⟩
theorem bn_few {xs : List C} (h : PlainC xs) : FewC xs := fun u hu => ⟨⟨kOf u.1, by have := (h u hu).1.1; omega, (h u hu).1.2⟩, ⟨kOf u.2, by have := (h u hu).2.1; omega, (h u hu).2.2⟩⟩
theorem bn_fv {xs : List C} (h : FewC xs) : ∀ j, j < xs.length → FvQ ((zsOf xs).getD j z0) (xQ xs j) := fun j hj => by
  rw [zsOf_getD hj]
  have h := h.at hj
  unfold zOf
  rw [h.1.has.isF.cn, h.2.has.isF.cn]
  exact ⟨h.1.has.fv, h.2.has.fv⟩
theorem bn_lo {K : Nat} {q : Rat} (h : Dy 4 K q) (h0 : 0 ≤ q) : q = 0 ∨ 1 / 16 ≤ q := by
  obtain ⟨k, -, e⟩ := h
  rw [show two 4 = 16 from rfl] at e
  by_cases hk : k ≤ 0
  · left
    have : (k : Rat) ≤ ((0 : Int) : Rat) := Rat.intCast_le_intCast.2 hk
    have e0 : ((0 : Int) : Rat) = 0 := rfl
    rw [e0] at this
    grind
  · right
    have : ((1 : Int) : Rat) ≤ (k : Rat) := Rat.intCast_le_intCast.2 (by omega)
    have e0 : ((1 : Int) : Rat) = 1 := rfl
    rw [e0] at this
    grind
theorem bn_hi {K : Nat} {q : Rat} (h : Dy 4 K q) (hK : K ≤ 1048576) : q ≤ 1048576 := by
  obtain ⟨b, a⟩ := h.size
  have : (K : Rat) ≤ ((1048576 : Nat) : Rat) := Rat.natCast_le_natCast.2 hK
  exact Rat.le_trans b (Rat.le_trans this (by decide +kernel))
theorem bn_sz {xs : List C} {n : Nat} (h : FewC xs) (hl : xs.length = n) (hn : n ≤ 24) : Sz (xQ xs) n (sumS xs) := by
  subst hl
  have hd := sumS_dy h
  exact ⟨rfl, bn_lo hd (psum_nonneg fun i _ => nrm_nonneg _), bn_hi hd (by omega)⟩

theorem bin_near {xs : List C} {n k : Nat} (hf : FewC xs) (hl : xs.length = n) (hn0 : 0 < n) (hn : n ≤ 24) (hk : k < n) {p q : C} (hp : IsC p (hornZ (zsOf xs) (twid n k) n (n - 1)))
    (hq : IsC q (sumC (fun j => mulZ ((zsOf xs).getD j z0) (twid n (j * k))) n)) : NearC [p] [q] (sumS xs / 68719476736) ∧ sumS xs / 68719476736 ≤ 1152921504606846976 := by
  have hS := bn_sz hf hl hn
  have hzl : (zsOf xs).length = n := by rw [← hl]; simp [zsOf]
  have hx : ∀ j, j < n → FvQ ((zsOf xs).getD j z0) (xQ xs j) := fun j hj => bn_fv hf j (by omega)
  obtain ⟨v, v1, v2⟩ := horn_near (k := k) hzl hn0 hn hx hS
  obtain ⟨u, u1, u2⟩ := few_plain24 hzl hn hx hS hk
  have h0 := hS.nonneg
  have hhi := hS.hi
  have hd := (v2.trans u2.symm).mono (f := sumS xs / 68719476736) (by generalize sumS xs = S at *; clear v1 v2 u1 u2 hx hS; grind)
  have a1 := bn_has hp v1
  have a2 := bn_has hq u1
  refine ⟨fun i hi => ?_, by generalize sumS xs = S at *; clear v1 v2 u1 u2 hx hS hd; grind⟩
  simp only [List.length_cons, List.length_nil] at hi
  obtain rfl : i = 0 := by omega
  exact ⟨v.1, v.2, u.1, u.2, a1.1, a1.2, a2.1, a2.2, hd.re, hd.im⟩

set_option maxRecDepth 100000 in
theorem plainT_any (xs : List C) (n : Nat) (hx : xs.length = n) (hn0 : 0 < n) (hn : n ≤ 100) (hw : WfC xs) (v : Value) (w : World) (h : Reads w v (cvals xs)) :
    Calls Try.prog 9 #[v] w fun e w' => ∃ u os, e = .returned (.tuple #[u, .int .i64 0]) ∧ Row w' w.heap.size 27 u (cvals os) ∧ os.length = n ∧ (∀ k, k < n → IsC (os.getD k (0, 0)) (sumC (fun j => mulZ ((zsOf xs).getD j z0) (twid n (j * k))) n)) ∧ Below w.heap.size w w' := by
  have P := Lib.hid (plainM_any xs n hx hn0 hn hw v w h)
  obtain ⟨a, cap, rfl⟩ := fl_form h
  rw [cvals_length, hx] at P ⊢
  have g256 : decide (256 < (n : Int)) = false := by simp; omega
  clear h hw hx
  go_enter Try.func9, Try.ntmps9
  go_wp2_with fail
  refine P.out.mono ?_
  rintro e w1 ⟨u, os, rfl, h1, h2, h3, h4⟩
  have HE := Lib.hid (And.intro h1 (And.intro h2 (And.intro h3 h4)))
  clear h1 h2 h3 h4 P
  go_wp2
  go_ret2
  exact ⟨u, os, rfl, HE.out⟩

theorem reads_one {w : World} {g a b : Nat} (h : w.cell? ⟨g, 0, none⟩ = some (.complex .f64 a b)) : Reads w (.slice (some ⟨g, 0, none⟩) 1 1) (cvals [(a, b)]) :=
  .row g 1 1 _ rfl (by omega) (by omega) (by unfold maxLen; omega) fun j hj => by
    obtain rfl : j = 0 := by omega
    exact h

theorem same_isC {a b c d : Nat} {z : Z} (h : IsC (a, b) z) (k : IsC (c, d) z) : cn .f64 a = cn .f64 c ∧ cn .f64 b = cn .f64 d := ⟨h.re.cn.trans k.re.cn.symm, h.im.cn.trans k.im.cn.symm⟩

end Go.Proofs.Yteamnfockjnilaa
/-
  FnBins: the law.
-/
set_option linter.unusedVariables false
set_option linter.unusedSimpArgs false
namespace Go.Proofs.Yteamnfockjnilaa
open Go.RowKit Flt Turn Fast

set_option maxRecDepth 100000 in
set_option maxHeartbeats 16000000 in
theorem fnBins_law (a0 : Option Addr) (len0 cap0 : Nat) (z0' : List Int) (a1 : Option Addr) (len1 cap1 : Nat) (z1 : List Int) (w : World) (h0 : IsRow .u8 w a0 len0 cap0 z0') (h1 : IsRow .u8 w a1 len1 cap1 z1) :
    Calls Try.prog 3 #[.slice a0 len0 cap0, .slice a1 len1 cap1] w fun e w' => e = .returned (.bool true) ∧ Below w.heap.size w w' := by
  obtain ⟨i0, hi, hz0, hz1, hz2⟩ := info_parts info_c128
  have hm0 := isRow_len h0
  have hm1 := isRow_len h1
  by_cases hl0 : len0 ≤ 4096
  · have F0 := Lib.hid (f6big_f a0 len0 cap0 hl0)
    by_cases hl1 : len1 ≤ 4096
    · have F1 := Lib.hid (f6big_f a1 len1 cap1 hl1)
      have PK := Lib.hid (p6Pick_any w a1 len1 cap1 ⟨z1, h1⟩ 24 (by omega) (by omega))
      have PP := Lib.hid (fun (n : Nat) (hn : n ≤ 100) w1 (hb : Below w.heap.size w w1) => p6Plain_any a0 len0 cap0 n hn w1 ⟨z0', isRow_below h0 hb⟩)
      have PK1 := Lib.hid (fun (n : Int) (h1n : 1 ≤ n) (hn : n ≤ 1000000) w1 (hb : Below w.heap.size w w1) => p6Pick_any w1 a1 len1 cap1 ⟨z1, isRow_below h1 hb⟩ n h1n hn)
      have PK0 := Lib.hid (fun (n : Int) (h1n : 1 ≤ n) (hn : n ≤ 1000000) w1 (hb : Below w.heap.size w w1) => p6Pick_any w1 a0 len0 cap0 ⟨z0', isRow_below h0 hb⟩ n h1n hn)
      have PA : Hid (∀ w1, Below w.heap.size w w1 → Calls Try.prog 13 #[.slice a1 len1 cap1, .int .i64 6] w1 (Wild 6 w1)) := Lib.hid (fun w1 (hb : Below w.heap.size w w1) => p6Any_any a1 len1 cap1 6 (by omega) (by omega) w1 ⟨z1, isRow_below h1 hb⟩)
      clear h0 h1 hl0 hl1
      go_enter Try.func3, Try.ntmps3
      go_wp2_with fail
      with_reducible refine (F0.out _).mono ?_
      rintro e w' ⟨rfl, rfl⟩
      go_wp2_with fail
      with_reducible refine (F1.out _).mono ?_
      rintro e w' ⟨rfl, rfl⟩
      go_wp2_with fail
      with_reducible refine PK.out.mono ?_
      rintro e w1 ⟨n0, rfl, hn, hb⟩
      obtain ⟨n, hN⟩ : ∃ n : Nat, (1 : Int) + (n0 : Int) = (n : Int) := ⟨n0 + 1, by omega⟩
      have hn1 : 0 < n := by omega
      have hn24 : n ≤ 24 := by omega
      have eN : IntKind.i64.wrap ((1 : Int) + (n0 : Int)) = (n : Int) := by rw [hN]; exact IntWalk.i64_in _ (by omega)
      have HB1 := Lib.hid hb
      clear hb hn F0 F1 PK
      go_wp2_with fail
      with_reducible refine (PP.out n (by omega) w1 HB1.out).mono ?_
      rintro e w2 ⟨v, xs, rfl, hrow, hlx, hpl, hb⟩
      have HX2 := Lib.hid hrow
      have HB2 := Lib.hid (below_step HB1.out hb HB1.out.size)
      have hfew := bn_few hpl
      have hwf := hpl.wf
      obtain ⟨va, vc, rfl⟩ := fl_form hrow.reads
      rw [cvals_length, hlx] at HX2 ⊢
      have BI := Lib.hid (fun (k : Nat) (hk : k < n) W h => binOf_impl xs n hlx hn1 (by omega) hwf k hk (.slice va n vc) W h)
      have BS := Lib.hid (fun (k : Nat) (hk : k < n) W h => binOf_spec xs n hlx hn1 (by omega) hwf k hk (.slice va n vc) W h)
      have PT := Lib.hid (fun W h => plainT_any xs n hlx hn1 (by omega) hwf (.slice va n vc) W h)
      have BD := Lib.hid (fun W h => boundM_any xs n hlx (by omega) hfew (.slice va n vc) W h)
      have NR := Lib.hid (fun (k : Nat) (hk : k < n) (p q : C) hp hq => bin_near hfew hlx hn1 hn24 hk (p := p) (q := q) hp hq)
      obtain ⟨zs, hzs⟩ : ∃ zs, zsOf xs = zs := ⟨_, rfl⟩
      rw [hzs] at BI BS PT NR
      obtain ⟨S, hS⟩ : ∃ S, sumS xs / 68719476736 = S := ⟨_, rfl⟩
      rw [hS] at BD NR
      clear hrow hb PP HB1 hpl hfew hwf hlx hzs hS eN hN
      go_wp2_with fail
      with_reducible refine (PK1.out (n : Int) (by omega) (by omega) w2 HB2.out).mono ?_
      rintro e w3 ⟨k, rfl, hk, hb3⟩
      have hk : k < n := by omega
      have HX3 := Lib.hid (HX2.out.up hb3)
      have HB3 := Lib.hid (below_step HB2.out hb3 HB2.out.size)
      clear hb3 HX2 HB2 PK1
      go_wp2_with fail
      with_reducible refine (BI.out k hk w3 HX3.out.reads).mono ?_
      rintro e w4 ⟨p, q, rfl, hpq, hb4⟩
      have HPQ := Lib.hid hpq
      have HX4 := Lib.hid (HX3.out.up hb4)
      have HB4 := Lib.hid (below_step HB3.out hb4 HB3.out.size)
      clear hpq hb4 HX3 HB3 BI
      go_wp2_with fail
      with_reducible refine (BS.out k hk w4 HX4.out.reads).mono ?_
      rintro e w5 ⟨p', q', rfl, hpq, nd, rfl⟩
      have HPQ' := Lib.hid hpq
      have HX5 := Lib.hid (HX4.out.drewN nd)
      have HB5 := Lib.hid (below_draws HB4.out nd)
      clear hpq HX4 HB4 BS
      generalize w4.drewN nd = w5 at *
      go_wp2_with fail
      with_reducible refine (PT.out w5 HX5.out.reads).mono ?_
      rintro e w6 ⟨pv, os, rfl, hro, hlo, hos, hb6⟩
      have HO6 := Lib.hid hro
      have HX6 := Lib.hid (HX5.out.up hb6)
      have HB6 := Lib.hid (below_step HB5.out hb6 HB5.out.size)
      have HOS := Lib.hid (hos k hk)
      obtain ⟨pa, pc, rfl⟩ := fl_form hro.reads
      rw [cvals_length, hlo] at HO6 ⊢
      have HLO := Lib.hid hlo
      clear hro hlo hos hb6 HX5 HB5 PT
      go_wp2_with fail
      with_reducible refine (BD.out w6 HX6.out.reads).mono ?_
      rintro e w7 ⟨u, rfl, hu, rfl⟩
      have HU := Lib.hid hu
      obtain ⟨s1, s2⟩ := same_isC HPQ.out HPQ'.out
      have SN := Lib.hid (fun w => sameNumber_cn p q p' q' s1 s2 w)
      clear hu BD s1 s2
      go_wp2_with fail
      with_reducible refine (SN.out _).mono ?_
      rintro e w8 ⟨rfl, rfl⟩
      obtain ⟨g, rfl, hg, co⟩ := cv_reads HO6.out.reads _ _ _ rfl k hk
      obtain ⟨⟨r, s⟩, hrs⟩ : ∃ z, os.getD k (0, 0) = z := ⟨_, rfl⟩
      rw [hrs] at co
      have hos := HOS.out
      rw [hrs] at hos
      have NN := Lib.hid (NR.out k hk (p', q') (r, s) HPQ'.out hos)
      have hk3 : (k : Int) < (n : Int) := by omega
      clear hrs hos SN NR HOS HX6
      go_wp2_with fail
      have hr1 : Reads ((w8.alloc (.cells #[.complex .f64 p' q'] 27)).alloc (.cells #[.complex .f64 r s] 27)) (.slice (some ⟨w8.heap.size, 0, none⟩) 1 1) (cvals [(p', q')]) := reads_one (by go_simp)
      have hr2 : Reads ((w8.alloc (.cells #[.complex .f64 p' q'] 27)).alloc (.cells #[.complex .f64 r s] 27)) (.slice (some ⟨w8.heap.size + 1, 0, none⟩) 1 1) (cvals [(r, s)]) := reads_one (by go_simp)
      have HBa : Hid (Below w'.heap.size w' ((w8.alloc (.cells #[.complex .f64 p' q'] 27)).alloc (.cells #[.complex .f64 r s] 27))) := (HB6.out.alloc HB6.out.size _).alloc (by have := HB6.out.size; simp; omega) _
      refine (isNear_any hr1 hr2 rfl (by simp) NN.out.2 HU.out NN.out.1).mono ?_
      rintro e w9 ⟨rfl, nn, rfl⟩
      have HB9 := Lib.hid (below_draws HBa.out nn)
      clear hr1 hr2 HBa NN HU HO6 co
      generalize ((w8.alloc (.cells #[.complex .f64 p' q'] 27)).alloc (.cells #[.complex .f64 r s] 27)).drewN nn = w9 at *
      clear HB6 hg
      go_wp2_with fail
      with_reducible refine (PA.out w9 HB9.out).mono ?_
      rintro e w10 ⟨yv, ys, rfl, hry, hly, hwy, hb10⟩
      have HY := Lib.hid hry
      have HB10 := Lib.hid (below_step HB9.out hb10 HB9.out.size)
      obtain ⟨ya, yc, rfl⟩ := fl_form hry.reads
      have hyl : (cvals ys).length = ys.length := cvals_length ys
      obtain ⟨L, hL⟩ : ∃ L, ys.length = L := ⟨_, rfl⟩
      rw [hyl, hL] at HY ⊢
      have hrown : Hid ((w10.alloc (.cells #[.complex .f64 4607182418800017408 0] 27)).ownsRow w9.heap.size 27 1 (.slice ya L yc) L (cvals ys)) := by
        have := HY.out.alloc (.cells #[.complex .f64 4607182418800017408 0] 27)
        have h2 : (w10.alloc (.cells #[.complex .f64 4607182418800017408 0] 27)).ownsRow w9.heap.size 27 1 (.slice ya L yc) (cvals ys).length (cvals ys) := this
        rw [hyl, hL] at h2
        exact Lib.hid h2
      have hlt6 : L ≤ 6 := by omega
      have HLL := Lib.hid hL
      have hz910 := hb10.size
      have HWY := Lib.hid hwy
      have HFin : Hid (∀ (w6 : World) v', w6.ownsRow w9.heap.size 27 1 v' (L + 1) (cvals ys ++ [.complex .f64 4607182418800017408 0]) → (w10.alloc (.cells #[.complex .f64 4607182418800017408 0] 27)).grownBy w6 (Value.slice ya L yc).ownBlock →
          Row w6 w9.heap.size 27 v' (cvals (ys ++ [(4607182418800017408, 0)])) ∧ Below w'.heap.size w' w6) := fun w6 v' hown hgr => by
        refine ⟨?_, ?_⟩
        · show w6.ownsRow _ _ _ _ _ _
          rw [cvals_snoc, List.length_append, cvals_length, HLL.out]
          exact hown
        · refine (HB10.out.alloc HB10.out.size _).grown hgr (by have := HB10.out.size; simp; omega) (fun b e => ?_)
          have := (HY.out.lt b e).1
          have := HB9.out.size
          omega
      clear hry hly hwy hb10 HB10 PA HY hL
      go_wp2_with (at_builtin; refine wpList_append_own _ rfl _ _ 24 rfl w9.heap.size 27 i0 (.complex .f64 0 0) 1 16 Try.underlying24 hi hz0 hz1 hz2 rfl (by decide) _ L (cvals ys) rfl hrown.out ⟨_, 0, none⟩ 1 1 [.complex .f64 4607182418800017408 0] rfl rfl (cell_one_new _ _ _) (by intro u hu; simp at hu; subst hu; rfl) (by simp only [maxLen]; omega) (by omega) (by simp; omega) ?_; intro v' w11 hown' hgrow _; have HE := Lib.hid (HFin.out w11 v' hown' hgrow); obtain ⟨ga, gc, rfl⟩ := ownsRow_succ hown'; clear hown' hgrow HFin)
      have hlz : (ys ++ [((4607182418800017408 : Nat), (0 : Nat))]).length = L + 1 := by rw [List.length_append, HLL.out]; rfl
      have hwz : WfC (ys ++ [((4607182418800017408 : Nat), (0 : Nat))]) := wfC_snoc HWY.out (by decide) (by decide)
      obtain ⟨Y, hY⟩ : ∃ Y, ys ++ [((4607182418800017408 : Nat), (0 : Nat))] = Y := ⟨_, rfl⟩
      rw [hY] at HE hlz hwz
      have HR11 := Lib.hid HE.out.1
      have HB11 := Lib.hid HE.out.2
      obtain ⟨M, hM⟩ : ∃ M, L + 1 = M := ⟨_, rfl⟩
      rw [hM] at HR11 hlz ⊢
      have hM0 : 0 < M := by omega
      have hM7 : M ≤ 7 := by omega
      have eM : ((L : Int) + 1) = (M : Int) := by omega
      have BI := Lib.hid (fun (k : Nat) (hk : k < M) W h => binOf_impl Y M hlz hM0 (by omega) hwz k hk (.slice (some ⟨ga, 0, none⟩) M gc) W h)
      have BS := Lib.hid (fun (k : Nat) (hk : k < M) W h => binOf_spec Y M hlz hM0 (by omega) hwz k hk (.slice (some ⟨ga, 0, none⟩) M gc) W h)
      obtain ⟨Z, hZ⟩ : ∃ Z, zsOf Y = Z := ⟨_, rfl⟩
      rw [hZ] at BI BS
      clear HE hlz hwz hY hM hZ HWY HLL hrown hlt6 hyl hz910 HB9
      go_wp2_with fail
      try rw [eM]
      with_reducible refine (PK0.out (M : Int) (by omega) (by omega) w11 HB11.out).mono ?_
      rintro e w12 ⟨j, rfl, hj, hb12⟩
      clear eM
      have hj : j < M := by omega
      have HX12 := Lib.hid (HR11.out.up hb12)
      have HB12 := Lib.hid (below_step HB11.out hb12 HB11.out.size)
      clear hb12 HR11 HB11 PK0
      go_wp2_with fail
      with_reducible refine (BI.out j hj w12 HX12.out.reads).mono ?_
      rintro e w13 ⟨c, d, rfl, hcd, hb13⟩
      have HCD := Lib.hid hcd
      have HX13 := Lib.hid (HX12.out.up hb13)
      have HB13 := Lib.hid (below_step HB12.out hb13 HB12.out.size)
      clear hcd hb13 HX12 HB12 BI
      go_wp2_with fail
      with_reducible refine (BS.out j hj w13 HX13.out.reads).mono ?_
      rintro e w14 ⟨c', d', rfl, hcd, nd', rfl⟩
      obtain ⟨s1, s2⟩ := same_isC HCD.out hcd
      have SN := Lib.hid (fun w => sameNumber_cn c d c' d' s1 s2 w)
      have HB14 := Lib.hid (below_draws HB13.out nd')
      clear hcd s1 s2 HX13 HB13 BS
      go_wp2_with fail
      with_reducible refine (SN.out _).mono ?_
      rintro e w15 ⟨rfl, rfl⟩
      go_wp2
      go_ret
      exact ⟨rfl, HB14.out⟩
    · have F1 := Lib.hid (f6big_t a1 len1 cap1 (by omega) (by omega))
      go_enter Try.func3, Try.ntmps3
      go_wp2_with fail
      with_reducible refine (F0.out _).mono ?_
      rintro e w' ⟨rfl, rfl⟩
      go_wp2_with fail
      with_reducible refine (F1.out _).mono ?_
      rintro e w' ⟨rfl, rfl⟩
      go_wp2
      go_ret
      exact ⟨rfl, Below.refl _ _⟩
  · have F0 := Lib.hid (f6big_t a0 len0 cap0 (by omega) (by omega))
    go_enter Try.func3, Try.ntmps3
    go_wp2_with fail
    with_reducible refine (F0.out _).mono ?_
    rintro e w' ⟨rfl, rfl⟩
    go_wp2
    go_ret
    exact ⟨rfl, Below.refl _ _⟩

end Go.Proofs.Yteamnfockjnilaa
