/-
  Several texts of this claim, one behind the other; each says what it holds.
-/
import Derived.Test.YtocjhanehphibaaMPolyph6
import Derived.RangeFuncWrites
import Derived.RangeFuncNested
import Derived.RangeFuncBound
import Derived.RangeFuncCalls
import Derived.RangeFuncLeaves
import Derived.Shelf.Abstract
import Derived.Shelf.RegionOpen
import Derived.WalkKit
import Derived.OwnWalkIn
import Derived.TacticsInMore
import Derived.LoopNIn
import Derived.LoopIn
/-
  Interleave.
-/
set_option linter.unusedVariables false
set_option linter.unusedSimpArgs false
namespace Go.Proofs.Ytocjhanehphibaa
open Go.RowKit Flt Fast

set_option maxRecDepth 100000 in
set_option maxHeartbeats 4000000 in
/-- Parts that fit are no error. -/
theorem checkParts_any {w : World} {V : Value} {vs : List Value} {bs : Nat → List C} {q : Nat → Nat → Z} {n : Nat → Nat} (h : LBlkR w V vs bs q n) (L : Nat) (h0 : 0 < vs.length) (hc : vs.length ≤ 64) (hl : lenS n vs.length = L) (hL : L ≤ 256) (hn : ∀ b, b < vs.length → n b = cntP L b vs.length) :
    Calls Try.prog 52 #[V] w fun e w' => e = .returned (.int .i64 0) ∧ w' = w := by
  have K := Lib.hid (lengthOfAll_any h hc (by omega))
  obtain ⟨a, cap, rfl, hf⟩ := h.find
  obtain ⟨c, hvc⟩ : ∃ c, vs.length = c := ⟨_, rfl⟩
  rw [hl] at K
  rw [hvc] at hf hc hn h0 K ⊢
  have HF := Lib.hid hf
  have HN : Hid (∀ b, b < c → n b ≤ 256 ∧ (((L : Int) + c - 1 - b).tdiv c = (n b : Int)) ∧ (((L : Int) + c - 1 - b) / c = (n b : Int))) := Lib.hid fun b hb => by
    have e : n b = (L + c - 1 - b) / c := by
      rw [hn b hb]
      unfold cntP
      by_cases hbL : b ≤ L
      · congr 1; omega
      · rw [show L - b + c - 1 = c - 1 by omega, Nat.div_eq_of_lt (by omega), Nat.div_eq_of_lt (by omega)]
    have e2 : (L : Int) + c - 1 - b = ((L + c - 1 - b : Nat) : Int) := by omega
    have hle : n b ≤ L := by rw [hn b hb]; exact cntP_le L b c (by omega)
    rw [e2, e]
    exact ⟨by rw [← e]; omega, rfl, rfl⟩
  have g1 : decide ((64 : Int) < (c : Int)) = false := by simp <;> omega
  have g2 : decide ((256 : Int) < (L : Int)) = false := by simp <;> omega
  have g3 : ((c : Int) == 0) = false := by simp <;> omega
  have g4 : ¬ (c : Int) = 0 := by omega
  have g5 : ¬ c = 0 := by omega
  clear h hf hvc hn hl
  go_enter Try.func52, Try.ntmps52
  go_wp2_with fail
  refine K.out.mono ?_
  rintro e w' ⟨rfl, rfl⟩
  go_wp2
  go_loopw [23] (fun i wr => ∃ k : Nat, i = .int .i64 k ∧ k ≤ c ∧ wr = w') (fun i _ => c - (intOf i).toNat)
  case atStart => exact ⟨0, rfl, Nat.zero_le _, rfl⟩
  case round =>
    obtain ⟨k, rfl, hk, hw⟩ := hrel
    subst hw
    by_cases hlt : k < c
    · obtain ⟨g, ab, cb, rfl, hg, hcell, -⟩ := HF.out k hlt
      obtain ⟨b1, b2, b3⟩ := HN.out k hlt
      obtain ⟨N, hN⟩ : ∃ N, n k = N := ⟨_, rfl⟩
      rw [hN] at hcell b1 b2 b3
      obtain ⟨J, hJ⟩ : ∃ J : Nat, (L : Int) + c - 1 - k = (J : Int) := ⟨L + c - 1 - k, by omega⟩
      have hJb : J ≤ 1000 := by omega
      rw [hJ] at b2 b3
      clear hN hg
      go_wp2
      go_roundw
      case rel => exact ⟨k + 1, by go_num, by omega, by first | trivial | rfl⟩
      case measure => simp [intOf]; omega
    · have e : k = c := by omega
      subst e
      go_wp2
      go_ret
      exact ⟨rfl, rfl⟩

theorem c_readsR {w : World} {v : Value} {xs : List C} (h : Reads w v (cvals xs)) : ∀ a n cap, v = .slice a n cap → ∀ k, k < n → ∃ g, a = some ⟨g, 0, none⟩ ∧ g < w.heap.size ∧ w.cell? ⟨g, k, none⟩ = some (.complex .f64 (xs.getD k (0, 0)).1 (xs.getD k (0, 0)).2) := by
  intro a n cap e k hk
  generalize hcs : cvals xs = cs at h
  cases h with
  | none a cap => simp only [Value.slice.injEq] at e; omega
  | row g cap L cs hL h0 hc hm hh =>
    simp only [Value.slice.injEq] at e
    obtain ⟨e1, e2, -⟩ := e
    have hl : xs.length = L := by rw [← hL, ← hcs, cvals_length]
    have hc := hh k (by omega)
    refine ⟨g, e1.symm, World.block_lt_of_cell? _ _ hc, ?_⟩
    rw [hc, ← hcs]
    simp [cvals, cval, List.getD, show k < xs.length by omega]

theorem enter_interleaved1 (args : Array Value) (w : World) : (callFunc 79 args).run Try.prog w = .ok (.enter 79 args) w := by kernel_rfl

set_option maxRecDepth 100000 in
set_option maxHeartbeats 4000000 in
theorem interleaved1_any {w : World} {V : Value} {vs : List Value} {bs : Nat → List C} {q : Nat → Nat → Z} {n : Nat → Nat} (h : LBlkR w V vs bs q n) (i B0 B1 : Nat) (hi : i ≤ 1000000) (h0 : 0 < vs.length) (hc : vs.length ≤ 64) (hin : i / vs.length < n (i % vs.length)) (c0 : w.cell? ⟨B0, 0, none⟩ = some V) (c1 : w.cell? ⟨B1, 0, none⟩ = some (.int .i64 vs.length)) :
    Calls Try.prog 79 #[.int .i64 i, .pointer (some ⟨B0, 0, none⟩), .pointer (some ⟨B1, 0, none⟩)] w fun e w2 => ∃ p : C, e = .returned (cval p) ∧ IsC p (q (i % vs.length) (i / vs.length)) ∧ ∃ d, w2 = w.drewN d := by
  have hb := Nat.mod_lt i h0
  obtain ⟨a, cap, rfl, hf⟩ := h.find
  obtain ⟨g, ab, cb, rfl, hg, hcell, hrd, hlen, hz⟩ := hf _ hb
  have hZ := hz _ hin
  have hcc := c_readsR hrd _ _ _ rfl _ hin
  obtain ⟨g', rfl, hg', hcell'⟩ := hcc
  obtain ⟨c, hvc⟩ : ∃ c, vs.length = c := ⟨_, rfl⟩
  clear h hf hz hlen
  rw [hvc] at h0 hc hin hb hcell hcell' hrd hZ c0 c1 ⊢
  obtain ⟨r, hr⟩ : ∃ r, i % c = r := ⟨_, rfl⟩
  obtain ⟨t, ht⟩ : ∃ t, i / c = t := ⟨_, rfl⟩
  have r1 : (i : Int) % (c : Int) = (r : Int) := by rw [← hr]; rfl
  have r2 : ((i : Int)).tmod (c : Int) = (r : Int) := by rw [← hr]; rfl
  have t1 : (i : Int) / (c : Int) = (t : Int) := by rw [← ht]; rfl
  have t2 : ((i : Int)).tdiv (c : Int) = (t : Int) := by rw [← ht]; rfl
  rw [hr] at hcell hcell' hb hZ hin
  rw [ht] at hcell' hZ hin
  rw [hr, ht]
  obtain ⟨⟨x, y⟩, hxy⟩ : ∃ p, (bs r).getD t (0, 0) = p := ⟨_, rfl⟩
  rw [hxy] at hZ hcell'
  obtain ⟨N, hN⟩ : ∃ N, n r = N := ⟨_, rfl⟩
  rw [hN] at hcell hin
  have HZ := Lib.hid hZ
  have g4 : ¬ (c : Int) = 0 := by omega
  have htb : t ≤ 1000000 := by rw [← ht]; exact Nat.le_trans (Nat.div_le_self _ _) hi
  have hNm : (N : Int) ≤ 9223372036854775807 := by
    have := hrd
    rw [hr, hN] at this
    generalize cvals (bs r) = cs at this
    cases this with
    | none => omega
    | row g cap L cs hL h0 hc hm h => exact Int.le_trans (by omega) (maxLen_int (Nat.le_trans hc hm))
  clear hrd hZ hxy hr ht hN hg hg' hvc
  go_enter Try.func79, Try.ntmps79
  go_wp2
  go_quiet (fail)
  go_wp2
  go_ret
  exact ⟨(x, y), rfl, HZ.out, _, rfl⟩

end Go.Proofs.Ytocjhanehphibaa
/-
  Interleave, Expand.
-/
set_option linter.unusedVariables false
set_option linter.unusedSimpArgs false
namespace Go.Proofs.Ytocjhanehphibaa
open Go.RowKit Flt Fast

/-- A signal is returned, number by number. -/
def SigTo (L : Nat) (z : Nat → Z) (w : World) (e : Ending) (w' : World) : Prop :=
  ∃ v xs, e = .returned v ∧ Row w' w.heap.size 30 v (cvals xs) ∧ xs.length = L ∧ (∀ i, i < L → IsC (xs.getD i (0, 0)) (z i)) ∧ Below w.heap.size w w'
def SigTo2 (L : Nat) (z : Nat → Z) (w : World) (e : Ending) (w' : World) : Prop :=
  ∃ v xs, e = .returned (.tuple #[v, .int .i64 0]) ∧ Row w' w.heap.size 30 v (cvals xs) ∧ xs.length = L ∧ (∀ i, i < L → IsC (xs.getD i (0, 0)) (z i)) ∧ Below w.heap.size w w'

theorem row_baseP {w : World} {B B' : Nat} {e : TypeId} {v : Value} {cs : List Value} (h : Row w B' e v cs) (hB : B ≤ B') : Row w B e v cs := h.base hB

set_option maxRecDepth 100000 in
set_option maxHeartbeats 4000000 in
theorem interleaved_any {w : World} {V : Value} {vs : List Value} {bs : Nat → List C} {q : Nat → Nat → Z} {n : Nat → Nat} (h : LBlkR w V vs bs q n) (L : Nat) (h0 : 0 < vs.length) (hc : vs.length ≤ 64) (hl : lenS n vs.length = L) (hL : L ≤ 1000000) (hin : ∀ i, i < L → i / vs.length < n (i % vs.length)) :
    Calls Try.prog 53 #[V] w (SigTo L (fun i => q (i % vs.length) (i / vs.length)) w) := by
  obtain ⟨a, cap, e, -⟩ := h.find
  obtain ⟨W, hW⟩ : ∃ W, (w.alloc (.cells #[V] 38)).alloc (.cells #[.int .i64 vs.length] 2) = W := ⟨_, rfl⟩
  have hb0 : Below w.heap.size w W := by rw [← hW]; exact ((Below.refl _ _).alloc (Nat.le_refl _) _).alloc (by simp) _
  have hs : W.heap.size = w.heap.size + 2 := by rw [← hW]; simp
  have c0 : W.cell? ⟨w.heap.size, 0, none⟩ = some V := by rw [← hW]; go_simp
  have c1 : W.cell? ⟨w.heap.size + 1, 0, none⟩ = some (.int .i64 vs.length) := by rw [← hW]; go_simp
  have hW2 := h.below hb0
  have K := Lib.hid (lengthOfAll_any hW2 hc (by omega))
  rw [hl] at K
  have HL : Hid (Calls Try.prog 78 #[.int .i64 L, .func (.func 79) #[] #[.pointer (some ⟨w.heap.size, 0, none⟩), .pointer (some ⟨w.heap.size + 1, 0, none⟩)]] W (SigTo L (fun i => q (i % vs.length) (i / vs.length)) w)) := by
    refine (listOf_c128 _ _ L hL (fun i => q (i % vs.length) (i / vs.length)) (fun _ W' => Below W.heap.size W W') none W enter_interleaved1 (fun k hk => by cases hk) (fun w' hg => (Below.refl _ _).grown hg (Nat.le_refl _) (fun b e => by cases e)) (fun i w1 w2 hs h hg => h.grown hg h.size (fun b e => by cases e; exact Nat.le_refl _)) (fun i w1 hi hs1 hI => ?_)).mono ?_
    · have hr := hW2.below hI
      refine (interleaved1_any hr i _ _ (by omega) h0 hc (hin i hi) (by rw [hI.cell (by show w.heap.size < _; omega)]; exact c0) (by rw [hI.cell (by show w.heap.size + 1 < _; omega)]; exact c1)).mono ?_
      rintro e w2 ⟨p, rfl, hp, d, rfl⟩
      exact ⟨p, rfl, hp, below_draws hI d, ⟨rfl, rfl, rfl, Nat.le_refl _, fun _ _ _ => rfl⟩⟩
    · rintro e w' ⟨v, xs, rfl, hr, hx, hz, hI, -⟩
      exact ⟨v, xs, rfl, hr.base hb0.size, hx, hz, hb0.trans (hI.mono hb0.size)⟩
  have HW := Lib.hid hW
  obtain ⟨q', hq'⟩ : ∃ q', (fun i => q (i % vs.length) (i / vs.length)) = q' := ⟨_, rfl⟩
  rw [hq'] at HL ⊢
  obtain ⟨c, hvc⟩ : ∃ c, vs.length = c := ⟨_, rfl⟩
  subst e
  rw [hvc] at K HW hc ⊢
  clear h hb0 hs c0 c1 hW hW2 hl hin hq' hvc h0
  go_enter Try.func53, Try.ntmps53
  go_wp2_with fail
  rw [HW.out]
  refine K.out.mono ?_
  rintro e w' ⟨rfl, rfl⟩
  go_wp2_with fail
  refine HL.out.mono ?_
  rintro e w' ⟨v, xs, rfl, hm⟩
  have HM := Lib.hid hm
  clear hm HL
  go_wp2
  go_ret
  exact ⟨_, xs, rfl, HM.out⟩

set_option maxRecDepth 100000 in
theorem interleave_impl {w : World} {V : Value} {vs : List Value} {bs : Nat → List C} {q : Nat → Nat → Z} {n : Nat → Nat} (h : LBlkR w V vs bs q n) (L : Nat) (h0 : 0 < vs.length) (hc : vs.length ≤ 64) (hl : lenS n vs.length = L) (hL : L ≤ 256) (hn : ∀ b, b < vs.length → n b = cntP L b vs.length) :
    Calls Try.prog 21 #[V] w (SigTo2 L (fun i => q (i % vs.length) (i / vs.length)) w) := by
  have K := Lib.hid (checkParts_any h L h0 hc hl hL hn)
  have I := Lib.hid (interleaved_any h L h0 hc hl (by omega) (fun i hi => by
    rw [hn _ (Nat.mod_lt i h0), cntP_lt _ _ _ _ h0, Nat.mul_comm]
    rw [Nat.mod_add_div]; exact hi))
  obtain ⟨a, cap, rfl, -⟩ := h.find
  obtain ⟨q', hq'⟩ : ∃ q', (fun i => q (i % vs.length) (i / vs.length)) = q' := ⟨_, rfl⟩
  rw [hq'] at I ⊢
  obtain ⟨c, hvc⟩ : ∃ c, vs.length = c := ⟨_, rfl⟩
  rw [hvc] at K I ⊢
  clear h hl hn hq' hvc h0 hc
  go_enter Try.func21, Try.ntmps21
  go_wp2_with fail
  refine K.out.mono ?_
  rintro e w' ⟨rfl, rfl⟩
  go_wp2_with fail
  refine I.out.mono ?_
  rintro e w2 ⟨v, xs, rfl, hx, hy⟩
  obtain ⟨va, vc, rfl⟩ := cform hx.reads
  have HX := Lib.hid hx
  have HY := Lib.hid hy
  clear hx hy I K
  go_wp2
  go_ret2
  exact ⟨_, xs, rfl, HX.out, HY.out⟩

/-- A signal with zeros between its numbers, as far as k numbers are set. -/
def expN (xs : List C) (m k : Nat) : List C := (List.range (xs.length * m)).map fun j => if j % m = 0 ∧ j / m < k then xs.getD (j / m) (0, 0) else (0, 0)
theorem expN_length (xs : List C) (m k : Nat) : (expN xs m k).length = xs.length * m := by simp [expN]
theorem expN_getD {xs : List C} {m k j : Nat} (hj : j < xs.length * m) : (expN xs m k).getD j (0, 0) = if j % m = 0 ∧ j / m < k then xs.getD (j / m) (0, 0) else (0, 0) := by simp [expN, List.getD, hj]
theorem expN_zero (xs : List C) (m : Nat) : expN xs m 0 = List.replicate (xs.length * m) (0, 0) := by
  apply List.ext_getElem (by simp [expN])
  intro i h1 h2
  simp [expN]
theorem expN_set {xs : List C} {m k : Nat} (hm : 0 < m) (hk : k < xs.length) : (expN xs m k).set (k * m) (xs.getD k (0, 0)) = expN xs m (k + 1) := by
  have hlt : k * m < xs.length * m := (Nat.mul_lt_mul_right hm).2 hk
  apply List.ext_getElem (by simp [expN])
  intro i h1 h2
  rw [List.getElem_set]
  have h3 : i < xs.length * m := by simpa [expN] using h2
  simp only [expN, List.getElem_map, List.getElem_range]
  by_cases e : k * m = i
  · subst e
    simp [Nat.mul_div_cancel _ hm]
  · rw [if_neg e]
    by_cases h4 : i % m = 0
    · have h5 : ¬ i / m = k := fun h => e (by
        have := Nat.div_add_mod i m
        rw [h4, Nat.add_zero, h, Nat.mul_comm] at this
        exact this)
      by_cases h6 : i / m < k
      · rw [if_pos ⟨h4, h6⟩, if_pos ⟨h4, by omega⟩]
      · rw [if_neg (fun h => h6 h.2), if_neg (fun h => by omega)]
    · rw [if_neg (fun h => h4 h.1), if_neg (fun h => h4 h.1)]
theorem cvals_set' (fs : List C) (k : Nat) (p : C) : (cvals fs).set k (cval p) = cvals (fs.set k p) := by simp [cvals, List.map_set]

/-- The expanded signal and OK are returned. -/
def ExpTo (xs : List C) (m : Nat) (w : World) (e : Ending) (w' : World) : Prop :=
  ∃ v, e = .returned (.tuple #[v, .int .i64 0]) ∧ Row w' w.heap.size 30 v (cvals (expN xs m xs.length)) ∧ Below w.heap.size w w'

set_option maxRecDepth 100000 in
set_option maxHeartbeats 4000000 in
theorem expand_impl {v : Value} {xs : List C} {w : World} (h : Reads w v (cvals xs)) (m : Nat) (h1 : 1 ≤ m) (h2 : m ≤ 64) (hl : xs.length * m ≤ 256) :
    Calls Try.prog 22 #[v, .int .i64 m] w (ExpTo xs m w) := by
  obtain ⟨i0, hi, hz0, hz1, hz2⟩ := info_parts info_c128
  have K := Lib.hid (fun w => isStep_t m h1 h2 w)
  have hrd := c_readsR h
  obtain ⟨a, cap, rfl⟩ := cform h
  rw [cvals_length] at hrd ⊢
  replace hrd := hrd _ _ _ rfl
  have HZ0 := Lib.hid (expN_zero xs m)
  have HSET : Hid (∀ k, k < xs.length → (expN xs m k).set (k * m) (xs.getD k (0, 0)) = expN xs m (k + 1)) := Lib.hid fun k hk => expN_set (by omega) hk
  have HLEN := Lib.hid (fun k => expN_length xs m k)
  have HLT : Hid (∀ k, k < xs.length → k * m < xs.length * m) := Lib.hid fun k hk => (Nat.mul_lt_mul_right (by omega)).2 hk
  obtain ⟨f, hf⟩ : ∃ f, expN xs m = f := ⟨_, rfl⟩
  have HQ : Hid (ExpTo xs m w = fun e w' => ∃ v, e = .returned (.tuple #[v, .int .i64 0]) ∧ Row w' w.heap.size 30 v (cvals (f xs.length)) ∧ Below w.heap.size w w') := by rw [← hf]; exact Lib.hid rfl
  rw [HQ.out]
  rw [hf] at HZ0 HSET HLEN
  have hL2 : xs.length ≤ 256 := Nat.le_trans (Nat.le_mul_of_pos_right _ (by omega)) hl
  obtain ⟨T, hT⟩ : ∃ T, xs.length * m = T := ⟨_, rfl⟩
  rw [hT] at hl HZ0 HLEN HLT
  obtain ⟨L, hL⟩ : ∃ L, xs.length = L := ⟨_, rfl⟩
  rw [hL] at hrd HSET HLT hL2 hT ⊢
  have eT : (L : Int) * (m : Int) = (T : Int) := by rw [← hT]; simp
  have g1 : decide ((256 : Int) < (L : Int)) = false := by simp <;> omega
  have g2 : decide ((256 : Int) < (T : Int)) = false := by simp <;> omega
  have HRD := Lib.hid hrd
  clear h hL hT hf HQ hrd
  go_enter Try.func22, Try.ntmps22
  go_wp2_with fail
  refine (K.out _).mono ?_
  rintro e w' ⟨rfl, rfl⟩
  go_wp2_with (at_make; refine wpList_make_full _ rfl _ _ 24 rfl w'.heap.size 30 i0 (.complex .f64 0 0) 1 Try.underlying24 hi hz0 hz1 .i64 .i64 _ _ T rfl rfl rfl rfl (by rw [hz2]; omega) (by simp only [maxLen]; omega) (Nat.le_refl _) ?_)
  intro w1 hown hg1
  rw [toList_madeCells_one] at hown
  have HO : Hid (Row w1 w'.heap.size 30 (.slice (some ⟨w'.heap.size, 0, none⟩) T T) (cvals (f 0))) := by
    rw [HZ0.out]
    show w1.ownsRow _ _ _ _ _ _
    simpa [cvals, cval] using hown
  have HG := Lib.hid hg1
  clear hown hg1 hi hz0 hz1 hz2 HZ0
  go_wp2
  go_loopw [30] (fun i wr => ∃ (k : Nat), i = .int .i64 k ∧ k ≤ L ∧ Row wr w'.heap.size 30 (.slice (some ⟨w'.heap.size, 0, none⟩) T T) (cvals (f k)) ∧ w'.grownBy wr none) (fun i _ => L - (intOf i).toNat)
  case atStart => exact ⟨0, rfl, Nat.zero_le _, HO.out, HG.out⟩
  case round =>
    clear HO HG
    obtain ⟨k, rfl, hk, hrw, hg⟩ := hrel
    have HRW := Lib.hid hrw
    have HG := Lib.hid hg
    clear hrw hg
    by_cases hlt : k < L
    · obtain ⟨g, rfl, hgz, hcell⟩ := HRD.out k hlt
      have c1 : wr.cell? ⟨g, k, none⟩ = some (.complex .f64 (xs.getD k (0, 0)).1 (xs.getD k (0, 0)).2) := by
        rw [World.cell?_of_block (w := w') (HG.out.block _ (by show g < _; omega) (by simp))]; exact hcell
      obtain ⟨x, y, hxy⟩ : ∃ x y, xs.getD k (0, 0) = (x, y) := ⟨_, _, rfl⟩
      rw [hxy] at c1
      have hS0 := HSET.out k hlt
      have hlt2 := HLT.out k hlt
      rw [hxy] at hS0
      obtain ⟨I, hI⟩ : ∃ I, k * m = I := ⟨_, rfl⟩
      rw [hI] at hS0 hlt2
      have eI : (k : Int) * (m : Int) = (I : Int) := by rw [← hI]; simp
      have hr2 := HRW.out
      have hS := hr2.set I (cval (x, y))
      rw [cvals_set', hS0] at hS
      have c2 := hr2.cellAt hlt2
      have f2 := hr2.frozenAt I
      obtain ⟨u, hu⟩ : ∃ u, (cvals (f k)).getD I undef = u := ⟨_, rfl⟩
      rw [hu] at c2
      simp only [cval] at hS
      have HS := Lib.hid hS.1
      have HG3 := Lib.hid (grown_new HG.out hS.2 (Nat.le_refl _))
      clear hu hr2 hS hcell hxy hgz hS0 hI
      go_wp2
      go_roundw
      case rel => exact ⟨k + 1, by go_num, by omega, HS.out, HG3.out⟩
      case measure => simp [intOf]; omega
    · have e : k = L := by omega
      subst e
      go_wp2
      go_ret2
      exact ⟨_, rfl, HRW.out, ⟨HG.out.os, HG.out.tape, HG.out.output, HG.out.size, fun b hb => HG.out.block b hb (by simp)⟩⟩

end Go.Proofs.Ytocjhanehphibaa
/-
  Convolutions, pure: terms, their counts, sums. Signals as slices that begin anywhere.
-/
set_option linter.unusedVariables false
set_option linter.unusedSimpArgs false
namespace Go.Proofs.Ytocjhanehphibaa
open Go.RowKit Flt Fast

/-- How many numbers a convolution has. -/
def cvLen (a b : Nat) : Nat := if a = 0 ∨ b = 0 then 0 else a + b - 1
/-- The first place of h that meets a number of x, at the place n; and how many there are. -/
def cvLo (a n : Nat) : Nat := n + 1 - a
def cvCnt (a b n : Nat) : Nat := min (n + 1) b - (n + 1 - a)
def cvTerm (x h : List Z) (n j : Nat) : Z := mulZ (h.getD (cvLo x.length n + j) z0) (x.getD (n - (cvLo x.length n + j)) z0)
def cvSum (x h : List Z) (n m : Nat) : Z := sumC (cvTerm x h n) m
def cvAt (x h : List Z) (n : Nat) : Z := cvSum x h n (cvCnt x.length h.length n)
/-- The convolution. -/
def cvAll (x h : List Z) : List Z := (List.range (cvLen x.length h.length)).map (cvAt x h)

theorem cvLen_nil (b : Nat) : cvLen 0 b = 0 := by simp [cvLen]
theorem cvLen_nil' (a : Nat) : cvLen a 0 = 0 := by simp [cvLen]
theorem cvLen_pos {a b : Nat} (ha : a ≠ 0) (hb : b ≠ 0) : cvLen a b = a + b - 1 := by simp [cvLen, ha, hb]
theorem cvLen_le (a b : Nat) : cvLen a b ≤ a + b := by unfold cvLen; split <;> omega
theorem cvLen_zero {a b : Nat} (h : a = 0 ∨ b = 0) : cvLen a b = 0 := by simp [cvLen, h]
theorem cvCnt_pos {a b n : Nat} (h : n < cvLen a b) : 0 < cvCnt a b n := by
  unfold cvLen at h; split at h
  · omega
  · unfold cvCnt; omega
theorem cvCnt_le (a b n : Nat) : cvCnt a b n ≤ b := by unfold cvCnt; omega
/-- Each term has both numbers. -/
theorem cvIn {a b n j : Nat} (hj : j < cvCnt a b n) : cvLo a n + j < b ∧ cvLo a n + j ≤ n ∧ n - (cvLo a n + j) < a := by
  unfold cvCnt cvLo at *; omega
theorem cvLo_cnt {a b n : Nat} (h : n < cvLen a b) : cvLo a n + cvCnt a b n = min (n + 1) b := by
  unfold cvLen at h; split at h
  · omega
  · unfold cvCnt cvLo; omega
theorem cvAll_length (x h : List Z) : (cvAll x h).length = cvLen x.length h.length := by simp [cvAll]
theorem cvAll_getD {x h : List Z} {n : Nat} (hn : n < cvLen x.length h.length) : (cvAll x h).getD n z0 = cvAt x h n := by simp [cvAll, List.getD, hn]
theorem cvSum_one (x h : List Z) (n : Nat) : cvSum x h n 1 = cvTerm x h n 0 := sumC_one _
theorem cvSum_succ (x h : List Z) (n : Nat) {m : Nat} (hm : m ≠ 0) : cvSum x h n (m + 1) = addZ (cvSum x h n m) (cvTerm x h n m) := sumC_succ _ hm

/-- A slice that reads as these numbers, in a block below B; it may begin anywhere. -/
inductive RdO (B : Nat) (w : World) : Value → List C → Prop
  | nil (a : Option Addr) (cap : Nat) (hm : cap ≤ maxLen) : RdO B w (.slice a 0 cap) []
  | row (g o cap L : Nat) (xs : List C) (hL : xs.length = L) (h0 : 0 < L) (hc : L ≤ cap) (hm : cap ≤ maxLen) (hb : g < B) (h : ∀ j, j < L → w.cell? ⟨g, o + j, Option.none⟩ = some (cval (xs.getD j (0, 0)))) : RdO B w (.slice (some ⟨g, o, Option.none⟩) L cap) xs

theorem RdO.below {B : Nat} {w w' : World} {v : Value} {xs : List C} (h : RdO B w v xs) (hb : Below B w w') : RdO B w' v xs := by
  cases h with
  | nil a cap hm => exact .nil a cap hm
  | row g o cap L xs hL h0 hc hm hg h => exact .row g o cap L xs hL h0 hc hm hg fun j hj => by rw [hb.cell (p := ⟨g, o + j, none⟩) hg]; exact h j hj
theorem RdO.base {B B' : Nat} {w : World} {v : Value} {xs : List C} (h : RdO B w v xs) (hB : B ≤ B') : RdO B' w v xs := by
  cases h with
  | nil a cap hm => exact .nil a cap hm
  | row g o cap L xs hL h0 hc hm hg h => exact .row g o cap L xs hL h0 hc hm (by omega) h
/-- The form of the value, and what is read. -/
theorem RdO.find {B : Nat} {w : World} {v : Value} {xs : List C} (h : RdO B w v xs) :
    ∃ a cap, v = .slice a xs.length cap ∧ xs.length ≤ cap + xs.length ∧ xs.length ≤ maxLen ∧ ∀ j, j < xs.length → ∃ g o, a = some ⟨g, o, none⟩ ∧ g < B ∧ w.cell? ⟨g, o + j, none⟩ = some (cval (xs.getD j (0, 0))) := by
  cases h with
  | nil a cap hm => exact ⟨a, cap, rfl, by omega, by simp, fun j hj => absurd hj (by simp)⟩
  | row g o cap L xs hL h0 hc hm hg h => subst hL; exact ⟨_, cap, rfl, by omega, by omega, fun j hj => ⟨g, o, rfl, hg, h j hj⟩⟩
theorem RdO.of_row {B b e : Nat} {w : World} {v : Value} {xs : List C} (h : Row w b e v (cvals xs)) (hb : ∀ k, v.ownBlock = some k → k < B) : RdO B w v xs := by
  rcases h.2 with ⟨rfl, h0⟩ | ⟨g, cap, cur, rfl, hbb, hg, hnc, hcm, _⟩
  · rw [cvals_length] at h0
    obtain rfl := List.eq_nil_of_length_eq_zero h0
    exact .nil none 0 (by simp)
  · have h' := h
    rw [cvals_length] at hnc
    by_cases h0 : xs.length = 0
    · obtain rfl := List.eq_nil_of_length_eq_zero h0
      exact .nil _ _ hcm
    · have hc : ∀ j, j < xs.length → w.cell? ⟨g, 0 + j, none⟩ = some (cval (xs.getD j (0, 0))) := fun j hj => by
        rw [Nat.zero_add, h'.cellAt (by rw [cvals_length]; exact hj), cvals_getD hj]; rfl
      rw [cvals_length]
      exact .row g 0 cap xs.length xs rfl (by omega) hnc hcm (hb g (by simp [Value.ownBlock])) hc
theorem RdO.rdC {B : Nat} {w : World} {v : Value} {xs : List C} (h : RdO B w v xs) (hB : B ≤ w.heap.size) : RdC w v xs := by
  cases h with
  | nil a cap hm => exact ⟨a, cap, rfl, Nat.zero_le _, hm, fun j hj => absurd hj (by simp)⟩
  | row g o cap L xs hL h0 hc hm hg h => subst hL; exact ⟨_, cap, rfl, hc, hm, fun j hj => ⟨g, o, rfl, by omega, h j hj⟩⟩

/-- Numbers that fit what they should be, one by one. -/
def IsCs (ps : List C) (zs : List Z) : Prop := ps.length = zs.length ∧ ∀ i, i < zs.length → IsC (ps.getD i (0, 0)) (zs.getD i z0)

end Go.Proofs.Ytocjhanehphibaa
/-
  A range over a function whose rounds come in a told order: the body may know which one comes next.
-/
set_option linter.unusedVariables false
set_option linter.unusedSimpArgs false
namespace Go.Proofs.Ytocjhanehphibaa
open Go Go.RowKit

/-- What comes: states, the steps with what yield is handed, and silent steps. -/
structure Told (σ α : Type) where
  encs : α → Array Value
  step : σ → α → σ → Prop
  silent : σ → σ → Prop
  start : σ
  last : σ

/-- An iterator hands yield what is told, in the told order, to its end or until a round says that it is enough. -/
def Tells {σ α : Type} (F : Fence) (n : Nat) (P : Program) (g : Nat) (lb : Array Value) (T : Told σ α) (Kp : World → World → Prop) (w : World) : Prop :=
  ∀ (l : Nat) (J Jx : σ → World → Prop) (W : World), Below w.heap.size w W → AbidesFrom W.heap.size J → AbidesFrom W.heap.size Jx →
    (∀ s s' W1, J s W1 → T.silent s s' → J s' W1) →
    (∀ s x s' W1, J s W1 → T.step s x s' → YieldAt F (n - 1) P l (T.encs x) W1 fun e W' =>
      (e = .returned (.bool true) ∧ J s' W' ∧ Kp W1 W') ∨ (e = .returned (.bool false) ∧ Jx s' W')) →
    J T.start W →
    CallsIn F n P g (#[.func (.yield l) #[] #[]] ++ lb) W fun e W' => (∃ v, e = .returned v) ∧ (J T.last W' ∨ ∃ s, Jx s W')

/-- How a round's body may be left. -/
def LeavesAt {σ : Type} (B : Nat) (Kp : World → World → Prop) (I : σ → World → Prop) (Ix : Code → σ → World → Prop) (s : σ) (W : World) : Exit → Act → World → Prop
  | .normal, _, W' => KeepsFrom B W W' ∧ Kp W W' ∧ I s W'
  | .panic _, _, _ => False
  | .outgrown, _, _ => False
  | .ret, _, W' => KeepsFrom B W W' ∧ Ix .ret s W'
  | .exit id, _, W' => KeepsFrom B W W' ∧ Ix (.exit id) s W'
  | .goto t, _, W' => KeepsFrom B W W' ∧ Ix (.goto t) s W'

section
variable {F : Fence} {n : Nat} {P : Program} {σ α : Type}

/-- The law: a loop over such an iterator, in a function of its own (no round of another loop). -/
theorem wpIn_range_told {g : Operand} {ps : Array Tmp} {assign body : Code} {Q : Exit → Act → World → Prop} {a : Act} {w w0 : World} {gf : Nat} {lb : Array Value} {T : Told σ α} {Kp : World → World → Prop}
    (hro : F.round = none) (h1 : 1 ≤ n) (hg : a.eval g = .func (.func gf) #[] lb) (hFg : F.fn gf) (eg : ∀ args w, (callFunc gf args).run P w = .ok (.enter gf args) w)
    (hT : Tells F (n - 1) P gf lb T Kp w0) (hb0 : Below w0.heap.size w0 w)
    (hKt : ∀ {A B C : World}, Kp A B → Kp B C → Kp A C) (hKb : ∀ (W : World) (l : Nat) (o o' : Obj), w.heap.size ≤ l → W.heap[l]? = some o → o.isCells = false → o.isWalk = false → Kp W (W.putObj l o'))
    (hps : ∀ x, (T.encs x).size = ps.size)
    (I : σ → World → Prop) (Ix : Code → σ → World → Prop) (hI : OwnFrom w.heap.size I) (hIx : ∀ c, OwnFrom w.heap.size (Ix c)) (hs : ∀ s s' W, I s W → T.silent s s' → I s' W) (h0 : I T.start w) (a₁ : α → Act)
    (hassign : ∀ (l : Nat) (x : α) (W : World) (K : Act → World → Prop), K (a₁ x) W →
      assign.wpIn (F.inRound l) (n - 1 - 1) P (Exit.then K (fun _ _ _ => False)) { tmps := (ps.zip (T.encs x)).foldl (fun t (p, v) => t.setIfInBounds p v) a.tmps, defers := [] } W)
    (hbody : ∀ (l : Nat) (s s' : σ) (x : α) (W : World), I s W → T.step s x s' → body.wpIn (F.inRound l) (n - 1 - 1) P (LeavesAt w.heap.size Kp I Ix s' W) (a₁ x) W)
    (hdone : ∀ (D : Nat) (W : World), w.heap.size ≤ D → I T.last W → W.heap[D]? = some (.deferred (some [])) → Q .normal { a with defers := { target := .collected D, args := #[] } :: a.defers } W)
    (hstop : ∀ (D : Nat) (c : Code) (s : σ) (W : World), w.heap.size ≤ D → Ix c s W → W.heap[D]? = some (.deferred (some [])) → c.wpIn F n P Q { a with defers := { target := .collected D, args := #[] } :: a.defers } W) :
    (Code.rangeFunc g ps assign body).wpIn F n P Q a w := by
  refine wpIn_rangeFunc fun fn hfn => ?_
  rw [hro]
  -- the record, with its state and what is pending
  let rec' : LoopState → Option Code → Loop := fun st pe => { state := st, pending := pe, fn, tmps := a.tmps, params := ps, assign, body, defers := w.heap.size }
  obtain ⟨recd, hrecd⟩ : ∃ r, r = rec' := ⟨_, rfl⟩
  have hp : ∀ st pe, (recd st pe).params = ps := fun st pe => by rw [hrecd]
  obtain ⟨M, hM⟩ : ∃ M, M = w.heap.size := ⟨_, rfl⟩
  let Book : LoopState → Option Code → World → Prop := fun st pe W => W.heap[M + 1]? = some (.loop (recd st pe)) ∧ W.heap[M]? = some (.deferred (some []))
  obtain ⟨W1, hW1⟩ : ∃ W1, W1 = (w.alloc (.deferred (some []))).alloc (.loop (recd .ready none)) := ⟨_, rfl⟩
  have hsz : W1.heap.size = M + 2 := by rw [hW1, hM]; simp
  have hbook : Book .ready none W1 := by
    constructor
    · have := World.alloc_heap_new (w.alloc (.deferred (some []))) (.loop (recd .ready none))
      rw [World.size_alloc] at this
      rw [hW1, hM]; exact this
    · rw [hW1, hM]; exact (Below.heap_alloc _ _ _ (by simp)).trans (World.alloc_heap_new w _)
  -- a block of the iterator's own is none of ours
  have ours : ∀ {A B : World} {row : Option Nat}, (∀ r, row = some r → W1.heap.size ≤ r ∧ ∃ o : Obj, A.heap[r]? = some o ∧ o.isWalk = true) → ∀ r, row = some r → w.heap.size ≤ r ∧ ∃ o : Obj, A.heap[r]? = some o ∧ o.isCells = false := fun h r e => by
    obtain ⟨h1, o, ho, hw⟩ := h r e
    exact ⟨by omega, o, ho, Obj.not_cells_of_walk hw⟩
  have book_kept : ∀ {A B : World} {row : Option Nat} {st : LoopState} {pe : Option Code}, Book st pe A → A.grownBy B row → (∀ r, row = some r → W1.heap.size ≤ r ∧ ∃ o : Obj, A.heap[r]? = some o ∧ o.isWalk = true) → Book st pe B := fun h hg hr =>
    ⟨(grownBy_keeps hg (fun r e => (hr r e).2) h.1 rfl).trans h.1, (grownBy_keeps hg (fun r e => (hr r e).2) h.2 rfl).trans h.2⟩
  -- the record turns
  have turn : ∀ {W : World} {st : LoopState} {pe : Option Code} (st' : LoopState) (pe' : Option Code), Book st pe W → Book st' pe' (W.putObj (M + 1) (.loop (recd st' pe'))) := fun st' pe' h =>
    ⟨World.putObj_heap_same (Array.getElem?_eq_some_iff.1 h.1).1, (World.putObj_heap_other (by omega)).trans h.2⟩
  refine ⟨M + 1, [{ target := .collected M, args := #[] }], W1, { target := .fn (.func gf) lb, args := #[.func (.yield (M + 1)) #[] #[]] }, W1, gf, #[.func (.yield (M + 1)) #[] #[]] ++ lb, W1, ?_, ?_, ?_, ?_, fun _ => h1, ?_⟩
  · rw [hW1, hM, hrecd]; exact run_enterLoop_outer _ _ _ _ _
  · simp only [resolve, hg]
    simp [go_sem]
  · intro f' hf'; simp [Target.leads] at hf'; subst hf'; exact hFg
  · simp [invoke, go_sem, eg]
  refine (hT (M + 1) (fun s W => I s W ∧ Book .ready none W) (fun s W => ∃ c, Ix c s W ∧ Book .done (some c) W) W1 ?_ ?_ ?_ ?_ ?_ ⟨?_, hbook⟩).mono ?_
  · rw [hW1]; exact hb0.trans ((((Below.refl _ w).alloc (Nat.le_refl _) _).alloc (by simp) _).mono hb0.size)
  · exact fun s A B row h hg hr => ⟨hI s A B row h.1 hg (ours (B := B) hr), book_kept h.2 hg hr⟩
  · rintro s A B row ⟨c, hc, hb⟩ hg hr
    exact ⟨c, hIx c s A B row hc hg (ours (B := B) hr), book_kept hb hg hr⟩
  · exact fun s s' W h hs' => ⟨hs _ _ _ h.1 hs', h.2⟩
  · rintro s x s' W ⟨hi, hb⟩ hst
    have hy := run_yield (P := P) (args := T.encs x) hb.1 (by rw [hp]; exact hps x)
    rw [hrecd] at hy
    refine ⟨fn, _, assign, body, hy, roundIn_of_wpIn hfn (hassign _ x W _ ⟨_, run_beginRound hb.1 (by rw [hrecd]), ?_⟩)⟩
    have hbusy : { recd .ready none with state := .busy } = recd .busy none := by rw [hrecd]
    rw [hbusy]
    have hb2 := turn .busy none hb
    have hk2 : Kp W (W.putObj (M + 1) (.loop (recd .busy none))) := hKb _ _ _ _ (by omega) hb.1 rfl rfl
    refine wpIn_mono (hbody _ s s' x _ (hI.putObj _ hi (by omega) hb.1 rfl) hst) ?_
    -- the round's end, by whatever jump
    have fin : ∀ (jump : Option Code) (W3 : World), KeepsFrom w.heap.size (W.putObj (M + 1) (.loop (recd .busy none))) W3 →
        (Instr.endRound (M + 1) jump).run P W3 = .ok (.bool jump.isNone) (W3.putObj (M + 1) (.loop (recd (if jump.isNone then .ready else .done) jump))) ∧ Book .busy none W3 := fun jump W3 hk3 => by
      have hb3 : Book .busy none W3 := ⟨hk3.same _ _ (by omega) hb2.1 rfl, hk3.same _ _ (by omega) hb2.2 rfl⟩
      have h := run_endRound (P := P) jump hb3.1
      refine ⟨?_, hb3⟩
      rw [h, hrecd]
    have stop : ∀ (c : Code) (W3 : World), KeepsFrom w.heap.size (W.putObj (M + 1) (.loop (recd .busy none))) W3 → Ix c s' W3 →
        ∃ v w', (Instr.endRound (M + 1) (some c)).run P W3 = .ok v w' ∧ ((Ending.returned v = .returned (.bool true) ∧ (I s' w' ∧ Book .ready none w') ∧ Kp W w') ∨ (Ending.returned v = .returned (.bool false) ∧ ∃ c, Ix c s' w' ∧ Book .done (some c) w')) := fun c W3 hk3 hi3 => by
      obtain ⟨hr, hb3⟩ := fin (some c) W3 hk3
      exact ⟨_, _, hr, .inr ⟨rfl, c, (hIx _).putObj _ hi3 (by omega) hb3.1 rfl, turn _ _ hb3⟩⟩
    rintro e a3 W3 hq
    cases e with
    | normal =>
      obtain ⟨hk3, hkp, hi3⟩ := hq
      obtain ⟨hr, hb3⟩ := fin none W3 hk3
      exact ⟨_, _, hr, .inl ⟨rfl, ⟨hI.putObj _ hi3 (by omega) hb3.1 rfl, turn _ _ hb3⟩, hKt (hKt hk2 hkp) (hKb _ _ _ _ (by omega) hb3.1 rfl rfl)⟩⟩
    | ret => exact stop _ W3 hq.1 hq.2
    | exit id => exact stop _ W3 hq.1 hq.2
    | goto t => exact stop _ W3 hq.1 hq.2
    | panic ch => exact hq.elim
    | outgrown => exact hq.elim
  · rw [hW1]; exact hI.alloc _ (hI.alloc _ h0)
  · rintro e W2 ⟨⟨v, rfl⟩, (⟨hi, hb⟩ | ⟨s, c, hi, hb⟩)⟩
    · refine ⟨none, W2.putObj (M + 1) (.loop (recd .exhausted none)), ?_, ?_⟩
      · have h := run_endLoop (P := P) hb.1 (by rw [hrecd]; simp [rec'])
        rw [hrecd] at h ⊢; exact h
      · have := hdone M (W2.putObj (M + 1) (.loop (recd .exhausted none))) (by omega) (hI.putObj _ hi (by omega) hb.1 rfl) ((World.putObj_heap_other (by omega)).trans hb.2)
        exact this
    · refine ⟨some c, W2.putObj (M + 1) (.loop (recd .exhausted (some c))), ?_, ?_⟩
      · have h := run_endLoop (P := P) hb.1 (by rw [hrecd]; simp [rec'])
        rw [hrecd] at h ⊢; exact h
      · have := hstop M c s (W2.putObj (M + 1) (.loop (recd .exhausted (some c)))) (by omega) ((hIx c).putObj _ hi (by omega) hb.1 rfl) ((World.putObj_heap_other (by omega)).trans hb.2)
        exact this
end

end Go.Proofs.Ytocjhanehphibaa
/-
  The iterator over the terms of a convolution.
-/
set_option linter.unusedVariables false
set_option linter.unusedSimpArgs false
namespace Go.Proofs.Ytocjhanehphibaa
open Go.RowKit Go.Shelf Flt Fast
attribute [local go_sem] Oper.semAt_some

theorem wide_fn (k : Nat) : Fence.wide.fn k = True := rfl
theorem wide_depth : Fence.wide.depth.isSome = false := rfl
theorem wide_round : Fence.wide.round = none := rfl
theorem wide_fnR (l k : Nat) : (Fence.wide.inRound l).fn k = True := rfl
theorem wide_depthR (l : Nat) : (Fence.wide.inRound l).depth.isSome = false := rfl

/-- The greater one, as one word: the walk does not part on it. -/
def maxI (x y : Int) : Int := if y > x then y else x
theorem run_max_word {P : Program} {w : World} (ts : Array TypeId) (t : TypeId) (k k' : IntKind) (x y : Int) : (Builtin.max_ ts t #[.int k x, .int k' y]).run P w = .ok (.int k (maxI x y)) w := by
  simp [Builtin.max_, Builtin.max2, maxI]

/-- Whatever lay below n, but for block B, lies as it lay. -/
structure KeptBut (n B : Nat) (W W' : World) : Prop where
  os : W'.os = W.os
  tape : W'.tape = W.tape
  output : W'.output = W.output
  size : W.heap.size ≤ W'.heap.size
  block : ∀ k, k < n → k ≠ B → W'.heap[k]? = W.heap[k]?
theorem KeptBut.refl (n B : Nat) (W : World) : KeptBut n B W W := ⟨rfl, rfl, rfl, Nat.le_refl _, fun _ _ _ => rfl⟩
theorem KeptBut.trans {n B : Nat} {X Y Z : World} (h : KeptBut n B X Y) (k : KeptBut n B Y Z) : KeptBut n B X Z :=
  ⟨k.os.trans h.os, k.tape.trans h.tape, k.output.trans h.output, Nat.le_trans h.size k.size, fun b h1 h2 => (k.block b h1 h2).trans (h.block b h1 h2)⟩
theorem KeptBut.of_below {n B : Nat} {W W' : World} (h : Below W.heap.size W W') (hn : n ≤ W.heap.size) : KeptBut n B W W' :=
  ⟨h.os, h.tape, h.output, h.size, fun b h1 _ => h.block b (by omega)⟩
theorem KeptBut.cell {n B : Nat} {W W' : World} (h : KeptBut n B W W') {b o : Nat} (h1 : b < n) (h2 : b ≠ B) : W'.cell? ⟨b, o, none⟩ = W.cell? ⟨b, o, none⟩ := by
  simp [World.cell?, h.block b h1 h2]
theorem RdO.keptBut {n₀ n B : Nat} {w w' : World} {v : Value} {xs : List C} (h : RdO n₀ w v xs) (hk : KeptBut n B w w') (h1 : n₀ ≤ n) (h2 : n₀ ≤ B) : RdO n₀ w' v xs := by
  cases h with
  | nil a cap hm => exact .nil a cap hm
  | row g o cap L xs hL h0 hc hm hg h => exact .row g o cap L xs hL h0 hc hm hg fun j hj => by rw [hk.cell (by omega) (by omega)]; exact h j hj
theorem KeptBut.putObj {n B : Nat} (W : World) (l : Nat) (o : Obj) (h : n ≤ l) : KeptBut n B W (W.putObj l o) :=
  ⟨rfl, rfl, rfl, by simp, fun k hk _ => World.putObj_heap_other (by omega)⟩
set_option maxRecDepth 100000 in
set_option maxHeartbeats 1000000 in
theorem cvLength_any (a1 a2 : Option Addr) (n1 c1 n2 c2 : Nat) (h1 : n1 ≤ 1000000) (h2 : n2 ≤ 1000000) (w : World) :
    Calls Try.prog 57 #[.agg #[.slice a1 n1 c1, .slice a2 n2 c2]] w fun e w' => e = .returned (.int .i64 (cvLen n1 n2)) ∧ Below w.heap.size w w' := by
  by_cases hz : n1 = 0
  · subst hz
    rw [cvLen_nil]
    go_enter Try.func57, Try.ntmps57
    go_wp2
    go_ret
    exact ⟨rfl, (Below.refl _ _).alloc (Nat.le_refl _) _⟩
  · by_cases hy : n2 = 0
    · subst hy
      rw [cvLen_nil']
      have g1 : ((n1 : Int) == 0) = false := by simp; omega
      go_enter Try.func57, Try.ntmps57
      go_wp2
      go_ret
      exact ⟨rfl, (Below.refl _ _).alloc (Nat.le_refl _) _⟩
    · obtain ⟨L, hL⟩ : ∃ L, cvLen n1 n2 = L := ⟨_, rfl⟩
      have hL2 : ((n1 : Int) + n2 - 1) = (L : Int) := by rw [← hL, cvLen_pos hz hy]; omega
      rw [hL]
      have g1 : ((n1 : Int) == 0) = false := by simp; omega
      have g2 : ((n2 : Int) == 0) = false := by simp; omega
      have HL := Lib.hid hL2
      clear hL hL2
      go_enter Try.func57, Try.ntmps57
      go_wp2
      go_ret
      exact ⟨by rw [HL.out]; rfl, (Below.refl _ _).alloc (Nat.le_refl _) _⟩

end Go.Proofs.Ytocjhanehphibaa
