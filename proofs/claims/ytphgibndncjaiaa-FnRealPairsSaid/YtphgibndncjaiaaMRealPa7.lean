/-
  Several texts of this claim, one behind the other; each says what it holds.
-/
import Derived.Test.YtphgibndncjaiaaMRealPa6
import Derived.Test.YtphgibndncjaiaaRows
import Derived.Lib.Hide
import Derived.Maps.OwnSet
import Derived.DeepKeys4
import Derived.Deep.MidRow
/-
  IsNear of signals that are near.
-/
set_option linter.unusedVariables false
set_option linter.unusedSimpArgs false
namespace Go.Proofs.Ytphgibndncjaiaa
open Go.RowKit Flt Fast

theorem readsAtN {w : World} {a : Option Addr} {cap n : Nat} {xs : List C} (h : Reads w (.slice a n cap) (cvals xs)) : ∀ k, k < n → ∃ g, a = some ⟨g, 0, none⟩ ∧ w.cell? ⟨g, k, none⟩ = some (.complex .f64 (xs.getD k (0, 0)).1 (xs.getD k (0, 0)).2) := by
  intro k hk
  generalize hcs : cvals xs = cs at h
  cases h with
  | none a cap => omega
  | row g cap L cs hL h0 hc hm hcell => exact ⟨g, rfl, by rw [hcell k hk, ← hcs, cvals_getD (by rw [← hcs, cvals_length] at hL; omega)]⟩
theorem readsMaxN {w : World} {a : Option Addr} {cap n : Nat} {xs : List C} (h : Reads w (.slice a n cap) (cvals xs)) : n ≤ maxLen := by
  generalize cvals xs = cs at h
  cases h with
  | none a cap => exact Nat.zero_le _
  | row g cap L cs hL h0 hc hm hcell => omega

theorem has_abs {u : Nat} {q : Rat} (h : Has u q) : Has (u % 9223372036854775808) (Flt.ab q) := by
  obtain ⟨h1, rfl⟩ := h
  obtain ⟨neg, r, hr, rfl⟩ := fin_parts h1
  have hs : Ieee.double.signWeight = 9223372036854775808 := by decide
  have hr' := hr
  rw [ir64] at hr'
  have e : Ieee.double.word neg r % 9223372036854775808 = Ieee.double.word false r := by
    unfold Ieee.Format.word
    rw [hs]
    cases neg
    · simp only [Bool.false_eq_true, if_false]
      omega
    · simp only [Bool.false_eq_true, if_false, if_true]
      omega
  rw [e]
  refine ⟨fin_word _ hr, ?_⟩
  rw [fq_word _ hr, fq_word _ hr]
  have h0 := rq_nonneg r
  unfold Flt.ab
  cases neg
  · simp only [Bool.false_eq_true, if_false]
    rw [if_pos h0]
  · simp only [Bool.false_eq_true, if_false, if_true]
    split <;> grind

theorem order_le {u v : Nat} {p q : Rat} (hu : Has u p) (hv : Has v q) (h : p ≤ q) : (FloatKind.f64.format.order u v == some .lt || FloatKind.f64.format.order u v == some .eq) = true := by
  show (Ieee.double.order u v == some .lt || Ieee.double.order u v == some .eq) = true
  rw [order_q hu.1 hv.1]
  rcases Int.lt_trichotomy (rsv Ieee.double u) (rsv Ieee.double v) with k | k | k
  · rw [Int.compare_eq_lt.2 k]; rfl
  · rw [Int.compare_eq_eq.2 k]; rfl
  · have := fq_lt.2 k
    rw [hu.2, hv.2] at this
    exact absurd h (Rat.not_le.2 this)

theorem near_word {a b bd : Nat} {p q B : Rat} (ha : Has a p) (hb : Has b q) (h : Near p q B) (hB : B ≤ 1152921504606846976) (hbd : Has bd B) :
    ∃ d, d < 18446744073709551616 ∧ (∀ (P : Program) (t : TypeId) (w : World), (binOp .sub t (.float .f64 a) (.float .f64 b)).run P w = .ok (.float .f64 d) w) ∧ (FloatKind.f64.format.order (d % 9223372036854775808) bd == some .lt || FloatKind.f64.format.order (d % 9223372036854775808) bd == some .eq) = true := by
  have hs := near_size.1 h
  obtain ⟨r, h1, h2⟩ := fv_sub ha.fv hb.fv (size_1000 hs (le_1000 hB))
  obtain ⟨d, h3, h4⟩ := run_has (.inr (.inl rfl)) h1
  have hrep : Rep B := ⟨bd, hbd.1, hbd.2⟩
  refine ⟨d, h3.lt, h4, order_le (has_abs h3) hbd ?_⟩
  exact ab_le ⟨h2.le B hrep hs.1, by have := h2.ge (-B) (rep_neg hrep) (by have := hs.2; grind); grind⟩

theorem realNear_any {a b bd : Nat} {p q B : Rat} (ha : Has a p) (hb : Has b q) (h : Near p q B) (hB : B ≤ 1152921504606846976) (hbd : Has bd B) (w : World) :
    Calls Try.prog 33 #[.float .f64 a, .float .f64 b, .float .f64 bd] w fun e w' => e = .returned (.bool true) ∧ w' = w := by
  obtain ⟨d, hd, E, ho⟩ := near_word ha hb h hB hbd
  have A := Lib.hid (fun w => abs_any d hd w)
  clear ha hb h hB hbd
  go_enter Try.func33, Try.ntmps33
  go_wp2_with (go_at_call 42; refine (A.out _).mono ?_; rintro e w' ⟨rfl, rfl⟩)
  go_ret
  exact ⟨rfl, rfl⟩

/-- Two signals the numbers of which have values that are near. -/
def NearC (xs ys : List C) (B : Rat) : Prop := ∀ i, i < xs.length → ∃ p q p' q' : Rat, Has (xs.getD i (0, 0)).1 p ∧ Has (xs.getD i (0, 0)).2 q ∧ Has (ys.getD i (0, 0)).1 p' ∧ Has (ys.getD i (0, 0)).2 q' ∧ Near p p' B ∧ Near q q' B

set_option maxRecDepth 100000 in
set_option maxHeartbeats 4000000 in
theorem isNear_any {v v' : Value} {xs ys : List C} {w : World} (h : Reads w v (cvals xs)) (h' : Reads w v' (cvals ys)) (hxy : xs.length = ys.length) (hl : xs.length ≤ 256) {B : Rat} {bd : Nat} (hB : B ≤ 1152921504606846976) (hbd : Has bd B) (hn : NearC xs ys B) :
    Calls Try.prog 14 #[v, v', .float .f64 bd] w fun e w' => e = .returned (.tuple #[.bool true, .int .i64 0]) ∧ ∃ n, w' = w.drewN n := by
  obtain ⟨a, cap, rfl⟩ := h.form
  obtain ⟨a', cap', rfl⟩ := h'.form
  rw [cvals_length] at h h' ⊢
  rw [cvals_length, ← hxy]
  rw [← hxy] at h'
  obtain ⟨L, hL⟩ : ∃ L, xs.length = L := ⟨_, rfl⟩
  have HC : Hid (∀ k, k < L → ∃ g, a = some ⟨g, 0, none⟩ ∧ w.cell? ⟨g, k, none⟩ = some (.complex .f64 (xs.getD k (0, 0)).1 (xs.getD k (0, 0)).2)) := fun k hk => readsAtN h k (by omega)
  have HC' : Hid (∀ k, k < L → ∃ g, a' = some ⟨g, 0, none⟩ ∧ w.cell? ⟨g, k, none⟩ = some (.complex .f64 (ys.getD k (0, 0)).1 (ys.getD k (0, 0)).2)) := fun k hk => readsAtN h' k (by omega)
  have hmax := maxLen_int (readsMaxN h)
  have HN : Hid (∀ i, i < L → ∃ p q p' q' : Rat, Has (xs.getD i (0, 0)).1 p ∧ Has (xs.getD i (0, 0)).2 q ∧ Has (ys.getD i (0, 0)).1 p' ∧ Has (ys.getD i (0, 0)).2 q' ∧ Near p p' B ∧ Near q q' B) := fun i hi => hn i (by omega)
  rw [hL] at hmax hl ⊢
  have heq : (FloatKind.f64.format.order bd bd != some .eq) = false := by
    have := eq_has hbd hbd
    unfold bne
    rw [this]; rfl
  have HB := Lib.hid hB
  have HBD := Lib.hid hbd
  clear h h' hxy hL hn hB hbd
  go_enter Try.func14, Try.ntmps14
  go_wp2_with fail
  refine (checkPair_any a a' L cap cap' hl w).mono ?_
  rintro e w' ⟨rfl, rfl⟩
  go_wp2_with (first | go_in)
  go_loopw [20] (fun i wr => ∃ k n : Nat, i = .int .i64 k ∧ k ≤ L ∧ wr = w'.drewN n) (fun i _ => L - (intOf i).toNat)
  case atStart => exact ⟨0, 0, rfl, Nat.zero_le _, rfl⟩
  case round =>
    obtain ⟨k, n, rfl, hk, hw⟩ := hrel
    have HW := Lib.hid hw
    clear hw
    by_cases hlt : k < L
    · obtain ⟨g, rfl, c1⟩ := HC.out k hlt
      obtain ⟨g', rfl, c2⟩ := HC'.out k hlt
      obtain ⟨p, q, p', q', n1, n2, n3, n4, n5, n6⟩ := HN.out k hlt
      generalize xs.getD k (0, 0) = x at *
      generalize ys.getD k (0, 0) = y at *
      obtain ⟨x1, x2⟩ := x
      obtain ⟨y1, y2⟩ := y
      have S1 := Lib.hid (fun w => realNear_any n1 n3 n5 HB.out HBD.out w)
      have S2 := Lib.hid (fun w => realNear_any n2 n4 n6 HB.out HBD.out w)
      replace c1 : wr.cell? ⟨g, k, none⟩ = some (.complex .f64 x1 x2) := by rw [HW.out]; exact c1
      replace c2 : wr.cell? ⟨g', k, none⟩ = some (.complex .f64 y1 y2) := by rw [HW.out]; exact c2
      clear n1 n2 n3 n4 n5 n6
      go_wp2
      go_quiet ((go_at_call 33; (first | with_reducible exact Calls.quiet_of_same (S1.out _) | with_reducible exact Calls.quiet_of_same (S2.out _))))
      go_wp2
      go_roundw
      case rel => first | exact ⟨k + 1, n + nq, by go_num, by omega, by rw [HW.out, World.drewN_drewN]⟩ | ((repeat apply Exists.intro); refine ⟨?_, rfl⟩; exact ⟨k + 1, n + nq, by go_num, by omega, by rw [HW.out, World.drewN_drewN]⟩)
      case measure => simp [intOf]; omega
    · have e : k = L := by omega
      subst e
      go_wp2
      go_ret2
      exact ⟨rfl, n, HW.out⟩

end Go.Proofs.Ytphgibndncjaiaa
/-
  The walks of the model's turns.
-/
set_option linter.unusedVariables false
set_option linter.unusedSimpArgs false
namespace Go.Proofs.Ytphgibndncjaiaa
open Go.RowKit Flt Turn

/-- A float is returned, and nothing has turned but the count of draws. -/
def RetF (z : Option Nat) (w : World) (e : Ending) (w' : World) : Prop := ∃ r, e = .returned (.float .f64 r) ∧ IsF r z ∧ ∃ n, w' = w.drewN n

theorem isF_one : IsF 4607182418800017408 oneO := IsF.lit (by decide) (by omega)
theorem isF_zero : IsF 0 zeroO := IsF.lit (by decide) (by omega)

end Go.Proofs.Ytphgibndncjaiaa
/-
  The walk of the model's turn.
-/
set_option linter.unusedVariables false
set_option linter.unusedSimpArgs false
namespace Go.Proofs.Ytphgibndncjaiaa
open Go.RowKit Flt Turn

@[go_sem] theorem run_mathsqrt_half (w : World) : (callFunc 70 #[.float .f64 4602678819172646912]).run Try.prog w = .ok (.value (.float .f64 4604544271217802189)) w := by kernel_rfl

theorem RetF.drew {z : Option Nat} {w : World} {m : Nat} {e : Ending} {w' : World} (h : RetF z (w.drewN m) e w') : RetF z w e w' := by
  obtain ⟨r, he, hr, n, rfl⟩ := h
  exact ⟨r, he, hr, m + n, World.drewN_drewN ..⟩

theorem lowest {n k : Nat} (hn : 0 < n) : (n / n.gcd k).gcd (k / n.gcd k) = 1 := by
  rw [Nat.gcd_div (Nat.gcd_dvd_left n k) (Nat.gcd_dvd_right n k)]
  exact Nat.div_self (Nat.gcd_pos_of_pos_left _ hn)

theorem isF_halfRoot : IsF 4604544271217802189 halfRoot := IsF.lit (by decide) (by omega)
theorem isF_twoPi : IsF 4618760256179416344 twoPi := IsF.lit (by decide) (by omega)

/-- How a rule lowers the rank. -/
theorem rank_two {n k f : Nat} (h : n < 2 * k) (hk : k ≤ n) (hr : rank n k < f + 1) : rank n (n - k) < f := by
  unfold rank at hr ⊢
  rw [if_neg (by omega), if_neg (by omega), if_neg (by omega)] at hr
  split <;> (try split) <;> (try split) <;> omega
theorem rank_four {n k f : Nat} (h2 : ¬ n < 2 * k) (h : n < 4 * k) (hr : rank n k < f + 1) : rank (2 * n) (n - 2 * k) < f := by
  unfold rank at hr ⊢
  rw [if_neg (by omega), if_neg (by omega), if_pos (by omega)] at hr
  split <;> (try split) <;> (try split) <;> omega
theorem rank_eight {n k f : Nat} (h4 : ¬ n < 4 * k) (h : n < 8 * k) (hr : rank n k < f + 1) : rank (4 * n) (n - 4 * k) < f := by
  unfold rank at hr ⊢
  rw [if_neg (by omega), if_pos (by omega)] at hr
  split <;> (try split) <;> (try split) <;> omega

/-- Is there a turn k of n? -/
def TurnIn (n k : Int) : Prop := 1 ≤ n ∧ n ≤ 1024 ∧ 0 ≤ k ∧ k < n

/-- What TurnOf returns. -/
def TurnR (n k : Int) (w : World) (e : Ending) (w' : World) : Prop :=
  (∃ m j : Nat, n = m ∧ k = j ∧ TurnIn n k ∧ ∃ a b, e = .returned (.tuple #[.complex .f64 a b, .int .i64 0]) ∧ IsF a (turn m j).1 ∧ IsF b (turn m j).2 ∧ Below w.heap.size w w') ∨
  (¬ TurnIn n k ∧ e = .returned (.tuple #[.complex .f64 0 0, .int .i64 2]) ∧ Below w.heap.size w w')

end Go.Proofs.Ytphgibndncjaiaa
/-
  The program's cache of turns: a map that the call has made, keyed by fractions.
-/
set_option linter.unusedVariables false
set_option linter.unusedSimpArgs false
namespace Go.Proofs.Ytphgibndncjaiaa
open Go.RowKit Flt Turn
open Go.Maps (Keyed)
open Go.WideElems (Fit rd rg pl rd_val)
open Go.ChangeMaps (setBlock heap_setBlock_same heap_setBlock_other putKey notKey)

theorem laidOut0 : laidOutB Try.prog = true := by kernel_rfl
theorem rowFrac : (89 : TypeId) < Try.prog.types.size := of_decide_eq_true (by kernel_rfl)
theorem keyAtFrac : Try.prog.keyTypeAt 2 89 = true := by kernel_rfl
theorem lawFrac : Keyed Try.prog 89 := Keyed.of_law (deep_law_laid laidOut0 (m := 2) (Nat.le_of_ble_eq_true rfl) rowFrac keyAtFrac (by rw [Try.underlying89]))
theorem cellsFrac : Try.prog.cellsOf 89 = 2 := by kernel_rfl
theorem cellsI64 : Try.prog.cellsOf 2 = 1 := by kernel_rfl
theorem keyTypeFrac : Try.prog.keyType 89 = true := by kernel_rfl
theorem typesPos : 0 < Try.prog.types.size := of_decide_eq_true (by kernel_rfl)

/-- A fraction as a value. -/
def frac (n k : Int) : Value := .agg #[.int .i64 n, .int .i64 k]

theorem key_frac {n k : Int} (hn : (Lit.int .i64 n).wf = true) (hk : (Lit.int .i64 k).wf = true) : ∃ l, keyOf Try.prog 89 (frac n k) = some l := by
  unfold keyOf
  rw [Try.underlying89]
  have hf : (frac n k).formed Try.prog 89 = true := by
    simp [Value.formed, Try.underlying89, cellsFrac, frac]
  obtain ⟨m, hm⟩ : ∃ m, Try.prog.types.size + 1 = m + 2 := ⟨Try.prog.types.size - 1, by have := typesPos; omega⟩
  simp only [keyTypeFrac, hf, Bool.and_self, if_true]
  rw [hm]
  have hL : Try.prog.keyLits (m + 2) 89 (frac n k).cells.toList = some [.int .i64 n, .int .i64 k] := by
    simp [Program.keyLits, Try.underlying89, Try.underlying2, cellsFrac, cellsI64, frac, Value.cells, hn, hk]
  rw [hL]
  exact ⟨_, rfl⟩

/-- An entry of the cache holds the turn of its fraction. -/
def Holds (e : MapEntry) : Prop := ∀ n k : Nat, e.key = frac n k → ∃ a b, e.val = .complex .f64 a b ∧ IsF a (turn n k).1 ∧ IsF b (turn n k).2
def RU : Value → Option (DataW Unit × List MemPlace) := fun _ => some (.lit .nil, [])

/-- Block b is a cache of turns with at most c entries. -/
def Cache (w : World) (b c : Nat) : Prop :=
  ∃ es clock, w.heap[b]? = some (.map es clock) ∧ Fit Try.prog 89 RU es clock ∧ es.size ≤ c ∧ ∀ e ∈ es.toList, Holds e

theorem zeroC (w : World) : (zeroValue 26).run Try.prog w = .ok (.complex .f64 0 0) w := by kernel_rfl

section
variable {w w' : World} {b c : Nat}

theorem Cache.made (w : World) : Cache (w.alloc (.map #[] 0)) w.heap.size 0 :=
  ⟨#[], 0, (MapKept.heap_alloc w _).1, ⟨by simp, Go.MapKept.stamped_empty 0, by simp⟩, Nat.le_refl _, by simp⟩

theorem Cache.mono (h : Cache w b c) {c' : Nat} (hc : c ≤ c') : Cache w b c' := by
  obtain ⟨es, clock, h1, h2, h3, h4⟩ := h
  exact ⟨es, clock, h1, h2, Nat.le_trans h3 hc, h4⟩

theorem Cache.lt (h : Cache w b c) : b < w.heap.size := by
  obtain ⟨es, clock, hb, _⟩ := h
  exact (Array.getElem?_eq_some_iff.1 hb).1

theorem Cache.kept {row : Option Nat} (h : Cache w b c) (hg : w.grownBy w' row) (hne : some b ≠ row) : Cache w' b c := by
  have hlt := h.lt
  obtain ⟨es, clock, hb, r⟩ := h
  exact ⟨es, clock, (hg.block b hlt hne).trans hb, r⟩

theorem Cache.alloc (h : Cache w b c) (o : Obj) : Cache (w.alloc o) b c := h.kept (World.grownBy_alloc w o none) (by simp)
theorem Cache.drewN (h : Cache w b c) (n : Nat) : Cache (w.drewN n) b c := h
theorem Cache.setCell (h : Cache w b c) {a : Addr} (ha : b ≠ a.block) (u : Value) : Cache (w.setCell a u) b c := by
  obtain ⟨es, clock, hb, r⟩ := h
  exact ⟨es, clock, by rw [RowKit.Below.heap_setCell _ _ _ _ ha]; exact hb, r⟩

theorem Cache.look {t : TypeId} (h : Cache w b c) (ht : Try.prog.underlying t = some (.map 89 26)) {n k : Nat} (hn : (Lit.int .i64 (n : Int)).wf = true) (hk : (Lit.int .i64 (k : Int)).wf = true) :
    (Instr.lookup t (.map (some b)) (frac n k) true).run Try.prog w = .ok (.tuple #[.complex .f64 0 0, .bool false]) w ∨
    ∃ x y, IsF x (turn n k).1 ∧ IsF y (turn n k).2 ∧ (Instr.lookup t (.map (some b)) (frac n k) true).run Try.prog w = .ok (.tuple #[.complex .f64 x y, .bool true]) w := by
  obtain ⟨es, clock, hb, F, _, hI⟩ := h
  obtain ⟨kl, hkey⟩ := key_frac hn hk
  rcases Maps.fit_look true lawFrac ht (zeroC w) hb F hkey with ⟨hrun, _, _⟩ | ⟨e0, y, hm, he, hrun, _, _⟩
  · exact .inl hrun
  · obtain ⟨x, y, hv, hx, hy⟩ := hI e0 hm n k he
    rw [hv] at hrun
    exact .inr ⟨x, y, hx, hy, hrun⟩

theorem frac_inj {n k n' k' : Nat} (h : frac n k = frac n' k') : n = n' ∧ k = k' := by
  simp only [frac, Value.agg.injEq] at h
  simp at h
  omega

theorem Cache.store {t : TypeId} (h : Cache w b c) (ht : Try.prog.underlying t = some (.map 89 26)) {n k : Nat} (hn : (Lit.int .i64 (n : Int)).wf = true) (hk : (Lit.int .i64 (k : Int)).wf = true) (hc : c < maxLen)
    {x y : Nat} (hx : IsF x (turn n k).1) (hy : IsF y (turn n k).2) :
    ∃ w', (Instr.mapUpdate t (.map (some b)) (frac n k) (.complex .f64 x y)).run Try.prog w = .ok () w' ∧ Cache w' b (c + 1) ∧ w.grownBy w' (some b) := by
  obtain ⟨es, clock, hb, F, hs, hI⟩ := h
  obtain ⟨kl, hkey⟩ := key_frac hn hk
  obtain ⟨es', clock', hrun, F', hput, _, _, hall⟩ := Maps.fit_store (R' := RU) (val := .complex .f64 x y) lawFrac ht hb F (Nat.lt_of_le_of_lt hs hc) (fun _ _ _ _ hz => hz) hkey (yv := (.lit .nil, [])) rfl
  refine ⟨_, hrun, ⟨es', clock', heap_setBlock_same hb _, F', ?_, ?_⟩, ⟨rfl, rfl, rfl, by simp [setBlock], fun i _ hi => heap_setBlock_other hb _ (fun e => hi (by rw [e]))⟩⟩
  · have e1 : es'.size = ((es'.toList.map (rg Try.prog 89 RU)).foldr DataW.insert []).length := by rw [length_sorted]; simp
    rw [e1, hput]
    unfold putKey
    rw [length_insert]
    have e2 := List.length_filter_le (notKey kl) ((es.toList.map (rg Try.prog 89 RU)).foldr DataW.insert [])
    rw [length_sorted] at e2
    simp at e2
    omega
  · intro e he n' k' hk'
    rcases hall e he with ⟨hm, _⟩ | ⟨h1, h2⟩
    · exact hI e hm n' k' hk'
    · obtain ⟨rfl, rfl⟩ := frac_inj (h1.symm.trans hk')
      exact ⟨x, y, h2, hx, hy⟩
end

/-- The look-up, for the walk. -/
theorem wpList_look_cache (w : World) {ops : Array Oper} {rest : List Oper} {o : Oper} {a : Act} {Q : Exit → Act → World → Prop}
    (hg : o.guard = none) (m x : Operand) (t : TypeId) (hop : o.op = Op.lookup t m x true) (ht : Try.prog.underlying t = some (.map 89 26)) (b c : Nat) (h : Cache w b c) (hm : a.eval m = .map (some b))
    (n k : Nat) (hx : a.eval x = frac n k) (hn : (Lit.int .i64 (n : Int)).wf = true) (hk : (Lit.int .i64 (k : Int)).wf = true)
    (hMiss : wpList Try.prog ops Q rest (a.put o.dst (.tuple #[.complex .f64 0 0, .bool false])) w)
    (hHit : ∀ x y, IsF x (turn n k).1 → IsF y (turn n k).2 → wpList Try.prog ops Q rest (a.put o.dst (.tuple #[.complex .f64 x y, .bool true])) w) : wpList Try.prog ops Q (o :: rest) a w := by
  refine wpList_plain hg fun K' hK' => ?_
  rcases h.look ht hn hk with hrun | ⟨u, v, hu, hv, hrun⟩
  · unfold Oper.wp
    simp [execOp, hop, hm, hx, hrun, Result.andThen]
    exact hK' _ _ hMiss
  · unfold Oper.wp
    simp [execOp, hop, hm, hx, hrun, Result.andThen]
    exact hK' _ _ (hHit u v hu hv)

/-- The store, for the walk. -/
theorem wpList_store_cache (w : World) {ops : Array Oper} {rest : List Oper} {o : Oper} {a : Act} {Q : Exit → Act → World → Prop}
    (hg : o.guard = none) (m x v : Operand) (t : TypeId) (hop : o.op = Op.mapUpdate t m x v) (ht : Try.prog.underlying t = some (.map 89 26)) (b c : Nat) (h : Cache w b c) (hc : c < maxLen) (hm : a.eval m = .map (some b))
    (n k : Nat) (hx : a.eval x = frac n k) (hn : (Lit.int .i64 (n : Int)).wf = true) (hk : (Lit.int .i64 (k : Int)).wf = true) (p q : Nat) (hv : a.eval v = .complex .f64 p q) (hp : IsF p (turn n k).1) (hq : IsF q (turn n k).2)
    (hK : ∀ w', Cache w' b (c + 1) → w.grownBy w' (some b) → wpList Try.prog ops Q rest (a.put o.dst undef) w') : wpList Try.prog ops Q (o :: rest) a w := by
  refine wpList_plain hg fun K' hK' => ?_
  obtain ⟨w', hrun, r1, r2⟩ := h.store ht hn hk hc hp hq
  unfold Oper.wp
  simp [execOp, hop, hm, hx, hv, hrun, Result.andThen]
  exact hK' _ _ (hK w' r1 r2)

end Go.Proofs.Ytphgibndncjaiaa
/-
  The walks of the program's turns.
-/
set_option linter.unusedVariables false
set_option linter.unusedSimpArgs false
namespace Go.Proofs.Ytphgibndncjaiaa
open Go.RowKit Flt Turn

theorem grown_drewN {w w' : World} {row : Option Nat} (h : w.grownBy w' row) (n : Nat) : w.grownBy (w'.drewN n) row := ⟨h.os, h.tape, h.output, h.size, h.block⟩
theorem grown_of_below {w w' : World} (h : Below w.heap.size w w') : w.grownBy w' none := ⟨h.os, h.tape, h.output, h.size, fun k hk _ => h.block k hk⟩

theorem results_cell1 {fn : Func} {p : Tmp} {ty : TypeId} (h : fn.results = #[.cell p ty]) (tmps : Array Value) (P : Program) (w : World) {a : Addr} {v : Value} (ha : tmps.getD p undef = .pointer (some a)) (hv : (loadVar ty a).run P w = .ok v w) :
    (results fn tmps).run P w = .ok v w := by
  have ha' : tmps[p]?.getD undef = .pointer (some a) := by simpa using ha
  simp only [results, h]
  simp [Sem.run_bind, Result.andThen, ha', asAddr, hv]

theorem infoFrac : (Try.prog.info? 89).map (·.size) = some 2 := by kernel_rfl

set_option maxRecDepth 100000 in
set_option maxHeartbeats 4000000 in
theorem lowest_impl (n k : Nat) (hn0 : 0 < n) (hn : n ≤ 4611686018427387904) (hk : k ≤ 4611686018427387904) (w : World) :
    Calls Try.prog 67 #[frac n k] w fun e w' => e = .returned (frac ((n / n.gcd k : Nat) : Int) ((k / n.gcd k : Nat) : Int)) ∧ Below w.heap.size w w' := by
  unfold frac
  go_enter Try.func67, Try.ntmps67
  go_wp2
  go_quiet (fail)
  go_wp2
  go_loopw [3, 4] (fun p q wr => ∃ a b m : Nat, p = .int .i64 a ∧ q = .int .i64 b ∧ a ≤ 4611686018427387904 ∧ b ≤ 4611686018427387904 ∧ a.gcd b = n.gcd k ∧ wr = ((w.alloc (.cells #[.int .i64 n, .int .i64 k] 89)).alloc (.cells #[.int .i64 0, .int .i64 0] 89)).drewN m) (fun _ q _ => (intOf q).toNat)
  case atStart => exact ⟨n, k, nq, rfl, rfl, hn, hk, rfl, rfl⟩
  case round =>
    obtain ⟨a, b, m, rfl, rfl, ha, hb, hg, rfl⟩ := hrel
    have HG := Lib.hid hg
    clear hg
    by_cases hb0 : b = 0
    · subst hb0
      have HA : Hid (a = n.gcd k) := by have := HG.out; rwa [Nat.gcd_zero_right] at this
      have hap : 0 < a := by rw [HA.out]; exact Nat.gcd_pos_of_pos_left _ hn0
      clear HG
      obtain ⟨n1, hN⟩ : ∃ n1, n / a = n1 := ⟨_, rfl⟩
      obtain ⟨k1, hK⟩ : ∃ k1, k / a = k1 := ⟨_, rfl⟩
      have q1 : (n : Int) / (a : Int) = (n1 : Int) := by rw [← hN]; rfl
      have q2 : (k : Int) / (a : Int) = (k1 : Int) := by rw [← hK]; rfl
      have q3 : (n : Int).tdiv (a : Int) = (n1 : Int) := by rw [← hN]; rfl
      have q4 : (k : Int).tdiv (a : Int) = (k1 : Int) := by rw [← hK]; rfl
      have hn1 : n1 ≤ n := by rw [← hN]; exact Nat.div_le_self _ _
      have hk1 : k1 ≤ k := by rw [← hK]; exact Nat.div_le_self _ _
      have HN := Lib.hid hN
      have HK := Lib.hid hK
      clear hN hK
      go_wp2
      go_region
      go_wp2
      (try simp only [Exit.inBlock, Exit.then])
      refine bodyPost_ret (results_cell1 rfl _ _ _ rfl (run_loadVar_mid _ _ _ _ [.int .i64 n1, .int .i64 k1] _ ?_ Try.underlying89 rfl infoFrac)) rfl ?_
      · intro j v hv
        rcases j with _ | _ | j <;> simp at hv <;> subst hv <;> go_simp
      · refine ⟨?_, ?_⟩
        · rw [← HA.out, HN.out, HK.out]
        · refine Below.setCell (Below.setCell (below_draws (((Below.refl _ _).alloc (Nat.le_refl _) _).alloc (by simp) _) _) ?_ _) ?_ _ <;> simp
    · have hb1 : ¬ (b : Int) = 0 := by omega
      obtain ⟨r, hr⟩ : ∃ r, a % b = r := ⟨_, rfl⟩
      have hr1 : (a : Int) % (b : Int) = (r : Int) := by rw [← hr]; rfl
      have hr2 : (a : Int).tmod (b : Int) = (r : Int) := by rw [← hr]; rfl
      have hrb : r < b := by rw [← hr]; exact Nat.mod_lt _ (by omega)
      have HG2 : Hid (b.gcd r = n.gcd k) := by
        show b.gcd r = n.gcd k
        rw [← hr, ← HG.out, Nat.gcd_comm a b, Nat.gcd_rec b a, Nat.gcd_comm]
      clear hr HG
      go_wp2
      go_quiet (fail)
      go_wp2
      go_roundw
      case rel => exact ⟨b, r, m + nq, rfl, rfl, hb, by omega, HG2.out, World.drewN_drewN ..⟩
      case measure => simp [intOf]; omega

/-- A complex number is returned; what was there is as it was. -/
def RetB (z : Option Nat × Option Nat) (w : World) (e : Ending) (w' : World) : Prop := ∃ a b, e = .returned (.complex .f64 a b) ∧ IsF a z.1 ∧ IsF b z.2 ∧ Below w.heap.size w w'

set_option maxRecDepth 100000 in
set_option maxHeartbeats 8000000 in
theorem series_impl (n k : Nat) (hn : n ≤ 4611686018427387904) (hk : k ≤ 4611686018427387904) (w : World) :
    Calls Try.prog 69 #[frac n k] w (RetB (serO n k) w) := by
  unfold frac
  go_enter Try.func69, Try.ntmps69
  go_wp2_with (first
    | (refine wpList_farith _ rfl .mul (by decide) (.const (.float .f64 4618760256179416344)) (.tmp 10) _ _ rfl .f64 _ _ rfl rfl ?_; intro rA nA hrA hbA; have A := Lib.hid (IsF.op isF_twoPi (IsF.ofInt _) hrA hbA); clear hrA hbA)
    | (refine wpList_farith _ rfl .quo (by decide) (.tmp 11) (.tmp 14) _ _ rfl .f64 _ _ rfl rfl ?_; intro rB nB hrB hbB; have B := Lib.hid (IsF.op A.out (IsF.ofInt _) hrB hbB); clear hrB hbB)
    | (refine wpList_farith _ rfl .mul (by decide) (.tmp 16) (.tmp 17) _ _ rfl .f64 _ _ rfl rfl ?_; intro rC nC hrC hbC; have C := Lib.hid (IsF.op B.out B.out hrC hbC); clear hrC hbC))
  obtain ⟨N0, hN0⟩ : ∃ N0, nA + nB + nC = N0 := ⟨_, rfl⟩
  go_loopw [5, 6, 7] (fun s t m wr => ∃ (j n0 sb tb : Nat), j ≤ 9 ∧ m = .int .i64 (9 - (j : Int)) ∧ s = .float .f64 sb ∧ t = .float .f64 tb ∧ IsF sb (cosR (fop .mul .f64 (argO n k) (argO n k)) j) ∧ IsF tb (sinR (fop .mul .f64 (argO n k) (argO n k)) j) ∧ wr = (w.alloc (.cells #[.int .i64 n, .int .i64 k] 89)).drewN n0) (fun _ _ m _ => (intOf m).toNat)
  case atStart => exact ⟨0, _, _, _, by omega, rfl, rfl, rfl, isF_one, isF_one, rfl⟩
  case round =>
    obtain ⟨j, n0, sb, tb, hj, rfl, rfl, rfl, hs, ht, rfl⟩ := hrel
    have HS := Lib.hid hs
    have HT := Lib.hid ht
    have HY : Hid (IsF rC (fop .mul .f64 (argO n k) (argO n k))) := C.out
    clear hs ht
    have hc : j = 0 ∨ j = 1 ∨ j = 2 ∨ j = 3 ∨ j = 4 ∨ j = 5 ∨ j = 6 ∨ j = 7 ∨ j = 8 ∨ j = 9 := by omega
    clear hj
    rcases hc with rfl | rfl | rfl | rfl | rfl | rfl | rfl | rfl | rfl | rfl
    · go_wp2_with (first
        | (refine wpList_farith _ rfl .quo (by decide) (.tmp 23) (.tmp 30) _ _ rfl .f64 _ _ rfl rfl ?_; intro rD nD hrD hbD; have D := Lib.hid (IsF.op HY.out (IsF.ofInt _) hrD hbD); clear hrD hbD)
        | (refine wpList_farith _ rfl .mul (by decide) (.tmp 31) (.tmp 32) _ _ rfl .f64 _ _ rfl rfl ?_; intro rE nE hrE hbE; have E := Lib.hid (IsF.op D.out HS.out hrE hbE); clear hrE hbE)
        | (refine wpList_farith _ rfl .sub (by decide) (.const (.float .f64 4607182418800017408)) (.tmp 33) _ _ rfl .f64 _ _ rfl rfl ?_; intro rF nF hrF hbF; have F := Lib.hid (IsF.op isF_one E.out hrF hbF); clear hrF hbF)
        | (refine wpList_farith _ rfl .quo (by decide) (.tmp 35) (.tmp 42) _ _ rfl .f64 _ _ rfl rfl ?_; intro rG nG hrG hbG; have G := Lib.hid (IsF.op HY.out (IsF.ofInt _) hrG hbG); clear hrG hbG)
        | (refine wpList_farith _ rfl .mul (by decide) (.tmp 43) (.tmp 44) _ _ rfl .f64 _ _ rfl rfl ?_; intro rH nH hrH hbH; have H := Lib.hid (IsF.op G.out HT.out hrH hbH); clear hrH hbH)
        | (refine wpList_farith _ rfl .sub (by decide) (.const (.float .f64 4607182418800017408)) (.tmp 45) _ _ rfl .f64 _ _ rfl rfl ?_; intro rI nI hrI hbI; have I := Lib.hid (IsF.op isF_one H.out hrI hbI); clear hrI hbI))
      go_roundw
      case rel => exact ⟨1, _, _, _, by omega, by first | rfl | go_num, rfl, rfl, F.out, I.out, rfl⟩
      case measure => simp [intOf]
    · go_wp2_with (first
        | (refine wpList_farith _ rfl .quo (by decide) (.tmp 23) (.tmp 30) _ _ rfl .f64 _ _ rfl rfl ?_; intro rD nD hrD hbD; have D := Lib.hid (IsF.op HY.out (IsF.ofInt _) hrD hbD); clear hrD hbD)
        | (refine wpList_farith _ rfl .mul (by decide) (.tmp 31) (.tmp 32) _ _ rfl .f64 _ _ rfl rfl ?_; intro rE nE hrE hbE; have E := Lib.hid (IsF.op D.out HS.out hrE hbE); clear hrE hbE)
        | (refine wpList_farith _ rfl .sub (by decide) (.const (.float .f64 4607182418800017408)) (.tmp 33) _ _ rfl .f64 _ _ rfl rfl ?_; intro rF nF hrF hbF; have F := Lib.hid (IsF.op isF_one E.out hrF hbF); clear hrF hbF)
        | (refine wpList_farith _ rfl .quo (by decide) (.tmp 35) (.tmp 42) _ _ rfl .f64 _ _ rfl rfl ?_; intro rG nG hrG hbG; have G := Lib.hid (IsF.op HY.out (IsF.ofInt _) hrG hbG); clear hrG hbG)
        | (refine wpList_farith _ rfl .mul (by decide) (.tmp 43) (.tmp 44) _ _ rfl .f64 _ _ rfl rfl ?_; intro rH nH hrH hbH; have H := Lib.hid (IsF.op G.out HT.out hrH hbH); clear hrH hbH)
        | (refine wpList_farith _ rfl .sub (by decide) (.const (.float .f64 4607182418800017408)) (.tmp 45) _ _ rfl .f64 _ _ rfl rfl ?_; intro rI nI hrI hbI; have I := Lib.hid (IsF.op isF_one H.out hrI hbI); clear hrI hbI))
      go_roundw
      case rel => exact ⟨2, _, _, _, by omega, by first | rfl | go_num, rfl, rfl, F.out, I.out, rfl⟩
      case measure => simp [intOf]
    · go_wp2_with (first
        | (refine wpList_farith _ rfl .quo (by decide) (.tmp 23) (.tmp 30) _ _ rfl .f64 _ _ rfl rfl ?_; intro rD nD hrD hbD; have D := Lib.hid (IsF.op HY.out (IsF.ofInt _) hrD hbD); clear hrD hbD)
        | (refine wpList_farith _ rfl .mul (by decide) (.tmp 31) (.tmp 32) _ _ rfl .f64 _ _ rfl rfl ?_; intro rE nE hrE hbE; have E := Lib.hid (IsF.op D.out HS.out hrE hbE); clear hrE hbE)
        | (refine wpList_farith _ rfl .sub (by decide) (.const (.float .f64 4607182418800017408)) (.tmp 33) _ _ rfl .f64 _ _ rfl rfl ?_; intro rF nF hrF hbF; have F := Lib.hid (IsF.op isF_one E.out hrF hbF); clear hrF hbF)
        | (refine wpList_farith _ rfl .quo (by decide) (.tmp 35) (.tmp 42) _ _ rfl .f64 _ _ rfl rfl ?_; intro rG nG hrG hbG; have G := Lib.hid (IsF.op HY.out (IsF.ofInt _) hrG hbG); clear hrG hbG)
        | (refine wpList_farith _ rfl .mul (by decide) (.tmp 43) (.tmp 44) _ _ rfl .f64 _ _ rfl rfl ?_; intro rH nH hrH hbH; have H := Lib.hid (IsF.op G.out HT.out hrH hbH); clear hrH hbH)
        | (refine wpList_farith _ rfl .sub (by decide) (.const (.float .f64 4607182418800017408)) (.tmp 45) _ _ rfl .f64 _ _ rfl rfl ?_; intro rI nI hrI hbI; have I := Lib.hid (IsF.op isF_one H.out hrI hbI); clear hrI hbI))
      go_roundw
      case rel => exact ⟨3, _, _, _, by omega, by first | rfl | go_num, rfl, rfl, F.out, I.out, rfl⟩
      case measure => simp [intOf]
    · go_wp2_with (first
        | (refine wpList_farith _ rfl .quo (by decide) (.tmp 23) (.tmp 30) _ _ rfl .f64 _ _ rfl rfl ?_; intro rD nD hrD hbD; have D := Lib.hid (IsF.op HY.out (IsF.ofInt _) hrD hbD); clear hrD hbD)
        | (refine wpList_farith _ rfl .mul (by decide) (.tmp 31) (.tmp 32) _ _ rfl .f64 _ _ rfl rfl ?_; intro rE nE hrE hbE; have E := Lib.hid (IsF.op D.out HS.out hrE hbE); clear hrE hbE)
        | (refine wpList_farith _ rfl .sub (by decide) (.const (.float .f64 4607182418800017408)) (.tmp 33) _ _ rfl .f64 _ _ rfl rfl ?_; intro rF nF hrF hbF; have F := Lib.hid (IsF.op isF_one E.out hrF hbF); clear hrF hbF)
        | (refine wpList_farith _ rfl .quo (by decide) (.tmp 35) (.tmp 42) _ _ rfl .f64 _ _ rfl rfl ?_; intro rG nG hrG hbG; have G := Lib.hid (IsF.op HY.out (IsF.ofInt _) hrG hbG); clear hrG hbG)
        | (refine wpList_farith _ rfl .mul (by decide) (.tmp 43) (.tmp 44) _ _ rfl .f64 _ _ rfl rfl ?_; intro rH nH hrH hbH; have H := Lib.hid (IsF.op G.out HT.out hrH hbH); clear hrH hbH)
        | (refine wpList_farith _ rfl .sub (by decide) (.const (.float .f64 4607182418800017408)) (.tmp 45) _ _ rfl .f64 _ _ rfl rfl ?_; intro rI nI hrI hbI; have I := Lib.hid (IsF.op isF_one H.out hrI hbI); clear hrI hbI))
      go_roundw
      case rel => exact ⟨4, _, _, _, by omega, by first | rfl | go_num, rfl, rfl, F.out, I.out, rfl⟩
      case measure => simp [intOf]
    · go_wp2_with (first
        | (refine wpList_farith _ rfl .quo (by decide) (.tmp 23) (.tmp 30) _ _ rfl .f64 _ _ rfl rfl ?_; intro rD nD hrD hbD; have D := Lib.hid (IsF.op HY.out (IsF.ofInt _) hrD hbD); clear hrD hbD)
        | (refine wpList_farith _ rfl .mul (by decide) (.tmp 31) (.tmp 32) _ _ rfl .f64 _ _ rfl rfl ?_; intro rE nE hrE hbE; have E := Lib.hid (IsF.op D.out HS.out hrE hbE); clear hrE hbE)
        | (refine wpList_farith _ rfl .sub (by decide) (.const (.float .f64 4607182418800017408)) (.tmp 33) _ _ rfl .f64 _ _ rfl rfl ?_; intro rF nF hrF hbF; have F := Lib.hid (IsF.op isF_one E.out hrF hbF); clear hrF hbF)
        | (refine wpList_farith _ rfl .quo (by decide) (.tmp 35) (.tmp 42) _ _ rfl .f64 _ _ rfl rfl ?_; intro rG nG hrG hbG; have G := Lib.hid (IsF.op HY.out (IsF.ofInt _) hrG hbG); clear hrG hbG)
        | (refine wpList_farith _ rfl .mul (by decide) (.tmp 43) (.tmp 44) _ _ rfl .f64 _ _ rfl rfl ?_; intro rH nH hrH hbH; have H := Lib.hid (IsF.op G.out HT.out hrH hbH); clear hrH hbH)
        | (refine wpList_farith _ rfl .sub (by decide) (.const (.float .f64 4607182418800017408)) (.tmp 45) _ _ rfl .f64 _ _ rfl rfl ?_; intro rI nI hrI hbI; have I := Lib.hid (IsF.op isF_one H.out hrI hbI); clear hrI hbI))
      go_roundw
      case rel => exact ⟨5, _, _, _, by omega, by first | rfl | go_num, rfl, rfl, F.out, I.out, rfl⟩
      case measure => simp [intOf]
    · go_wp2_with (first
        | (refine wpList_farith _ rfl .quo (by decide) (.tmp 23) (.tmp 30) _ _ rfl .f64 _ _ rfl rfl ?_; intro rD nD hrD hbD; have D := Lib.hid (IsF.op HY.out (IsF.ofInt _) hrD hbD); clear hrD hbD)
        | (refine wpList_farith _ rfl .mul (by decide) (.tmp 31) (.tmp 32) _ _ rfl .f64 _ _ rfl rfl ?_; intro rE nE hrE hbE; have E := Lib.hid (IsF.op D.out HS.out hrE hbE); clear hrE hbE)
        | (refine wpList_farith _ rfl .sub (by decide) (.const (.float .f64 4607182418800017408)) (.tmp 33) _ _ rfl .f64 _ _ rfl rfl ?_; intro rF nF hrF hbF; have F := Lib.hid (IsF.op isF_one E.out hrF hbF); clear hrF hbF)
        | (refine wpList_farith _ rfl .quo (by decide) (.tmp 35) (.tmp 42) _ _ rfl .f64 _ _ rfl rfl ?_; intro rG nG hrG hbG; have G := Lib.hid (IsF.op HY.out (IsF.ofInt _) hrG hbG); clear hrG hbG)
        | (refine wpList_farith _ rfl .mul (by decide) (.tmp 43) (.tmp 44) _ _ rfl .f64 _ _ rfl rfl ?_; intro rH nH hrH hbH; have H := Lib.hid (IsF.op G.out HT.out hrH hbH); clear hrH hbH)
        | (refine wpList_farith _ rfl .sub (by decide) (.const (.float .f64 4607182418800017408)) (.tmp 45) _ _ rfl .f64 _ _ rfl rfl ?_; intro rI nI hrI hbI; have I := Lib.hid (IsF.op isF_one H.out hrI hbI); clear hrI hbI))
      go_roundw
      case rel => exact ⟨6, _, _, _, by omega, by first | rfl | go_num, rfl, rfl, F.out, I.out, rfl⟩
      case measure => simp [intOf]
    · go_wp2_with (first
        | (refine wpList_farith _ rfl .quo (by decide) (.tmp 23) (.tmp 30) _ _ rfl .f64 _ _ rfl rfl ?_; intro rD nD hrD hbD; have D := Lib.hid (IsF.op HY.out (IsF.ofInt _) hrD hbD); clear hrD hbD)
        | (refine wpList_farith _ rfl .mul (by decide) (.tmp 31) (.tmp 32) _ _ rfl .f64 _ _ rfl rfl ?_; intro rE nE hrE hbE; have E := Lib.hid (IsF.op D.out HS.out hrE hbE); clear hrE hbE)
        | (refine wpList_farith _ rfl .sub (by decide) (.const (.float .f64 4607182418800017408)) (.tmp 33) _ _ rfl .f64 _ _ rfl rfl ?_; intro rF nF hrF hbF; have F := Lib.hid (IsF.op isF_one E.out hrF hbF); clear hrF hbF)
        | (refine wpList_farith _ rfl .quo (by decide) (.tmp 35) (.tmp 42) _ _ rfl .f64 _ _ rfl rfl ?_; intro rG nG hrG hbG; have G := Lib.hid (IsF.op HY.out (IsF.ofInt _) hrG hbG); clear hrG hbG)
        | (refine wpList_farith _ rfl .mul (by decide) (.tmp 43) (.tmp 44) _ _ rfl .f64 _ _ rfl rfl ?_; intro rH nH hrH hbH; have H := Lib.hid (IsF.op G.out HT.out hrH hbH); clear hrH hbH)
        | (refine wpList_farith _ rfl .sub (by decide) (.const (.float .f64 4607182418800017408)) (.tmp 45) _ _ rfl .f64 _ _ rfl rfl ?_; intro rI nI hrI hbI; have I := Lib.hid (IsF.op isF_one H.out hrI hbI); clear hrI hbI))
      go_roundw
      case rel => exact ⟨7, _, _, _, by omega, by first | rfl | go_num, rfl, rfl, F.out, I.out, rfl⟩
      case measure => simp [intOf]
    · go_wp2_with (first
        | (refine wpList_farith _ rfl .quo (by decide) (.tmp 23) (.tmp 30) _ _ rfl .f64 _ _ rfl rfl ?_; intro rD nD hrD hbD; have D := Lib.hid (IsF.op HY.out (IsF.ofInt _) hrD hbD); clear hrD hbD)
        | (refine wpList_farith _ rfl .mul (by decide) (.tmp 31) (.tmp 32) _ _ rfl .f64 _ _ rfl rfl ?_; intro rE nE hrE hbE; have E := Lib.hid (IsF.op D.out HS.out hrE hbE); clear hrE hbE)
        | (refine wpList_farith _ rfl .sub (by decide) (.const (.float .f64 4607182418800017408)) (.tmp 33) _ _ rfl .f64 _ _ rfl rfl ?_; intro rF nF hrF hbF; have F := Lib.hid (IsF.op isF_one E.out hrF hbF); clear hrF hbF)
        | (refine wpList_farith _ rfl .quo (by decide) (.tmp 35) (.tmp 42) _ _ rfl .f64 _ _ rfl rfl ?_; intro rG nG hrG hbG; have G := Lib.hid (IsF.op HY.out (IsF.ofInt _) hrG hbG); clear hrG hbG)
        | (refine wpList_farith _ rfl .mul (by decide) (.tmp 43) (.tmp 44) _ _ rfl .f64 _ _ rfl rfl ?_; intro rH nH hrH hbH; have H := Lib.hid (IsF.op G.out HT.out hrH hbH); clear hrH hbH)
        | (refine wpList_farith _ rfl .sub (by decide) (.const (.float .f64 4607182418800017408)) (.tmp 45) _ _ rfl .f64 _ _ rfl rfl ?_; intro rI nI hrI hbI; have I := Lib.hid (IsF.op isF_one H.out hrI hbI); clear hrI hbI))
      go_roundw
      case rel => exact ⟨8, _, _, _, by omega, by first | rfl | go_num, rfl, rfl, F.out, I.out, rfl⟩
      case measure => simp [intOf]
    · go_wp2_with (first
        | (refine wpList_farith _ rfl .quo (by decide) (.tmp 23) (.tmp 30) _ _ rfl .f64 _ _ rfl rfl ?_; intro rD nD hrD hbD; have D := Lib.hid (IsF.op HY.out (IsF.ofInt _) hrD hbD); clear hrD hbD)
        | (refine wpList_farith _ rfl .mul (by decide) (.tmp 31) (.tmp 32) _ _ rfl .f64 _ _ rfl rfl ?_; intro rE nE hrE hbE; have E := Lib.hid (IsF.op D.out HS.out hrE hbE); clear hrE hbE)
        | (refine wpList_farith _ rfl .sub (by decide) (.const (.float .f64 4607182418800017408)) (.tmp 33) _ _ rfl .f64 _ _ rfl rfl ?_; intro rF nF hrF hbF; have F := Lib.hid (IsF.op isF_one E.out hrF hbF); clear hrF hbF)
        | (refine wpList_farith _ rfl .quo (by decide) (.tmp 35) (.tmp 42) _ _ rfl .f64 _ _ rfl rfl ?_; intro rG nG hrG hbG; have G := Lib.hid (IsF.op HY.out (IsF.ofInt _) hrG hbG); clear hrG hbG)
        | (refine wpList_farith _ rfl .mul (by decide) (.tmp 43) (.tmp 44) _ _ rfl .f64 _ _ rfl rfl ?_; intro rH nH hrH hbH; have H := Lib.hid (IsF.op G.out HT.out hrH hbH); clear hrH hbH)
        | (refine wpList_farith _ rfl .sub (by decide) (.const (.float .f64 4607182418800017408)) (.tmp 45) _ _ rfl .f64 _ _ rfl rfl ?_; intro rI nI hrI hbI; have I := Lib.hid (IsF.op isF_one H.out hrI hbI); clear hrI hbI))
      go_roundw
      case rel => exact ⟨9, _, _, _, by omega, by first | rfl | go_num, rfl, rfl, F.out, I.out, rfl⟩
      case measure => simp [intOf]
    · go_wp2_with (first
        | (refine wpList_farith _ rfl .mul (by decide) (.tmp 48) (.tmp 49) _ _ rfl .f64 _ _ rfl rfl ?_; intro rK nK hrK hbK; have K := Lib.hid (IsF.op HT.out B.out hrK hbK); clear hrK hbK))
      go_ret
      refine ⟨_, _, rfl, HS.out, K.out, ?_⟩
      exact below_draws ((Below.refl _ _).alloc (Nat.le_refl _) _) _

end Go.Proofs.Ytphgibndncjaiaa
/-
  The walks of the program's turns: turn and find, which call each other.
-/
set_option linter.unusedVariables false
set_option linter.unusedSimpArgs false
namespace Go.Proofs.Ytphgibndncjaiaa
open Go.RowKit Flt Turn

/-- A turn is returned; the cache has grown. -/
def RetCa (z : Option Nat × Option Nat) (b c : Nat) (w : World) (e : Ending) (w' : World) : Prop :=
  ∃ x y, e = .returned (.complex .f64 x y) ∧ IsF x z.1 ∧ IsF y z.2 ∧ Cache w' b c ∧ w.grownBy w' (some b)

/-- How many calls are still to come, at most. -/
def mu (n k : Nat) : Nat := 2 * rank n k + (if n.gcd k = 1 then 0 else 1)

/-- What is asked of n: that no number on the way is too great. -/
def fits (n k : Nat) : Prop := n * 4 ^ rank n k ≤ 1152921504606846976

def TurnOK (f : Nat) : Prop := ∀ (n k b c : Nat) (w : World), mu n k < f → fits n k → 0 < n → k ≤ n → Cache w b c → c + f ≤ 4611686018427387904 →
  Calls Try.prog 52 #[.map (some b), .int .i64 n, .int .i64 k] w (RetCa (turn n k) b (c + f) w)

theorem grown_up {w w' : World} (h : w.grownBy w' none) (row : Option Nat) : w.grownBy w' row := ⟨h.os, h.tape, h.output, h.size, fun k hk _ => h.block k hk (by simp)⟩
theorem Cache.grown_some {w w' : World} {b c : Nat} (h : Cache w b c) (hg : w.grownBy w' none) : Cache w' b c := h.kept hg (by simp)

theorem mu_le {n k n' k' f : Nat} (h : mu n k < f + 1) (hg : n.gcd k = 1) (hr : rank n' k' < rank n k) : mu n' k' < f := by
  unfold mu at h ⊢
  rw [if_pos hg] at h
  split <;> omega
theorem mu_two {n k f : Nat} (hg : n.gcd k = 1) (h : n < 2 * k) (hk : k ≤ n) (hm : mu n k < f + 1) : mu n (n - k) < f := mu_le hm hg (rank_two h hk (Nat.lt_succ_self _))
theorem mu_four {n k f : Nat} (hg : n.gcd k = 1) (h2 : ¬ n < 2 * k) (h : n < 4 * k) (hm : mu n k < f + 1) : mu (2 * n) (n - 2 * k) < f := mu_le hm hg (rank_four h2 h (Nat.lt_succ_self _))
theorem mu_eight {n k f : Nat} (hg : n.gcd k = 1) (h4 : ¬ n < 4 * k) (h : n < 8 * k) (hm : mu n k < f + 1) : mu (4 * n) (n - 4 * k) < f := mu_le hm hg (rank_eight h4 h (Nat.lt_succ_self _))
theorem fits_le {n k c n' k' : Nat} (h : fits n k) (hn : n' = c * n) (hc : c ≤ 4) (hr : rank n' k' < rank n k) : fits n' k' := by
  unfold fits at h ⊢
  subst hn
  have h1 : 4 ^ (rank (c * n) k' + 1) ≤ 4 ^ rank n k := Nat.pow_le_pow_right (by omega) hr
  rw [Nat.pow_succ] at h1
  have h2 : n * (4 ^ rank (c * n) k' * 4) ≤ n * 4 ^ rank n k := Nat.mul_le_mul_left _ h1
  have h3 : c * n * 4 ^ rank (c * n) k' = c * (n * 4 ^ rank (c * n) k') := Nat.mul_assoc ..
  have h4 : c * (n * 4 ^ rank (c * n) k') ≤ 4 * (n * 4 ^ rank (c * n) k') := Nat.mul_le_mul_right _ hc
  have h5 : n * (4 ^ rank (c * n) k' * 4) = 4 * (n * 4 ^ rank (c * n) k') := by rw [← Nat.mul_assoc, Nat.mul_comm]
  omega
theorem fits_two {n k : Nat} (h : n < 2 * k) (hk : k ≤ n) (hm : fits n k) : fits n (n - k) := fits_le (c := 1) hm (by omega) (by omega) (rank_two h hk (Nat.lt_succ_self _))
theorem fits_four {n k : Nat} (h2 : ¬ n < 2 * k) (h : n < 4 * k) (hm : fits n k) : fits (2 * n) (n - 2 * k) := fits_le (c := 2) hm rfl (by omega) (rank_four h2 h (Nat.lt_succ_self _))
theorem fits_eight {n k : Nat} (h4 : ¬ n < 4 * k) (h : n < 8 * k) (hm : fits n k) : fits (4 * n) (n - 4 * k) := fits_le (c := 4) hm rfl (by omega) (rank_eight h4 h (Nat.lt_succ_self _))

set_option maxRecDepth 100000 in
set_option maxHeartbeats 8000000 in
theorem find_impl (f : Nat) (ih : TurnOK f) (n k b c : Nat) (w : World) (hmu : mu n k < f + 1) (hfit : fits n k) (hn : 0 < n) (hk : k ≤ n) (hc : Cache w b c) (hcf : c + f ≤ 4611686018427387904) :
    Calls Try.prog 64 #[.map (some b), frac n k] w (RetCa (turn n k) b (c + f) w) := by
  have hnb : n ≤ 1152921504606846976 := by
    unfold fits at hfit
    have : n * 1 ≤ n * 4 ^ rank n k := Nat.mul_le_mul_left _ (Nat.pow_pos (by omega))
    omega
  have L := fun w => lowest_impl n k hn (by omega) (by omega) w
  unfold frac
  go_enter Try.func64, Try.ntmps64
  go_wp2_with fail
  refine (L _).mono ?_
  rintro e w1 ⟨rfl, hb⟩
  have hw1 : w.heap.size < w1.heap.size := by have := hb.size; simp at this; omega
  have c0 : w1.cell? ⟨w.heap.size, 0, none⟩ = some (.int .i64 n) := by rw [hb.cell (by simp)]; simp
  have c1 : w1.cell? ⟨w.heap.size, 1, none⟩ = some (.int .i64 k) := by rw [hb.cell (by simp)]; simp
  have hC : Cache w1 b c := (hc.alloc _).grown_some (grown_of_below hb)
  have hG : w.grownBy w1 none := grown_of_below (((Below.refl _ _).alloc (Nat.le_refl _) _).trans (hb.mono (by simp)))
  have HC := Lib.hid hC
  have HG := Lib.hid hG
  clear hC hG hb hc
  have hne : ¬ w1.heap.size = w.heap.size := by omega
  obtain ⟨g, hg⟩ : ∃ g, n.gcd k = g := ⟨_, rfl⟩
  have hgp : 0 < g := by rw [← hg]; exact Nat.gcd_pos_of_pos_left _ hn
  have hlow := lowest (k := k) hn
  have hred := turn_red (k := k) hn
  have hrr := rank_red (k := k) hn
  rw [hg] at hlow hred hrr ⊢
  obtain ⟨n1, hN⟩ : ∃ n1, n / g = n1 := ⟨_, rfl⟩
  obtain ⟨k1, hK⟩ : ∃ k1, k / g = k1 := ⟨_, rfl⟩
  have hn1 : n1 ≤ n := by rw [← hN]; exact Nat.div_le_self _ _
  have hp1 : 0 < n1 := by rw [← hN, ← hg]; exact Nat.div_pos (Nat.le_of_dvd hn (Nat.gcd_dvd_left n k)) (by rw [hg]; exact hgp)
  have hk1 : k1 ≤ n1 := by rw [← hN, ← hK]; exact Nat.div_le_div_right hk
  rw [hN, hK] at hlow hred hrr ⊢
  have hne' : g ≠ 1 → n1 ≠ n := fun h e => by
    have e2 : n1 * g = n := by rw [← hN]; exact Nat.div_mul_cancel (by rw [← hg]; exact Nat.gcd_dvd_left n k)
    rw [e] at e2
    have : n * 2 ≤ n * g := Nat.mul_le_mul_left _ (by omega)
    omega
  have heq : g = 1 → n1 = n ∧ k1 = k := fun h => by rw [← hN, ← hK, h, Nat.div_one, Nat.div_one]; exact ⟨rfl, rfl⟩
  have hC2 : ∀ nq, Cache ((w1.alloc (.cells #[.int .i64 n1, .int .i64 k1] 89)).drewN nq) b c := fun nq => (HC.out.alloc _).drewN nq
  have hG2 : ∀ nq, w.grownBy ((w1.alloc (.cells #[.int .i64 n1, .int .i64 k1] 89)).drewN nq) (some b) := fun nq => grown_drewN ((grown_up HG.out _).trans (grown_up (World.grownBy_alloc _ _ none) _)) nq
  have H2 := Lib.hid hC2
  have H3 := Lib.hid hG2
  clear hC2 hG2
  unfold frac
  by_cases h1 : g = 1
  · obtain ⟨rfl, rfl⟩ := heq h1
    subst h1
    clear heq hne' hN hK L
    go_wp2_with fail
    go_quiet (fail)
    have HC2 : Hid _ := H2.out nq
    have HG2 : Hid _ := H3.out nq
    clear H2 H3
    by_cases h0 : k1 = 0
    · have HT := Lib.hid (turn_zero hlow h0)
      subst h0
      go_wp2_with fail
      go_ret
      rw [HT.out]
      exact ⟨_, _, rfl, isF_one, isF_zero, Cache.mono HC2.out (by omega), HG2.out⟩
    · have h0' : ¬ (k1 : Int) = 0 := by omega
      by_cases h2 : n1 < 2 * k1
      · have HT := Lib.hid (turn_two hlow h0 hn hk h2)
        have h2' : (n1 : Int) < 2 * (k1 : Int) := by omega
        have hmr := mu_two hg h2 hk hmu
        have hfr := fits_two h2 hk hfit
        have hpr := hn
        have hlr : n1 - k1 ≤ n1 := by omega
        obtain ⟨m, hm⟩ : ∃ m, n1 - k1 = m := ⟨_, rfl⟩
        have hm' : (n1 : Int) - (k1 : Int) = (m : Int) := by omega
        rw [hm] at hmr hfr hlr HT
        clear hm
        go_wp2_with (first
          | (go_at_call 52; refine (ih n1 m b c _ hmr hfr hpr hlr HC2.out (by omega)).mono ?_; rintro e w3 ⟨x, y, rfl, hx, hy, hc3, hg3⟩; have HX := Lib.hid hx; have HY := Lib.hid hy; have HC3 := Lib.hid hc3; have HG3 := Lib.hid ((HG2.out).trans hg3); clear hx hy hc3 hg3)
          | (go_at_call 36; refine (conj_impl _ _ _).mono ?_; rintro e w4 ⟨rfl, hb4⟩; have HB4 := Lib.hid hb4; clear hb4))
        go_ret
        rw [HT.out]
        exact ⟨_, _, rfl, HX.out, HY.out.neg, HC3.out.grown_some (grown_of_below HB4.out), HG3.out.trans (grown_up (grown_of_below HB4.out) _)⟩
      · have h2' : ¬ (n1 : Int) < 2 * (k1 : Int) := by omega
        by_cases h4 : n1 < 4 * k1
        · have HT := Lib.hid (turn_four hlow h0 hn h2 h4)
          have h4' : (n1 : Int) < 4 * (k1 : Int) := by omega
          have hmr := mu_four hg h2 h4 hmu
          have hfr := fits_four h2 h4 hfit
          have hpr : 0 < 2 * n1 := by omega
          have hlr : n1 - 2 * k1 ≤ 2 * n1 := by omega
          obtain ⟨m, hm⟩ : ∃ m, n1 - 2 * k1 = m := ⟨_, rfl⟩
          obtain ⟨nn, hnn⟩ : ∃ nn, 2 * n1 = nn := ⟨_, rfl⟩
          have hm' : (n1 : Int) - 2 * (k1 : Int) = (m : Int) := by omega
          have hnn' : 2 * (n1 : Int) = (nn : Int) := by omega
          rw [hm, hnn] at hmr hfr hlr HT
          rw [hnn] at hpr
          clear hm hnn
          go_wp2_with (first
            | (go_at_call 52; refine (ih nn m b c _ hmr hfr hpr hlr HC2.out (by omega)).mono ?_; rintro e w3 ⟨x, y, rfl, hx, hy, hc3, hg3⟩; have HX := Lib.hid hx; have HY := Lib.hid hy; have HC3 := Lib.hid hc3; have HG3 := Lib.hid ((HG2.out).trans hg3); clear hx hy hc3 hg3))
          go_ret
          rw [HT.out]
          exact ⟨_, _, rfl, HX.out.neg, HY.out, HC3.out, HG3.out⟩
        · have h4' : ¬ (n1 : Int) < 4 * (k1 : Int) := by omega
          by_cases h8 : n1 < 8 * k1
          · have HT := Lib.hid (turn_eight hlow h0 hn h2 h4 h8)
            have h8' : (n1 : Int) < 8 * (k1 : Int) := by omega
            have hmr := mu_eight hg h4 h8 hmu
            have hfr := fits_eight h4 h8 hfit
            have hpr : 0 < 4 * n1 := by omega
            have hlr : n1 - 4 * k1 ≤ 4 * n1 := by omega
            obtain ⟨m, hm⟩ : ∃ m, n1 - 4 * k1 = m := ⟨_, rfl⟩
            obtain ⟨nn, hnn⟩ : ∃ nn, 4 * n1 = nn := ⟨_, rfl⟩
            have hm' : (n1 : Int) - 4 * (k1 : Int) = (m : Int) := by omega
            have hnn' : 4 * (n1 : Int) = (nn : Int) := by omega
            rw [hm, hnn] at hmr hfr hlr HT
            rw [hnn] at hpr
            clear hm hnn
            go_wp2_with (first
              | (go_at_call 52; refine (ih nn m b c _ hmr hfr hpr hlr HC2.out (by omega)).mono ?_; rintro e w3 ⟨x, y, rfl, hx, hy, hc3, hg3⟩; have HX := Lib.hid hx; have HY := Lib.hid hy; have HC3 := Lib.hid hc3; have HG3 := Lib.hid ((HG2.out).trans hg3); clear hx hy hc3 hg3))
            go_ret
            rw [HT.out]
            exact ⟨_, _, rfl, HY.out, HX.out, HC3.out, HG3.out⟩
          · have h8' : ¬ (n1 : Int) < 8 * (k1 : Int) := by omega
            by_cases he : 8 * k1 = n1
            · have HT := Lib.hid (turn_eighth hlow h0 h2 h4 h8 he)
              have he' : 8 * (k1 : Int) = (n1 : Int) := by omega
              go_wp2_with (first
                | (go_at_call 68; go_in))
              go_ret
              rw [HT.out]
              exact ⟨_, _, rfl, isF_halfRoot, isF_halfRoot, Cache.mono HC2.out (by omega), HG2.out⟩
            · have HT := Lib.hid (turn_series hlow h0 h2 h4 h8 he)
              have he' : ¬ 8 * (k1 : Int) = (n1 : Int) := by omega
              have S := fun w => series_impl n1 k1 (by omega) (by omega) w
              unfold frac at S
              go_wp2_with (first
                | (go_at_call 69; refine (S _).mono ?_; rintro e w4 ⟨x, y, rfl, hx, hy, hb4⟩; have HX := Lib.hid hx; have HY := Lib.hid hy; have HB4 := Lib.hid hb4; clear hx hy hb4))
              go_ret
              rw [HT.out]
              exact ⟨_, _, rfl, HX.out, HY.out, (Cache.mono HC2.out (by omega)).grown_some (grown_of_below HB4.out), HG2.out.trans (grown_up (grown_of_below HB4.out) _)⟩
  · have hnn := hne' h1
    have hnnI : ¬ (n1 : Int) = (n : Int) := by omega
    have hmr : mu n1 k1 < f := by
      unfold mu at hmu ⊢
      rw [hrr, if_pos hlow]
      rw [if_neg (by rw [hg]; exact h1)] at hmu
      omega
    have hfr : fits n1 k1 := by
      unfold fits at hfit ⊢
      rw [hrr]
      have : n1 * 4 ^ rank n k ≤ n * 4 ^ rank n k := Nat.mul_le_mul_right _ hn1
      omega
    have hpr := hp1
    have hlr := hk1
    have HT := Lib.hid hred
    clear heq hred hne' hN hK L
    go_wp2_with fail
    go_quiet (fail)
    have HC2 : Hid _ := H2.out nq
    have HG2 : Hid _ := H3.out nq
    clear H2 H3
    go_wp2_with (first
      | (go_at_call 52; refine (ih n1 k1 b c _ hmr hfr hpr hlr HC2.out (by omega)).mono ?_; rintro e w3 ⟨x, y, rfl, hx, hy, hc3, hg3⟩; have HX := Lib.hid hx; have HY := Lib.hid hy; have HC3 := Lib.hid hc3; have HG3 := Lib.hid ((HG2.out).trans hg3); clear hx hy hc3 hg3))
    go_ret
    rw [HT.out]
    exact ⟨_, _, rfl, HX.out, HY.out, HC3.out, HG3.out⟩

end Go.Proofs.Ytphgibndncjaiaa
/-
  The walk of the program's turn, and of TurnOf.
-/
set_option linter.unusedVariables false
set_option linter.unusedSimpArgs false
namespace Go.Proofs.Ytphgibndncjaiaa
open Go.RowKit Flt Turn

theorem wf_nat {n : Nat} (h : n ≤ 4611686018427387904) : (Lit.int .i64 (n : Int)).wf = true := WalkArith.wf_i64 (by omega)

set_option maxRecDepth 100000 in
set_option maxHeartbeats 8000000 in
theorem turn_step (f : Nat) (ih : TurnOK f) : TurnOK (f + 1) := by
  intro n k b c w hmu hfit hn hk hc hcf
  have hnb : n ≤ 1152921504606846976 := by
    unfold fits at hfit
    have : n * 1 ≤ n * 4 ^ rank n k := Nat.mul_le_mul_left _ (Nat.pow_pos (by omega))
    omega
  have F := fun w hc => find_impl f ih n k b c w hmu hfit hn hk hc (by omega)
  have hwn := wf_nat (n := n) (by omega)
  have hwk := wf_nat (n := k) (by omega)
  have HC := Lib.hid (hc.alloc (.cells #[.int .i64 n, .int .i64 k] 89))
  have hblt := hc.lt
  have hne : ¬ w.heap.size = b := by omega
  clear hc
  go_enter Try.func52, Try.ntmps52
  go_wp2_with (at_lookup; refine wpList_look_cache _ rfl _ _ 53 rfl Try.underlying53 b c HC.out rfl n k rfl hwn hwk ?_ ?_)
  · refine (F _ HC.out).mono ?_
    rintro e w1 ⟨x, y, rfl, hx, hy, hc1, hg1⟩
    have c0 : w1.cell? ⟨w.heap.size, 0, none⟩ = some (.int .i64 n) := hg1.cell (by simp) (by simp; omega)
    have c1 : w1.cell? ⟨w.heap.size, 1, none⟩ = some (.int .i64 k) := hg1.cell (by simp) (by simp; omega)
    have HG1 := Lib.hid ((grown_up (World.grownBy_alloc w (.cells #[.int .i64 n, .int .i64 k] 89) none) (some b)).trans hg1)
    have HC1 := Lib.hid hc1
    clear hc1 hg1 F
    go_wp2_with (at_mapUpdate; refine wpList_store_cache _ rfl _ _ _ 53 rfl Try.underlying53 b (c + f) HC1.out (by simp only [maxLen]; omega) rfl n k rfl hwn hwk x y rfl hx hy ?_; intro w2 hc2 hg2; have HC2 := Lib.hid hc2; have HG2 := Lib.hid (HG1.out.trans hg2); clear hc2 hg2)
    go_ret
    exact ⟨_, _, rfl, hx, hy, HC2.out, HG2.out⟩
  · intro x y hx hy
    have HX := Lib.hid hx
    have HY := Lib.hid hy
    clear hx hy
    go_wp2
    go_ret
    exact ⟨_, _, rfl, HX.out, HY.out, Cache.mono HC.out (by omega), grown_up (World.grownBy_alloc _ _ none) _⟩

theorem turn_ok : ∀ f, TurnOK f
  | 0 => fun n k b c w h => by omega
  | f + 1 => turn_step f (turn_ok f)

theorem mu_lt (n k : Nat) : mu n k < 8 := by
  unfold mu
  have := rank_le n k
  split <;> omega
theorem fits_small {n k : Nat} (hn : n ≤ 100000) : fits n k := by
  unfold fits
  have h1 : 4 ^ rank n k ≤ 4 ^ 3 := Nat.pow_le_pow_right (by omega) (rank_le n k)
  have h2 : n * 4 ^ rank n k ≤ n * 4 ^ 3 := Nat.mul_le_mul_left _ h1
  omega

/-- A turn by the cache: at most eight entries more. -/
theorem turn_cache (n k b c : Nat) (w : World) (hn : 0 < n) (hn2 : n ≤ 100000) (hk : k ≤ n) (hc : Cache w b c) (hcf : c ≤ 4000000000000000000) :
    Calls Try.prog 52 #[.map (some b), .int .i64 n, .int .i64 k] w (RetCa (turn n k) b (c + 8) w) :=
  turn_ok 8 n k b c w (mu_lt n k) (fits_small hn2) hn hk hc (by omega)

end Go.Proofs.Ytphgibndncjaiaa
/-
  The walk of the law on TurnOf.
-/
set_option linter.unusedVariables false
set_option linter.unusedSimpArgs false
namespace Go.Proofs.Ytphgibndncjaiaa
open Go.RowKit Flt Turn

end Go.Proofs.Ytphgibndncjaiaa
/-
  The walks of eqInt64S, markInt64S and heldInt64S over slices that the call itself has made.
-/
set_option linter.unusedVariables false
set_option linter.unusedSimpArgs false
namespace Go.Proofs.Ytphgibndncjaiaa
open Go.RowKit

/-- Integers as values. -/
def ints (zs : List Int) : List Value := zs.map (Value.int .i64)
theorem ints_length (zs : List Int) : (ints zs).length = zs.length := by simp [ints]
theorem ints_getD {zs : List Int} {j : Nat} (h : j < zs.length) : (ints zs).getD j undef = .int .i64 (zs.getD j 0) := getD_map _ zs 0 h

/-- The numbers that are laid in a row: from m on. -/
def marks (m n : Nat) : List Int := (List.range n).map fun i => ((m + i : Nat) : Int)

theorem marks_length (m n : Nat) : (marks m n).length = n := by simp [marks]
theorem marks_getD {m n j : Nat} (h : j < n) : (marks m n).getD j 0 = ((m + j : Nat) : Int) := by simp [marks, List.getD, h]

/-- The first k values of a row are turned, by f. -/
def turned (f : Nat → Value) (k : Nat) (cs : List Value) : List Value := (List.range k).map f ++ cs.drop k
theorem turned_zero (f : Nat → Value) (cs : List Value) : turned f 0 cs = cs := by simp [turned]
theorem turned_all (f : Nat → Value) (cs : List Value) : turned f cs.length cs = (List.range cs.length).map f := by simp [turned]
theorem turned_step {f : Nat → Value} {k : Nat} {cs : List Value} (h : k < cs.length) : (turned f k cs).set k (f k) = turned f (k + 1) cs := by
  unfold turned
  rw [List.set_append_right _ _ (by simp), List.length_map, List.length_range, Nat.sub_self]
  rw [List.drop_eq_getElem_cons h, List.set_cons_zero]
  rw [List.range_succ, List.map_append, List.append_assoc]
  rfl
theorem turned_length {f : Nat → Value} {k : Nat} {cs : List Value} (h : k ≤ cs.length) : (turned f k cs).length = cs.length := by simp [turned]; omega

theorem ints_marks (m n : Nat) : ints (marks m n) = (List.range n).map fun i => .int .i64 ((m + i : Nat) : Int) := by simp [ints, marks]

end Go.Proofs.Ytphgibndncjaiaa
/-
  Slices of wide complex numbers that the call itself has made: compared, marked, held; and listOf.
-/
set_option linter.unusedVariables false
set_option linter.unusedSimpArgs false
namespace Go.Proofs.Ytphgibndncjaiaa
open Go.RowKit Flt Turn

/-- The numbers that are laid in a row: from m on, with the imaginary part 1. -/
def cmark (m i : Nat) : Value := .complex .f64 (floatOfInt .f64 ((m + i : Nat) : Int)) 4607182418800017408
def cmarks (m n : Nat) : List Value := (List.range n).map (cmark m)
theorem cmarks_length (m n : Nat) : (cmarks m n).length = n := by simp [cmarks]
theorem cmarks_getD {m n j : Nat} (h : j < n) : (cmarks m n).getD j undef = cmark m j := by simp [cmarks, List.getD, h]

theorem eqC_self (k : FloatKind) (a b : Nat) (ha : nan k.format a = false) (hb : nan k.format b = false) : k.format.order a a = some .eq ∧ k.format.order b b = some .eq := ⟨ord_eq ha ha rfl, ord_eq hb hb rfl⟩

end Go.Proofs.Ytphgibndncjaiaa
