/-
  Several texts of this claim, one behind the other; each says what it holds.
-/
import Derived.Test.YtocjhanehphibaaMPolyph5
import Derived.Lib.Hide
/-
  listOf and everyOf over floats; how floats that lie in a row are read.
-/
set_option linter.unusedVariables false
set_option linter.unusedSimpArgs false
namespace Go.Proofs.Ytocjhanehphibaa
open Go.RowKit Flt Fast

theorem fl_form {w : World} {v : Value} {cs : List Value} (h : Reads w v cs) : ∃ a cap, v = .slice a cs.length cap := by
  cases h with
  | none a cap => exact ⟨a, cap, rfl⟩
  | row g cap L cs hL => subst hL; exact ⟨_, cap, rfl⟩

theorem fl_reads {w : World} {v : Value} {xs : List Nat} (h : Reads w v (flts xs)) : ∀ a n cap, v = .slice a n cap → ∀ k, k < n → ∃ g, a = some ⟨g, 0, none⟩ ∧ g < w.heap.size ∧ w.cell? ⟨g, k, none⟩ = some (.float .f64 (xs.getD k 0)) := by
  intro a n cap e k hk
  generalize hcs : flts xs = cs at h
  cases h with
  | none a cap => simp only [Value.slice.injEq] at e; omega
  | row g cap L cs hL h0 hc hm hh =>
    simp only [Value.slice.injEq] at e
    obtain ⟨e1, e2, -⟩ := e
    have hl : xs.length = L := by rw [← hL, ← hcs, flts_length]
    have hc := hh k (by omega)
    refine ⟨g, e1.symm, World.block_lt_of_cell? _ _ hc, ?_⟩
    rw [hc, ← hcs, flts_getD (by omega)]

theorem fl_cap {w : World} {v : Value} {cs : List Value} (h : Reads w v cs) : ∀ a n cap, v = .slice a n cap → (n : Int) ≤ 9223372036854775807 := by
  intro a n cap e
  cases h with
  | none a cap => simp only [Value.slice.injEq] at e; omega
  | row g cap L cs hL h0 hc hm hh => simp only [Value.slice.injEq] at e; obtain ⟨-, rfl, -⟩ := e; exact maxLen_int (Nat.le_trans hc hm)

theorem flts_fvals (xs : List Nat) : flts xs = fvals xs := rfl

theorem up_row {w w' : World} (h : w.grownBy w' none) (row : Option Nat) : w.grownBy w' row := ⟨h.os, h.tape, h.output, h.size, fun k hk _ => h.block k hk (by simp)⟩

/-- What was converted to a number up to the choice of a NaN. -/
def wO (xs : List Nat) (i : Nat) : Option Nat := cn .f64 (xs.getD i 0)
theorem wO_isF {xs : List Nat} (hz : ∀ z ∈ xs, z < 18446744073709551616) {i : Nat} (h : i < xs.length) : IsF (xs.getD i 0) (wO xs i) :=
  IsF.self (hz _ (by rw [List.getD_eq_getElem?_getD, List.getElem?_eq_getElem h]; exact List.getElem_mem _))

set_option maxRecDepth 100000 in
set_option maxHeartbeats 4000000 in
theorem listOf_f64 (fn : Nat) (capt : Array Value) (n : Nat) (hn : n ≤ 1000000) (z : Nat → Option Nat) (I : Nat → World → Prop) (row : Option Nat) (w : World)
    (hfn : ∀ (args : Array Value) (w : World), (callFunc fn args).run Try.prog w = .ok (.enter fn args) w) (hrow : ∀ k, row = some k → k < w.heap.size) (hI0 : ∀ w', w.grownBy w' none → I 0 w')
    (hIs : ∀ i w1 w2, w.heap.size < w1.heap.size → I i w1 → w1.grownBy w2 (some w.heap.size) → I i w2)
    (hcall : ∀ i w1, i < n → w.heap.size < w1.heap.size → I i w1 → Calls Try.prog fn (#[.int .i64 (i : Int)] ++ capt) w1 fun e w2 => ∃ p : Nat, e = .returned (fval p) ∧ IsF p (z i) ∧ I (i + 1) w2 ∧ w1.grownBy w2 row) :
    Calls Try.prog 81 #[.int .i64 n, .func (.func fn) #[] capt] w fun e w' =>
      ∃ v xs, e = .returned v ∧ Row w' w.heap.size 55 v (flts xs) ∧ xs.length = n ∧ (∀ i, i < n → IsF (xs.getD i 0) (z i)) ∧ I n w' ∧ w.grownBy w' row := by
  obtain ⟨i0, hi, hz0, hz1, hz2⟩ := info_parts info_f64'
  have HC := Lib.hid hcall
  have HS := Lib.hid hIs
  have HI := Lib.hid hI0
  have HR := Lib.hid hrow
  clear hcall hIs hI0 hrow
  go_enter Try.func81, Try.ntmps81
  go_wp2_with (at_make; refine wpList_make_full _ rfl _ _ 47 rfl w.heap.size 55 i0 (.float .f64 0) 1 Try.underlying47 hi hz0 hz1 .i64 .i64 _ _ n rfl rfl rfl rfl (by rw [hz2]; omega) (by simp only [maxLen]; omega) (Nat.le_refl _) ?_)
  intro w1 hown hg1
  rw [toList_madeCells_one] at hown
  have HO : Hid (Row w1 w.heap.size 55 (.slice (some ⟨w.heap.size, 0, none⟩) n n) (List.replicate n (.float .f64 0))) := by
    show w1.ownsRow _ _ _ _ _ _
    simpa using hown
  have HG := Lib.hid hg1
  clear hown hg1 hi hz0 hz1 hz2
  go_wp2
  go_loopw [10] (fun i wr => ∃ (k : Nat) (xs : List Nat), i = .int .i64 k ∧ k ≤ n ∧ xs.length = k ∧ Row wr w.heap.size 55 (.slice (some ⟨w.heap.size, 0, none⟩) n n) (flts xs ++ List.replicate (n - k) (.float .f64 0)) ∧ (∀ j, j < k → IsF (xs.getD j 0) (z j)) ∧ I k wr ∧ w.grownBy wr row ∧ w.heap.size < wr.heap.size) (fun i _ => n - (intOf i).toNat)
  case atStart => exact ⟨0, [], rfl, Nat.zero_le _, rfl, HO.out, fun j hj => by omega, HI.out _ HG.out, up_row HG.out _, (HO.out.lt _ rfl).2⟩
  case round =>
    obtain ⟨k, xs, rfl, hk, hx, hrw, hgd, hI, hg, hsz⟩ := hrel
    have HX := Lib.hid hx
    have HRW := Lib.hid hrw
    have HGD := Lib.hid hgd
    have HIk := Lib.hid hI
    have HGk := Lib.hid hg
    clear hx hrw hgd hI hg
    by_cases hlt : k < n
    · go_wp2_with fail
      refine (HC.out k wr hlt hsz HIk.out).mono ?_
      rintro e w2 ⟨a, rfl, hp, hI2, hg2⟩
      have hr2 := HRW.out.kept hg2 (.inr (fun e => by have := HR.out _ e.symm; simp at this))
      have hS := hr2.set k (.float .f64 a)
      rw [fillV hlt (by rw [flts_length]; exact HX.out)] at hS
      have hF := snocGood (d := (0 : Nat)) (G := fun i p => IsF p (z i)) HX.out HGD.out hp
      have c1 := hr2.cellAt hlt
      have f1 := hr2.frozenAt k
      have hsz2 : w.heap.size < w2.heap.size := Nat.lt_of_lt_of_le hsz hg2.size
      have hI3 := HS.out _ _ _ hsz2 hI2 hS.2
      have hg3 := grown_new (HGk.out.trans hg2) hS.2 (Nat.le_refl _)
      have hsz3 : w.heap.size < (w2.setCell ⟨w.heap.size, k, none⟩ (.float .f64 a)).heap.size := Nat.lt_of_lt_of_le hsz2 hS.2.size
      simp only [fval] at ⊢
      obtain ⟨u, hu⟩ : ∃ u, (flts xs ++ List.replicate (n - k) (Value.float .f64 0)).getD k undef = u := ⟨_, rfl⟩
      rw [hu] at c1
      rw [← flts_snoc] at hS
      have HS2 := Lib.hid hS
      have HF := Lib.hid hF
      have HI3 := Lib.hid hI3
      have HG3 := Lib.hid hg3
      have HZ3 := Lib.hid hsz3
      clear hu hr2 hS hF hp hI2 hg2 hI3 hg3 hsz3
      go_wp2
      go_roundw
      case rel => exact ⟨k + 1, xs ++ [a], by go_num, by omega, HF.out.1, HS2.out.1, HF.out.2, HI3.out, HG3.out, HZ3.out⟩
      case measure => simp [intOf]; omega
    · have e : k = n := by omega
      subst e
      go_wp2
      go_ret
      refine ⟨_, xs, rfl, ?_, HX.out, HGD.out, HIk.out, HGk.out⟩
      have := HRW.out
      rwa [Nat.sub_self, List.replicate_zero, List.append_nil] at this

/-- The first t floats of those that stand p places apart, from the place r on. -/
def partF (xs : List Nat) (r p t : Nat) : List Nat := (List.range t).map fun i => xs.getD (r + i * p) 0
theorem partF_length (xs : List Nat) (r p t : Nat) : (partF xs r p t).length = t := by simp [partF]
theorem partF_succ (xs : List Nat) (r p t : Nat) : partF xs r p (t + 1) = partF xs r p t ++ [xs.getD (r + t * p) 0] := by simp [partF, List.range_succ]
theorem partF_getD (xs : List Nat) (r p t : Nat) {i : Nat} (h : i < t) : (partF xs r p t).getD i 0 = xs.getD (r + i * p) 0 := by simp [partF, List.getD, h]

end Go.Proofs.Ytocjhanehphibaa
/-
  BlockCount, GainOf, PowerOf of both.
-/
set_option linter.unusedVariables false
set_option linter.unusedSimpArgs false
namespace Go.Proofs.Ytocjhanehphibaa
open Go.RowKit Flt Fast
attribute [local go_sem] run_fadd run_fsub run_fmul run_fquo run_cadd run_csub

theorem in_t (n lo hi : Int) (h : lo ≤ n ∧ n ≤ hi) (w : World) :
    Calls Try.prog 58 #[.int .i64 n, .int .i64 lo, .int .i64 hi] w fun e w' => e = .returned (.bool true) ∧ w' = w := by
  obtain ⟨h1, h2⟩ := h
  go_enter Try.func58, Try.ntmps58
  go_wp2
  go_ret
  exact ⟨rfl, rfl⟩
theorem in_f (n lo hi : Int) (h : ¬ (lo ≤ n ∧ n ≤ hi)) (w : World) :
    Calls Try.prog 58 #[.int .i64 n, .int .i64 lo, .int .i64 hi] w fun e w' => e = .returned (.bool false) ∧ w' = w := by
  by_cases h1 : lo ≤ n
  · have h2 : ¬ n ≤ hi := fun h' => h ⟨h1, h'⟩
    have g : decide (n ≤ hi) = false := decide_eq_false h2
    clear h
    go_enter Try.func58, Try.ntmps58
    go_wp2
    go_ret
    exact ⟨rfl, rfl⟩
  · have h2 : n < lo := by omega
    clear h h1
    go_enter Try.func58, Try.ntmps58
    go_wp2
    go_ret
    exact ⟨rfl, rfl⟩

/-- The number of blocks. -/
def cntR (a b c : Int) : Int := if a = 0 then 0 else if a ≤ b then 1 else 1 + (a - b + c - 1).tdiv c

/-- What BlockCount answers. -/
def bcK (a b c : Int) : Int := if (0 ≤ a ∧ a ≤ 256) ∧ (1 ≤ b ∧ b ≤ 256) ∧ (1 ≤ c ∧ c ≤ b) then 0 else 2
def bcR (a b c : Int) : Int := if (0 ≤ a ∧ a ≤ 256) ∧ (1 ≤ b ∧ b ≤ 256) ∧ (1 ≤ c ∧ c ≤ b) then cntR a b c else 0

/-- A cut as the program holds it. -/
def rightB (b c : Int) : Bool := decide ((1 ≤ c ∧ c ≤ b) ∧ b ≤ 256)

theorem cntR_max {a b c : Int} (ha : 0 ≤ a ∧ a ≤ 1000000) (hb : 1 ≤ b ∧ b ≤ 1000000) (hc : 1 ≤ c ∧ c ≤ b) (h0 : a ≠ 0) : cntR a b c = ((if a - b ≥ 0 then a - b else 0) + c - 1).tdiv c + 1 := by
  unfold cntR
  rw [if_neg h0]
  by_cases h1 : a ≤ b
  · rw [if_pos h1]
    have : (if a - b ≥ 0 then a - b else 0) + c - 1 = c - 1 := by split <;> omega
    rw [this, Int.tdiv_eq_ediv_of_nonneg (by omega), Int.ediv_eq_zero_of_lt (by omega) (by omega)]; rfl
  · rw [if_neg h1, if_pos (by omega)]; omega

end Go.Proofs.Ytocjhanehphibaa
/-
  l03Add, l03Many, l03Joined and OverlapAdd of the model.
-/
set_option linter.unusedVariables false
set_option linter.unusedSimpArgs false
namespace Go.Proofs.Ytocjhanehphibaa
open Go.RowKit Flt Fast
attribute [local go_sem] run_fadd run_fsub run_fmul run_fquo run_cadd run_csub

/-- Blocks of one size, in a row. -/
structure Blks (w : World) (V : Value) (vs : List Value) (bs : Nat → List C) (q : Nat → Nat → Z) (n : Nat) : Prop where
  row : Reads w V vs
  each : ∀ b, b < vs.length → RdC w (vs.getD b undef) (bs b) ∧ (bs b).length = n ∧ ∀ i, i < n → IsC ((bs b).getD i (0, 0)) (q b i)

theorem Blks.below {w w' : World} {V : Value} {vs : List Value} {bs : Nat → List C} {q : Nat → Nat → Z} {n : Nat} (h : Blks w V vs bs q n) (hb : Below w.heap.size w w') : Blks w' V vs bs q n :=
  ⟨h.row.below hb, fun b hb' => ⟨(h.each b hb').1.below hb, (h.each b hb').2⟩⟩

/-- How the walk finds a block. -/
theorem Blks.find {w : World} {V : Value} {vs : List Value} {bs : Nat → List C} {q : Nat → Nat → Z} {n : Nat} (h : Blks w V vs bs q n) :
    ∃ a cap, V = .slice a vs.length cap ∧ (vs.length : Int) ≤ 9223372036854775807 ∧ ∀ b, b < vs.length → ∃ g ab cb, a = some ⟨g, 0, none⟩ ∧ g < w.heap.size ∧ w.cell? ⟨g, b, none⟩ = some (.slice ab n cb) ∧ (n : Int) ≤ 9223372036854775807 ∧
      ∀ j, j < n → ∃ gb ob, ab = some ⟨gb, ob, none⟩ ∧ gb < w.heap.size ∧ w.cell? ⟨gb, ob + j, none⟩ = some (.complex .f64 ((bs b).getD j (0, 0)).1 ((bs b).getD j (0, 0)).2) ∧ IsC ((bs b).getD j (0, 0)) (q b j) := by
  have key : ∀ (g cap : Nat) (b : Nat), b < vs.length → w.cell? ⟨g, b, none⟩ = some (vs.getD b undef) → ∃ ab cb, g < w.heap.size ∧ w.cell? ⟨g, b, none⟩ = some (.slice ab n cb) ∧ (n : Int) ≤ 9223372036854775807 ∧
      ∀ j, j < n → ∃ gb ob, ab = some ⟨gb, ob, none⟩ ∧ gb < w.heap.size ∧ w.cell? ⟨gb, ob + j, none⟩ = some (.complex .f64 ((bs b).getD j (0, 0)).1 ((bs b).getD j (0, 0)).2) ∧ IsC ((bs b).getD j (0, 0)) (q b j) := by
    intro g cap b hb hc
    obtain ⟨⟨ab, cb, e, h1, h2, h3⟩, h4, h5⟩ := h.each b hb
    rw [h4] at e h1 h3
    refine ⟨ab, cb, World.block_lt_of_cell? _ _ hc, by rw [hc, e], maxLen_int (Nat.le_trans h1 h2), fun j hj => ?_⟩
    obtain ⟨gb, ob, e1, e2, e3⟩ := h3 j hj
    exact ⟨gb, ob, e1, e2, e3, h5 j hj⟩
  have hr := h.row
  generalize hvs : vs = cs at hr
  cases hr with
  | none a cap => subst hvs; exact ⟨a, cap, rfl, by simp, fun b hb => by simp at hb⟩
  | row g cap L cs hL h0 hcc hm hh =>
    subst hvs
    subst hL
    refine ⟨_, cap, rfl, maxLen_int (Nat.le_trans hcc hm), fun b hb => ?_⟩
    obtain ⟨ab, cb, k1, k2, k3, k4⟩ := key g cap b hb (hh b hb)
    exact ⟨g, ab, cb, rfl, k1, k2, k3, k4⟩

/-- The sums of blocks of the size n, h places apart. -/
def ovlL (q : Nat → Nat → Z) (n h c : Nat) : List Z := addAll addZ z0 q (fun _ => n) h c

end Go.Proofs.Ytocjhanehphibaa
/-
  P6Blocks: blocks of a size, of whatever numbers.
-/
set_option linter.unusedVariables false
set_option linter.unusedSimpArgs false
namespace Go.Proofs.Ytocjhanehphibaa
open Go.RowKit Flt Fast

theorem info_rws : (Try.prog.info? 24).map (fun i => (i.zero, i.size, i.bytes)) = some (some (.slice none 0 0), 1, 24) := by kernel_rfl

theorem grown_own {w w1 w2 : World} {row r2 : Option Nat} (h : w.grownBy w1 row) (k : w1.grownBy w2 r2) (hB : ∀ b, r2 = some b → w.heap.size ≤ b) : w.grownBy w2 row :=
  ⟨k.os.trans h.os, k.tape.trans h.tape, k.output.trans h.output, Nat.le_trans h.size k.size, fun j hj hr => (k.block j (Nat.lt_of_lt_of_le hj h.size) (fun e => by have := hB j e.symm; omega)).trans (h.block j hj hr)⟩

theorem row_apart {w : World} {B1 B2 : Nat} {e1 e2 : TypeId} {v u : Value} {cs ds : List Value} (h : Row w B1 e1 v cs) (k : Row w B2 e2 u ds) (hne : e1 ≠ e2) : v.ownBlock = none ∨ v.ownBlock ≠ u.ownBlock := by
  rcases h.2 with ⟨rfl, -⟩ | ⟨g, cap, cur, rfl, -, hg, -⟩
  · exact .inl rfl
  · refine .inr fun e => ?_
    rcases k.2 with ⟨rfl, -⟩ | ⟨g', cap', cur', rfl, -, hg', -⟩
    · cases e
    · simp only [Value.ownBlock, Option.some.injEq] at e
      subst e
      rw [hg] at hg'
      simp only [Option.some.injEq, Obj.cells.injEq] at hg'
      exact hne hg'.2.1

/-- Blocks that are being drawn. -/
structure Drawn (W : World) (B n : Nat) (V : Value) (vs : List Value) (bs : Nat → List C) : Prop where
  row : Row W (B + 1) 24 V vs
  each : ∀ b, b < vs.length → Row W (B + 1) 30 (vs.getD b undef) (cvals (bs b)) ∧ (bs b).length = n ∧ WfC (bs b)

theorem Drawn.kept {W W' : World} {B n : Nat} {V : Value} {vs : List Value} {bs : Nat → List C} (h : Drawn W B n V vs bs) (hg : W.grownBy W' (some B)) : Drawn W' B n V vs bs :=
  ⟨h.row.kept hg (.inr fun e => by have := (h.row.lt _ e).1; omega), fun b hb => ⟨(h.each b hb).1.kept hg (.inr fun e => by have := ((h.each b hb).1.lt _ e).1; omega), (h.each b hb).2⟩⟩

theorem Drawn.next {W W' : World} {B n : Nat} {V V' u : Value} {vs : List Value} {bs : Nat → List C} {ts : List C} (h : Drawn W B n V vs bs) (hu : Row W (B + 1) 30 u (cvals ts)) (hl : ts.length = n) (hw : WfC ts)
    (hg : W.grownBy W' V.ownBlock) (hr : Row W' (B + 1) 24 V' (vs ++ [u])) : Drawn W' B n V' (vs ++ [u]) (fun i => if i = vs.length then ts else bs i) := by
  have ne : (30 : TypeId) ≠ 24 := by decide
  refine ⟨hr, fun b hb => ?_⟩
  by_cases hbl : b = vs.length
  · subst hbl
    rw [if_pos rfl, show (vs ++ [u]).getD vs.length undef = u by simp [List.getD]]
    exact ⟨hu.kept hg (row_apart hu h.row ne), hl, hw⟩
  · have hb2 : b < vs.length := by simp at hb; omega
    rw [if_neg hbl, show (vs ++ [u]).getD b undef = vs.getD b undef by simp [List.getD, List.getElem?_append_left, hb2]]
    obtain ⟨k1, k2⟩ := h.each b hb2
    exact ⟨k1.kept hg (row_apart k1 h.row ne), k2⟩

theorem Drawn.blks {W : World} {B n : Nat} {V : Value} {vs : List Value} {bs : Nat → List C} (h : Drawn W B n V vs bs) : Blks W V vs bs (fun b i => zOf ((bs b).getD i (0, 0))) n :=
  ⟨h.row.reads, fun b hb => by
    obtain ⟨k1, k2, k3⟩ := h.each b hb
    refine ⟨RdC.of_row k1, k2, fun i hi => ?_⟩
    have : (bs b).getD i (0, 0) ∈ bs b := by rw [List.getD_eq_getElem?_getD, List.getElem?_eq_getElem (by omega)]; exact List.getElem_mem _
    obtain ⟨l1, l2⟩ := k3 _ this
    exact ⟨IsF.self l1, IsF.self l2⟩⟩

end Go.Proofs.Ytocjhanehphibaa
/-
  The model's comparisons of numbers that are the same.
-/
set_option linter.unusedVariables false
set_option linter.unusedSimpArgs false
namespace Go.Proofs.Ytocjhanehphibaa
open Go.RowKit Flt

theorem l01NaN_any (a : Nat) (w : World) :
    Calls Try.prog 98 #[.float .f64 a] w fun e w' => e = .returned (.bool (nan FloatKind.f64.format a)) ∧ w' = w := by
  by_cases ha : nan FloatKind.f64.format a = true
  · have ho : FloatKind.f64.format.order a a = none := ord_nan_l _ ha
    rw [ha]
    clear ha
    go_enter Try.func98, Try.ntmps98
    go_wp2
    go_ret
    exact ⟨rfl, rfl⟩
  · have ha : nan FloatKind.f64.format a = false := by simpa using ha
    have ho : FloatKind.f64.format.order a a = some .eq := ord_eq ha ha rfl
    rw [ha]
    clear ha
    go_enter Try.func98, Try.ntmps98
    go_wp2
    go_ret
    exact ⟨rfl, rfl⟩

theorem l01SameFloat_cn (a b : Nat) (h : cn .f64 a = cn .f64 b) (w : World) :
    Calls Try.prog 85 #[.float .f64 a, .float .f64 b] w fun e w' => e = .returned (.bool true) ∧ w' = w := by
  have na := l01NaN_any a
  have nb := l01NaN_any b
  by_cases ha : nan FloatKind.f64.format a = true
  · have hb : nan FloatKind.f64.format b = true := by
      rw [cn_none ha] at h
      by_cases hb : nan FloatKind.f64.format b = true
      · exact hb
      · rw [cn_some (by simpa using hb)] at h; cases h
    rw [ha] at na
    rw [hb] at nb
    clear ha hb h
    go_enter Try.func85, Try.ntmps85
    go_wp2_with (go_at_call 98; (first | ((with_reducible refine (na _).mono ?_); rintro e w' ⟨rfl, rfl⟩) | ((with_reducible refine (nb _).mono ?_); rintro e w' ⟨rfl, rfl⟩)))
    go_ret
    exact ⟨rfl, rfl⟩
  · have ha : nan FloatKind.f64.format a = false := by simpa using ha
    have hb : nan FloatKind.f64.format b = false := by
      rw [cn_some ha] at h
      by_cases hb : nan FloatKind.f64.format b = true
      · rw [cn_none hb] at h; cases h
      · simpa using hb
    obtain rfl : a = b := by rw [cn_some ha, cn_some hb] at h; exact Option.some.inj h
    rw [ha] at na
    clear ha hb h nb
    go_enter Try.func85, Try.ntmps85
    go_wp2_with (go_at_call 98; refine (na _).mono ?_; rintro e w' ⟨rfl, rfl⟩)
    go_ret
    exact ⟨rfl, rfl⟩

theorem l01Same_cn (a b c d : Nat) (h1 : cn .f64 a = cn .f64 c) (h2 : cn .f64 b = cn .f64 d) (w : World) :
    Calls Try.prog 67 #[.complex .f64 a b, .complex .f64 c d] w fun e w' => e = .returned (.bool true) ∧ w' = w := by
  have s1 := l01SameFloat_cn a c h1
  have s2 := l01SameFloat_cn b d h2
  clear h1 h2
  go_enter Try.func67, Try.ntmps67
  go_wp2_with (go_at_call 85; (first | ((with_reducible refine (s1 _).mono ?_); rintro e w' ⟨rfl, rfl⟩) | ((with_reducible refine (s2 _).mono ?_); rintro e w' ⟨rfl, rfl⟩)))
  go_ret
  exact ⟨rfl, rfl⟩

theorem widen_same {a c : Nat} (h : cn .f32 a = cn .f32 c) : floatToFloatBits .f32 a .f64 = floatToFloatBits .f32 c .f64 := by
  by_cases ha : nan FloatKind.f32.format a = true
  · have hc : nan FloatKind.f32.format c = true := by
      rw [cn_none ha] at h
      by_cases hb : nan FloatKind.f32.format c = true
      · exact hb
      · rw [cn_some (by simpa using hb)] at h; cases h
    rw [widen_nan ha, widen_nan hc]
  · have ha : nan FloatKind.f32.format a = false := by simpa using ha
    by_cases hc : nan FloatKind.f32.format c = true
    · rw [cn_some ha, cn_none hc] at h; cases h
    · rw [cn_some ha, cn_some (by simpa using hc)] at h
      rw [Option.some.inj h]

end Go.Proofs.Ytocjhanehphibaa
/-
  AddSignals, EnergyOf, DotOf, SumOf, NarrowSignal, WidenSignal, ScaleSignal of the program.
-/
set_option linter.unusedVariables false
set_option linter.unusedSimpArgs false
namespace Go.Proofs.Ytocjhanehphibaa
open Go.RowKit Flt Fast
attribute [local go_sem] run_fadd run_fsub run_fmul run_fquo run_cadd run_csub

/-- The shape of what is read. -/
theorem Reads.form {w : World} {v : Value} {cs : List Value} (h : Reads w v cs) : ∃ a cap, v = .slice a cs.length cap := by
  cases h with
  | none a cap => exact ⟨a, cap, rfl⟩
  | row g cap L cs hL => subst hL; exact ⟨_, cap, rfl⟩

theorem checkPair_any (a a' : Option Addr) (L cap cap' : Nat) (hL : L ≤ 256) (w : World) :
    Calls Try.prog 44 #[.slice a L cap, .slice a' L cap'] w fun e w' => e = .returned (.int .i64 0) ∧ w' = w := by
  go_enter Try.func44, Try.ntmps44
  go_wp2
  go_ret
  exact ⟨rfl, rfl⟩

/-- The conjugate. -/
def conjZ (x : Z) : Z := (x.1, fneg .f64 x.2)

end Go.Proofs.Ytocjhanehphibaa
/-
  What is widened is narrowed to what it was. No program.
-/
set_option linter.unusedVariables false
set_option linter.unusedSimpArgs false
namespace Go.Proofs.Ytocjhanehphibaa.Flt
open Go

theorem word_parts {u : Nat} (hu : u < 4294967296) : Ieee.single.word (u / 2147483648 % 2 == 1) (u % 2147483648) = u := by
  have hs : Ieee.single.signWeight = 2147483648 := sw32
  unfold Ieee.Format.word
  rw [hs]
  by_cases h : u / 2147483648 % 2 = 1
  · rw [h]; simp only [beq_self_eq_true, if_true]; omega
  · have : (u / 2147483648 % 2 == 1) = false := by simpa using h
    rw [this]; simp only [Bool.false_eq_true, if_false]; omega

theorem narrow_widen {u v : Nat} (hu : u < 4294967296) (hn : nan FloatKind.f32.format u = false) (h : floatToFloatBits .f32 u .f64 = some v) : floatToFloatBits .f64 v .f32 = some u := by
  have h0 : ¬ 2139095040 < u % 2147483648 := by
    have h' : nan Ieee.single u = false := hn
    rw [nan32] at h'
    exact of_decide_eq_false h'
  by_cases h1 : u % 2147483648 = 2139095040
  · rw [widen_inf h1] at h
    obtain rfl := Option.some.inj h
    have hs : Ieee.double.signWeight = 9223372036854775808 := sw64
    have e : ∀ s : Bool, Ieee.double.word s 9218868437227405312 % 9223372036854775808 = 9218868437227405312 ∧ (Ieee.double.word s 9218868437227405312 / 9223372036854775808 % 2 == 1) = s := by
      intro s
      unfold Ieee.Format.word
      rw [hs]
      cases s <;> decide
    have d1 : FloatKind.f64.decode (Ieee.double.word (u / 2147483648 % 2 == 1) 9218868437227405312) = .infinity (u / 2147483648 % 2 == 1) := by
      have := read_inf Ieee.double (x := Ieee.double.word (u / 2147483648 % 2 == 1) 9218868437227405312) (by rw [sw64, ir64]; exact (e _).1) hbi64
      rw [sw64, (e _).2] at this
      exact this
    unfold floatToFloatBits
    rw [if_neg (by decide), d1]
    show some (Ieee.single.word _ Ieee.single.infRung) = _
    rw [ir32, ← h1, word_parts hu]
  · obtain ⟨r', h2, h3, h4⟩ := widen_fin (u := u) (by omega)
    rw [h4] at h
    obtain rfl := Option.some.inj h
    obtain ⟨m, p, e, l, v⟩ := read_word Ieee.double (u / 2147483648 % 2 == 1) (r := r') (by rw [ir64]; exact h2)
    have l32 : Ieee.single.leastPlace = -149 := by decide
    have l64 : Ieee.double.leastPlace = -1074 := by decide
    have hw : Ieee.single.nearest (u / 2147483648 % 2 == 1) m p = Ieee.single.word (u / 2147483648 % 2 == 1) (u % 2147483648) := by
      refine nearest_exact Ieee.single _ (base := -1074) (by rw [ir32]; omega) (by rw [l64] at l; exact l) (by rw [l32]; omega) ?_
      rw [l64] at v
      rw [l32, show ((-149 : Int) - -1074).toNat = wideUp from rfl, ← h3]
      exact v
    obtain ⟨m', p', e', -, -⟩ := read_word Ieee.single (u / 2147483648 % 2 == 1) (r := u % 2147483648) (by rw [ir32]; omega)
    rw [word_parts hu] at hw e'
    unfold floatToFloatBits
    rw [if_neg (by decide)]
    have d1 : FloatKind.f64.decode (Ieee.double.word (u / 2147483648 % 2 == 1) r') = .number (u / 2147483648 % 2 == 1) m p := e
    rw [d1]
    have d2 : FloatKind.f32.encode (.number (u / 2147483648 % 2 == 1) m p) = u := hw
    simp only [d2]
    have d3 : FloatKind.f32.decode u = .number (u / 2147483648 % 2 == 1) m' p' := e'
    rw [d3]
    rfl

/-- What is narrowed, widened and narrowed again is the same. -/
theorem narrow_again {u r u' : Nat} (hu : u < 4294967296) (hr : cn .f64 r = floatToFloatBits .f32 u .f64) (h' : Narrows r u') : cn .f32 u = cn .f32 u' := by
  by_cases hn : nan FloatKind.f32.format u = true
  · rw [widen_nan hn] at hr
    rw [cn_none hn, cn_none (h'.nan (nan_of_cn hr))]
  · have hn : nan FloatKind.f32.format u = false := by simpa using hn
    obtain ⟨v, e, -, -⟩ := widen_num hn
    rw [e] at hr
    obtain ⟨-, rfl⟩ := num_of_cn hr
    rw [h'.val u (narrow_widen hu hn e)]
end Go.Proofs.Ytocjhanehphibaa.Flt
/-
  SameSignals of the program and of the model, SameNarrows, where they are the same.
-/
set_option linter.unusedVariables false
set_option linter.unusedSimpArgs false
namespace Go.Proofs.Ytocjhanehphibaa
open Go.RowKit Flt Fast

theorem sameB_of {a b : Nat} {z : Option Nat} (h : IsF a z) (k : IsF b z) : sameB a b = true := by unfold sameB; rw [h.cn, k.cn]; simp

set_option maxRecDepth 100000 in
set_option maxHeartbeats 4000000 in
theorem l01SameSignals_any {v v' : Value} {xs ys : List C} {w : World} (h : Reads w v (cvals xs)) (h' : Reads w v' (cvals ys)) (hxy : xs.length = ys.length)
    (he : ∀ j, j < xs.length → ∃ z, IsC (xs.getD j (0, 0)) z ∧ IsC (ys.getD j (0, 0)) z) :
    Calls Try.prog 38 #[v, v'] w fun e w' => e = .returned (.bool true) ∧ ∃ n, w' = w.drewN n := by
  generalize hcs : cvals xs = cs at h
  generalize hcs' : cvals ys = cs' at h'
  have hcl : cs.length = xs.length := by rw [← hcs, cvals_length]
  have hcl' : cs'.length = ys.length := by rw [← hcs', cvals_length]
  cases h with
  | none a cap =>
    have h0 : xs.length = 0 := by rw [← hcl]; rfl
    cases h' with
    | row g' cap' L' _ hL' h0' => rw [hL'] at hcl'; omega
    | none a' cap' =>
      clear hcs hcl hcs' hcl' h0 he hxy
      go_enter Try.func38, Try.ntmps38
      go_wp2
      refine wp_loop_rounds 1 ?_
      rw [rounds_succ]
      go_wp2
      go_ret
      exact ⟨rfl, 0, rfl⟩
  | row g cap L cs hL h0 hc hm hcell =>
    cases h' with
    | none a' cap' => simp at hcl'; omega
    | row g' cap' L' cs' hL' h0' hc' hm' hcell' =>
      obtain rfl : L = xs.length := by rw [← hL]; exact hcl
      obtain rfl : L' = xs.length := by rw [← hL', hcl', hxy]
      obtain ⟨L, hxl⟩ : ∃ L, xs.length = L := ⟨_, rfl⟩
      rw [hxl] at h0 hc hc'
      have hmax := maxLen_int (Nat.le_trans hc hm)
      have hgl : g < w.heap.size := World.block_lt_of_cell? _ _ (hcell 0 (by omega))
      have hgl' : g' < w.heap.size := World.block_lt_of_cell? _ _ (hcell' 0 (by omega))
      have HC : Hid (∀ j, j < L → w.cell? ⟨g, j, none⟩ = some (.complex .f64 (xs.getD j (0, 0)).1 (xs.getD j (0, 0)).2)) := fun j hj => by rw [hcell j (by omega), ← hcs, cvals_getD (by omega)]
      have HC' : Hid (∀ j, j < L → w.cell? ⟨g', j, none⟩ = some (.complex .f64 (ys.getD j (0, 0)).1 (ys.getD j (0, 0)).2)) := fun j hj => by rw [hcell' j (by omega), ← hcs', cvals_getD (by omega)]
      have HE : Hid (∀ j, j < L → ∃ z, IsC (xs.getD j (0, 0)) z ∧ IsC (ys.getD j (0, 0)) z) := fun j hj => he j (by omega)
      rw [hxl]
      clear hcell hcs hcl hL hm hxl hcell' hcs' hcl' hL' hm' hxy he h0'
      go_enter Try.func38, Try.ntmps38
      go_wp2
      go_loopw [5] (fun i wr => ∃ k n : Nat, i = .int .i64 k ∧ k ≤ L ∧ wr = w.drewN n) (fun i _ => L - (intOf i).toNat)
      case atStart => exact ⟨0, 0, rfl, Nat.zero_le _, rfl⟩
      case round =>
        obtain ⟨k, n, rfl, hk, hw⟩ := hrel
        have HW := Lib.hid hw
        clear hw
        by_cases hlt : k < L
        · have c1 : wr.cell? ⟨g, k, none⟩ = some (.complex .f64 (xs.getD k (0, 0)).1 (xs.getD k (0, 0)).2) := by rw [HW.out]; exact HC.out k hlt
          have c2 : wr.cell? ⟨g', k, none⟩ = some (.complex .f64 (ys.getD k (0, 0)).1 (ys.getD k (0, 0)).2) := by rw [HW.out]; exact HC'.out k hlt
          obtain ⟨z, z1, z2⟩ := HE.out k hlt
          obtain ⟨⟨a, b⟩, hab⟩ : ∃ q, xs.getD k (0, 0) = q := ⟨_, rfl⟩
          obtain ⟨⟨c, d⟩, hcd⟩ : ∃ q, ys.getD k (0, 0) = q := ⟨_, rfl⟩
          rw [hab] at c1 z1
          rw [hcd] at c2 z2
          have S := fun w => l01Same_cn a b c d (z1.re.cn.trans z2.re.cn.symm) (z1.im.cn.trans z2.im.cn.symm) w
          clear hab hcd z1 z2
          go_wp2
          go_quiet ((go_at_call 67; exact Calls.quiet_of_same (S _)))
          go_wp2
          go_roundw
          case rel => exact ⟨k + 1, n + nq, by go_num, by omega, by rw [HW.out, World.drewN_drewN]⟩
          case measure => simp [intOf]; omega
        · have e : k = L := by omega
          subst e
          go_wp2
          go_ret
          exact ⟨rfl, n, HW.out⟩

set_option maxRecDepth 100000 in
theorem sameSignals_spec {v v' : Value} {xs ys : List C} {w : World} (h : Reads w v (cvals xs)) (h' : Reads w v' (cvals ys)) (hxy : xs.length = ys.length)
    (he : ∀ j, j < xs.length → ∃ z, IsC (xs.getD j (0, 0)) z ∧ IsC (ys.getD j (0, 0)) z) :
    Calls Try.prog 11 #[v, v'] w fun e w' => e = .returned (.bool true) ∧ ∃ n, w' = w.drewN n := by
  have HS := Lib.hid (l01SameSignals_any h h' hxy he)
  obtain ⟨a, cap, rfl⟩ := h.form
  obtain ⟨a', cap', rfl⟩ := h'.form
  clear h h' he hxy
  go_enter Try.func11, Try.ntmps11
  go_wp2_with fail
  refine HS.out.mono ?_
  rintro e w2 ⟨rfl, n, rfl⟩
  go_wp2
  go_ret
  exact ⟨rfl, n, rfl⟩

end Go.Proofs.Ytocjhanehphibaa
/-
  Lists of signals of any lengths: made, filled one by one, compared.
-/
set_option linter.unusedVariables false
set_option linter.unusedSimpArgs false
namespace Go.Proofs.Ytocjhanehphibaa
open Go.RowKit Flt Fast

/-- Blocks that are being made, with their numbers. -/
structure MadeR (W : World) (B : Nat) (n : Nat → Nat) (V : Value) (vs : List Value) (bs : Nat → List C) (q : Nat → Nat → Z) : Prop where
  row : Row W B 24 V vs
  each : ∀ b, b < vs.length → Row W B 30 (vs.getD b undef) (cvals (bs b)) ∧ (bs b).length = n b ∧ ∀ i, i < n b → IsC ((bs b).getD i (0, 0)) (q b i)

theorem MadeR.below {W W' : World} {B : Nat} {n : Nat → Nat} {V : Value} {vs : List Value} {bs : Nat → List C} {q : Nat → Nat → Z} (h : MadeR W B n V vs bs q) (hb : Below W.heap.size W W') : MadeR W' B n V vs bs q :=
  ⟨h.row.below hb (fun k e => (h.row.lt k e).2), fun b hb' => ⟨(h.each b hb').1.below hb (fun k e => ((h.each b hb').1.lt k e).2), (h.each b hb').2⟩⟩

theorem MadeR.next {W W' : World} {B : Nat} {n : Nat → Nat} {V V' u : Value} {vs : List Value} {bs : Nat → List C} {ts : List C} {q : Nat → Nat → Z} (h : MadeR W B n V vs bs q) (hu : Row W B 30 u (cvals ts)) (hl : ts.length = n vs.length) (hw : ∀ i, i < n vs.length → IsC (ts.getD i (0, 0)) (q vs.length i))
    (hg : W.grownBy W' V.ownBlock) (hr : Row W' B 24 V' (vs ++ [u])) : MadeR W' B n V' (vs ++ [u]) (fun i => if i = vs.length then ts else bs i) q := by
  have ne : (30 : TypeId) ≠ 24 := by decide
  refine ⟨hr, fun b hb => ?_⟩
  by_cases hbl : b = vs.length
  · subst hbl
    rw [if_pos rfl, show (vs ++ [u]).getD vs.length undef = u by simp [List.getD]]
    exact ⟨hu.kept hg (row_apart hu h.row ne), hl, hw⟩
  · have hb2 : b < vs.length := by simp at hb; omega
    rw [if_neg hbl, show (vs ++ [u]).getD b undef = vs.getD b undef by simp [List.getD, List.getElem?_append_left, hb2]]
    obtain ⟨k1, k2⟩ := h.each b hb2
    exact ⟨k1.kept hg (row_apart k1 h.row ne), k2⟩

/-- The list of rows as far as it is filled. -/
structure RowsR (wr : World) (B n k : Nat) (m : Nat → Nat) (q : Nat → Nat → Z) (vs : List Value) (ys : Nat → List C) : Prop where
  len : vs.length = k
  row : Row wr B 24 (.slice (some ⟨B, 0, none⟩) n n) (vs ++ List.replicate (n - k) (.slice none 0 0))
  each : ∀ i, i < k → Row wr B 30 (vs.getD i undef) (cvals (ys i)) ∧ (ys i).length = m i ∧ ∀ j, j < m i → IsC ((ys i).getD j (0, 0)) (q i j)

theorem RowsR.below {wr wq : World} {B n k : Nat} {m : Nat → Nat} {q : Nat → Nat → Z} {vs : List Value} {ys : Nat → List C} (h : RowsR wr B n k m q vs ys) (hb : Below wr.heap.size wr wq) : RowsR wq B n k m q vs ys :=
  ⟨h.len, h.row.below hb (fun j e => (h.row.lt j e).2), fun i hi => ⟨(h.each i hi).1.below hb (fun j e => ((h.each i hi).1.lt j e).2), (h.each i hi).2⟩⟩

theorem RowsR.next {wr : World} {B n k : Nat} {m : Nat → Nat} {q : Nat → Nat → Z} {vs : List Value} {ys : Nat → List C} {v : Value} {y : List C} (h : RowsR wr B n k m q vs ys) (hk : k < n) (hv : Row wr B 30 v (cvals y)) (hl : y.length = m k) (hq : ∀ j, j < m k → IsC (y.getD j (0, 0)) (q k j)) :
    RowsR (wr.setCell ⟨B, k, none⟩ v) B n (k + 1) m q (vs ++ [v]) (fun i => if i = k then y else ys i) := by
  have ne : (30 : TypeId) ≠ 24 := by decide
  have hS := h.row.set k v
  rw [fillV hk h.len] at hS
  refine ⟨by simp [h.len], hS.1, fun i hi => ?_⟩
  by_cases hik : i = k
  · subst hik
    rw [if_pos rfl, show (vs ++ [v]).getD i undef = v by simp [List.getD, ← h.len]]
    exact ⟨hv.kept hS.2 (row_apart hv h.row ne), hl, hq⟩
  · rw [if_neg hik, show (vs ++ [v]).getD i undef = vs.getD i undef by simp [List.getD, List.getElem?_append_left, h.len, show i < k by omega]]
    obtain ⟨a, r⟩ := h.each i (by omega)
    exact ⟨a.kept hS.2 (row_apart a h.row ne), r⟩

theorem RowsR.made {wr : World} {B n : Nat} {m : Nat → Nat} {q : Nat → Nat → Z} {vs : List Value} {ys : Nat → List C} (h : RowsR wr B n n m q vs ys) : MadeR wr B m (.slice (some ⟨B, 0, none⟩) n n) vs ys q :=
  ⟨by have := h.row; rwa [Nat.sub_self, List.replicate_zero, List.append_nil] at this, fun b hb => h.each b (by rw [← h.len]; exact hb)⟩

set_option maxRecDepth 100000 in
set_option maxHeartbeats 4000000 in
theorem listOf_rowsR (fn : Nat) (capt : Array Value) (n : Nat) (m : Nat → Nat) (hn : n ≤ 1000000) (q : Nat → Nat → Z) (w : World)
    (hfn : ∀ (args : Array Value) (w : World), (callFunc fn args).run Try.prog w = .ok (.enter fn args) w)
    (hcall : ∀ i w1, i < n → Below w.heap.size w w1 → Calls Try.prog fn (#[.int .i64 (i : Int)] ++ capt) w1 fun e w2 => ∃ v y, e = .returned v ∧ Row w2 w1.heap.size 30 v (cvals y) ∧ y.length = m i ∧ (∀ j, j < m i → IsC (y.getD j (0, 0)) (q i j)) ∧ Below w1.heap.size w1 w2) :
    Calls Try.prog 75 #[.int .i64 n, .func (.func fn) #[] capt] w fun e w' =>
      ∃ V vs ys, e = .returned V ∧ MadeR w' w.heap.size m V vs ys q ∧ vs.length = n ∧ Below w.heap.size w w' := by
  obtain ⟨j0, hj, hy0, hy1, hy2⟩ := info_parts info_rws
  have HF := Lib.hid hcall
  clear hcall
  go_enter Try.func75, Try.ntmps75
  go_wp2_with (at_make; refine wpList_make_full _ rfl _ _ 38 rfl w.heap.size 24 j0 (.slice none 0 0) 1 Try.underlying38 hj hy0 hy1 .i64 .i64 _ _ n rfl rfl rfl rfl (by rw [hy2]; omega) (by simp only [maxLen]; omega) (Nat.le_refl _) ?_)
  intro w1 hown hg1
  rw [toList_madeCells_one] at hown
  have hb1 : Below w.heap.size w w1 := (Below.refl _ _).grown hg1 (Nat.le_refl _) (fun b e => by cases e)
  have HO : Hid (RowsR w1 w.heap.size n 0 m q [] (fun _ => [])) := ⟨rfl, by show w1.ownsRow _ _ _ _ _ _; simpa using hown, fun i hi => by omega⟩
  have HK1 := Lib.hid hb1
  clear hown hg1 hb1 hj hy0 hy1 hy2
  go_wp2
  go_loopw [10] (fun i wr => ∃ (k : Nat) (vs : List Value) (ys : Nat → List Go.Proofs.Ytocjhanehphibaa.C), i = .int .i64 k ∧ k ≤ n ∧ RowsR wr w.heap.size n k m q vs ys ∧ Below w.heap.size w wr) (fun i _ => n - (intOf i).toNat)
  case atStart => exact ⟨0, _, _, rfl, Nat.zero_le _, HO.out, HK1.out⟩
  case round =>
    clear HO HK1
    obtain ⟨k, vs, ys, rfl, hk, hO, hK⟩ := hrel
    have HO := Lib.hid hO
    have HK := Lib.hid hK
    clear hO hK
    by_cases hlt : k < n
    · have S := Lib.hid (HF.out k wr hlt HK.out)
      go_wp2_with fail
      refine S.out.mono ?_
      rintro e w2 ⟨v, y, rfl, hv, hyl, hq, hk2⟩
      have hsz := HK.out.size
      have hO2 := HO.out.below hk2
      obtain ⟨a, cap, rfl⟩ := cform hv.reads
      have hnx := hO2.next hlt (hv.base hsz) hyl hq
      have o1 := hO2.row.cellAt hlt
      have f1 := hO2.row.frozenAt k
      obtain ⟨u, hu⟩ : ∃ u, (vs ++ List.replicate (n - k) (Value.slice none 0 0)).getD k undef = u := ⟨_, rfl⟩
      rw [hu] at o1
      have HNX := Lib.hid hnx
      have hK2 : Below w.heap.size w (w2.setCell ⟨w.heap.size, k, none⟩ (.slice a (cvals y).length cap)) := by
        have h2 := below_step HK.out hk2 hsz
        have hS := (hO2.row.set k (.slice a (cvals y).length cap)).2
        exact h2.grown hS h2.size (fun b e => by cases e; exact Nat.le_refl _)
      have HK2 := Lib.hid hK2
      obtain ⟨ly, hly⟩ : ∃ l, (cvals y).length = l := ⟨_, rfl⟩
      rw [hly] at HNX HK2 ⊢
      clear hv hyl hq hk2 hO2 hnx hu S HO HK hK2 hly
      go_wp2
      go_roundw
      case rel => first | exact ⟨k + 1, _, _, by go_num, by omega, HNX.out, HK2.out⟩ | ((repeat apply Exists.intro); refine ⟨?_, rfl⟩; exact ⟨k + 1, _, _, by go_num, by omega, HNX.out, HK2.out⟩)
      case measure => simp [intOf]; omega
    · have e : k = n := by omega
      subst e
      go_wp2
      go_ret
      exact ⟨_, vs, ys, rfl, HO.out.made, HO.out.len, HK.out⟩

/-- Blocks that are read. -/
structure LBlkR (w : World) (V : Value) (vs : List Value) (bs : Nat → List C) (q : Nat → Nat → Z) (n : Nat → Nat) : Prop where
  row : Reads w V vs
  each : ∀ b, b < vs.length → Reads w (vs.getD b undef) (cvals (bs b)) ∧ (bs b).length = n b ∧ ∀ i, i < n b → IsC ((bs b).getD i (0, 0)) (q b i)

theorem MadeR.lblkR {W : World} {B : Nat} {n : Nat → Nat} {V : Value} {vs : List Value} {bs : Nat → List C} {q : Nat → Nat → Z} (h : MadeR W B n V vs bs q) : LBlkR W V vs bs q n :=
  ⟨h.row.reads, fun b hb => ⟨(h.each b hb).1.reads, (h.each b hb).2⟩⟩
theorem LBlkR.below {w w' : World} {V : Value} {vs : List Value} {bs : Nat → List C} {q : Nat → Nat → Z} {n : Nat → Nat} (h : LBlkR w V vs bs q n) (hb : Below w.heap.size w w') : LBlkR w' V vs bs q n :=
  ⟨h.row.below hb, fun b hb' => ⟨(h.each b hb').1.below hb, (h.each b hb').2⟩⟩
theorem LBlkR.draws {w : World} {V : Value} {vs : List Value} {bs : Nat → List C} {q : Nat → Nat → Z} {n : Nat → Nat} (h : LBlkR w V vs bs q n) (m : Nat) : LBlkR (w.drewN m) V vs bs q n :=
  h.below (below_draws (Below.refl _ _) m)

/-- How the walk finds a block. -/
theorem LBlkR.find {w : World} {V : Value} {vs : List Value} {bs : Nat → List C} {q : Nat → Nat → Z} {n : Nat → Nat} (h : LBlkR w V vs bs q n) :
    ∃ a cap, V = .slice a vs.length cap ∧ ∀ b, b < vs.length → ∃ g ab cb, a = some ⟨g, 0, none⟩ ∧ g < w.heap.size ∧ w.cell? ⟨g, b, none⟩ = some (.slice ab (n b) cb) ∧ Reads w (.slice ab (n b) cb) (cvals (bs b)) ∧ (bs b).length = n b ∧ ∀ i, i < n b → IsC ((bs b).getD i (0, 0)) (q b i) := by
  have key : ∀ b, b < vs.length → ∃ ab cb, vs.getD b undef = .slice ab (n b) cb := fun b hb => by
    obtain ⟨k1, k2, -⟩ := h.each b hb
    obtain ⟨ab, cb, e⟩ := cform k1
    rw [cvals_length, k2] at e
    exact ⟨ab, cb, e⟩
  have hr := h.row
  have he := h.each
  cases hr with
  | none a cap => exact ⟨a, cap, rfl, fun b hb => by simp at hb⟩
  | row g cap L cs hL h0 hc hm hh =>
    subst hL
    refine ⟨_, cap, rfl, fun b hb => ?_⟩
    obtain ⟨ab, cb, e⟩ := key b hb
    obtain ⟨k1, k2, k3⟩ := he b hb
    rw [e] at k1
    have hc := hh b hb
    rw [e] at hc
    exact ⟨g, ab, cb, rfl, World.block_lt_of_cell? _ _ hc, hc, k1, k2, k3⟩

set_option maxRecDepth 100000 in
set_option maxHeartbeats 4000000 in
theorem sameBlocksR_any {w : World} {V V' : Value} {vs vs' : List Value} {bs bs' : Nat → List C} {q : Nat → Nat → Z} {n : Nat → Nat} (h : LBlkR w V vs bs q n) (h' : LBlkR w V' vs' bs' q n) (hl : vs.length = vs'.length) (hc : vs.length ≤ 64) :
    Calls Try.prog 20 #[V, V'] w fun e w' => e = .returned (.bool true) ∧ ∃ m, w' = w.drewN m := by

  obtain ⟨a, cap, rfl, hf⟩ := h.find
  obtain ⟨a', cap', rfl, hf'⟩ := h'.find
  obtain ⟨c, hvc⟩ : ∃ c, vs.length = c := ⟨_, rfl⟩
  rw [← hl, hvc] at hf' ⊢
  rw [hvc] at hf hc
  have HF := Lib.hid hf
  have HF' := Lib.hid hf'
  clear h h' hf hf' hl hvc
  go_enter Try.func20, Try.ntmps20
  go_wp2
  go_loopw [5] (fun i wr => ∃ k m : Nat, i = .int .i64 k ∧ k ≤ c ∧ wr = w.drewN m) (fun i _ => c - (intOf i).toNat)
  case atStart => exact ⟨0, 0, rfl, Nat.zero_le _, rfl⟩
  case round =>
    obtain ⟨k, m, rfl, hk, hw⟩ := hrel
    have HW := Lib.hid hw
    clear hw
    by_cases hlt : k < c
    · obtain ⟨g, ab, cb, rfl, hg, hcell, hr, hn, hz⟩ := HF.out k hlt
      obtain ⟨g', ab', cb', rfl, hg', hcell', hr', hn', hz'⟩ := HF'.out k hlt
      obtain ⟨N, hN⟩ : ∃ N, n k = N := ⟨_, rfl⟩
      rw [hN] at hcell hr hn hz hcell' hr' hn' hz'
      clear hN
      have c1 : wr.cell? ⟨g, k, none⟩ = some (.slice ab N cb) := by rw [HW.out]; exact hcell
      have c2 : wr.cell? ⟨g', k, none⟩ = some (.slice ab' N cb') := by rw [HW.out]; exact hcell'
      have S := Lib.hid (fun (t : Nat) => l01SameSignals_any (w := w.drewN t) (hr.below (below_draws (Below.refl _ _) t)) (hr'.below (below_draws (Below.refl _ _) t)) (hn.trans hn'.symm) (fun j hj => ⟨_, hz j (by omega), hz' j (by omega)⟩))
      have S2 : Hid (∀ t, Calls Try.prog 38 #[.slice ab N cb, .slice ab' N cb'] (wr.drewN t) fun e w' => e = .returned (.bool true) ∧ ∃ m, w' = (wr.drewN t).drewN m) := fun t => by
        rw [HW.out, World.drewN_drewN]; exact S.out _
      clear S hr hr' hn hn' hz hz' hcell hcell' hg hg'
      go_wp2
      go_quiet ((go_at_call 38; exact Calls.quiet_of (S2.out _)))
      go_wp2
      go_roundw
      case rel => exact ⟨k + 1, m + nq, by go_num, by omega, by rw [HW.out, World.drewN_drewN]⟩
      case measure => simp [intOf]; omega
    · have e : k = c := by omega
      subst e
      go_wp2
      go_ret
      exact ⟨rfl, m, HW.out⟩

end Go.Proofs.Ytocjhanehphibaa
/-
  Decimate and Polyphase of both.
-/
set_option linter.unusedVariables false
set_option linter.unusedSimpArgs false
namespace Go.Proofs.Ytocjhanehphibaa
open Go.RowKit Flt Fast

theorem isStep_t (m : Nat) (h1 : 1 ≤ m) (h2 : m ≤ 64) (w : World) :
    Calls Try.prog 48 #[.int .i64 m] w fun e w' => e = .returned (.bool true) ∧ w' = w := by
  have g1 : decide (1 ≤ (m : Int)) = true := by simp <;> omega
  have g2 : decide ((m : Int) ≤ 64) = true := by simp <;> omega
  go_enter Try.func48, Try.ntmps48
  go_wp2
  go_ret
  exact ⟨rfl, rfl⟩
theorem isPhase_t (m r : Nat) (h1 : 1 ≤ m) (h2 : m ≤ 64) (hr : r < m) (w : World) :
    Calls Try.prog 54 #[.int .i64 m, .int .i64 r] w fun e w' => e = .returned (.bool true) ∧ w' = w := by
  have K := Lib.hid (fun w => isStep_t m h1 h2 w)
  have g1 : decide (0 ≤ (r : Int)) = true := by simp <;> omega
  have g2 : decide ((r : Int) < (m : Int)) = true := by simp <;> omega
  have g3 : decide (r < m) = true := by simp <;> omega
  go_enter Try.func54, Try.ntmps54
  go_wp2_with fail
  refine (K.out _).mono ?_
  rintro e w' ⟨rfl, rfl⟩
  go_wp2
  go_ret
  exact ⟨rfl, rfl⟩
theorem step_t (m : Nat) (h1 : 1 ≤ m) (h2 : m ≤ 64) (w : World) :
    Calls Try.prog 50 #[.int .i64 m] w fun e w' => e = .returned (.bool true) ∧ w' = w := by
  have K := Lib.hid (fun w => in_t (m : Int) 1 64 (by omega) w)
  go_enter Try.func50, Try.ntmps50
  go_wp2_with fail
  refine (K.out _).mono ?_
  rintro e w' ⟨rfl, rfl⟩
  go_wp2
  go_ret
  exact ⟨rfl, rfl⟩

/-- A part of a signal and OK are returned. -/
def PartTo (xs : List C) (r m : Nat) (w : World) (e : Ending) (w' : World) : Prop :=
  ∃ v, e = .returned (.tuple #[v, .int .i64 0]) ∧ Row w' w.heap.size 30 v (cvals (partN xs r m (cntP xs.length r m))) ∧ Below w.heap.size w w'

set_option maxRecDepth 100000 in
theorem decimate_impl {v : Value} {xs : List C} {w : World} (h : Reads w v (cvals xs)) (m r : Nat) (h1 : 1 ≤ m) (h2 : m ≤ 64) (hr : r < m) (hl : xs.length ≤ 256) :
    Calls Try.prog 23 #[v, .int .i64 m, .int .i64 r] w (PartTo xs r m w) := by
  have E := Lib.hid (everyN_any h m r (by omega) hr (by omega) (by omega))
  have K := Lib.hid (fun w => isPhase_t m r h1 h2 hr w)
  obtain ⟨a, cap, rfl⟩ := cform h
  rw [cvals_length] at E ⊢
  obtain ⟨L, hL⟩ : ∃ L, xs.length = L := ⟨_, rfl⟩
  unfold PartTo
  rw [hL] at E hl ⊢
  have g : decide ((256 : Int) < (L : Int)) = false := by simp <;> omega
  clear h hL
  go_enter Try.func23, Try.ntmps23
  go_wp2_with fail
  refine (K.out _).mono ?_
  rintro e w' ⟨rfl, rfl⟩
  go_wp2_with fail
  refine E.out.mono ?_
  rintro e w2 ⟨v', rfl, hx, hb⟩
  have HX := Lib.hid hx
  have HB := Lib.hid hb
  clear hx hb E
  go_wp2
  go_ret2
  exact ⟨_, rfl, HX.out, HB.out⟩

set_option maxRecDepth 100000 in
theorem decimate_spec {v : Value} {xs : List C} {w : World} (h : Reads w v (cvals xs)) (m r : Nat) (h1 : 1 ≤ m) (h2 : m ≤ 64) (hr : r < m) (hl : xs.length ≤ 256) :
    Calls Try.prog 25 #[v, .int .i64 m, .int .i64 r] w (PartTo xs r m w) := by
  have E := Lib.hid (decN_spec h m r (by omega) hr (by omega) (by omega))
  have K := Lib.hid (fun w => step_t m h1 h2 w)
  have K2 := Lib.hid (fun w => in_t (r : Int) 0 ((m : Int) - 1) (by omega) w)
  obtain ⟨a, cap, rfl⟩ := cform h
  rw [cvals_length] at E ⊢
  obtain ⟨L, hL⟩ : ∃ L, xs.length = L := ⟨_, rfl⟩
  unfold PartTo
  rw [hL] at E hl ⊢
  have g : decide ((256 : Int) < (L : Int)) = false := by simp <;> omega
  clear h hL
  go_enter Try.func25, Try.ntmps25
  go_wp2_with fail
  refine (K.out _).mono ?_
  rintro e w' ⟨rfl, rfl⟩
  go_wp2_with fail
  refine (K2.out _).mono ?_
  rintro e w' ⟨rfl, rfl⟩
  go_wp2_with fail
  refine E.out.mono ?_
  rintro e w2 ⟨v', rfl, hx, hb⟩
  have HX := Lib.hid hx
  have HB := Lib.hid hb
  clear hx hb E
  go_wp2
  go_ret2
  exact ⟨_, rfl, HX.out, HB.out⟩

/-- The numbers of the parts. -/
def polQ (xs : List C) (m b i : Nat) : Z := zOf (xs.getD (b + i * m) (0, 0))
def PolTo (xs : List C) (m : Nat) (w : World) (e : Ending) (w' : World) : Prop :=
  ∃ V vs bs, e = .returned (.tuple #[V, .int .i64 0]) ∧ MadeR w' w.heap.size (fun b => cntP xs.length b m) V vs bs (polQ xs m) ∧ vs.length = m ∧ Below w.heap.size w w'
theorem partN_getD {xs : List C} {r p n i : Nat} (hi : i < n) : (partN xs r p n).getD i (0, 0) = xs.getD (r + i * p) (0, 0) := by
  simp [partN, List.getD, hi]
theorem partN_isC {xs : List C} {r p i : Nat} (hw : WfC xs) (hp : 0 < p) (hi : i < cntP xs.length r p) : IsC ((partN xs r p (cntP xs.length r p)).getD i (0, 0)) (polQ xs p r i) := by
  rw [partN_getD hi]
  have h := (cntP_lt xs.length r p i hp).1 hi
  refine isC_zOf (hw _ ?_)
  simp [List.getD, h]

theorem enter_partsOf1 (args : Array Value) (w : World) : (callFunc 76 args).run Try.prog w = .ok (.enter 76 args) w := by kernel_rfl

set_option maxRecDepth 100000 in
theorem partsOf1_any {v : Value} {xs : List C} {w : World} (h : Reads w v (cvals xs)) (hw : WfC xs) (m r B0 B1 : Nat) (h1 : 1 ≤ m) (h2 : m ≤ 64) (hr : r < m) (hl : xs.length ≤ 256) (c0 : w.cell? ⟨B0, 0, none⟩ = some v) (c1 : w.cell? ⟨B1, 0, none⟩ = some (.int .i64 m)) :
    Calls Try.prog 76 #[.int .i64 r, .pointer (some ⟨B0, 0, none⟩), .pointer (some ⟨B1, 0, none⟩)] w fun e w2 =>
      ∃ v y, e = .returned v ∧ Row w2 w.heap.size 30 v (cvals y) ∧ y.length = cntP xs.length r m ∧ (∀ j, j < cntP xs.length r m → IsC (y.getD j (0, 0)) (polQ xs m r j)) ∧ Below w.heap.size w w2 := by
  have E := Lib.hid (everyN_any h m r (by omega) hr (by omega) (by omega))
  have HQ : Hid (∀ j, j < cntP xs.length r m → IsC ((partN xs r m (cntP xs.length r m)).getD j (0, 0)) (polQ xs m r j)) := fun j hj => partN_isC hw (by omega) hj
  obtain ⟨a, cap, rfl⟩ := cform h
  clear h hw
  go_enter Try.func76, Try.ntmps76
  go_wp2_with fail
  refine E.out.mono ?_
  rintro e w2 ⟨v', rfl, hx, hb⟩
  have HX := Lib.hid hx
  have HB := Lib.hid hb
  clear hx hb E
  go_wp2
  go_ret
  exact ⟨_, _, rfl, HX.out, partN_length _ _ _ _, HQ.out, HB.out⟩

set_option maxRecDepth 100000 in
theorem partsOf_any {v : Value} {xs : List C} {w : World} (h : Reads w v (cvals xs)) (hw : WfC xs) (m : Nat) (h1 : 1 ≤ m) (h2 : m ≤ 64) (hl : xs.length ≤ 256) :
    Calls Try.prog 49 #[v, .int .i64 m] w fun e w' => ∃ V vs bs, e = .returned V ∧ MadeR w' w.heap.size (fun b => cntP xs.length b m) V vs bs (polQ xs m) ∧ vs.length = m ∧ Below w.heap.size w w' := by
  have H := Lib.hid h
  obtain ⟨a, cap, e⟩ := cform h
  obtain ⟨W, hW⟩ : ∃ W, (w.alloc (.cells #[v] 24)).alloc (.cells #[.int .i64 m] 2) = W := ⟨_, rfl⟩
  have hb0 : Below w.heap.size w W := by rw [← hW]; exact ((Below.refl _ _).alloc (Nat.le_refl _) _).alloc (by simp) _
  have hs : W.heap.size = w.heap.size + 2 := by rw [← hW]; simp
  have c0 : W.cell? ⟨w.heap.size, 0, none⟩ = some v := by rw [← hW]; go_simp
  have c1 : W.cell? ⟨w.heap.size + 1, 0, none⟩ = some (.int .i64 m) := by rw [← hW]; go_simp
  have HL : Hid (Calls Try.prog 75 #[.int .i64 m, .func (.func 76) #[] #[.pointer (some ⟨w.heap.size, 0, none⟩), .pointer (some ⟨w.heap.size + 1, 0, none⟩)]] W fun e w' =>
      ∃ V vs bs, e = .returned V ∧ MadeR w' w.heap.size (fun b => cntP xs.length b m) V vs bs (polQ xs m) ∧ vs.length = m ∧ Below w.heap.size w w') := by
    refine (listOf_rowsR _ _ m (fun b => cntP xs.length b m) (by omega) (polQ xs m) W enter_partsOf1 (fun i w1 hi hbw => ?_)).mono ?_
    · have hr := (H.out.below hb0).below (hbw.mono (Nat.le_refl _))
      exact partsOf1_any hr hw m i _ _ h1 h2 hi hl (by rw [hbw.cell (by show w.heap.size < _; omega)]; exact c0) (by rw [hbw.cell (by show w.heap.size + 1 < _; omega)]; exact c1)
    · rintro e w' ⟨V, vs, ys, rfl, hm, hl, hb⟩
      exact ⟨V, vs, ys, rfl, ⟨hm.row.base (by omega), fun b hb => ⟨(hm.each b hb).1.base (by omega), (hm.each b hb).2⟩⟩, hl, hb0.trans (hb.mono (by omega))⟩
  have HW := Lib.hid hW
  subst e
  clear h hb0 hs c0 c1 hW hw
  go_enter Try.func49, Try.ntmps49
  go_wp2_with fail
  rw [HW.out]
  refine HL.out.mono ?_
  rintro e w' ⟨V, vs, ys, rfl, hm⟩
  have HM := Lib.hid hm
  clear hm HL
  go_wp2
  go_ret
  exact ⟨_, vs, ys, rfl, HM.out⟩

end Go.Proofs.Ytocjhanehphibaa
/-
  Polyphase of both; Interleave.
-/
set_option linter.unusedVariables false
set_option linter.unusedSimpArgs false
namespace Go.Proofs.Ytocjhanehphibaa
open Go.RowKit Flt Fast

set_option maxRecDepth 100000 in
theorem polyphase_impl {v : Value} {xs : List C} {w : World} (h : Reads w v (cvals xs)) (hw : WfC xs) (m : Nat) (h1 : 1 ≤ m) (h2 : m ≤ 64) (hl : xs.length ≤ 256) :
    Calls Try.prog 18 #[v, .int .i64 m] w (PolTo xs m w) := by
  have E := Lib.hid (partsOf_any h hw m h1 h2 hl)
  have K := Lib.hid (fun w => isStep_t m h1 h2 w)
  obtain ⟨a, cap, rfl⟩ := cform h
  rw [cvals_length] at E ⊢
  obtain ⟨L, hL⟩ : ∃ L, xs.length = L := ⟨_, rfl⟩
  have HQ : Hid (PolTo xs m w = fun e w' => ∃ V vs bs, e = .returned (.tuple #[V, .int .i64 0]) ∧ MadeR w' w.heap.size (fun b => cntP L b m) V vs bs (polQ xs m) ∧ vs.length = m ∧ Below w.heap.size w w') := by
    rw [← hL]; exact Lib.hid rfl
  rw [HQ.out]
  rw [hL] at E hl ⊢
  have g : decide ((256 : Int) < (L : Int)) = false := by simp <;> omega
  clear h hL HQ
  go_enter Try.func18, Try.ntmps18
  go_wp2_with fail
  refine (K.out _).mono ?_
  rintro e w' ⟨rfl, rfl⟩
  go_wp2_with fail
  refine E.out.mono ?_
  rintro e w2 ⟨V, vs, bs, rfl, hx⟩
  have HX := Lib.hid hx
  clear hx E
  go_wp2
  go_ret2
  exact ⟨_, vs, bs, rfl, HX.out⟩

set_option maxRecDepth 100000 in
set_option maxHeartbeats 4000000 in
theorem polyphase_spec {v : Value} {xs : List C} {w : World} (h : Reads w v (cvals xs)) (hw : WfC xs) (m : Nat) (h1 : 1 ≤ m) (h2 : m ≤ 64) (hl : xs.length ≤ 256) :
    Calls Try.prog 19 #[v, .int .i64 m] w (PolTo xs m w) := by
  obtain ⟨j0, hj, hy0, hy1, hy2⟩ := info_parts info_rws
  have E : Hid (∀ r W, r < m → Below w.heap.size w W → Calls Try.prog 51 #[v, .int .i64 m, .int .i64 r] W fun e w' => ∃ u y, e = .returned u ∧ Row w' W.heap.size 30 u (cvals y) ∧ y.length = cntP xs.length r m ∧ (∀ j, j < cntP xs.length r m → IsC (y.getD j (0, 0)) (polQ xs m r j)) ∧ Below W.heap.size W w') :=
    Lib.hid fun r W hr hb => (decN_spec (h.below hb) m r (by omega) hr (by omega) (by omega)).mono fun e w' ⟨u, he, hx, hb'⟩ => ⟨u, _, he, hx, partN_length _ _ _ _, fun j hj => partN_isC hw (by omega) hj, hb'⟩
  have K := Lib.hid (fun w => step_t m h1 h2 w)
  obtain ⟨a, cap, rfl⟩ := cform h
  rw [cvals_length] at E ⊢
  obtain ⟨L, hL⟩ : ∃ L, xs.length = L := ⟨_, rfl⟩
  have HQ : Hid (PolTo xs m w = fun e w' => ∃ V vs bs, e = .returned (.tuple #[V, .int .i64 0]) ∧ MadeR w' w.heap.size (fun b => cntP L b m) V vs bs (polQ xs m) ∧ vs.length = m ∧ Below w.heap.size w w') := by
    rw [← hL]; exact Lib.hid rfl
  rw [HQ.out]
  rw [hL] at E hl ⊢
  obtain ⟨q, hq⟩ : ∃ q, polQ xs m = q := ⟨_, rfl⟩
  obtain ⟨n, hn⟩ : ∃ n, (fun b => cntP L b m) = n := ⟨_, rfl⟩
  have hn' : ∀ b, cntP L b m = n b := fun b => by rw [← hn]
  rw [hq] at E
  rw [hq, hn]
  simp only [hn'] at E
  have g : decide ((256 : Int) < (L : Int)) = false := by simp <;> omega
  clear h hL HQ hw hq hn hn'
  go_enter Try.func19, Try.ntmps19
  go_wp2_with fail
  refine (K.out _).mono ?_
  rintro e w' ⟨rfl, rfl⟩
  go_wp2
  go_loopw [6, 7] (fun V bI wr => ∃ (b : Nat) (vs : List Value) (bs : Nat → List Go.Proofs.Ytocjhanehphibaa.C), bI = .int .i64 b ∧ b ≤ m ∧ vs.length = b ∧ MadeR wr w'.heap.size n V vs bs q ∧ Below w'.heap.size w' wr) (fun _ bI _ => m - (intOf bI).toNat)
  case atStart => exact ⟨0, [], fun _ => [], rfl, Nat.zero_le _, rfl, ⟨World.ownsRow_lit w' #[] 0 (Nat.le_refl _) (by unfold maxLen; omega) rfl, fun b hb => by simp at hb⟩, (Below.refl _ _).alloc (Nat.le_refl _) _⟩
  case round =>
    obtain ⟨b, vs, bs, rfl, hb, hvs, hmd, hbw⟩ := hrel
    have HVS := Lib.hid hvs
    have HMD := Lib.hid hmd
    have HBW := Lib.hid hbw
    clear hvs hmd hbw
    by_cases hlt : b < m
    · have S := Lib.hid (E.out b wr hlt HBW.out)
      go_wp2_with fail
      refine S.out.mono ?_
      rintro e w2 ⟨u, y, rfl, hu, hyl, hyq, hb2⟩
      have hsz := HBW.out.size
      have h2 := below_step HBW.out hb2 hsz
      obtain ⟨ua, uc, rfl⟩ := cform hu.reads
      obtain ⟨N, hN⟩ : ∃ N, (cvals y).length = N := ⟨_, rfl⟩
      rw [hN] at hu ⊢
      have hba : Below w2.heap.size w2 (w2.alloc (.cells #[.slice ua N uc] 24)) := (Below.refl _ _).alloc (Nat.le_refl _) _
      have HM3 := Lib.hid ((HMD.out.below hb2).below hba)
      have HVR := Lib.hid HM3.out.row
      have HR3 := Lib.hid ((hu.base hsz).alloc (.cells #[.slice ua N uc] 24))
      have HYL := Lib.hid hyl
      have HYQ := Lib.hid hyq
      have HB2 := Lib.hid h2
      have hsz2 : w'.heap.size ≤ w2.heap.size := h2.size
      clear hba hu hyl hyq hb2 h2 hN HMD HBW S
      have hvl : vs.length = b := HVS.out
      go_wp2_with (at_builtin; refine wpList_append_own _ rfl _ _ 38 rfl w'.heap.size 24 j0 (.slice none 0 0) 1 24 Try.underlying38 hj hy0 hy1 hy2 rfl (by decide) _ _ _ rfl HVR.out ⟨_, 0, none⟩ 1 1 [.slice ua N uc] rfl rfl (cell_one_new _ _ _) (by intro u hu; simp at hu; subst hu; rfl) (by simp only [maxLen]; omega) (by omega) (by simp; omega) ?_)
      intro V' w3 hown' hgrow _
      have hown2 : Row w3 w'.heap.size 24 V' (vs ++ [.slice ua N uc]) := by
        show w3.ownsRow _ _ _ _ _ _
        rw [List.length_append, hvl]
        exact hown'
      have hnext := HM3.out.next HR3.out (by rw [hvl]; exact HYL.out) (by rw [hvl]; exact HYQ.out) hgrow hown2
      have HNX := Lib.hid hnext
      have hb3 := (HB2.out.alloc hsz2 (.cells #[.slice ua N uc] 24)).grown hgrow (by simp; omega) (fun b e => (HVR.out.lt b e).1)
      have HB3 := Lib.hid hb3
      have HVL : Hid ((vs ++ [Value.slice ua N uc]).length = b + 1) := Lib.hid (by rw [List.length_append, hvl]; rfl)
      clear hown' hgrow hown2 hnext hb3 HVR HM3 HR3 HB2 hvl
      go_wp2
      go_roundw
      case rel => first | exact ⟨b + 1, _, _, by go_num, by omega, HVL.out, HNX.out, HB3.out⟩ | ((repeat apply Exists.intro); refine ⟨?_, rfl⟩; exact ⟨b + 1, _, _, by go_num, by omega, HVL.out, HNX.out, HB3.out⟩)
      case measure => simp [intOf]; omega
    · have e : b = m := by omega
      subst e
      obtain ⟨va, vc, rfl⟩ := cform HMD.out.row.reads
      go_wp2
      go_ret2
      exact ⟨_, vs, bs, rfl, HMD.out, HVS.out, HBW.out⟩

/-- All lengths together. -/
def lenS (n : Nat → Nat) : Nat → Nat
  | 0 => 0
  | c + 1 => lenS n c + n c
theorem lenS_mono (n : Nat → Nat) {a b : Nat} (h : a ≤ b) : lenS n a ≤ lenS n b := by
  induction b with
  | zero => rw [Nat.le_zero.1 h]; exact Nat.le_refl _
  | succ b ih =>
    by_cases e : a = b + 1
    · rw [e]; exact Nat.le_refl _
    · exact Nat.le_trans (ih (by omega)) (Nat.le_add_right _ _)
theorem lenS_le (n : Nat → Nat) {b c : Nat} (h : b < c) : n b ≤ lenS n c := Nat.le_trans (Nat.le_add_left _ _) (lenS_mono n h)

set_option maxRecDepth 100000 in
theorem lengthOfAll_any {w : World} {V : Value} {vs : List Value} {bs : Nat → List C} {q : Nat → Nat → Z} {n : Nat → Nat} (h : LBlkR w V vs bs q n) (hc : vs.length ≤ 64) (hl : lenS n vs.length ≤ 1000000) :
    Calls Try.prog 77 #[V] w fun e w' => e = .returned (.int .i64 (lenS n vs.length : Nat)) ∧ w' = w := by
  obtain ⟨a, cap, rfl, hf⟩ := h.find
  obtain ⟨c, hvc⟩ : ∃ c, vs.length = c := ⟨_, rfl⟩
  rw [hvc] at hf hc hl ⊢
  have HF := Lib.hid hf
  clear h hf hvc
  go_enter Try.func77, Try.ntmps77
  go_wp2
  go_loopw [3, 8] (fun s i wr => ∃ k S : Nat, i = .int .i64 k ∧ s = .int .i64 S ∧ S = lenS n k ∧ k ≤ c ∧ wr = w) (fun _ i _ => c - (intOf i).toNat)
  case atStart => exact ⟨0, 0, rfl, rfl, rfl, Nat.zero_le _, rfl⟩
  case round =>
    obtain ⟨k, S, rfl, rfl, hS, hk, hw⟩ := hrel
    subst hw
    by_cases hlt : k < c
    · obtain ⟨g, ab, cb, rfl, hg, hcell, -⟩ := HF.out k hlt
      have hm := lenS_mono n (show k + 1 ≤ c by omega)
      have hn : lenS n (k + 1) = S + n k := by rw [hS]; rfl
      obtain ⟨N, hN⟩ : ∃ N, n k = N := ⟨_, rfl⟩
      rw [hN] at hcell hn
      have HN := Lib.hid hn
      have hSb : S + N ≤ 1000000 := by omega
      clear hN hg hS hm hn hl
      go_wp2
      go_roundw
      case rel => exact ⟨k + 1, S + N, by go_num, by go_num, HN.out.symm, by omega, by first | trivial | rfl⟩
      case measure => simp [intOf]; omega
    · have e : k = c := by omega
      subst e
      have HS := Lib.hid hS
      clear hS
      go_wp2
      go_ret
      exact ⟨by rw [HS.out]; rfl, rfl⟩

end Go.Proofs.Ytocjhanehphibaa
