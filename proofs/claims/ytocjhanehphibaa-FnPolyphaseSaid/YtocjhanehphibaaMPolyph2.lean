/-
  Several texts of this claim, one behind the other; each says what it holds.
-/
import Derived.Test.YtocjhanehphibaaMPolyph1
import Derived.WalkKit
import Derived.WalkSpells
import Derived.WalkLawsBesides
import Derived.Deep.Draws
import Derived.Test.YtocjhanehphibaaRows
import Derived.Lib.Hide
import Derived.Deep.QuietTactic
import Derived.BigQuiet
/-
  Turns as a plain function of two naturals: no program.
-/
set_option linter.unusedVariables false
set_option linter.unusedSimpArgs false
namespace Go.Proofs.Ytocjhanehphibaa
open Go Flt
namespace Turn

abbrev O := Option Nat
def oneO : O := some 4607182418800017408
def zeroO : O := some 0
def halfRoot : O := some 4604544271217802189
def twoPi : O := some 4618760256179416344
def ofI (n : Int) : O := some (floatOfInt .f64 n)

def cI (m : Int) : Int := (2 * m - 1) * 2 * m
def sI (m : Int) : Int := 2 * m * (2 * m + 1)

/-- The series of the real part, behind j of its nine rounds. -/
def cosR (y : O) : Nat → O
  | 0 => oneO
  | j + 1 => fop .sub .f64 oneO (fop .mul .f64 (fop .quo .f64 y (ofI (cI (9 - (j : Int))))) (cosR y j))
/-- That of the imaginary part. -/
def sinR (y : O) : Nat → O
  | 0 => oneO
  | j + 1 => fop .sub .f64 oneO (fop .mul .f64 (fop .quo .f64 y (ofI (sI (9 - (j : Int))))) (sinR y j))

def argO (n k : Nat) : O := fop .quo .f64 (fop .mul .f64 twoPi (ofI k)) (ofI n)
def serO (n k : Nat) : O × O :=
  let x := argO n k
  let y := fop .mul .f64 x x
  (cosR y 9, fop .mul .f64 (sinR y 9) x)

/-- How many of the rules 2 to 4 are still to come, at most. -/
def rank (n k : Nat) : Nat := if 8 * k ≤ n then 0 else if 4 * k ≤ n then 1 else if 2 * k ≤ n then 2 else 3

/-- The turn of a fraction in lowest terms, rule by rule. -/
def low (rec : Nat → Nat → O × O) (n k : Nat) : O × O :=
  if k = 0 then (oneO, zeroO)
  else if n < 2 * k then let z := rec n (n - k); (z.1, fneg .f64 z.2)
  else if n < 4 * k then let z := rec (2 * n) (n - 2 * k); (fneg .f64 z.1, z.2)
  else if n < 8 * k then let z := rec (4 * n) (n - 4 * k); (z.2, z.1)
  else if 8 * k = n then (halfRoot, halfRoot)
  else serO n k

def turnF : Nat → Nat → Nat → O × O
  | 0, _, _ => (none, none)
  | f + 1, n, k => low (turnF f) (n / n.gcd k) (k / n.gcd k)

/-- The turn k of n. -/
def turn (n k : Nat) : O × O := turnF 4 n k

theorem rank_red {n k : Nat} (hn : 0 < n) : rank (n / n.gcd k) (k / n.gcd k) = rank n k := by
  have hg : 0 < n.gcd k := Nat.gcd_pos_of_pos_left _ hn
  obtain ⟨a, ha⟩ := Nat.gcd_dvd_left n k
  obtain ⟨b, hb⟩ := Nat.gcd_dvd_right n k
  generalize hG : n.gcd k = g at *
  subst ha hb
  rw [Nat.mul_div_cancel_left _ hg, Nat.mul_div_cancel_left _ hg]
  unfold rank
  have e : ∀ c : Nat, (c * (g * b) ≤ g * a) = (c * b ≤ a) := fun c => by
    rw [show c * (g * b) = g * (c * b) by rw [Nat.mul_left_comm]]
    exact propext (Nat.mul_le_mul_left_iff hg)
  simp only [e]

theorem rank_le (n k : Nat) : rank n k ≤ 3 := by unfold rank; split <;> (try split) <;> (try split) <;> omega

/-- The fuel does not matter if it is enough. -/
theorem turnF_fuel : ∀ (r f f' n k : Nat), rank n k ≤ r → r ≤ f → r ≤ f' → 0 < n → k ≤ n → turnF (f + 1) n k = turnF (f' + 1) n k := by
  intro r
  induction r with
  | zero =>
    intro f f' n k hr hf hf' hn hk
    have h := hr; rw [← rank_red hn] at h
    simp only [turnF]
    generalize n / n.gcd k = n1 at *
    generalize k / n.gcd k = k1 at *
    unfold rank at h
    have h8 : 8 * k1 ≤ n1 := by
      apply Classical.byContradiction; intro hc
      rw [if_neg hc] at h
      split at h
      · omega
      · split at h <;> omega
    unfold low
    split
    · rfl
    · have a2 : ¬ n1 < 2 * k1 := by omega
      have a4 : ¬ n1 < 4 * k1 := by omega
      have a8 : ¬ n1 < 8 * k1 := by omega
      simp only [if_neg a2, if_neg a4, if_neg a8]
  | succ r ih =>
    intro f f' n k hr hf hf' hn hk
    obtain ⟨f, rfl⟩ : ∃ g, f = g + 1 := ⟨f - 1, by omega⟩
    obtain ⟨f', rfl⟩ : ∃ g, f' = g + 1 := ⟨f' - 1, by omega⟩
    have h := hr; rw [← rank_red hn] at h
    have hg : 0 < n.gcd k := Nat.gcd_pos_of_pos_left _ hn
    have hn1 : 0 < n / n.gcd k := Nat.div_pos (Nat.le_of_dvd hn (Nat.gcd_dvd_left n k)) hg
    have hk1 : k / n.gcd k ≤ n / n.gcd k := Nat.div_le_div_right hk
    show low (turnF (f + 1)) _ _ = low (turnF (f' + 1)) _ _
    generalize n / n.gcd k = n1 at *
    generalize k / n.gcd k = k1 at *
    unfold low
    split
    · rfl
    · rename_i h0
      split
      · rename_i h2
        have hr2 : rank n1 (n1 - k1) ≤ r := by
          unfold rank at h ⊢
          rw [if_neg (by omega), if_neg (by omega), if_neg (by omega)] at h
          split <;> (try split) <;> (try split) <;> omega
        rw [ih f f' _ _ hr2 (by omega) (by omega) hn1 (by omega)]
      · rename_i h2
        split
        · rename_i h4
          have hr2 : rank (2 * n1) (n1 - 2 * k1) ≤ r := by
            unfold rank at h ⊢
            rw [if_neg (by omega), if_neg (by omega), if_pos (by omega)] at h
            split <;> (try split) <;> (try split) <;> omega
          rw [ih f f' _ _ hr2 (by omega) (by omega) (by omega) (by omega)]
        · rename_i h4
          split
          · rename_i h8
            have hr2 : rank (4 * n1) (n1 - 4 * k1) ≤ r := by
              unfold rank at h ⊢
              rw [if_neg (by omega), if_pos (by omega)] at h
              split <;> (try split) <;> (try split) <;> omega
            rw [ih f f' _ _ hr2 (by omega) (by omega) (by omega) (by omega)]
          · rfl

theorem turnF_eq {f n k : Nat} (hf : rank n k ≤ f) (hn : 0 < n) (hk : k ≤ n) : turnF (f + 1) n k = turn n k :=
  turnF_fuel (rank n k) f 3 n k (Nat.le_refl _) hf (rank_le n k) hn hk

/-- A fraction and the same in lowest terms. -/
theorem turn_red {n k : Nat} (hn : 0 < n) : turn n k = turn (n / n.gcd k) (k / n.gcd k) := by
  have hg : 0 < n.gcd k := Nat.gcd_pos_of_pos_left _ hn
  have e : (n / n.gcd k).gcd (k / n.gcd k) = 1 := by
    rw [Nat.gcd_div (Nat.gcd_dvd_left n k) (Nat.gcd_dvd_right n k)]
    exact Nat.div_self hg
  show low (turnF 3) _ _ = low (turnF 3) _ _
  rw [e, Nat.div_one, Nat.div_one]

theorem low_turn {n k : Nat} (hg : n.gcd k = 1) : turn n k = low (turnF 3) n k := by
  show low (turnF 3) (n / n.gcd k) (k / n.gcd k) = _
  rw [hg, Nat.div_one, Nat.div_one]

theorem turn_zero {n k : Nat} (hg : n.gcd k = 1) (h : k = 0) : turn n k = (oneO, zeroO) := by
  rw [low_turn hg]; unfold low; rw [if_pos h]
theorem turn_two {n k : Nat} (hg : n.gcd k = 1) (h0 : k ≠ 0) (hn : 0 < n) (hk : k ≤ n) (h : n < 2 * k) : turn n k = ((turn n (n - k)).1, fneg .f64 (turn n (n - k)).2) := by
  rw [low_turn hg]; unfold low; rw [if_neg h0, if_pos h]
  rw [turnF_eq (f := 2) (by unfold rank; split <;> (try split) <;> (try split) <;> omega) hn (by omega)]
theorem turn_four {n k : Nat} (hg : n.gcd k = 1) (h0 : k ≠ 0) (hn : 0 < n) (h2 : ¬ n < 2 * k) (h : n < 4 * k) : turn n k = (fneg .f64 (turn (2 * n) (n - 2 * k)).1, (turn (2 * n) (n - 2 * k)).2) := by
  rw [low_turn hg]; unfold low; rw [if_neg h0, if_neg h2, if_pos h]
  rw [turnF_eq (f := 2) (by unfold rank; split <;> (try split) <;> (try split) <;> omega) (by omega) (by omega)]
theorem turn_eight {n k : Nat} (hg : n.gcd k = 1) (h0 : k ≠ 0) (hn : 0 < n) (h2 : ¬ n < 2 * k) (h4 : ¬ n < 4 * k) (h : n < 8 * k) : turn n k = ((turn (4 * n) (n - 4 * k)).2, (turn (4 * n) (n - 4 * k)).1) := by
  rw [low_turn hg]; unfold low; rw [if_neg h0, if_neg h2, if_neg h4, if_pos h]
  rw [turnF_eq (f := 2) (by unfold rank; split <;> (try split) <;> (try split) <;> omega) (by omega) (by omega)]
theorem turn_eighth {n k : Nat} (hg : n.gcd k = 1) (h0 : k ≠ 0) (h2 : ¬ n < 2 * k) (h4 : ¬ n < 4 * k) (h8 : ¬ n < 8 * k) (h : 8 * k = n) : turn n k = (halfRoot, halfRoot) := by
  rw [low_turn hg]; unfold low; rw [if_neg h0, if_neg h2, if_neg h4, if_neg h8, if_pos h]
theorem turn_series {n k : Nat} (hg : n.gcd k = 1) (h0 : k ≠ 0) (h2 : ¬ n < 2 * k) (h4 : ¬ n < 4 * k) (h8 : ¬ n < 8 * k) (h : 8 * k ≠ n) : turn n k = serO n k := by
  rw [low_turn hg]; unfold low; rw [if_neg h0, if_neg h2, if_neg h4, if_neg h8, if_neg h]

end Turn
end Go.Proofs.Ytocjhanehphibaa
/-
  Words that the walks of this seat share.
-/
set_option linter.unusedVariables false
set_option linter.unusedSimpArgs false
namespace Go.Proofs.Ytocjhanehphibaa
open Go.RowKit

/-- A slice of integers that came in: nil, or a row of cells. -/
def IsRow (k : IntKind) (w : World) (a : Option Addr) (len cap : Nat) (zs : List Int) : Prop :=
  (a = none ∧ len = 0 ∧ cap = 0 ∧ zs = []) ∨
  ∃ x, a = some x ∧ len ≤ cap ∧ cap ≤ maxLen ∧ zs.length = cap ∧ (∀ i, i < zs.length → w.cell? (x.add i) = some (.int k (zs.getD i 0))) ∧ ∀ n ∈ zs, (Lit.int k n).wf = true


theorem below_draws {B : Nat} {a w : World} (h : Below B a w) (n : Nat) : Below B a (w.drewN n) := ⟨h.os, h.tape, h.output, h.size, h.block⟩

end Go.Proofs.Ytocjhanehphibaa
/-
  What the four functions on bits give (they have no body: the model runs them itself).
-/
set_option linter.unusedVariables false
set_option linter.unusedSimpArgs false
namespace Go.Proofs.Ytocjhanehphibaa
open Go.RowKit

@[go_sem] theorem run_frombits64 (n : Int) (w : World) : (callFunc 113 #[.int .u64 n]).run Try.prog w = .ok (.value (.float .f64 n.toNat)) w := by kernel_rfl
@[go_sem] theorem run_bits64 (b : Nat) (w : World) : (callFunc 99 #[.float .f64 b]).run Try.prog w = .ok (.value (.int .u64 (b : Int))) w := by kernel_rfl

@[go_sem] theorem run_store_float {P : Program} (w : World) (a : Addr) (m : Mode) (k : FloatKind) (x : Nat) : (store a (.float k x) m).run P w = stored P w a (.float k x) m := run_store P w a _ m rfl
@[go_sem] theorem run_store_complex {P : Program} (w : World) (a : Addr) (m : Mode) (k : FloatKind) (x y : Nat) : (store a (.complex k x y) m).run P w = stored P w a (.complex k x y) m := run_store P w a _ m rfl
@[go_sem] theorem unary_neg_float (k : FloatKind) (b : Nat) : Op.unary .neg (.float k b) = pure (.float k (Op.negFloat k b)) := rfl
@[go_sem] theorem unary_neg_complex (k : FloatKind) (a b : Nat) : Op.unary .neg (.complex k a b) = pure (.complex k (Op.negFloat k a) (Op.negFloat k b)) := rfl

end Go.Proofs.Ytocjhanehphibaa
/-
  Slices of one-cell elements that the call itself has made.
-/
set_option linter.unusedVariables false
set_option linter.unusedSimpArgs false
namespace Go.Proofs.Ytocjhanehphibaa
open Go.RowKit

/-- A slice that owns these values, each a cell. -/
def Row (w : World) (B : Nat) (e : TypeId) (v : Value) (cs : List Value) : Prop := w.ownsRow B e 1 v cs.length cs

section
variable {w w' : World} {B : Nat} {e : TypeId} {v : Value} {cs : List Value} {a : Option Addr} {g L cap j : Nat}

theorem Row.len (h : Row w B e (.slice a L cap) cs) : cs.length = L := by
  rcases h.2 with ⟨e, e'⟩ | ⟨g, cap, cur, e, _⟩
  · simp only [Value.slice.injEq] at e; omega
  · simp only [Value.slice.injEq] at e; exact e.2.1.symm

theorem Row.cellAt (h : Row w B e (.slice (some ⟨g, 0, none⟩) L cap) cs) (hj : j < L) : w.cell? ⟨g, j, none⟩ = some (cs.getD j undef) := by
  have hl := h.len
  subst hl
  rw [World.ownsRow.cellAt h j (by omega)]
  simp [List.getD, hj]

theorem Row.frozenAt (h : Row w B e (.slice (some ⟨g, 0, none⟩) L cap) cs) (j : Nat) : w.frozen? ⟨g, j, none⟩ = false := by
  have hl := h.len
  subst hl
  exact World.ownsRow.frozenAt h j

theorem Row.set (h : Row w B e (.slice (some ⟨g, 0, none⟩) L cap) cs) (j : Nat) (u : Value) :
    Row (w.setCell ⟨g, j, none⟩ u) B e (.slice (some ⟨g, 0, none⟩) L cap) (cs.set j u) ∧ w.grownBy (w.setCell ⟨g, j, none⟩ u) (some g) := by
  have hl := h.len
  subst hl
  have := World.ownsRow.stored h j u
  unfold Row
  rw [List.length_set]
  exact this

theorem Row.kept {row : Option Nat} (h : Row w B e v cs) (hg : w.grownBy w' row) (hne : v.ownBlock = none ∨ v.ownBlock ≠ row) : Row w' B e v cs := World.ownsRow.kept h hg hne
theorem Row.alloc (h : Row w B e v cs) (o : Obj) : Row (w.alloc o) B e v cs := World.ownsRow.alloc h o
theorem Row.drewN (h : Row w B e v cs) (n : Nat) : Row (w.drewN n) B e v cs := h

/-- What was there stays, behind whatever leaves the blocks below B as they were, if the row lies below. -/
theorem Row.below {B' : Nat} (h : Row w B e v cs) (hb : Below B' w w') (hv : ∀ k, v.ownBlock = some k → k < B') : Row w' B e v cs := by
  refine ⟨h.1, ?_⟩
  rcases h.2 with hn | ⟨g, cap, cur, rfl, hbb, hgg, rest⟩
  · exact .inl hn
  · refine .inr ⟨g, cap, cur, rfl, hbb, ?_, rest⟩
    rw [hb.block g (hv g (by simp [Value.ownBlock]))]
    exact hgg

theorem Row.lt (h : Row w B e v cs) : ∀ k, v.ownBlock = some k → B ≤ k ∧ k < w.heap.size := World.ownsRow.lt h

/-- The two forms of such a slice. -/
theorem Row.shape (h : Row w B e v cs) :
    (∃ a cap, v = .slice a 0 cap ∧ cs = []) ∨ ∃ g cap, v = .slice (some ⟨g, 0, none⟩) cs.length cap ∧ 0 < cs.length ∧ B ≤ g ∧ g < w.heap.size ∧ cs.length ≤ cap ∧ cap ≤ maxLen := by
  by_cases h0 : cs = []
  · subst h0
    rcases h.2 with ⟨e, _⟩ | ⟨g, cap, cur, e, _⟩
    · exact .inl ⟨none, 0, e, rfl⟩
    · exact .inl ⟨_, cap, e, rfl⟩
  · have hp : 0 < cs.length := List.length_pos_iff.2 h0
    rcases h.2 with ⟨_, e⟩ | ⟨g, cap, cur, e, hb, hg, hnc, hcm, _⟩
    · omega
    · subst e
      exact .inr ⟨g, cap, rfl, hp, hb, (Array.getElem?_eq_some_iff.1 hg).1, hnc, hcm⟩

end

theorem maxLen_int {n : Nat} (h : n ≤ maxLen) : (n : Int) ≤ 9223372036854775807 := by
  have := h
  simp only [maxLen] at this
  omega

/-- A slice as the walk reads it: nothing in it, or a row whose cells can be read. -/
inductive Reads (w : World) : Value → List Value → Prop
  | none (a : Option Addr) (cap : Nat) : Reads w (.slice a 0 cap) []
  | row (g cap L : Nat) (cs : List Value) (hL : cs.length = L) (h0 : 0 < L) (hc : L ≤ cap) (hm : cap ≤ maxLen) (h : ∀ j, j < L → w.cell? ⟨g, j, Option.none⟩ = some (cs.getD j undef)) : Reads w (.slice (some ⟨g, 0, Option.none⟩) L cap) cs

theorem Row.reads {w : World} {B : Nat} {e : TypeId} {v : Value} {cs : List Value} (h : Row w B e v cs) : Reads w v cs := by
  have h' := h
  rcases h.shape with ⟨a, cap, rfl, rfl⟩ | ⟨g, cap, rfl, h0, _, _, h1, h2⟩
  · exact .none a cap
  · exact .row g cap _ cs rfl h0 h1 h2 (fun j hj => h'.cellAt hj)

theorem Reads.drewN {w : World} {v : Value} {cs : List Value} (h : Reads w v cs) (n : Nat) : Reads (w.drewN n) v cs := by
  cases h with
  | none a cap => exact .none a cap
  | row g cap L cs hL h0 hc hm hh => exact .row g cap L cs hL h0 hc hm hh

theorem getD_map {α : Type} (f : α → Value) (xs : List α) (d : α) {j : Nat} (h : j < xs.length) : (xs.map f).getD j undef = f (xs.getD j d) := by
  simp [List.getD, h]

theorem addr_lit (g j : Nat) : (⟨g, 0, none⟩ : Addr).add j = ⟨g, j, none⟩ := by unfold Addr.add; split <;> simp_all
theorem addr_block (x : Addr) (j : Nat) : (x.add j).block = x.block := by unfold Addr.add; split <;> rfl

end Go.Proofs.Ytocjhanehphibaa
/-
  Rounding: what is written is no farther than half a unit from the number, and the order is kept. No program.
-/
set_option linter.unusedVariables false
set_option linter.unusedSimpArgs false
namespace Go.Proofs.Ytocjhanehphibaa.Flt
section
open Ieee
variable {f : Format}

theorem val_of {q k : Nat} (hq : q = 0 ∨ f.binade ≤ k) (hk : k ≤ 2 * f.binade) : val f (q * f.binade + k) = k * 2 ^ q := by
  have hb := binade_pos f
  by_cases h1 : k < f.binade
  · have h0 : q = 0 := by rcases hq with h | h <;> omega
    subst h0
    simp [val, h1]
  · have hge : f.binade ≤ k := by omega
    unfold val
    have hn : ¬ q * f.binade + k < f.binade := by omega
    rw [if_neg hn]
    by_cases h2 : k < 2 * f.binade
    · have hd : (q * f.binade + k) / f.binade = q + 1 := by
        rw [show q * f.binade + k = (k - f.binade) + (q + 1) * f.binade by rw [Nat.add_mul, Nat.one_mul]; omega, Nat.add_mul_div_right _ _ hb, Nat.div_eq_of_lt (by omega)]
        omega
      have hm : (q * f.binade + k) % f.binade = k - f.binade := by
        rw [show q * f.binade + k = (k - f.binade) + (q + 1) * f.binade by rw [Nat.add_mul, Nat.one_mul]; omega, Nat.add_mul_mod_self_right, Nat.mod_eq_of_lt (by omega)]
      rw [hd, hm, show q + 1 - 1 = q by omega, show f.binade + (k - f.binade) = k by omega]
    · have hk2 : k = 2 * f.binade := by omega
      subst hk2
      have hd : (q * f.binade + 2 * f.binade) / f.binade = q + 2 := by
        rw [← Nat.add_mul, Nat.mul_div_cancel _ hb]
      have hm : (q * f.binade + 2 * f.binade) % f.binade = 0 := by
        rw [← Nat.add_mul, Nat.mul_mod_left]
      rw [hd, hm, show q + 2 - 1 = q + 1 by omega, Nat.add_zero, Nat.pow_succ, Nat.mul_assoc 2, Nat.mul_left_comm 2, Nat.mul_comm 2 (2 ^ q)]

/-- What is cut to the nearest whole number is no farther from it than half a unit. -/
theorem cut_near (neg : Bool) (n drop : Nat) :
    2 * (Toward.even.cut neg n drop) * 2 ^ drop ≤ 2 * n + 2 ^ drop ∧ 2 * n ≤ (2 * (Toward.even.cut neg n drop) + 1) * 2 ^ drop := by
  unfold Toward.cut
  by_cases hd : drop ≤ n.log2 + 2
  · rw [show min drop (n.log2 + 2) = drop by omega, Nat.shiftLeft_eq, Nat.one_mul]
    generalize hg : 2 ^ drop = g
    have hgp : 0 < g := by rw [← hg]; exact Nat.two_pow_pos _
    have e := Nat.div_add_mod n g
    have hm := Nat.mod_lt n hgp
    simp only []
    generalize n / g = low at *
    generalize n % g = rest at *
    by_cases hc : (decide (g < 2 * rest) || g == 2 * rest && low % 2 == 1) = true
    · rw [hc]
      have hge : g ≤ 2 * rest := by
        simp only [Bool.or_eq_true, decide_eq_true_eq, Bool.and_eq_true, beq_iff_eq] at hc
        omega
      simp only [Bool.toNat_true]
      have e1 : 2 * (low + 1) * g = 2 * (g * low) + 2 * g := by rw [Nat.mul_comm g low, Nat.mul_assoc, Nat.add_mul]; omega
      have e2 : (2 * (low + 1) + 1) * g = 2 * (g * low) + 3 * g := by rw [Nat.mul_comm g low, Nat.add_mul, Nat.mul_assoc, Nat.add_mul]; omega
      omega
    · have hc : (decide (g < 2 * rest) || g == 2 * rest && low % 2 == 1) = false := by simpa using hc
      rw [hc]
      have hge : 2 * rest ≤ g := by
        simp only [Bool.or_eq_false_iff, decide_eq_false_iff_not] at hc
        omega
      simp only [Bool.toNat_false, Nat.add_zero]
      have e1 : 2 * low * g = 2 * (g * low) := by rw [Nat.mul_comm g low, Nat.mul_assoc]
      have e2 : (2 * low + 1) * g = 2 * (g * low) + g := by rw [Nat.mul_comm g low, Nat.add_mul, Nat.mul_assoc]; omega
      omega
  · rw [show min drop (n.log2 + 2) = n.log2 + 2 by omega, Nat.shiftLeft_eq, Nat.one_mul]
    have hlt : n < 2 ^ (n.log2 + 1) := Nat.lt_log2_self
    have h2 : 2 ^ (n.log2 + 2) = 2 * 2 ^ (n.log2 + 1) := by rw [Nat.pow_succ, Nat.mul_comm]
    have h3 : 2 ^ (n.log2 + 2) ≤ 2 ^ drop := Nat.pow_le_pow_right (by omega) (by omega)
    have e1 : n / 2 ^ (n.log2 + 2) = 0 := Nat.div_eq_of_lt (by omega)
    have e2 : n % 2 ^ (n.log2 + 2) = n := Nat.mod_eq_of_lt (by omega)
    simp only [e1, e2]
    have hc : (decide (2 ^ (n.log2 + 2) < 2 * n) || 2 ^ (n.log2 + 2) == 2 * n && 0 % 2 == 1) = false := by
      simp; omega
    rw [hc]
    simp only [Bool.toNat_false, Nat.add_zero, Nat.mul_zero, Nat.zero_mul, Nat.zero_add, Nat.one_mul]
    omega

/-- The rung to which a number is rounded. -/
def rungOf (f : Format) (m : Nat) (p : Int) : Nat :=
  if m = 0 then 0 else
  let last := max (p + m.log2 - f.fractionBits) f.leastPlace
  min ((last - f.leastPlace).toNat * f.binade + Toward.even.cut false (m <<< (p - last).toNat) (last - p).toNat) f.infRung

theorem cut_neg (neg : Bool) (n drop : Nat) : Toward.even.cut neg n drop = Toward.even.cut false n drop := rfl

theorem nearest_rung (neg : Bool) (m : Nat) (p : Int) : f.nearest neg m p = f.word neg (rungOf f m p) := by
  unfold Format.nearest rungOf
  split
  · rfl
  · rfl

/-- A number in units of 2^base. -/
def at_ (m : Nat) (p base : Int) : Nat := m * 2 ^ (p - base).toNat

/-- HOW A NUMBER IS ROUNDED: its rung is L binades and k, where k units of 2^(leastPlace + L) are nearest to it. -/
theorem rung_spec {m : Nat} {p base : Int} (hm : m ≠ 0) (h1 : base ≤ p) (h2 : base ≤ f.leastPlace) :
    ∃ L k : Nat, rungOf f m p = min (L * f.binade + k) f.infRung ∧ (L = 0 ∨ f.binade ≤ k) ∧ k ≤ 2 * f.binade ∧
      2 * k * (2 ^ L * 2 ^ (f.leastPlace - base).toNat) ≤ 2 * at_ m p base + 2 ^ L * 2 ^ (f.leastPlace - base).toNat ∧
      2 * at_ m p base ≤ (2 * k + 1) * (2 ^ L * 2 ^ (f.leastPlace - base).toNat) ∧
      (L ≠ 0 → f.binade * (2 ^ L * 2 ^ (f.leastPlace - base).toNat) ≤ at_ m p base) := by
  unfold rungOf
  rw [if_neg hm]
  simp only []
  generalize hlast : max (p + m.log2 - f.fractionBits) f.leastPlace = last
  have hl1 : f.leastPlace ≤ last := by omega
  have hl2 : p + m.log2 - f.fractionBits ≤ last := by omega
  obtain ⟨c1, c2⟩ := cut_near false (m <<< (p - last).toNat) (last - p).toNat
  generalize hk : Toward.even.cut false (m <<< (p - last).toNat) (last - p).toNat = k at *
  obtain ⟨L, hL⟩ : ∃ L, (last - f.leastPlace).toNat = L := ⟨_, rfl⟩
  obtain ⟨d, hd⟩ : ∃ d, (last - p).toNat = d := ⟨_, rfl⟩
  obtain ⟨W, hW⟩ : ∃ W, 2 ^ L * 2 ^ (f.leastPlace - base).toNat = W := ⟨_, rfl⟩
  have hW' : W = 2 ^ (last - base).toNat := by rw [← hW, ← Nat.pow_add]; congr 1; omega
  have hWp : 0 < W := by rw [hW']; exact Nat.two_pow_pos _
  rw [hL]
  refine ⟨L, k, rfl, ?_⟩
  rw [hW]
  rw [hd] at c1 c2
  have hn : (m <<< (p - last).toNat) * W = at_ m p base * 2 ^ d := by
    rw [Nat.shiftLeft_eq, hW']
    unfold at_
    rw [Nat.mul_assoc, Nat.mul_assoc, ← Nat.pow_add, ← Nat.pow_add]
    congr 2
    omega
  generalize (m <<< (p - last).toNat) = n at *
  have hgp : 0 < 2 ^ d := Nat.two_pow_pos _
  generalize hM : at_ m p base = M at *
  have k1 : 2 * k * W ≤ 2 * M + W := by
    have := Nat.mul_le_mul_right W c1
    rw [Nat.add_mul, Nat.mul_assoc 2 n W, hn] at this
    apply Nat.le_of_mul_le_mul_right (c := 2 ^ d) _ hgp
    calc 2 * k * W * 2 ^ d = 2 * k * 2 ^ d * W := by rw [Nat.mul_right_comm]
      _ ≤ 2 * (M * 2 ^ d) + 2 ^ d * W := this
      _ = (2 * M + W) * 2 ^ d := by rw [Nat.add_mul, Nat.mul_assoc, Nat.mul_comm (2 ^ d) W]
  have k2 : 2 * M ≤ (2 * k + 1) * W := by
    have := Nat.mul_le_mul_right W c2
    rw [Nat.mul_assoc 2 n W, hn] at this
    apply Nat.le_of_mul_le_mul_right (c := 2 ^ d) _ hgp
    calc 2 * M * 2 ^ d = 2 * (M * 2 ^ d) := by rw [Nat.mul_assoc]
      _ ≤ (2 * k + 1) * 2 ^ d * W := this
      _ = (2 * k + 1) * W * 2 ^ d := by rw [Nat.mul_right_comm]
  have lo := Nat.log2_self_le hm
  have hi := Nat.lt_log2_self (n := m)
  have hMlt : M < 2 * f.binade * W := by
    rw [← hM, hW']
    unfold at_ Format.binade
    calc m * 2 ^ (p - base).toNat < 2 ^ (m.log2 + 1) * 2 ^ (p - base).toNat := Nat.mul_lt_mul_of_pos_right hi (Nat.two_pow_pos _)
      _ = 2 ^ (m.log2 + 1 + (p - base).toNat) := by rw [← Nat.pow_add]
      _ ≤ 2 ^ (1 + f.fractionBits + (last - base).toNat) := Nat.pow_le_pow_right (by omega) (by omega)
      _ = 2 * 2 ^ f.fractionBits * 2 ^ (last - base).toNat := by rw [Nat.pow_add, Nat.pow_add]
  have hbig : L ≠ 0 → f.binade * W ≤ M := by
    intro hne
    have hle : last = p + m.log2 - f.fractionBits := by omega
    rw [← hM, hW']
    unfold at_ Format.binade
    calc 2 ^ f.fractionBits * 2 ^ (last - base).toNat = 2 ^ (m.log2 + (p - base).toNat) := by rw [← Nat.pow_add]; congr 1; omega
      _ = 2 ^ m.log2 * 2 ^ (p - base).toNat := by rw [Nat.pow_add]
      _ ≤ m * 2 ^ (p - base).toNat := Nat.mul_le_mul_right _ lo
  refine ⟨?_, ?_, k1, k2, hbig⟩
  · by_cases h0 : L = 0
    · exact .inl h0
    · right
      have hb := hbig h0
      have : 2 * (f.binade * W) ≤ (2 * k + 1) * W := Nat.le_trans (Nat.mul_le_mul_left 2 hb) k2
      rw [← Nat.mul_assoc] at this
      have := Nat.le_of_mul_le_mul_right this hWp
      omega
  · have h3 : 2 * k * W < (4 * f.binade + 1) * W := by
      have e : (4 * f.binade + 1) * W = 2 * (2 * f.binade * W) + W := by rw [Nat.add_mul, Nat.one_mul, show 4 * f.binade * W = 2 * (2 * f.binade * W) by rw [← Nat.mul_assoc, ← Nat.mul_assoc]]
      omega
    have := Nat.lt_of_mul_lt_mul_right h3
    omega

/-- A number that is no greater than that of a rung is rounded to it or below. -/
theorem rung_le {m R : Nat} {p base : Int} (h1 : base ≤ p) (h2 : base ≤ f.leastPlace) (h : at_ m p base ≤ val f R * 2 ^ (f.leastPlace - base).toNat) : rungOf f m p ≤ R := by
  by_cases hm : m = 0
  · unfold rungOf; rw [if_pos hm]; exact Nat.zero_le _
  obtain ⟨L, k, hr, hq, hk, k1, k2, hb⟩ := rung_spec (f := f) hm h1 h2
  rw [hr]
  obtain ⟨U, hU⟩ : ∃ U, 2 ^ (f.leastPlace - base).toNat = U := ⟨_, rfl⟩
  have hUp : 0 < U := by rw [← hU]; exact Nat.two_pow_pos _
  rw [hU] at h k1 k2 hb
  generalize at_ m p base = M at *
  refine Nat.le_trans (Nat.min_le_left _ _) ?_
  apply Nat.le_of_not_lt
  intro hlt
  have hv := val_lt f hlt
  rw [val_of hq hk] at hv
  have hLp : 0 < 2 ^ L := Nat.two_pow_pos _
  -- the rung's number is a whole number of 2^L, or it is less than a binade of them
  have hcase : (∃ K, val f R = K * 2 ^ L) ∨ (L ≠ 0 ∧ val f R < f.binade * 2 ^ L) := by
    by_cases h0 : R = 0
    · left; exact ⟨0, by rw [h0, val_zero]; simp⟩
    obtain ⟨j, q, hj0, hj, hjq, he, hv'⟩ := rung_parts (f := f) h0
    by_cases hLq : L ≤ q
    · left
      exact ⟨j * 2 ^ (q - L), by rw [hv', Nat.mul_assoc, ← Nat.pow_add, Nat.sub_add_cancel hLq]⟩
    · right
      refine ⟨by omega, ?_⟩
      rw [hv']
      have e : 2 ^ L = 2 ^ (L - q - 1) * (2 * 2 ^ q) := by
        rw [← Nat.mul_assoc, ← Nat.pow_succ, ← Nat.pow_add]; congr 1; omega
      have hge : 1 ≤ 2 ^ (L - q - 1) := Nat.two_pow_pos _
      calc j * 2 ^ q < 2 * f.binade * 2 ^ q := Nat.mul_lt_mul_of_pos_right hj (Nat.two_pow_pos _)
        _ = 1 * (f.binade * (2 * 2 ^ q)) := by rw [Nat.one_mul, Nat.mul_left_comm, Nat.mul_assoc]
        _ ≤ 2 ^ (L - q - 1) * (f.binade * (2 * 2 ^ q)) := Nat.mul_le_mul_right _ hge
        _ = f.binade * 2 ^ L := by rw [e, Nat.mul_left_comm]
  rcases hcase with ⟨K, hK⟩ | ⟨h0, hlt2⟩
  · rw [hK] at hv h
    have hKk : K < k := Nat.lt_of_mul_lt_mul_right hv
    have h3 : 2 * (K + 1) * (2 ^ L * U) ≤ 2 * k * (2 ^ L * U) := Nat.mul_le_mul_right _ (by omega)
    have e : 2 * (K + 1) * (2 ^ L * U) = 2 * (K * 2 ^ L * U) + 2 * (2 ^ L * U) := by rw [Nat.mul_assoc K, Nat.mul_assoc, Nat.add_mul, Nat.one_mul, Nat.mul_add]
    have hpos : 0 < 2 ^ L * U := Nat.mul_pos hLp hUp
    omega
  · have := hb h0
    have h4 : val f R * U < f.binade * 2 ^ L * U := Nat.mul_lt_mul_of_pos_right hlt2 hUp
    rw [← Nat.mul_assoc] at this
    omega

/-- A number that is no less than that of a rung is rounded to it or above. -/
theorem le_rung {m R : Nat} {p base : Int} (h1 : base ≤ p) (h2 : base ≤ f.leastPlace) (hR : R ≤ f.infRung) (h : val f R * 2 ^ (f.leastPlace - base).toNat ≤ at_ m p base) : R ≤ rungOf f m p := by
  by_cases hR0 : R = 0
  · rw [hR0]; exact Nat.zero_le _
  by_cases hm : m = 0
  · exfalso
    have hv : 0 < val f R := by have := val_lt f (r := 0) (s := R) (by omega); rw [val_zero] at this; exact this
    have : 0 < val f R * 2 ^ (f.leastPlace - base).toNat := Nat.mul_pos hv (Nat.two_pow_pos _)
    unfold at_ at h
    rw [hm, Nat.zero_mul] at h
    omega
  obtain ⟨L, k, hr, hq, hk, k1, k2, hb⟩ := rung_spec (f := f) hm h1 h2
  rw [hr]
  obtain ⟨U, hU⟩ : ∃ U, 2 ^ (f.leastPlace - base).toNat = U := ⟨_, rfl⟩
  have hUp : 0 < U := by rw [← hU]; exact Nat.two_pow_pos _
  rw [hU] at h k1 k2 hb
  generalize at_ m p base = M at *
  refine Nat.le_min.2 ⟨?_, hR⟩
  apply Nat.le_of_not_lt
  intro hlt
  have hv := val_lt f hlt
  rw [val_of hq hk] at hv
  have hLp : 0 < 2 ^ L := Nat.two_pow_pos _
  obtain ⟨j, q, hj0, hj, hjq, he, hv'⟩ := rung_parts (f := f) hR0
  by_cases hLq : L ≤ q
  · have hK : val f R = j * 2 ^ (q - L) * 2 ^ L := by rw [hv', Nat.mul_assoc, ← Nat.pow_add, Nat.sub_add_cancel hLq]
    generalize j * 2 ^ (q - L) = K at hK
    rw [hK] at hv h
    have hKk : k < K := Nat.lt_of_mul_lt_mul_right hv
    have h3 : (2 * k + 2) * (2 ^ L * U) ≤ 2 * (K * (2 ^ L * U)) := by
      have : (2 * k + 2) * (2 ^ L * U) ≤ 2 * K * (2 ^ L * U) := Nat.mul_le_mul_right _ (by omega)
      rwa [Nat.mul_assoc 2 K] at this
    rw [Nat.mul_assoc] at h
    have e : (2 * k + 2) * (2 ^ L * U) = (2 * k + 1) * (2 ^ L * U) + 2 ^ L * U := by rw [← Nat.succ_mul]
    have hpos : 0 < 2 ^ L * U := Nat.mul_pos hLp hUp
    omega
  · have hkb : f.binade ≤ k := by rcases hq with h | h <;> omega
    have e : 2 ^ L = 2 ^ (L - q - 1) * (2 * 2 ^ q) := by
      rw [← Nat.mul_assoc, ← Nat.pow_succ, ← Nat.pow_add]; congr 1; omega
    have hge : 1 ≤ 2 ^ (L - q - 1) := Nat.two_pow_pos _
    have : val f R < k * 2 ^ L := by
      rw [hv']
      calc j * 2 ^ q < 2 * f.binade * 2 ^ q := Nat.mul_lt_mul_of_pos_right hj (Nat.two_pow_pos _)
        _ = 1 * (f.binade * (2 * 2 ^ q)) := by rw [Nat.one_mul, Nat.mul_left_comm, Nat.mul_assoc]
        _ ≤ 2 ^ (L - q - 1) * (f.binade * (2 * 2 ^ q)) := Nat.mul_le_mul_right _ hge
        _ = f.binade * 2 ^ L := by rw [e, Nat.mul_left_comm]
        _ ≤ k * 2 ^ L := Nat.mul_le_mul_right _ hkb
    omega

end
end Go.Proofs.Ytocjhanehphibaa.Flt
/-
  Sums and products in any order, and with the other sign, up to the choice of a NaN. No program is named here.
-/
set_option linter.unusedVariables false
set_option linter.unusedSimpArgs false
namespace Go.Proofs.Ytocjhanehphibaa
open Go Flt
namespace Flt
open Ieee

theorem sum_comm (a b : Datum) : a.sum b = b.sum a := by
  cases a <;> cases b <;> simp only [Datum.sum]
  · rename_i s m i t n j
    simp only [Option.some.injEq, Datum.number.injEq]
    rw [Int.min_comm j i, Int.add_comm (signed t n _) (signed s m _), Bool.and_comm t s]
    exact ⟨rfl, rfl, rfl⟩
  · rename_i s t
    by_cases h : s = t
    · subst h; rfl
    · rw [if_neg h, if_neg (fun e => h e.symm)]

theorem product_comm (a b : Datum) : a.product b = b.product a := by
  cases a <;> cases b <;> simp only [Datum.product]
  · simp only [Option.some.injEq, Datum.number.injEq]
    exact ⟨Bool.xor_comm _ _, Nat.mul_comm _ _, Int.add_comm _ _⟩
  · rw [Bool.xor_comm]

theorem add_comm' (k : FloatKind) (x y : Nat) : floatBits .add k x y = floatBits .add k y x := by
  show Option.map _ _ = Option.map _ _
  rw [sum_comm]
theorem mul_comm' (k : FloatKind) (x y : Nat) : floatBits .mul k x y = floatBits .mul k y x := by
  show Option.map _ _ = Option.map _ _
  rw [product_comm]
theorem fop_add_comm (k : FloatKind) (a b : Option Nat) : fop .add k a b = fop .add k b a := by
  cases a <;> cases b <;> simp only [fop]
  exact add_comm' _ _ _
theorem fop_mul_comm (k : FloatKind) (a b : Option Nat) : fop .mul k a b = fop .mul k b a := by
  cases a <;> cases b <;> simp only [fop]
  exact mul_comm' _ _ _

/-- The word of the other sign stands for the opposite. -/
theorem read_neg {x : Nat} (h : x < 18446744073709551616) : double.read (Op.negFloat .f64 x) = (double.read x).opposite := by
  have e : ∃ s r, x / double.signWeight % 2 = s ∧ x % double.signWeight = r ∧ (s = 0 ∧ Op.negFloat .f64 x / double.signWeight % 2 = 1 ∨ s = 1 ∧ Op.negFloat .f64 x / double.signWeight % 2 = 0) ∧ Op.negFloat .f64 x % double.signWeight = r := by
    have hw : double.signWeight = 9223372036854775808 := by decide
    rw [hw]
    have e1 : Op.negFloat .f64 x = x ^^^ 2 ^ 63 := rfl
    rw [e1]
    by_cases h1 : x < 9223372036854775808
    · rw [neg64_lo h1]; exact ⟨_, _, rfl, rfl, by omega, by omega⟩
    · rw [neg64_hi (by omega) h]; exact ⟨_, _, rfl, rfl, by omega, by omega⟩
  obtain ⟨s, r, e1, e2, e3, e4⟩ := e
  unfold Format.read
  rw [e1, e2, e4]
  rcases e3 with ⟨rfl, e3⟩ | ⟨rfl, e3⟩ <;> rw [e3] <;> simp only <;> split <;> first | rfl | (split <;> first | rfl | (split <;> rfl))

theorem word_neg (b : Bool) {r : Nat} (h : r ≤ double.infRung) : double.word (!b) r = Op.negFloat .f64 (double.word b r) := by
  have h1 : r < 9223372036854775808 := Nat.lt_of_le_of_lt h (by decide)
  have e1 : ∀ x, Op.negFloat .f64 x = x ^^^ 2 ^ 63 := fun _ => rfl
  have hw : double.signWeight = 9223372036854775808 := by decide
  unfold Format.word
  rw [e1, hw]
  cases b
  · simp only [Bool.not_false, if_true, Bool.false_eq_true, if_false]
    rw [neg64_lo h1]; omega
  · simp only [Bool.not_true, if_true, Bool.false_eq_true, if_false]
    rw [neg64_hi (by omega) (by omega)]; omega

theorem nearest_neg (b : Bool) (m : Nat) (p : Int) : double.nearest (!b) m p = Op.negFloat .f64 (double.nearest b m p) := by
  unfold Format.nearest
  by_cases hm : m = 0
  · rw [if_pos hm, if_pos hm]; exact word_neg b (Nat.zero_le _)
  · rw [if_neg hm, if_neg hm]
    exact word_neg b (Nat.min_le_right _ _)

theorem write_opp {d : Datum} (h : d.isNaN = false) : double.write d.opposite = Op.negFloat .f64 (double.write d) := by
  cases d with
  | number s m p => exact nearest_neg s m p
  | infinity s => exact word_neg s (Nat.le_refl _)
  | nan => cases h

theorem product_num2 {a b d : Datum} (h : a.product b = some d) : d.isNaN = false := by
  cases a <;> cases b <;> simp only [Datum.product] at h <;> first | (cases h; done) | (cases h; rfl) | (split at h <;> first | (cases h; done) | (cases h; rfl))
theorem sum_num2 {a b d : Datum} (h : a.sum b = some d) : d.isNaN = false := by
  cases a <;> cases b <;> simp only [Datum.sum] at h <;> first | (cases h; done) | (cases h; rfl) | (split at h <;> first | (cases h; done) | (cases h; rfl))

theorem product_opp (a b : Datum) : a.product b.opposite = (a.product b).map Datum.opposite := by
  cases a <;> cases b <;> simp only [Datum.product, Datum.opposite, Option.map] <;> first | rfl | (simp [Datum.opposite]; done) | (split <;> simp [Datum.opposite])

theorem mul_neg' {x y : Nat} (h : y < 18446744073709551616) : floatBits .mul .f64 x (Op.negFloat .f64 y) = (floatBits .mul .f64 x y).map (Op.negFloat .f64) := by
  show Option.map double.write ((double.read x).product (double.read (Op.negFloat .f64 y))) = Option.map _ (Option.map double.write ((double.read x).product (double.read y)))
  rw [read_neg h, product_opp]
  cases e : (double.read x).product (double.read y) with
  | none => rfl
  | some d => exact congrArg some (write_opp (product_num2 e))

theorem opp_opp (d : Datum) : d.opposite.opposite = d := by cases d <;> simp [Datum.opposite]
theorem sub_neg' {x y : Nat} (h : y < 18446744073709551616) : floatBits .sub .f64 x (Op.negFloat .f64 y) = floatBits .add .f64 x y := by
  show Option.map double.write ((double.read x).sum (double.read (Op.negFloat .f64 y)).opposite) = Option.map double.write ((double.read x).sum (double.read y))
  rw [read_neg h, opp_opp]

theorem sum_opp (d : Datum) : d.opposite.sum d = none ∨ ∃ p, d.opposite.sum d = some (.number false 0 p) := by
  cases d with
  | nan => exact .inl rfl
  | infinity s => left; cases s <;> rfl
  | number s m p =>
    right
    have e : signed (!s) m (p - min p p).toNat + signed s m (p - min p p).toNat = 0 := by
      unfold signed
      cases s <;> simp <;> omega
    refine ⟨min p p, ?_⟩
    simp only [Datum.sum, Datum.opposite]
    rw [e]
    cases s <;> rfl

theorem neg_add_self {x : Nat} (h : x < 18446744073709551616) : floatBits .add .f64 (Op.negFloat .f64 x) x = none ∨ floatBits .add .f64 (Op.negFloat .f64 x) x = some 0 := by
  have e : floatBits .add .f64 (Op.negFloat .f64 x) x = Option.map double.write ((double.read x).opposite.sum (double.read x)) := by
    show Option.map double.write ((double.read (Op.negFloat .f64 x)).sum (double.read x)) = _
    rw [read_neg h]
  rw [e]
  rcases sum_opp (double.read x) with e1 | ⟨p, e1⟩ <;> rw [e1]
  · exact .inl rfl
  · right; rfl

/-- A float up to NaN that has a word. -/
def WfO (a : Option Nat) : Prop := ∀ x, a = some x → x < 18446744073709551616
theorem wfO_fop (op : BinOp) (a b : Option Nat) : WfO (fop op .f64 a b) := by
  intro x h
  cases a <;> cases b <;> simp only [fop] at h <;> first | (cases h; done) | (have := floatBits_wf h; simpa [Lit.wf] using this)
theorem IsF.wfO {u : Nat} {a : Option Nat} (h : IsF u a) : WfO a := by
  intro x e
  have h1 := h.cn
  unfold Flt.cn at h1
  rw [e] at h1
  split at h1
  · cases h1
  · cases h1; exact h.lt
theorem wfO_neg {a : Option Nat} (h : WfO a) : WfO (fneg .f64 a) := by
  intro x e
  cases a with
  | none => cases e
  | some y => cases e; exact negFloat64_lt (h y rfl)
theorem fop_mul_neg {a b : Option Nat} (h : WfO b) : fop .mul .f64 a (fneg .f64 b) = fneg .f64 (fop .mul .f64 a b) := by
  cases a <;> cases b <;> first | rfl | exact mul_neg' (h _ rfl)
theorem fop_sub_neg {a b : Option Nat} (h : WfO b) : fop .sub .f64 a (fneg .f64 b) = fop .add .f64 a b := by
  cases a <;> cases b <;> first | rfl | exact sub_neg' (h _ rfl)
theorem fop_neg_add {a : Option Nat} (h : WfO a) : fop .add .f64 (fneg .f64 a) a = none ∨ fop .add .f64 (fneg .f64 a) a = some 0 := by
  cases a with
  | none => exact .inl rfl
  | some x => exact neg_add_self (h x rfl)
theorem fop_zero_add {a b : Option Nat} (ha : a = none ∨ a = some 0) (hb : b = none ∨ b = some 0) : fop .add .f64 a b = none ∨ fop .add .f64 a b = some 0 := by
  rcases ha with rfl | rfl <;> rcases hb with rfl | rfl
  · exact .inl rfl
  · exact .inl rfl
  · exact .inl rfl
  · right; decide +kernel
end Flt
end Go.Proofs.Ytocjhanehphibaa
/-
  Signals of wide complex numbers: as values, and what they stand for up to the choice of NaNs.
-/
set_option linter.unusedVariables false
set_option linter.unusedSimpArgs false
namespace Go.Proofs.Ytocjhanehphibaa
open Go.RowKit Flt

namespace Fast
abbrev Z := Option Nat × Option Nat
def mulZ (a b : Z) : Z := (fop .sub .f64 (fop .mul .f64 a.1 b.1) (fop .mul .f64 a.2 b.2), fop .add .f64 (fop .mul .f64 a.1 b.2) (fop .mul .f64 a.2 b.1))
def addZ (a b : Z) : Z := (fop .add .f64 a.1 b.1, fop .add .f64 a.2 b.2)
def subZ (a b : Z) : Z := (fop .sub .f64 a.1 b.1, fop .sub .f64 a.2 b.2)
def z0 : Z := (some 0, some 0)

end Fast
open Fast
abbrev C := Nat × Nat
/-- Complex numbers as values. -/
def cval (p : C) : Value := .complex .f64 p.1 p.2
def cvals (xs : List C) : List Value := xs.map cval
theorem cvals_length (xs : List C) : (cvals xs).length = xs.length := by simp [cvals]
theorem cvals_getD {xs : List C} {j : Nat} (h : j < xs.length) : (cvals xs).getD j undef = .complex .f64 (xs.getD j (0, 0)).1 (xs.getD j (0, 0)).2 := getD_map _ xs (0, 0) h

/-- A complex number, up to the choice of NaNs. -/
structure IsC (p : C) (z : Option Nat × Option Nat) : Prop where
  re : IsF p.1 z.1
  im : IsF p.2 z.2

theorem info_c128 : (Try.prog.info? 30).map (fun i => (i.zero, i.size, i.bytes)) = some (some (.complex .f64 0 0), 1, 16) := by kernel_rfl

theorem grown_new {w w1 w2 : World} {row : Option Nat} {B : Nat} (h : w.grownBy w1 row) (k : w1.grownBy w2 (some B)) (hB : w.heap.size ≤ B) : w.grownBy w2 row :=
  ⟨k.os.trans h.os, k.tape.trans h.tape, k.output.trans h.output, Nat.le_trans h.size k.size, fun j hj hr => (k.block j (Nat.lt_of_lt_of_le hj h.size) (by simp; omega)).trans (h.block j hj hr)⟩

theorem cvals_snoc (xs : List C) (p : C) : cvals (xs ++ [p]) = cvals xs ++ [cval p] := by simp [cvals]

/-- The next place of a row that is being filled. -/
theorem fill_step {xs : List C} {p : C} {n k : Nat} (hk : k < n) (hx : xs.length = k) (z : Value) :
    (cvals xs ++ List.replicate (n - k) z).set k (cval p) = cvals (xs ++ [p]) ++ List.replicate (n - (k + 1)) z := by
  rw [List.set_append_right _ _ (by rw [cvals_length]; omega), cvals_length, hx, Nat.sub_self, cvals_snoc]
  obtain ⟨m, hm⟩ : ∃ m, n - k = m + 1 := ⟨n - k - 1, by omega⟩
  rw [hm, List.replicate_succ, List.set_cons_zero, show n - (k + 1) = m by omega, List.append_assoc]
  rfl

theorem fill_good {xs : List C} {p : C} {k : Nat} {z : Nat → Option Nat × Option Nat} (hx : xs.length = k) (hg : ∀ i, i < k → IsC (xs.getD i (0, 0)) (z i)) (hp : IsC p (z k)) :
    (xs ++ [p]).length = k + 1 ∧ ∀ i, i < k + 1 → IsC ((xs ++ [p]).getD i (0, 0)) (z i) := by
  refine ⟨by simp [hx], fun i hi => ?_⟩
  rcases Nat.lt_or_eq_of_le (Nat.le_of_lt_succ hi) with h | h
  · rw [show (xs ++ [p]).getD i (0, 0) = xs.getD i (0, 0) by simp [List.getD, List.getElem?_append_left, hx, h]]
    exact hg i h
  · subst h
    rw [show (xs ++ [p]).getD i (0, 0) = p by simp [List.getD, ← hx]]
    exact hp

/-- A complex number is returned, likewise. -/
def RetC (z : Option Nat × Option Nat) (w : World) (e : Ending) (w' : World) : Prop := ∃ a b, e = .returned (.complex .f64 a b) ∧ IsF a z.1 ∧ IsF b z.2 ∧ ∃ n, w' = w.drewN n

/-- What complex numbers stand for. -/
def zOf (p : C) : Z := (cn .f64 p.1, cn .f64 p.2)
def zsOf (xs : List C) : List Z := xs.map zOf
def WfC (xs : List C) : Prop := ∀ p ∈ xs, p.1 < 18446744073709551616 ∧ p.2 < 18446744073709551616
theorem zsOf_length (xs : List C) : (zsOf xs).length = xs.length := by simp [zsOf]
theorem zsOf_getD {xs : List C} {j : Nat} (h : j < xs.length) : (zsOf xs).getD j z0 = zOf (xs.getD j (0, 0)) := by simp [zsOf, List.getD, h]
theorem isC_zOf {p : C} (h : p.1 < 18446744073709551616 ∧ p.2 < 18446744073709551616) : IsC p (zOf p) := ⟨⟨rfl, h.1⟩, ⟨rfl, h.2⟩⟩
theorem getD_memC {xs : List C} {j : Nat} (h : j < xs.length) : xs.getD j (0, 0) ∈ xs := by
  rw [List.getD_eq_getElem?_getD, List.getElem?_eq_getElem h]
  exact List.getElem_mem h
theorem isC_getD {xs : List C} {j : Nat} (hw : WfC xs) (h : j < xs.length) : IsC (xs.getD j (0, 0)) ((zsOf xs).getD j z0) := by
  rw [zsOf_getD h]; exact isC_zOf (hw _ (getD_memC h))

theorem Row.base {w : World} {B B' : Nat} {e : TypeId} {v : Value} {cs : List Value} (h : Row w B' e v cs) (hB : B ≤ B') : Row w B e v cs := by
  refine ⟨h.1, ?_⟩
  rcases h.2 with hn | ⟨g, cap, cur, rfl, hb, r⟩
  · exact .inl hn
  · exact .inr ⟨g, cap, cur, rfl, Nat.le_trans hB hb, r⟩


end Go.Proofs.Ytocjhanehphibaa
/-
  The walks of the model's turns.
-/
set_option linter.unusedVariables false
set_option linter.unusedSimpArgs false
namespace Go.Proofs.Ytocjhanehphibaa
open Go.RowKit Flt Turn

/-- A float is returned, and nothing has turned but the count of draws. -/
def RetF (z : Option Nat) (w : World) (e : Ending) (w' : World) : Prop := ∃ r, e = .returned (.float .f64 r) ∧ IsF r z ∧ ∃ n, w' = w.drewN n

theorem isF_one : IsF 4607182418800017408 oneO := IsF.lit (by decide) (by omega)
theorem isF_zero : IsF 0 zeroO := IsF.lit (by decide) (by omega)

theorem divisor_any (n k : Nat) (hn : n ≤ 4611686018427387904) (hk : k ≤ 4611686018427387904) (w : World) :
    Calls Try.prog 92 #[.int .i64 n, .int .i64 k] w fun e w' => e = .returned (.int .i64 ((n.gcd k : Nat) : Int)) ∧ w' = w := by
  go_enter Try.func92, Try.ntmps92
  go_wp2
  go_loopw [0, 1] (fun p q wr => ∃ a b : Nat, p = .int .i64 a ∧ q = .int .i64 b ∧ a ≤ 4611686018427387904 ∧ b ≤ 4611686018427387904 ∧ a.gcd b = n.gcd k ∧ wr = w) (fun _ q _ => (intOf q).toNat)
  case atStart => exact ⟨n, k, rfl, rfl, hn, hk, rfl, rfl⟩
  case round =>
    obtain ⟨a, b, rfl, rfl, ha, hb, hg, rfl⟩ := hrel
    have HG := Lib.hid hg
    clear hg
    by_cases hb0 : b = 0
    · subst hb0
      have HA : Hid (a = n.gcd k) := by have := HG.out; rwa [Nat.gcd_zero_right] at this
      clear HG
      go_wp2
      go_ret
      exact ⟨by rw [← HA.out]; rfl, rfl⟩
    · have hb1 : ¬ (b : Int) = 0 := by omega
      obtain ⟨r, hr⟩ : ∃ r, a % b = r := ⟨_, rfl⟩
      have hr1 : (a : Int) % (b : Int) = (r : Int) := by rw [← hr]; rfl
      have hr2 : (a : Int).tmod (b : Int) = (r : Int) := by rw [← hr]; rfl
      have hrb : r < b := by rw [← hr]; exact Nat.mod_lt _ (by omega)
      have HG2 : Hid (b.gcd r = n.gcd k) := by
        show b.gcd r = n.gcd k
        rw [← hr, ← HG.out, Nat.gcd_comm a b, Nat.gcd_rec b a, Nat.gcd_comm]
      clear hr HG
      go_wp2
      go_roundw
      case rel => first | exact ⟨b, r, rfl, rfl, hb, by omega, HG2.out, by first | rfl | trivial⟩ | ((repeat apply Exists.intro); refine ⟨?_, rfl⟩; exact ⟨b, r, rfl, rfl, hb, by omega, HG2.out, by first | rfl | trivial⟩)
      case measure => simp [intOf]; omega

set_option maxRecDepth 100000 in
set_option maxHeartbeats 4000000 in
theorem cosine_any (y : Nat) (a : Option Nat) (hy : IsF y a) (w : World) :
    Calls Try.prog 95 #[.float .f64 y] w (RetF (cosR a 9) w) := by
  go_enter Try.func95, Try.ntmps95
  go_wp2
  go_loopw [3, 4] (fun t m wr => ∃ (j n tb : Nat), j ≤ 9 ∧ m = .int .i64 (9 - (j : Int)) ∧ t = .float .f64 tb ∧ IsF tb (cosR a j) ∧ wr = w.drewN n) (fun _ m _ => (intOf m).toNat)
  case atStart => exact ⟨0, 0, _, by omega, rfl, rfl, isF_one, rfl⟩
  case round =>
    obtain ⟨j, n, tb, hj, rfl, rfl, ht, rfl⟩ := hrel
    have HT := Lib.hid ht
    clear ht
    have hc : j = 0 ∨ j = 1 ∨ j = 2 ∨ j = 3 ∨ j = 4 ∨ j = 5 ∨ j = 6 ∨ j = 7 ∨ j = 8 ∨ j = 9 := by omega
    clear hj
    rcases hc with rfl | rfl | rfl | rfl | rfl | rfl | rfl | rfl | rfl | rfl
    · go_wp2_with (first
        | (refine wpList_farith _ rfl .quo (by decide) _ _ _ _ rfl .f64 _ _ rfl rfl ?_; intro r1 n1 hr1 hb1; have HQ := Lib.hid (IsF.op hy (IsF.ofInt _) hr1 hb1); clear hr1 hb1)
        | (refine wpList_farith _ rfl .mul (by decide) _ _ _ _ rfl .f64 _ _ rfl rfl ?_; intro r2 n2 hr2 hb2; have HM := Lib.hid (IsF.op HQ.out HT.out hr2 hb2); clear hr2 hb2)
        | (refine wpList_farith _ rfl .sub (by decide) _ _ _ _ rfl .f64 _ _ rfl rfl ?_; intro r3 n3 hr3 hb3; have HS := Lib.hid (IsF.op isF_one HM.out hr3 hb3); clear hr3 hb3))
      go_roundw
      case rel => exact ⟨1, _, _, by omega, by first | rfl | go_num, rfl, HS.out, rfl⟩
      case measure => simp [intOf]
    · go_wp2_with (first
        | (refine wpList_farith _ rfl .quo (by decide) _ _ _ _ rfl .f64 _ _ rfl rfl ?_; intro r1 n1 hr1 hb1; have HQ := Lib.hid (IsF.op hy (IsF.ofInt _) hr1 hb1); clear hr1 hb1)
        | (refine wpList_farith _ rfl .mul (by decide) _ _ _ _ rfl .f64 _ _ rfl rfl ?_; intro r2 n2 hr2 hb2; have HM := Lib.hid (IsF.op HQ.out HT.out hr2 hb2); clear hr2 hb2)
        | (refine wpList_farith _ rfl .sub (by decide) _ _ _ _ rfl .f64 _ _ rfl rfl ?_; intro r3 n3 hr3 hb3; have HS := Lib.hid (IsF.op isF_one HM.out hr3 hb3); clear hr3 hb3))
      go_roundw
      case rel => exact ⟨2, _, _, by omega, by first | rfl | go_num, rfl, HS.out, rfl⟩
      case measure => simp [intOf]
    · go_wp2_with (first
        | (refine wpList_farith _ rfl .quo (by decide) _ _ _ _ rfl .f64 _ _ rfl rfl ?_; intro r1 n1 hr1 hb1; have HQ := Lib.hid (IsF.op hy (IsF.ofInt _) hr1 hb1); clear hr1 hb1)
        | (refine wpList_farith _ rfl .mul (by decide) _ _ _ _ rfl .f64 _ _ rfl rfl ?_; intro r2 n2 hr2 hb2; have HM := Lib.hid (IsF.op HQ.out HT.out hr2 hb2); clear hr2 hb2)
        | (refine wpList_farith _ rfl .sub (by decide) _ _ _ _ rfl .f64 _ _ rfl rfl ?_; intro r3 n3 hr3 hb3; have HS := Lib.hid (IsF.op isF_one HM.out hr3 hb3); clear hr3 hb3))
      go_roundw
      case rel => exact ⟨3, _, _, by omega, by first | rfl | go_num, rfl, HS.out, rfl⟩
      case measure => simp [intOf]
    · go_wp2_with (first
        | (refine wpList_farith _ rfl .quo (by decide) _ _ _ _ rfl .f64 _ _ rfl rfl ?_; intro r1 n1 hr1 hb1; have HQ := Lib.hid (IsF.op hy (IsF.ofInt _) hr1 hb1); clear hr1 hb1)
        | (refine wpList_farith _ rfl .mul (by decide) _ _ _ _ rfl .f64 _ _ rfl rfl ?_; intro r2 n2 hr2 hb2; have HM := Lib.hid (IsF.op HQ.out HT.out hr2 hb2); clear hr2 hb2)
        | (refine wpList_farith _ rfl .sub (by decide) _ _ _ _ rfl .f64 _ _ rfl rfl ?_; intro r3 n3 hr3 hb3; have HS := Lib.hid (IsF.op isF_one HM.out hr3 hb3); clear hr3 hb3))
      go_roundw
      case rel => exact ⟨4, _, _, by omega, by first | rfl | go_num, rfl, HS.out, rfl⟩
      case measure => simp [intOf]
    · go_wp2_with (first
        | (refine wpList_farith _ rfl .quo (by decide) _ _ _ _ rfl .f64 _ _ rfl rfl ?_; intro r1 n1 hr1 hb1; have HQ := Lib.hid (IsF.op hy (IsF.ofInt _) hr1 hb1); clear hr1 hb1)
        | (refine wpList_farith _ rfl .mul (by decide) _ _ _ _ rfl .f64 _ _ rfl rfl ?_; intro r2 n2 hr2 hb2; have HM := Lib.hid (IsF.op HQ.out HT.out hr2 hb2); clear hr2 hb2)
        | (refine wpList_farith _ rfl .sub (by decide) _ _ _ _ rfl .f64 _ _ rfl rfl ?_; intro r3 n3 hr3 hb3; have HS := Lib.hid (IsF.op isF_one HM.out hr3 hb3); clear hr3 hb3))
      go_roundw
      case rel => exact ⟨5, _, _, by omega, by first | rfl | go_num, rfl, HS.out, rfl⟩
      case measure => simp [intOf]
    · go_wp2_with (first
        | (refine wpList_farith _ rfl .quo (by decide) _ _ _ _ rfl .f64 _ _ rfl rfl ?_; intro r1 n1 hr1 hb1; have HQ := Lib.hid (IsF.op hy (IsF.ofInt _) hr1 hb1); clear hr1 hb1)
        | (refine wpList_farith _ rfl .mul (by decide) _ _ _ _ rfl .f64 _ _ rfl rfl ?_; intro r2 n2 hr2 hb2; have HM := Lib.hid (IsF.op HQ.out HT.out hr2 hb2); clear hr2 hb2)
        | (refine wpList_farith _ rfl .sub (by decide) _ _ _ _ rfl .f64 _ _ rfl rfl ?_; intro r3 n3 hr3 hb3; have HS := Lib.hid (IsF.op isF_one HM.out hr3 hb3); clear hr3 hb3))
      go_roundw
      case rel => exact ⟨6, _, _, by omega, by first | rfl | go_num, rfl, HS.out, rfl⟩
      case measure => simp [intOf]
    · go_wp2_with (first
        | (refine wpList_farith _ rfl .quo (by decide) _ _ _ _ rfl .f64 _ _ rfl rfl ?_; intro r1 n1 hr1 hb1; have HQ := Lib.hid (IsF.op hy (IsF.ofInt _) hr1 hb1); clear hr1 hb1)
        | (refine wpList_farith _ rfl .mul (by decide) _ _ _ _ rfl .f64 _ _ rfl rfl ?_; intro r2 n2 hr2 hb2; have HM := Lib.hid (IsF.op HQ.out HT.out hr2 hb2); clear hr2 hb2)
        | (refine wpList_farith _ rfl .sub (by decide) _ _ _ _ rfl .f64 _ _ rfl rfl ?_; intro r3 n3 hr3 hb3; have HS := Lib.hid (IsF.op isF_one HM.out hr3 hb3); clear hr3 hb3))
      go_roundw
      case rel => exact ⟨7, _, _, by omega, by first | rfl | go_num, rfl, HS.out, rfl⟩
      case measure => simp [intOf]
    · go_wp2_with (first
        | (refine wpList_farith _ rfl .quo (by decide) _ _ _ _ rfl .f64 _ _ rfl rfl ?_; intro r1 n1 hr1 hb1; have HQ := Lib.hid (IsF.op hy (IsF.ofInt _) hr1 hb1); clear hr1 hb1)
        | (refine wpList_farith _ rfl .mul (by decide) _ _ _ _ rfl .f64 _ _ rfl rfl ?_; intro r2 n2 hr2 hb2; have HM := Lib.hid (IsF.op HQ.out HT.out hr2 hb2); clear hr2 hb2)
        | (refine wpList_farith _ rfl .sub (by decide) _ _ _ _ rfl .f64 _ _ rfl rfl ?_; intro r3 n3 hr3 hb3; have HS := Lib.hid (IsF.op isF_one HM.out hr3 hb3); clear hr3 hb3))
      go_roundw
      case rel => exact ⟨8, _, _, by omega, by first | rfl | go_num, rfl, HS.out, rfl⟩
      case measure => simp [intOf]
    · go_wp2_with (first
        | (refine wpList_farith _ rfl .quo (by decide) _ _ _ _ rfl .f64 _ _ rfl rfl ?_; intro r1 n1 hr1 hb1; have HQ := Lib.hid (IsF.op hy (IsF.ofInt _) hr1 hb1); clear hr1 hb1)
        | (refine wpList_farith _ rfl .mul (by decide) _ _ _ _ rfl .f64 _ _ rfl rfl ?_; intro r2 n2 hr2 hb2; have HM := Lib.hid (IsF.op HQ.out HT.out hr2 hb2); clear hr2 hb2)
        | (refine wpList_farith _ rfl .sub (by decide) _ _ _ _ rfl .f64 _ _ rfl rfl ?_; intro r3 n3 hr3 hb3; have HS := Lib.hid (IsF.op isF_one HM.out hr3 hb3); clear hr3 hb3))
      go_roundw
      case rel => exact ⟨9, _, _, by omega, by first | rfl | go_num, rfl, HS.out, rfl⟩
      case measure => simp [intOf]
    · go_wp2
      go_ret
      exact ⟨_, rfl, HT.out, n, rfl⟩

set_option maxRecDepth 100000 in
set_option maxHeartbeats 4000000 in
theorem sine_any (x y : Nat) (c a : Option Nat) (hx : IsF x c) (hy : IsF y a) (w : World) :
    Calls Try.prog 96 #[.float .f64 x, .float .f64 y] w (RetF (fop .mul .f64 (sinR a 9) c) w) := by
  go_enter Try.func96, Try.ntmps96
  go_wp2
  go_loopw [5, 6] (fun t m wr => ∃ (j n tb : Nat), j ≤ 9 ∧ m = .int .i64 (9 - (j : Int)) ∧ t = .float .f64 tb ∧ IsF tb (sinR a j) ∧ wr = w.drewN n) (fun _ m _ => (intOf m).toNat)
  case atStart => exact ⟨0, 0, _, by omega, rfl, rfl, isF_one, rfl⟩
  case round =>
    obtain ⟨j, n, tb, hj, rfl, rfl, ht, rfl⟩ := hrel
    have HT := Lib.hid ht
    clear ht
    have hc : j = 0 ∨ j = 1 ∨ j = 2 ∨ j = 3 ∨ j = 4 ∨ j = 5 ∨ j = 6 ∨ j = 7 ∨ j = 8 ∨ j = 9 := by omega
    clear hj
    rcases hc with rfl | rfl | rfl | rfl | rfl | rfl | rfl | rfl | rfl | rfl
    · go_wp2_with (first
        | (refine wpList_farith _ rfl .quo (by decide) _ _ _ _ rfl .f64 _ _ rfl rfl ?_; intro r1 n1 hr1 hb1; have HQ := Lib.hid (IsF.op hy (IsF.ofInt _) hr1 hb1); clear hr1 hb1)
        | (refine wpList_farith _ rfl .mul (by decide) _ _ _ _ rfl .f64 _ _ rfl rfl ?_; intro r2 n2 hr2 hb2; have HM := Lib.hid (IsF.op HQ.out HT.out hr2 hb2); clear hr2 hb2)
        | (refine wpList_farith _ rfl .sub (by decide) _ _ _ _ rfl .f64 _ _ rfl rfl ?_; intro r3 n3 hr3 hb3; have HS := Lib.hid (IsF.op isF_one HM.out hr3 hb3); clear hr3 hb3))
      go_roundw
      case rel => exact ⟨1, _, _, by omega, by first | rfl | go_num, rfl, HS.out, rfl⟩
      case measure => simp [intOf]
    · go_wp2_with (first
        | (refine wpList_farith _ rfl .quo (by decide) _ _ _ _ rfl .f64 _ _ rfl rfl ?_; intro r1 n1 hr1 hb1; have HQ := Lib.hid (IsF.op hy (IsF.ofInt _) hr1 hb1); clear hr1 hb1)
        | (refine wpList_farith _ rfl .mul (by decide) _ _ _ _ rfl .f64 _ _ rfl rfl ?_; intro r2 n2 hr2 hb2; have HM := Lib.hid (IsF.op HQ.out HT.out hr2 hb2); clear hr2 hb2)
        | (refine wpList_farith _ rfl .sub (by decide) _ _ _ _ rfl .f64 _ _ rfl rfl ?_; intro r3 n3 hr3 hb3; have HS := Lib.hid (IsF.op isF_one HM.out hr3 hb3); clear hr3 hb3))
      go_roundw
      case rel => exact ⟨2, _, _, by omega, by first | rfl | go_num, rfl, HS.out, rfl⟩
      case measure => simp [intOf]
    · go_wp2_with (first
        | (refine wpList_farith _ rfl .quo (by decide) _ _ _ _ rfl .f64 _ _ rfl rfl ?_; intro r1 n1 hr1 hb1; have HQ := Lib.hid (IsF.op hy (IsF.ofInt _) hr1 hb1); clear hr1 hb1)
        | (refine wpList_farith _ rfl .mul (by decide) _ _ _ _ rfl .f64 _ _ rfl rfl ?_; intro r2 n2 hr2 hb2; have HM := Lib.hid (IsF.op HQ.out HT.out hr2 hb2); clear hr2 hb2)
        | (refine wpList_farith _ rfl .sub (by decide) _ _ _ _ rfl .f64 _ _ rfl rfl ?_; intro r3 n3 hr3 hb3; have HS := Lib.hid (IsF.op isF_one HM.out hr3 hb3); clear hr3 hb3))
      go_roundw
      case rel => exact ⟨3, _, _, by omega, by first | rfl | go_num, rfl, HS.out, rfl⟩
      case measure => simp [intOf]
    · go_wp2_with (first
        | (refine wpList_farith _ rfl .quo (by decide) _ _ _ _ rfl .f64 _ _ rfl rfl ?_; intro r1 n1 hr1 hb1; have HQ := Lib.hid (IsF.op hy (IsF.ofInt _) hr1 hb1); clear hr1 hb1)
        | (refine wpList_farith _ rfl .mul (by decide) _ _ _ _ rfl .f64 _ _ rfl rfl ?_; intro r2 n2 hr2 hb2; have HM := Lib.hid (IsF.op HQ.out HT.out hr2 hb2); clear hr2 hb2)
        | (refine wpList_farith _ rfl .sub (by decide) _ _ _ _ rfl .f64 _ _ rfl rfl ?_; intro r3 n3 hr3 hb3; have HS := Lib.hid (IsF.op isF_one HM.out hr3 hb3); clear hr3 hb3))
      go_roundw
      case rel => exact ⟨4, _, _, by omega, by first | rfl | go_num, rfl, HS.out, rfl⟩
      case measure => simp [intOf]
    · go_wp2_with (first
        | (refine wpList_farith _ rfl .quo (by decide) _ _ _ _ rfl .f64 _ _ rfl rfl ?_; intro r1 n1 hr1 hb1; have HQ := Lib.hid (IsF.op hy (IsF.ofInt _) hr1 hb1); clear hr1 hb1)
        | (refine wpList_farith _ rfl .mul (by decide) _ _ _ _ rfl .f64 _ _ rfl rfl ?_; intro r2 n2 hr2 hb2; have HM := Lib.hid (IsF.op HQ.out HT.out hr2 hb2); clear hr2 hb2)
        | (refine wpList_farith _ rfl .sub (by decide) _ _ _ _ rfl .f64 _ _ rfl rfl ?_; intro r3 n3 hr3 hb3; have HS := Lib.hid (IsF.op isF_one HM.out hr3 hb3); clear hr3 hb3))
      go_roundw
      case rel => exact ⟨5, _, _, by omega, by first | rfl | go_num, rfl, HS.out, rfl⟩
      case measure => simp [intOf]
    · go_wp2_with (first
        | (refine wpList_farith _ rfl .quo (by decide) _ _ _ _ rfl .f64 _ _ rfl rfl ?_; intro r1 n1 hr1 hb1; have HQ := Lib.hid (IsF.op hy (IsF.ofInt _) hr1 hb1); clear hr1 hb1)
        | (refine wpList_farith _ rfl .mul (by decide) _ _ _ _ rfl .f64 _ _ rfl rfl ?_; intro r2 n2 hr2 hb2; have HM := Lib.hid (IsF.op HQ.out HT.out hr2 hb2); clear hr2 hb2)
        | (refine wpList_farith _ rfl .sub (by decide) _ _ _ _ rfl .f64 _ _ rfl rfl ?_; intro r3 n3 hr3 hb3; have HS := Lib.hid (IsF.op isF_one HM.out hr3 hb3); clear hr3 hb3))
      go_roundw
      case rel => exact ⟨6, _, _, by omega, by first | rfl | go_num, rfl, HS.out, rfl⟩
      case measure => simp [intOf]
    · go_wp2_with (first
        | (refine wpList_farith _ rfl .quo (by decide) _ _ _ _ rfl .f64 _ _ rfl rfl ?_; intro r1 n1 hr1 hb1; have HQ := Lib.hid (IsF.op hy (IsF.ofInt _) hr1 hb1); clear hr1 hb1)
        | (refine wpList_farith _ rfl .mul (by decide) _ _ _ _ rfl .f64 _ _ rfl rfl ?_; intro r2 n2 hr2 hb2; have HM := Lib.hid (IsF.op HQ.out HT.out hr2 hb2); clear hr2 hb2)
        | (refine wpList_farith _ rfl .sub (by decide) _ _ _ _ rfl .f64 _ _ rfl rfl ?_; intro r3 n3 hr3 hb3; have HS := Lib.hid (IsF.op isF_one HM.out hr3 hb3); clear hr3 hb3))
      go_roundw
      case rel => exact ⟨7, _, _, by omega, by first | rfl | go_num, rfl, HS.out, rfl⟩
      case measure => simp [intOf]
    · go_wp2_with (first
        | (refine wpList_farith _ rfl .quo (by decide) _ _ _ _ rfl .f64 _ _ rfl rfl ?_; intro r1 n1 hr1 hb1; have HQ := Lib.hid (IsF.op hy (IsF.ofInt _) hr1 hb1); clear hr1 hb1)
        | (refine wpList_farith _ rfl .mul (by decide) _ _ _ _ rfl .f64 _ _ rfl rfl ?_; intro r2 n2 hr2 hb2; have HM := Lib.hid (IsF.op HQ.out HT.out hr2 hb2); clear hr2 hb2)
        | (refine wpList_farith _ rfl .sub (by decide) _ _ _ _ rfl .f64 _ _ rfl rfl ?_; intro r3 n3 hr3 hb3; have HS := Lib.hid (IsF.op isF_one HM.out hr3 hb3); clear hr3 hb3))
      go_roundw
      case rel => exact ⟨8, _, _, by omega, by first | rfl | go_num, rfl, HS.out, rfl⟩
      case measure => simp [intOf]
    · go_wp2_with (first
        | (refine wpList_farith _ rfl .quo (by decide) _ _ _ _ rfl .f64 _ _ rfl rfl ?_; intro r1 n1 hr1 hb1; have HQ := Lib.hid (IsF.op hy (IsF.ofInt _) hr1 hb1); clear hr1 hb1)
        | (refine wpList_farith _ rfl .mul (by decide) _ _ _ _ rfl .f64 _ _ rfl rfl ?_; intro r2 n2 hr2 hb2; have HM := Lib.hid (IsF.op HQ.out HT.out hr2 hb2); clear hr2 hb2)
        | (refine wpList_farith _ rfl .sub (by decide) _ _ _ _ rfl .f64 _ _ rfl rfl ?_; intro r3 n3 hr3 hb3; have HS := Lib.hid (IsF.op isF_one HM.out hr3 hb3); clear hr3 hb3))
      go_roundw
      case rel => exact ⟨9, _, _, by omega, by first | rfl | go_num, rfl, HS.out, rfl⟩
      case measure => simp [intOf]
    · go_wp2_with (refine wpList_farith _ rfl .mul (by decide) _ _ _ _ rfl .f64 _ _ rfl rfl ?_; intro r2 n2 hr2 hb2; have HM := Lib.hid (IsF.op HT.out hx hr2 hb2); clear hr2 hb2)
      go_ret
      exact ⟨_, rfl, HM.out, _, rfl⟩

end Go.Proofs.Ytocjhanehphibaa
