/-
  Several texts of this claim, one behind the other; each says what it holds.
-/
import Derived.Test.YtnigbjjllolgdaaMPeaks2
import Derived.Deep.Slices
import Derived.Lib.Hide
/-
  Slices of floats that came in or that the call has made: opened, compared, copied, marked.
-/
set_option linter.unusedVariables false
set_option linter.unusedSimpArgs false
namespace Go.Proofs.Ytnigbjjllolgdaa
open Go.RowKit Flt

section
variable {H : Type} {enc : TypeId × Value → H} {P : Program} {w : World} {base : Nat} {held : Bool}

theorem trod_float {t : TypeId} {k : FloatKind} {spare : Nat → Bool} {fuel : Nat} {cs : List Value} {x : DataW H × List MemPlace} (ht : P.underlying t = some (.float k)) (h : DataW.trod enc P w base spare held fuel t cs = some x) :
    ∃ n, cs = [.float k n] ∧ (Lit.float k n).wf = true := by
  cases fuel with
  | zero => simp [DataW.trod] at h
  | succ n =>
    unfold DataW.trod at h
    rw [ht] at h
    split at h <;> simp_all

end

/-- Floats as values. -/
def flts (zs : List Nat) : List Value := zs.map (Value.float .f64)
theorem flts_length (zs : List Nat) : (flts zs).length = zs.length := by simp [flts]
theorem flts_getD {zs : List Nat} {j : Nat} (h : j < zs.length) : (flts zs).getD j undef = .float .f64 (zs.getD j 0) := getD_map _ zs 0 h
theorem flts_snoc (zs : List Nat) (a : Nat) : flts (zs ++ [a]) = flts zs ++ [.float .f64 a] := by simp [flts]

/-- A slice of floats as the walk reads it, wherever it lies. -/
inductive ReadsF (w : World) : Value → List Nat → Prop
  | none (a : Option Addr) (cap : Nat) : ReadsF w (.slice a 0 cap) []
  | row (x : Addr) (cap L : Nat) (zs : List Nat) (hL : zs.length = L) (h0 : 0 < L) (hc : L ≤ cap) (hm : cap ≤ maxLen) (hz : ∀ z ∈ zs, z < 18446744073709551616) (h : ∀ j, j < L → w.cell? (x.add j) = some (.float .f64 (zs.getD j 0))) : ReadsF w (.slice (some x) L cap) zs

/-- A slice of floats that came in. -/
def IsRowF (w : World) (a : Option Addr) (len cap : Nat) (zs : List Nat) : Prop := ReadsF w (.slice a len cap) zs ∧ (∀ x, a = some x → 0 < len → x.block < w.heap.size)

theorem isRowF_open {H : Type} {enc : TypeId × Value → H} {P : Program} {w : World} {base : Nat} {held : Bool} {t e : TypeId} {fuel : Nat} {a : Option Addr} {len cap : Nat} {x : DataW H × List MemPlace}
    (ht : P.underlying t = some (.slice e)) (he : P.underlying e = some (.float .f64)) (hc : P.cellsOf e = 1) (h : DataW.trod enc P w base (fun _ => true) held fuel t (Value.slice a len cap).cells.toList = some x) : ∃ zs, IsRowF w a len cap zs := by
  have hcs : (Value.slice a len cap).cells.toList = [.slice a len cap] := by simp [Value.cells]
  rw [hcs] at h
  rcases Go.Deep.open_slice1 ht hc h with ⟨h0, _⟩ | ⟨x, l, c, m, n, V, D, Pl, h1, hb, hl, hm, hmm, rfl, hx⟩
  · simp only [List.cons.injEq, Value.slice.injEq, and_true] at h0
    obtain ⟨rfl, rfl, rfl⟩ := h0
    exact ⟨[], .none _ _, fun x hx => by cases hx⟩
  · simp only [List.cons.injEq, Value.slice.injEq, and_true] at h1
    obtain ⟨rfl, rfl, rfl⟩ := h1
    simp only [if_true] at hmm
    subst hmm
    have hV : ∀ i, i < m → ∃ z, V i = .float .f64 z ∧ z < 18446744073709551616 := fun i hi => by
      obtain ⟨z, e1, e2⟩ := trod_float he (hx i hi).2
      exact ⟨z, by simpa using e1, by simpa [Lit.wf] using e2⟩
    by_cases h0 : len = 0
    · subst h0
      exact ⟨[], .none _ _, fun x hx h => by omega⟩
    · let B : Nat → Nat := fun i => match V i with | .float _ z => z | _ => 0
      have hB : ∀ i, i < m → V i = .float .f64 (B i) ∧ B i < 18446744073709551616 := fun i hi => by
        obtain ⟨z, e1, e2⟩ := hV i hi
        have : B i = z := by show (match V i with | .float _ z => z | _ => 0) = z; rw [e1]
        rw [this]; exact ⟨e1, e2⟩
      refine ⟨(List.range len).map B, .row x m len _ (by simp) (by omega) hl hm ?_ ?_, fun y hy _ => ?_⟩
      · intro z hz
        obtain ⟨i, hi, rfl⟩ := List.mem_map.1 hz
        exact (hB i (by have := List.mem_range.1 hi; omega)).2
      · intro j hj
        rw [(hx j (by omega)).1, (hB j (by omega)).1]
        simp [List.getD, hj]
      · cases hy
        have := World.block_lt_of_cell? _ _ (hx 0 (by omega)).1
        rwa [addr_block] at this

theorem ReadsF.of_row {w : World} {B : Nat} {e : TypeId} {v : Value} {zs : List Nat} (h : Row w B e v (flts zs)) (hz : ∀ z ∈ zs, z < 18446744073709551616) : ReadsF w v zs := by
  have h' := h
  rcases h.shape with ⟨a, cap, rfl, h0⟩ | ⟨g, cap, rfl, h0, _, _, h1, h2⟩
  · have : zs = [] := by simpa [flts] using h0
    subst this
    exact .none a cap
  · rw [flts_length] at h0 h1 h' ⊢
    refine .row _ cap _ zs rfl h0 h1 h2 hz fun j hj => ?_
    rw [addr_lit, h'.cellAt hj, flts_getD hj]

theorem ReadsF.below {w w' : World} {B : Nat} {v : Value} {zs : List Nat} (h : ReadsF w v zs) (hb : Below B w w') (hv : ∀ x L cap, v = .slice (some x) L cap → 0 < L → x.block < B) : ReadsF w' v zs := by
  cases h with
  | none a cap => exact .none a cap
  | row x cap L zs hL h0 hc hm hz hh =>
    refine .row x cap L zs hL h0 hc hm hz fun j hj => ?_
    rw [hb.cell (by rw [addr_block]; exact hv x L cap rfl h0)]
    exact hh j hj
theorem ReadsF.drewN {w : World} {v : Value} {zs : List Nat} (h : ReadsF w v zs) (n : Nat) : ReadsF (w.drewN n) v zs := by
  cases h with
  | none a cap => exact .none a cap
  | row x cap L zs hL h0 hc hm hz hh => exact .row x cap L zs hL h0 hc hm hz hh

theorem IsRowF.below {w w' : World} {a : Option Addr} {len cap : Nat} {zs : List Nat} (h : IsRowF w a len cap zs) (hb : Below w.heap.size w w') : ReadsF w' (.slice a len cap) zs :=
  h.1.below hb (fun x L c e hL => by
    simp only [Value.slice.injEq] at e
    exact h.2 x e.1 (by omega))

theorem info_f64 : (Try.prog.info? 30).map (fun i => (i.zero, i.size, i.bytes)) = some (some (.float .f64 0), 1, 8) := by kernel_rfl

theorem fillF_step {zs : List Nat} {n k : Nat} (hk : k < n) (hz : n ≤ zs.length) :
    (flts (zs.take k) ++ List.replicate (n - k) (Value.float .f64 0)).set k (.float .f64 (zs.getD k 0)) = flts (zs.take (k + 1)) ++ List.replicate (n - (k + 1)) (Value.float .f64 0) := by
  have hl : (flts (zs.take k)).length = k := by rw [flts_length, List.length_take]; omega
  rw [List.set_append_right _ _ (by omega), hl, Nat.sub_self]
  obtain ⟨m, hm⟩ : ∃ m, n - k = m + 1 := ⟨n - k - 1, by omega⟩
  rw [hm, List.replicate_succ, List.set_cons_zero, show n - (k + 1) = m by omega, List.take_add_one]
  have e : zs[k]?.toList = [zs.getD k 0] := by simp [List.getD, show k < zs.length by omega]
  rw [e, flts_snoc, List.append_assoc]
  rfl

theorem grown_newF {w w1 w2 : World} {row : Option Nat} {B : Nat} (h : w.grownBy w1 row) (k : w1.grownBy w2 (some B)) (hB : w.heap.size ≤ B) : w.grownBy w2 row :=
  ⟨k.os.trans h.os, k.tape.trans h.tape, k.output.trans h.output, Nat.le_trans h.size k.size, fun j hj hr => (k.block j (Nat.lt_of_lt_of_le hj h.size) (by simp; omega)).trans (h.block j hj hr)⟩

/-- The numbers that are laid in a row of floats: from m on. -/
def fmark (m i : Nat) : Value := .float .f64 (floatOfInt .f64 ((m + i : Nat) : Int))
def fmarks (m n : Nat) : List Value := (List.range n).map (fmark m)
theorem fmarks_length (m n : Nat) : (fmarks m n).length = n := by simp [fmarks]
theorem fmarks_getD {m n j : Nat} (h : j < n) : (fmarks m n).getD j undef = fmark m j := by simp [fmarks, List.getD, h]

end Go.Proofs.Ytnigbjjllolgdaa
/-
  The walk of heldFloat64S.
-/
set_option linter.unusedVariables false
set_option linter.unusedSimpArgs false
namespace Go.Proofs.Ytnigbjjllolgdaa
open Go.RowKit Flt

end Go.Proofs.Ytnigbjjllolgdaa
/-
  The laws on functions from floats to floats: what is returned, and three rows in blocks of their own under marks.
-/
set_option linter.unusedVariables false
set_option linter.unusedSimpArgs false
namespace Go.Proofs.Ytnigbjjllolgdaa
open Go.RowKit Flt

theorem ReadsF.facts' {w : World} {a : Option Addr} {len cap : Nat} {zs : List Nat} (h : ReadsF w (.slice a len cap) zs) : zs.length = len ∧ (∀ z ∈ zs, z < 18446744073709551616) ∧ (len : Int) ≤ 9223372036854775807 := by
  generalize hv : (Value.slice a len cap) = v at h
  cases h with
  | none a cap => simp only [Value.slice.injEq] at hv; obtain ⟨-, rfl, -⟩ := hv; exact ⟨rfl, fun z hz => by simp at hz, by omega⟩
  | row x cap L zs hL h0 hc hm hz hh => simp only [Value.slice.injEq] at hv; obtain ⟨-, rfl, -⟩ := hv; exact ⟨hL, hz, maxLen_int (Nat.le_trans hc hm)⟩

/-- A float and a code are returned. -/
def FloatTo (r : Option Nat) (c : Int) (w : World) (e : Ending) (w' : World) : Prop :=
  ∃ a, e = .returned (.tuple #[.float .f64 a, .int .i64 c]) ∧ IsF a r ∧ Below w.heap.size w w'

/-- A list of floats and a code are returned. -/
def FloatsTo (n : Nat) (z : Nat → Option Nat) (c : Int) (w : World) (e : Ending) (w' : World) : Prop :=
  ∃ v fs, e = .returned (.tuple #[v, .int .i64 c]) ∧ Row w' w.heap.size 30 v (flts fs) ∧ fs.length = n ∧ (∀ i, i < n → IsF (fs.getD i 0) (z i)) ∧ Below w.heap.size w w'

theorem all_lt {fs : List Nat} {z : Nat → Option Nat} (h : ∀ i, i < fs.length → IsF (fs.getD i 0) (z i)) : ∀ x ∈ fs, x < 18446744073709551616 := fun x hx => by
  obtain ⟨i, hi, rfl⟩ := List.getElem_of_mem hx
  have := (h i hi).lt
  simpa [List.getD, hi] using this

theorem apart_low {v u : Value} {w : World} {B1 B2 : Nat} {cs : List Value} {e : TypeId} (hv : ∀ b, v.ownBlock = some b → b < B1) (hB : B1 ≤ B2) (hu : Row w B2 e u cs) : v.ownBlock = none ∨ v.ownBlock ≠ u.ownBlock := by
  cases h : v.ownBlock with
  | none => exact .inl rfl
  | some b =>
    refine .inr fun e => ?_
    have := hv b h
    have := (hu.lt b e.symm).1
    omega
theorem apart_low' {v u : Value} {w : World} {B1 B2 : Nat} {cs : List Value} {e : TypeId} (hv : ∀ b, v.ownBlock = some b → b < B1) (hB : B1 ≤ B2) (hu : Row w B2 e u cs) : u.ownBlock = none ∨ u.ownBlock ≠ v.ownBlock := by
  cases h : u.ownBlock with
  | none => exact .inl rfl
  | some b =>
    refine .inr fun e => ?_
    have := hv b e.symm
    have := (hu.lt b h).1
    omega

/-- The model's result v, the argument y and the program's result u, one behind the other. -/
structure Three (w : World) (e ea : TypeId) (B0 B1 B2 : Nat) (v y u : Value) (f c d : List Value) : Prop where
  rv : Row w B0 e v f
  ry : Row w B1 ea y c
  ru : Row w B2 e u d
  lowv : ∀ b, v.ownBlock = some b → b < B1
  lowy : ∀ b, y.ownBlock = some b → b < B2
  le : B1 ≤ B2

section
variable {w w' : World} {e ea : TypeId} {B0 B1 B2 : Nat} {v y u : Value} {f c d : List Value}
theorem Three.below (h : Three w e ea B0 B1 B2 v y u f c d) (hb : Below w.heap.size w w') : Three w' e ea B0 B1 B2 v y u f c d :=
  ⟨h.rv.below hb (fun k e => (h.rv.lt k e).2), h.ry.below hb (fun k e => (h.ry.lt k e).2), h.ru.below hb (fun k e => (h.ru.lt k e).2), h.lowv, h.lowy, h.le⟩
theorem Three.draws (h : Three w e ea B0 B1 B2 v y u f c d) (n : Nat) : Three (w.drewN n) e ea B0 B1 B2 v y u f c d := ⟨h.rv.drewN n, h.ry.drewN n, h.ru.drewN n, h.lowv, h.lowy, h.le⟩
theorem Three.markY {c' : List Value} (h : Three w e ea B0 B1 B2 v y u f c d) (hg : w.grownBy w' y.ownBlock) (hr : Row w' B1 ea y c') : Three w' e ea B0 B1 B2 v y u f c' d :=
  ⟨h.rv.kept hg (apart_low h.lowv (Nat.le_refl _) h.ry), hr, h.ru.kept hg (apart_low' h.lowy (Nat.le_refl _) h.ru), h.lowv, h.lowy, h.le⟩
theorem Three.markU {d' : List Value} (h : Three w e ea B0 B1 B2 v y u f c d) (hg : w.grownBy w' u.ownBlock) (hr : Row w' B2 e u d') : Three w' e ea B0 B1 B2 v y u f c d' :=
  ⟨h.rv.kept hg (apart_low h.lowv h.le h.ru), h.ry.kept hg (apart_low h.lowy (Nat.le_refl _) h.ru), hr, h.lowv, h.lowy, h.le⟩
end

end Go.Proofs.Ytnigbjjllolgdaa
/-
  listOf and everyOf over floats; how floats that lie in a row are read.
-/
set_option linter.unusedVariables false
set_option linter.unusedSimpArgs false
namespace Go.Proofs.Ytnigbjjllolgdaa
open Go.RowKit Flt Fast

theorem fl_form {w : World} {v : Value} {cs : List Value} (h : Reads w v cs) : ∃ a cap, v = .slice a cs.length cap := by
  cases h with
  | none a cap => exact ⟨a, cap, rfl⟩
  | row g cap L cs hL => subst hL; exact ⟨_, cap, rfl⟩

theorem fl_reads {w : World} {v : Value} {xs : List Nat} (h : Reads w v (flts xs)) : ∀ a n cap, v = .slice a n cap → ∀ k, k < n → ∃ g, a = some ⟨g, 0, none⟩ ∧ g < w.heap.size ∧ w.cell? ⟨g, k, none⟩ = some (.float .f64 (xs.getD k 0)) := by
  intro a n cap e k hk
  generalize hcs : flts xs = cs at h
  cases h with
  | none a cap => simp only [Value.slice.injEq] at e; omega
  | row g cap L cs hL h0 hc hm hh =>
    simp only [Value.slice.injEq] at e
    obtain ⟨e1, e2, -⟩ := e
    have hl : xs.length = L := by rw [← hL, ← hcs, flts_length]
    have hc := hh k (by omega)
    refine ⟨g, e1.symm, World.block_lt_of_cell? _ _ hc, ?_⟩
    rw [hc, ← hcs, flts_getD (by omega)]

theorem fl_cap {w : World} {v : Value} {cs : List Value} (h : Reads w v cs) : ∀ a n cap, v = .slice a n cap → (n : Int) ≤ 9223372036854775807 := by
  intro a n cap e
  cases h with
  | none a cap => simp only [Value.slice.injEq] at e; omega
  | row g cap L cs hL h0 hc hm hh => simp only [Value.slice.injEq] at e; obtain ⟨-, rfl, -⟩ := e; exact maxLen_int (Nat.le_trans hc hm)

theorem flts_fvals (xs : List Nat) : flts xs = fvals xs := rfl

theorem up_row {w w' : World} (h : w.grownBy w' none) (row : Option Nat) : w.grownBy w' row := ⟨h.os, h.tape, h.output, h.size, fun k hk _ => h.block k hk (by simp)⟩

/-- What was converted to a number up to the choice of a NaN. -/
def wO (xs : List Nat) (i : Nat) : Option Nat := cn .f64 (xs.getD i 0)
theorem wO_isF {xs : List Nat} (hz : ∀ z ∈ xs, z < 18446744073709551616) {i : Nat} (h : i < xs.length) : IsF (xs.getD i 0) (wO xs i) :=
  IsF.self (hz _ (by rw [List.getD_eq_getElem?_getD, List.getElem?_eq_getElem h]; exact List.getElem_mem _))

set_option maxRecDepth 100000 in
set_option maxHeartbeats 4000000 in
theorem listOf_f64 (fn : Nat) (capt : Array Value) (n : Nat) (hn : n ≤ 1000000) (z : Nat → Option Nat) (I : Nat → World → Prop) (row : Option Nat) (w : World)
    (hfn : ∀ (args : Array Value) (w : World), (callFunc fn args).run Try.prog w = .ok (.enter fn args) w) (hrow : ∀ k, row = some k → k < w.heap.size) (hI0 : ∀ w', w.grownBy w' none → I 0 w')
    (hIs : ∀ i w1 w2, w.heap.size < w1.heap.size → I i w1 → w1.grownBy w2 (some w.heap.size) → I i w2)
    (hcall : ∀ i w1, i < n → w.heap.size < w1.heap.size → I i w1 → Calls Try.prog fn (#[.int .i64 (i : Int)] ++ capt) w1 fun e w2 => ∃ p : Nat, e = .returned (fval p) ∧ IsF p (z i) ∧ I (i + 1) w2 ∧ w1.grownBy w2 row) :
    Calls Try.prog 30 #[.int .i64 n, .func (.func fn) #[] capt] w fun e w' =>
      ∃ v xs, e = .returned v ∧ Row w' w.heap.size 30 v (flts xs) ∧ xs.length = n ∧ (∀ i, i < n → IsF (xs.getD i 0) (z i)) ∧ I n w' ∧ w.grownBy w' row := by
  obtain ⟨i0, hi, hz0, hz1, hz2⟩ := info_parts info_f64'
  have HC := Lib.hid hcall
  have HS := Lib.hid hIs
  have HI := Lib.hid hI0
  have HR := Lib.hid hrow
  clear hcall hIs hI0 hrow
  go_enter Try.func30, Try.ntmps30
  go_wp2_with (at_make; refine wpList_make_full _ rfl _ _ 24 rfl w.heap.size 30 i0 (.float .f64 0) 1 Try.underlying24 hi hz0 hz1 .i64 .i64 _ _ n rfl rfl rfl rfl (by rw [hz2]; omega) (by simp only [maxLen]; omega) (Nat.le_refl _) ?_)
  intro w1 hown hg1
  rw [toList_madeCells_one] at hown
  have HO : Hid (Row w1 w.heap.size 30 (.slice (some ⟨w.heap.size, 0, none⟩) n n) (List.replicate n (.float .f64 0))) := by
    show w1.ownsRow _ _ _ _ _ _
    simpa using hown
  have HG := Lib.hid hg1
  clear hown hg1 hi hz0 hz1 hz2
  go_wp2
  go_loopw [10] (fun i wr => ∃ (k : Nat) (xs : List Nat), i = .int .i64 k ∧ k ≤ n ∧ xs.length = k ∧ Row wr w.heap.size 30 (.slice (some ⟨w.heap.size, 0, none⟩) n n) (flts xs ++ List.replicate (n - k) (.float .f64 0)) ∧ (∀ j, j < k → IsF (xs.getD j 0) (z j)) ∧ I k wr ∧ w.grownBy wr row ∧ w.heap.size < wr.heap.size) (fun i _ => n - (intOf i).toNat)
  case atStart => exact ⟨0, [], rfl, Nat.zero_le _, rfl, HO.out, fun j hj => by omega, HI.out _ HG.out, up_row HG.out _, (HO.out.lt _ rfl).2⟩
  case round =>
    obtain ⟨k, xs, rfl, hk, hx, hrw, hgd, hI, hg, hsz⟩ := hrel
    have HX := Lib.hid hx
    have HRW := Lib.hid hrw
    have HGD := Lib.hid hgd
    have HIk := Lib.hid hI
    have HGk := Lib.hid hg
    clear hx hrw hgd hI hg
    by_cases hlt : k < n
    · go_wp2_with fail
      refine (HC.out k wr hlt hsz HIk.out).mono ?_
      rintro e w2 ⟨a, rfl, hp, hI2, hg2⟩
      have hr2 := HRW.out.kept hg2 (.inr (fun e => by have := HR.out _ e.symm; simp at this))
      have hS := hr2.set k (.float .f64 a)
      rw [fillV hlt (by rw [flts_length]; exact HX.out)] at hS
      have hF := snocGood (d := (0 : Nat)) (G := fun i p => IsF p (z i)) HX.out HGD.out hp
      have c1 := hr2.cellAt hlt
      have f1 := hr2.frozenAt k
      have hsz2 : w.heap.size < w2.heap.size := Nat.lt_of_lt_of_le hsz hg2.size
      have hI3 := HS.out _ _ _ hsz2 hI2 hS.2
      have hg3 := grown_new (HGk.out.trans hg2) hS.2 (Nat.le_refl _)
      have hsz3 : w.heap.size < (w2.setCell ⟨w.heap.size, k, none⟩ (.float .f64 a)).heap.size := Nat.lt_of_lt_of_le hsz2 hS.2.size
      simp only [fval] at ⊢
      obtain ⟨u, hu⟩ : ∃ u, (flts xs ++ List.replicate (n - k) (Value.float .f64 0)).getD k undef = u := ⟨_, rfl⟩
      rw [hu] at c1
      rw [← flts_snoc] at hS
      have HS2 := Lib.hid hS
      have HF := Lib.hid hF
      have HI3 := Lib.hid hI3
      have HG3 := Lib.hid hg3
      have HZ3 := Lib.hid hsz3
      clear hu hr2 hS hF hp hI2 hg2 hI3 hg3 hsz3
      go_wp2
      go_roundw
      case rel => exact ⟨k + 1, xs ++ [a], by go_num, by omega, HF.out.1, HS2.out.1, HF.out.2, HI3.out, HG3.out, HZ3.out⟩
      case measure => simp [intOf]; omega
    · have e : k = n := by omega
      subst e
      go_wp2
      go_ret
      refine ⟨_, xs, rfl, ?_, HX.out, HGD.out, HIk.out, HGk.out⟩
      have := HRW.out
      rwa [Nat.sub_self, List.replicate_zero, List.append_nil] at this

/-- The first t floats of those that stand p places apart, from the place r on. -/
def partF (xs : List Nat) (r p t : Nat) : List Nat := (List.range t).map fun i => xs.getD (r + i * p) 0
theorem partF_length (xs : List Nat) (r p t : Nat) : (partF xs r p t).length = t := by simp [partF]
theorem partF_succ (xs : List Nat) (r p t : Nat) : partF xs r p (t + 1) = partF xs r p t ++ [xs.getD (r + t * p) 0] := by simp [partF, List.range_succ]
theorem partF_getD (xs : List Nat) (r p t : Nat) {i : Nat} (h : i < t) : (partF xs r p t).getD i 0 = xs.getD (r + i * p) 0 := by simp [partF, List.getD, h]

end Go.Proofs.Ytnigbjjllolgdaa
/-
  BlockCount, GainOf, PowerOf of both.
-/
set_option linter.unusedVariables false
set_option linter.unusedSimpArgs false
namespace Go.Proofs.Ytnigbjjllolgdaa
open Go.RowKit Flt Fast
attribute [local go_sem] run_fadd run_fsub run_fmul run_fquo run_cadd run_csub

theorem in_t (n lo hi : Int) (h : lo ≤ n ∧ n ≤ hi) (w : World) :
    Calls Try.prog 51 #[.int .i64 n, .int .i64 lo, .int .i64 hi] w fun e w' => e = .returned (.bool true) ∧ w' = w := by
  obtain ⟨h1, h2⟩ := h
  go_enter Try.func51, Try.ntmps51
  go_wp2
  go_ret
  exact ⟨rfl, rfl⟩
theorem in_f (n lo hi : Int) (h : ¬ (lo ≤ n ∧ n ≤ hi)) (w : World) :
    Calls Try.prog 51 #[.int .i64 n, .int .i64 lo, .int .i64 hi] w fun e w' => e = .returned (.bool false) ∧ w' = w := by
  by_cases h1 : lo ≤ n
  · have h2 : ¬ n ≤ hi := fun h' => h ⟨h1, h'⟩
    have g : decide (n ≤ hi) = false := decide_eq_false h2
    clear h
    go_enter Try.func51, Try.ntmps51
    go_wp2
    go_ret
    exact ⟨rfl, rfl⟩
  · have h2 : n < lo := by omega
    clear h h1
    go_enter Try.func51, Try.ntmps51
    go_wp2
    go_ret
    exact ⟨rfl, rfl⟩

/-- The number of blocks. -/
def cntR (a b c : Int) : Int := if a = 0 then 0 else if a ≤ b then 1 else 1 + (a - b + c - 1).tdiv c

/-- What BlockCount answers. -/
def bcK (a b c : Int) : Int := if (0 ≤ a ∧ a ≤ 256) ∧ (1 ≤ b ∧ b ≤ 256) ∧ (1 ≤ c ∧ c ≤ b) then 0 else 2
def bcR (a b c : Int) : Int := if (0 ≤ a ∧ a ≤ 256) ∧ (1 ≤ b ∧ b ≤ 256) ∧ (1 ≤ c ∧ c ≤ b) then cntR a b c else 0

/-- A cut as the program holds it. -/
def rightB (b c : Int) : Bool := decide ((1 ≤ c ∧ c ≤ b) ∧ b ≤ 256)

theorem cntR_max {a b c : Int} (ha : 0 ≤ a ∧ a ≤ 1000000) (hb : 1 ≤ b ∧ b ≤ 1000000) (hc : 1 ≤ c ∧ c ≤ b) (h0 : a ≠ 0) : cntR a b c = ((if a - b ≥ 0 then a - b else 0) + c - 1).tdiv c + 1 := by
  unfold cntR
  rw [if_neg h0]
  by_cases h1 : a ≤ b
  · rw [if_pos h1]
    have : (if a - b ≥ 0 then a - b else 0) + c - 1 = c - 1 := by split <;> omega
    rw [this, Int.tdiv_eq_ediv_of_nonneg (by omega), Int.ediv_eq_zero_of_lt (by omega) (by omega)]; rfl
  · rw [if_neg h1, if_pos (by omega)]; omega

end Go.Proofs.Ytnigbjjllolgdaa
/-
  GainOf, PowerOf of both.
-/
set_option linter.unusedVariables false
set_option linter.unusedSimpArgs false
namespace Go.Proofs.Ytnigbjjllolgdaa
open Go.RowKit Flt Fast
attribute [local go_sem] run_fadd run_fsub run_fmul run_fquo run_cadd run_csub

/-- The sum of a window, if it is not too long. -/
def tooK (n : Nat) : Int := if 256 < n then 3 else 0
def gainR (z : Nat → Option Nat) (n : Nat) : Option Nat := if 256 < n then some 0 else sumO z n
/-- A square. -/
def sqO (xs : List Nat) (i : Nat) : Option Nat := fop .mul .f64 (wO xs i) (wO xs i)

theorem sumO_first (z : Nat → Option Nat) {k : Nat} (h : k = 0) : sumO z (k + 1) = z k := by subst h; rfl

end Go.Proofs.Ytnigbjjllolgdaa
/-
  The sums over all hops: OverlapSums of both.
-/
set_option linter.unusedVariables false
set_option linter.unusedSimpArgs false
namespace Go.Proofs.Ytnigbjjllolgdaa
open Go.RowKit Flt Fast
attribute [local go_sem] run_fadd run_fsub run_fmul run_fquo run_cadd run_csub

/-- What is told of a window and a hop. -/
def hopK (n : Nat) (h : Int) : Int := if 256 < n then 3 else if 1 ≤ h ∧ h ≤ n then 0 else 2

/-- How many numbers stand p places apart from the place i on. -/
def ovC (n p i : Nat) : Nat := (n - i + p - 1) / p
theorem ovC_iff {n p i : Nat} (hp : 0 < p) (t : Nat) : i + t * p < n ↔ t < ovC n p i := by
  unfold ovC
  rw [Nat.lt_iff_add_one_le, Nat.lt_iff_add_one_le, Nat.le_div_iff_mul_le hp, Nat.add_mul, Nat.one_mul]
  omega
theorem ovC_pos {n p i : Nat} (hp : 0 < p) (h : i < n) : 0 < ovC n p i := (ovC_iff hp 0).1 (by omega)
/-- The numbers p places apart from i on, and their sum. -/
def ovZ (xs : List Nat) (p i t : Nat) : Option Nat := wO xs (i + t * p)
def ovS (xs : List Nat) (p i : Nat) : Option Nat := sumO (ovZ xs p i) (ovC xs.length p i)

/-- What OverlapSums and FlatWindow answer: how many numbers, which ones, and the code. -/
def ovN (n : Nat) (h : Int) : Nat := if hopK n h = 0 then h.toNat else 0
theorem hopK_zero {n : Nat} {h : Int} (hk : hopK n h = 0) : 1 ≤ h ∧ h ≤ n ∧ n ≤ 256 := by
  unfold hopK at hk
  split at hk
  · omega
  · split at hk
    · omega
    · omega
theorem ovN_le (n : Nat) (h : Int) : ovN n h ≤ 100000000 := by
  unfold ovN
  split
  · rename_i hk
    have := hopK_zero hk
    omega
  · omega

end Go.Proofs.Ytnigbjjllolgdaa
/-
  OverlapSums of the program; RippleOf of both.
-/
set_option linter.unusedVariables false
set_option linter.unusedSimpArgs false
namespace Go.Proofs.Ytnigbjjllolgdaa
open Go.RowKit Flt Fast
attribute [local go_sem] run_fadd run_fsub run_fmul run_fquo run_cadd run_csub

theorem gb_of_below {w w' : World} (h : Below w.heap.size w w') : w.grownBy w' none := ⟨h.os, h.tape, h.output, h.size, fun k hk _ => h.block k hk⟩
theorem below_of_gb {w w' : World} (h : w.grownBy w' none) : Below w.heap.size w w' := (Below.refl _ _).grown h (Nat.le_refl _) (by simp)

/-- listOf over floats where the closure reads what was there alone. -/
theorem listOf_f64' (fn : Nat) (capt : Array Value) (n : Nat) (hn : n ≤ 1000000) (z : Nat → Option Nat) (w : World)
    (hfn : ∀ (args : Array Value) (w : World), (callFunc fn args).run Try.prog w = .ok (.enter fn args) w)
    (hcall : ∀ i w1, i < n → Below w.heap.size w w1 → Calls Try.prog fn (#[.int .i64 (i : Int)] ++ capt) w1 fun e w2 => ∃ p : Nat, e = .returned (fval p) ∧ IsF p (z i) ∧ Below w1.heap.size w1 w2) :
    Calls Try.prog 30 #[.int .i64 n, .func (.func fn) #[] capt] w fun e w' =>
      ∃ v xs, e = .returned v ∧ Row w' w.heap.size 30 v (flts xs) ∧ xs.length = n ∧ (∀ i, i < n → IsF (xs.getD i 0) (z i)) ∧ Below w.heap.size w w' := by
  refine (listOf_f64 fn capt n hn z (fun _ w1 => Below w.heap.size w w1) none w hfn (fun k h => by cases h) (fun w' h => below_of_gb h)
    (fun i w1 w2 hs hI hg => hI.grown hg hI.size (fun b e => by simp at e; omega)) (fun i w1 hi hs hI => (hcall i w1 hi hI).mono ?_)).mono ?_
  · rintro e w2 ⟨p, rfl, hp, hb⟩
    exact ⟨p, rfl, hp, below_step hI hb hI.size, gb_of_below hb⟩
  · rintro e w' ⟨v, xs, rfl, hr, hl, hg, hI, -⟩
    exact ⟨v, xs, rfl, hr, hl, hg, hI⟩

/-- Greater, less: up to the choice of a NaN. -/
def gtO : Option Nat → Option Nat → Bool
  | some x, some y => FloatKind.f64.format.order x y == some .gt
  | _, _ => false
def ltO : Option Nat → Option Nat → Bool
  | some x, some y => FloatKind.f64.format.order x y == some .lt
  | _, _ => false

theorem isF_cases {a : Nat} {z : Option Nat} (h : IsF a z) : (nan FloatKind.f64.format a = true ∧ z = none) ∨ (nan FloatKind.f64.format a = false ∧ z = some a) := by
  by_cases hn : nan FloatKind.f64.format a = true
  · exact .inl ⟨hn, by rw [← h.cn, cn_none hn]⟩
  · have hn : nan FloatKind.f64.format a = false := by simpa using hn
    exact .inr ⟨hn, by rw [← h.cn, cn_some hn]⟩
theorem ordN_l {a b : Nat} (h : nan FloatKind.f64.format a = true) : FloatKind.f64.format.order a b = none := ord_nan_l b h
theorem ordN_r {a b : Nat} (h : nan FloatKind.f64.format b = true) : FloatKind.f64.format.order a b = none := ord_nan_r a h
theorem gt_isF {a b : Nat} {x y : Option Nat} (ha : IsF a x) (hb : IsF b y) : (FloatKind.f64.format.order a b == some .gt) = gtO x y := by
  rcases isF_cases ha with ⟨h, rfl⟩ | ⟨h, rfl⟩
  · rw [ordN_l h]; rfl
  · rcases isF_cases hb with ⟨k, rfl⟩ | ⟨k, rfl⟩
    · rw [ordN_r k]; rfl
    · rfl
theorem lt_isF {a b : Nat} {x y : Option Nat} (ha : IsF a x) (hb : IsF b y) : (FloatKind.f64.format.order a b == some .lt) = ltO x y := by
  rcases isF_cases ha with ⟨h, rfl⟩ | ⟨h, rfl⟩
  · rw [ordN_l h]; rfl
  · rcases isF_cases hb with ⟨k, rfl⟩ | ⟨k, rfl⟩
    · rw [ordN_r k]; rfl
    · rfl
theorem gtO_self {a : Nat} {x : Option Nat} (ha : IsF a x) : gtO x x = false := by
  rw [← gt_isF ha ha]
  rcases isF_cases ha with ⟨h, rfl⟩ | ⟨h, rfl⟩
  · rw [ordN_l h]; rfl
  · rw [ord_eq h h rfl]; rfl
theorem ltO_self {a : Nat} {x : Option Nat} (ha : IsF a x) : ltO x x = false := by
  rw [← lt_isF ha ha]
  rcases isF_cases ha with ⟨h, rfl⟩ | ⟨h, rfl⟩
  · rw [ordN_l h]; rfl
  · rw [ord_eq h h rfl]; rfl

/-- The greatest and the least of the first numbers. -/
def mostO (z : Nat → Option Nat) : Nat → Option Nat
  | 0 => z 0
  | k + 1 => if gtO (z (k + 1)) (mostO z k) then z (k + 1) else mostO z k
def leastO (z : Nat → Option Nat) : Nat → Option Nat
  | 0 => z 0
  | k + 1 => if ltO (z (k + 1)) (leastO z k) then z (k + 1) else leastO z k

/-- A step of the search as both do it: x is the next number. -/
theorem most_step {z : Nat → Option Nat} {k x s : Nat} (hk : 0 < k) (hx : IsF x (z k)) (hs : IsF s (mostO z (k - 1))) :
    ((FloatKind.f64.format.order x s == some .gt) = true ∧ IsF x (mostO z k)) ∨ ((FloatKind.f64.format.order x s == some .gt) = false ∧ IsF s (mostO z k)) := by
  obtain ⟨j, rfl⟩ : ∃ j, k = j + 1 := ⟨k - 1, by omega⟩
  rw [gt_isF hx hs]
  simp only [Nat.add_sub_cancel] at hs ⊢
  rw [mostO]
  cases h : gtO (z (j + 1)) (mostO z j)
  · exact .inr ⟨rfl, by simpa using hs⟩
  · exact .inl ⟨rfl, by simpa using hx⟩
theorem least_step {z : Nat → Option Nat} {k x s : Nat} (hk : 0 < k) (hx : IsF x (z k)) (hs : IsF s (leastO z (k - 1))) :
    ((FloatKind.f64.format.order x s == some .lt) = true ∧ IsF x (leastO z k)) ∨ ((FloatKind.f64.format.order x s == some .lt) = false ∧ IsF s (leastO z k)) := by
  obtain ⟨j, rfl⟩ : ∃ j, k = j + 1 := ⟨k - 1, by omega⟩
  rw [lt_isF hx hs]
  simp only [Nat.add_sub_cancel] at hs ⊢
  rw [leastO]
  cases h : ltO (z (j + 1)) (leastO z j)
  · exact .inr ⟨rfl, by simpa using hs⟩
  · exact .inl ⟨rfl, by simpa using hx⟩

/-- What RippleOf answers. -/
def ripR (xs : List Nat) (h : Int) : Option Nat := if hopK xs.length h = 0 then fop .sub .f64 (mostO (ovS xs h.toNat) (h.toNat - 1)) (leastO (ovS xs h.toNat) (h.toNat - 1)) else some 0

end Go.Proofs.Ytnigbjjllolgdaa
/-
  The model's comparisons of numbers that are the same.
-/
set_option linter.unusedVariables false
set_option linter.unusedSimpArgs false
namespace Go.Proofs.Ytnigbjjllolgdaa
open Go.RowKit Flt

theorem l01NaN_any (a : Nat) (w : World) :
    Calls Try.prog 58 #[.float .f64 a] w fun e w' => e = .returned (.bool (nan FloatKind.f64.format a)) ∧ w' = w := by
  by_cases ha : nan FloatKind.f64.format a = true
  · have ho : FloatKind.f64.format.order a a = none := ord_nan_l _ ha
    rw [ha]
    clear ha
    go_enter Try.func58, Try.ntmps58
    go_wp2
    go_ret
    exact ⟨rfl, rfl⟩
  · have ha : nan FloatKind.f64.format a = false := by simpa using ha
    have ho : FloatKind.f64.format.order a a = some .eq := ord_eq ha ha rfl
    rw [ha]
    clear ha
    go_enter Try.func58, Try.ntmps58
    go_wp2
    go_ret
    exact ⟨rfl, rfl⟩

theorem l01SameFloat_cn (a b : Nat) (h : cn .f64 a = cn .f64 b) (w : World) :
    Calls Try.prog 32 #[.float .f64 a, .float .f64 b] w fun e w' => e = .returned (.bool true) ∧ w' = w := by
  have na := l01NaN_any a
  have nb := l01NaN_any b
  by_cases ha : nan FloatKind.f64.format a = true
  · have hb : nan FloatKind.f64.format b = true := by
      rw [cn_none ha] at h
      by_cases hb : nan FloatKind.f64.format b = true
      · exact hb
      · rw [cn_some (by simpa using hb)] at h; cases h
    rw [ha] at na
    rw [hb] at nb
    clear ha hb h
    go_enter Try.func32, Try.ntmps32
    go_wp2_with (go_at_call 58; (first | ((with_reducible refine (na _).mono ?_); rintro e w' ⟨rfl, rfl⟩) | ((with_reducible refine (nb _).mono ?_); rintro e w' ⟨rfl, rfl⟩)))
    go_ret
    exact ⟨rfl, rfl⟩
  · have ha : nan FloatKind.f64.format a = false := by simpa using ha
    have hb : nan FloatKind.f64.format b = false := by
      rw [cn_some ha] at h
      by_cases hb : nan FloatKind.f64.format b = true
      · rw [cn_none hb] at h; cases h
      · simpa using hb
    obtain rfl : a = b := by rw [cn_some ha, cn_some hb] at h; exact Option.some.inj h
    rw [ha] at na
    clear ha hb h nb
    go_enter Try.func32, Try.ntmps32
    go_wp2_with (go_at_call 58; refine (na _).mono ?_; rintro e w' ⟨rfl, rfl⟩)
    go_ret
    exact ⟨rfl, rfl⟩

theorem widen_same {a c : Nat} (h : cn .f32 a = cn .f32 c) : floatToFloatBits .f32 a .f64 = floatToFloatBits .f32 c .f64 := by
  by_cases ha : nan FloatKind.f32.format a = true
  · have hc : nan FloatKind.f32.format c = true := by
      rw [cn_none ha] at h
      by_cases hb : nan FloatKind.f32.format c = true
      · exact hb
      · rw [cn_some (by simpa using hb)] at h; cases h
    rw [widen_nan ha, widen_nan hc]
  · have ha : nan FloatKind.f32.format a = false := by simpa using ha
    by_cases hc : nan FloatKind.f32.format c = true
    · rw [cn_some ha, cn_none hc] at h; cases h
    · rw [cn_some ha, cn_some (by simpa using hc)] at h
      rw [Option.some.inj h]

end Go.Proofs.Ytnigbjjllolgdaa
/-
  WrapPhase of both; the greatest integer that is at most a number.
-/
set_option linter.unusedVariables false
set_option linter.unusedSimpArgs false
namespace Go.Proofs.Ytnigbjjllolgdaa
open Go.RowKit Flt Fast
attribute [local go_sem] run_fadd run_fsub run_fmul run_fquo run_cadd run_csub

/-- The word of the greatest integer that is at most a number. -/
def floW (x : Nat) : Nat := FloatKind.f64.encode ((FloatKind.f64.decode x).integral .down)
def floO : Option Nat → Option Nat
  | some x => some (floW x)
  | none => none

theorem integral_num {d : Ieee.Datum} (way : Ieee.Toward) (h : d.isNaN = false) : (d.integral way).isNaN = false := by
  cases d with
  | nan s t => cases h
  | infinity s => rfl
  | number s m p => rfl
theorem decode_num {x : Nat} (h : nan FloatKind.f64.format x = false) : (FloatKind.f64.decode x).isNaN = false := by
  have hx : nan Ieee.double x = false := h
  show (Ieee.double.read x).isNaN = false
  rw [nan64] at hx
  have hle : x % 9223372036854775808 ≤ 9218868437227405312 := by simpa using hx
  rcases Nat.lt_or_ge (x % 9223372036854775808) 9218868437227405312 with hl | hl
  · obtain ⟨m, p, e, -⟩ := read_fin (f := Ieee.double) (x := x) (by rw [sw64, ir64]; exact hl)
    rw [e]; rfl
  · rw [read_inf (f := Ieee.double) (x := x) (by rw [sw64, ir64]; omega) hbi64]; rfl
theorem isF_floW {x : Nat} (h : nan FloatKind.f64.format x = false) : IsF (floW x) (some (floW x)) :=
  IsF.lit (nan_write Ieee.double (integral_num .down (decode_num h))) (Ieee.double.write_lt _)

theorem run_floor (x : Nat) (h : nan FloatKind.f64.format x = false) (w : World) : (callFunc 69 #[.float .f64 x]).run Try.prog w = .ok (.value (.float .f64 (floW x))) w := by
  have e1 : (callFunc 69 #[.float .f64 x]).run Try.prog w = (do let v ← Extern.MathFloor.toIntegral "math.archFloor" .down #[.float .f64 x]; pure (.value v) : Sem Next).run Try.prog w := by kernel_rfl
  rw [e1]
  have hd := decode_num h
  unfold floW
  conv in (Extern.MathFloor.toIntegral _ _ _) => whnf
  cases hr : FloatKind.f64.decode x with
  | nan s t => rw [hr] at hd; cases hd
  | infinity s => rfl
  | number s m p => rfl

theorem finO_some {z : Option Nat} (h : finO z = true) : ∃ x, z = some x ∧ x % 9223372036854775808 < 9218868437227405312 := by
  cases z with
  | none => cases h
  | some x => exact ⟨x, rfl, by simpa [finO] using h⟩

theorem sum_fin_num {x y : Nat} (hx : x % 9223372036854775808 < 9218868437227405312) (hy : y % 9223372036854775808 < 9218868437227405312) : ∃ r, floatBits .add .f64 x y = some r := by
  obtain ⟨m, p, e, -⟩ := read_fin (f := Ieee.double) (x := x) (by rw [sw64, ir64]; exact hx)
  obtain ⟨n, q, e', -⟩ := read_fin (f := Ieee.double) (x := y) (by rw [sw64, ir64]; exact hy)
  have h : floatBits .add .f64 x y = ((Ieee.double.read x).sum (Ieee.double.read y)).map Ieee.double.write := rfl
  rw [h, e, e']
  exact ⟨_, rfl⟩

def half : Nat := 4602678819172646912
/-- A phase without whole turns. -/
def wrapO (z : Option Nat) : Option Nat := if finO z = true then fop .sub .f64 z (floO (fop .add .f64 z (some half))) else z

theorem floor_any (a : Nat) (h : nan FloatKind.f64.format a = false) (w : World) :
    Calls Try.prog 61 #[.float .f64 a] w fun e w' => e = .returned (.float .f64 (floW a)) ∧ w' = w := by
  have R := fun w => run_floor a h w
  clear h
  go_enter Try.func61, Try.ntmps61
  go_wp2
  go_ret
  exact ⟨rfl, rfl⟩

theorem fres_some {op : BinOp} {k : FloatKind} {x y r : Nat} (h : floatBits op k x y = some r) (w : World) : fres op k x y w = r := by unfold fres; rw [h]
theorem fcnt_some {op : BinOp} {k : FloatKind} {x y r : Nat} (h : floatBits op k x y = some r) : fcnt op k x y = 0 := by unfold fcnt; rw [h]

set_option maxRecDepth 100000 in
theorem finite_spec (a : Nat) (la : a < 18446744073709551616) (w : World) :
    Calls Try.prog 62 #[.float .f64 a] w fun e w' => e = .returned (.bool (finO (cn .f64 a))) ∧ ∃ n, w' = w.drewN n := by
  have C := Lib.hid (fun w => l01NaN_any a w)
  by_cases ha : nan FloatKind.f64.format a = true
  · rw [ha] at C
    rw [finO_nan ha]
    clear ha la
    go_enter Try.func62, Try.ntmps62
    go_wp2_with fail
    refine (C.out _).mono ?_
    rintro e w' ⟨rfl, rfl⟩
    go_wp2
    go_ret
    exact ⟨rfl, 0, rfl⟩
  · have ha : nan FloatKind.f64.format a = false := by simpa using ha
    rw [ha] at C
    rw [finO_num ha]
    by_cases hf : a % 9223372036854775808 < 9218868437227405312
    · have hs : floatBits .sub .f64 a a = some 0 := sub_self_fin (f := Ieee.double) (by rw [sw64, ir64]; exact hf)
      have e1 := fun w => fres_some hs w
      have e2 := fcnt_some hs
      have e3 : FloatKind.f64.format.order 0 0 = some .eq := by decide
      have e4 : decide (a % 9223372036854775808 < 9218868437227405312) = true := by simp [hf]
      rw [e4]
      clear ha la hf hs e4
      go_enter Try.func62, Try.ntmps62
      go_wp2_with fail
      refine (C.out _).mono ?_
      rintro e w' ⟨rfl, rfl⟩
      go_wp2
      go_ret
      exact ⟨rfl, 0, rfl⟩
    · have hs : floatBits .sub .f64 a a = none := sub_self_none (f := Ieee.double) hbi64 (by rw [sw64, ir64]; exact hf)
      have e1 : ∀ w, FloatKind.f64.format.order (fres .sub .f64 a a w) 0 = none := fun w => ord_nan_l _ (nan_of_cn (by rw [cn_fres, hs]))
      have e4 : decide (a % 9223372036854775808 < 9218868437227405312) = false := by simp [hf]
      rw [e4]
      clear ha la hf hs e4
      go_enter Try.func62, Try.ntmps62
      go_wp2_with fail
      refine (C.out _).mono ?_
      rintro e w' ⟨rfl, rfl⟩
      go_wp2
      go_ret
      exact ⟨rfl, _, rfl⟩

theorem half_num : nan FloatKind.f64.format half = false := by decide

theorem wrapO_fin {z : Option Nat} {a : Nat} (ha : IsF a z) (h : finO z = true) : ∃ r, floatBits .add .f64 a half = some r ∧ nan FloatKind.f64.format r = false ∧ (∀ u, IsF u (fop .sub .f64 z (some (floW r))) → IsF u (wrapO z)) := by
  obtain ⟨x, rfl, hx⟩ := finO_some h
  obtain ⟨-, rfl⟩ := num_of_cn ha.cn
  obtain ⟨r, hr⟩ := sum_fin_num hx (y := half) (by decide)
  refine ⟨r, hr, floatBits_num hr, fun u hu => ?_⟩
  have e : fop .add .f64 (some a) (some half) = some r := hr
  unfold wrapO
  rw [if_pos h, e]
  exact hu

/-- A float that was drawn from a float, by what draws alone. -/
def ToF (z : Option Nat) (w : World) (e : Ending) (w' : World) : Prop := ∃ q, e = .returned (.float .f64 q) ∧ IsF q z ∧ ∃ n, w' = w.drewN n

set_option maxRecDepth 100000 in
theorem wrap_spec (a : Nat) (z : Option Nat) (ha : IsF a z) (w : World) : Calls Try.prog 35 #[.float .f64 a] w (ToF (wrapO z) w) := by
  have C := Lib.hid (fun w => finite_spec a ha.lt w)
  rw [ha.cn] at C
  by_cases h : finO z = true
  · obtain ⟨r, hr, hn, hu⟩ := wrapO_fin ha h
    have e1 := fun w => fres_some hr w
    have e2 := fcnt_some hr
    unfold half at e1 e2
    have D := Lib.hid (fun w => floor_any r hn w)
    have HU := Lib.hid hu
    have HA := Lib.hid ha
    have HR := Lib.hid (isF_floW hn)
    rw [h] at C
    clear hr hn hu h ha
    go_enter Try.func35, Try.ntmps35
    go_wp2_with fail
    refine (C.out _).mono ?_
    rintro e w' ⟨rfl, n, rfl⟩
    go_wp2_with fail
    refine (D.out _).mono ?_
    rintro e w' ⟨rfl, rfl⟩
    go_wp2
    go_ret
    exact ⟨_, rfl, HU.out _ (isF_fres HA.out HR.out _), _, rfl⟩
  · have hf : finO z = false := by simpa using h
    have e : wrapO z = z := by unfold wrapO; rw [if_neg h]
    rw [e]
    rw [hf] at C
    have HA := Lib.hid ha
    clear h hf e ha
    go_enter Try.func35, Try.ntmps35
    go_wp2_with fail
    refine (C.out _).mono ?_
    rintro e w' ⟨rfl, n, rfl⟩
    go_wp2
    go_ret
    exact ⟨_, rfl, HA.out, _, rfl⟩

set_option maxRecDepth 100000 in
theorem wrap_impl (a : Nat) (z : Option Nat) (ha : IsF a z) (w : World) : Calls Try.prog 13 #[.float .f64 a] w (ToF (wrapO z) w) := by
  have C := Lib.hid (fun w => isFiniteReal_any a ha.lt w)
  rw [ha.cn] at C
  by_cases h : finO z = true
  · obtain ⟨r, hr, hn, hu⟩ := wrapO_fin ha h
    have e1 := fun w => fres_some hr w
    have e2 := fcnt_some hr
    unfold half at e1 e2
    have D := Lib.hid (fun w => floor_any r hn w)
    have E : Hid (∀ w, Calls Try.prog 34 #[.float .f64 a] w fun e w' => e = .returned (.float .f64 (floW r)) ∧ w' = w) := by
      refine Lib.hid fun w => ?_
      clear hr hn hu h ha C
      go_enter Try.func34, Try.ntmps34
      go_wp2_with fail
      refine (D.out _).mono ?_
      rintro e w' ⟨rfl, rfl⟩
      go_wp2
      go_ret
      exact ⟨rfl, rfl⟩
    have HU := Lib.hid hu
    have HA := Lib.hid ha
    have HR := Lib.hid (isF_floW hn)
    rw [h] at C
    clear hr hn hu h ha e1 e2 D
    go_enter Try.func13, Try.ntmps13
    go_wp2_with fail
    refine (C.out _).mono ?_
    rintro e w' ⟨rfl, rfl⟩
    go_wp2_with fail
    refine (E.out _).mono ?_
    rintro e w' ⟨rfl, rfl⟩
    go_wp2
    go_ret
    exact ⟨_, rfl, HU.out _ (isF_fres HA.out HR.out _), _, rfl⟩
  · have hf : finO z = false := by simpa using h
    have e : wrapO z = z := by unfold wrapO; rw [if_neg h]
    rw [e]
    rw [hf] at C
    have HA := Lib.hid ha
    clear h hf e ha
    go_enter Try.func13, Try.ntmps13
    go_wp2_with fail
    refine (C.out _).mono ?_
    rintro e w' ⟨rfl, rfl⟩
    go_wp2
    go_ret
    exact ⟨_, rfl, HA.out, 0, rfl⟩

end Go.Proofs.Ytnigbjjllolgdaa
/-
  Sizes of differences, products and quotients of numbers from 0 to 1. No program.
-/
set_option linter.unusedVariables false
set_option linter.unusedSimpArgs false
namespace Go.Proofs.Ytnigbjjllolgdaa.Flt
section
open Ieee
variable {f : Format} {LP one : Nat}

theorem val_mono {r s : Nat} (h : r ≤ s) : val f r ≤ val f s := by
  rcases Nat.lt_or_eq_of_le h with h | h
  · exact Nat.le_of_lt (val_lt f h)
  · rw [h]; exact Nat.le_refl _

theorem read_pos {x : Nat} (h : x < f.infRung) : ∃ m p, f.read x = .number false m p ∧ f.leastPlace ≤ p ∧ m * 2 ^ (p - f.leastPlace).toNat = val f x := by
  obtain ⟨m, p, h1, h2, h3⟩ := read_word (f := f) false h
  exact ⟨m, p, h1, h2, h3⟩

theorem word_false (f : Format) (r : Nat) : f.word false r = r := rfl

/-- A product of numbers that are not negative. -/
theorem mul_le {x y R : Nat} (hLP : f.leastPlace = -(LP : Int)) (hx : x < f.infRung) (hy : y < f.infRung) (hv : val f x * val f y ≤ val f R * 2 ^ LP) :
    ∃ r, f.mul x y = some r ∧ r ≤ R := by
  obtain ⟨m, i, e1, i1, v1⟩ := read_pos hx
  obtain ⟨n, j, e2, j1, v2⟩ := read_pos hy
  rw [hLP] at i1 j1 v1 v2
  refine ⟨rungOf f (m * n) (i + j), ?_, ?_⟩
  · unfold Format.mul
    rw [e1, e2]
    simp only [Datum.product, Option.map_some, Format.write, Bool.xor_false, nearest_rung, word_false]
  · refine rung_le (base := -(LP : Int) - LP) (by omega) (by rw [hLP]; omega) ?_
    rw [hLP, show (-(LP : Int) - (-(LP : Int) - LP)).toNat = LP by omega]
    refine Nat.le_trans (Nat.le_of_eq ?_) hv
    unfold at_
    rw [← v1, ← v2, Nat.mul_mul_mul_comm, ← Nat.pow_add]
    congr 2
    omega

theorem mul_le_one {x y : Nat} (hLP : f.leastPlace = -(LP : Int)) (h1 : val f one = 2 ^ LP) (hoi : one < f.infRung) (hx : x < f.infRung) (hy : y ≤ one) : ∃ r, f.mul x y = some r ∧ r ≤ x := by
  refine mul_le hLP hx (Nat.lt_of_le_of_lt hy hoi) ?_
  rw [← h1]
  exact Nat.mul_le_mul_left _ (val_mono hy)

/-- A difference of numbers that are not negative, the first one being no less. -/
theorem sub_le {x y : Nat} (hx : x < f.infRung) (hy : y ≤ x) : ∃ r, f.sub x y = some r ∧ r ≤ x := by
  obtain ⟨m, i, e1, i1, v1⟩ := read_pos hx
  obtain ⟨n, j, e2, j1, v2⟩ := read_pos (f := f) (Nat.lt_of_le_of_lt hy hx)
  have hvv : val f y ≤ val f x := val_mono hy
  generalize hl : f.leastPlace = l at *
  unfold Format.sub
  rw [e1, e2]
  simp only [Datum.opposite, Datum.sum, Bool.not_false]
  obtain ⟨b, hb⟩ : ∃ b, min i j = b := ⟨_, rfl⟩
  rw [hb]
  have hbl : l ≤ b := by omega
  have t1 : signed false m (i - b).toNat = ((m * 2 ^ (i - b).toNat : Nat) : Int) := by rw [signed_eq]; rfl
  have t2 : signed true n (j - b).toNat = -((n * 2 ^ (j - b).toNat : Nat) : Int) := by rw [signed_eq]; rfl
  rw [t1, t2]
  have s1 : m * 2 ^ (i - b).toNat * 2 ^ (b - l).toNat = val f x := by rw [← v1, Nat.mul_assoc, ← Nat.pow_add]; congr 2; omega
  have s2 : n * 2 ^ (j - b).toNat * 2 ^ (b - l).toNat = val f y := by rw [← v2, Nat.mul_assoc, ← Nat.pow_add]; congr 2; omega
  generalize m * 2 ^ (i - b).toNat = M at *
  generalize n * 2 ^ (j - b).toNat = N at *
  have hp : 0 < 2 ^ (b - l).toNat := Nat.two_pow_pos _
  have hNM : N ≤ M := by
    rw [← s1, ← s2] at hvv
    exact Nat.le_of_mul_le_mul_right hvv hp
  have hneg : (if (M : Int) + -(N : Int) = 0 then (false && true) else decide ((M : Int) + -(N : Int) < 0)) = false := by
    split
    · rfl
    · simp; omega
  rw [hneg, show ((M : Int) + -(N : Int)).natAbs = M - N by omega]
  refine ⟨rungOf f (M - N) b, ?_, ?_⟩
  · simp only [Option.map_some, Format.write, nearest_rung, word_false]
  · refine rung_le (base := l) hbl (by omega) ?_
    rw [hl, Int.sub_self, Int.toNat_zero, Nat.pow_zero, Nat.mul_one]
    unfold at_
    rw [← s1]
    exact Nat.mul_le_mul_right _ (Nat.sub_le _ _)

/-- What a quotient is cut to lies on the same side of each whole number. -/
theorem quot_le {D n K : Nat} (hn : 0 < n) (h : D ≤ n * K) : 2 * (D / n) + (D % n != 0).toNat ≤ 2 * K := by
  have e := Nat.div_add_mod D n
  by_cases h0 : D % n = 0
  · rw [h0]
    have : D / n ≤ K := by
      rw [h0, Nat.add_zero] at e
      rw [← e] at h
      exact Nat.le_of_mul_le_mul_left h hn
    simp; omega
  · have : D / n < K := by
      apply Nat.lt_of_not_le
      intro hc
      have := Nat.mul_le_mul_left n hc
      omega
    have hb : (D % n != 0) = true := by simp [h0]
    rw [hb]
    simp only [Bool.toNat_true]
    omega

theorem log_lt {m : Nat} (h : m < 2 * f.binade) : m.log2 ≤ f.fractionBits := by
  by_cases h0 : m = 0
  · subst h0; simp
  · have : m.log2 < f.fractionBits + 1 := (Nat.log2_lt h0).2 (by rw [Nat.pow_succ, Nat.mul_comm]; exact h)
    omega

/-- A number that a word stands for has no more digits than the format. -/
theorem read_small {x m : Nat} {p : Int} (h : f.read x = .number false m p) : m < 2 * f.binade := by
  unfold Format.read at h
  have hb := binade_pos f
  simp only [] at h
  split at h
  · rename_i hlt
    simp only [Datum.number.injEq] at h
    omega
  · split at h
    · simp only [Datum.number.injEq] at h
      have hm := Nat.mod_lt (x % f.signWeight) hb
      omega
    · split at h <;> cases h

theorem quot_zero (mo n : Nat) : 2 * (((0 : Nat) <<< mo) / n) + (((0 : Nat) <<< mo) % n != 0).toNat = 0 := by
  rw [Nat.zero_shiftLeft, Nat.zero_div, Nat.zero_mod]; rfl

/-- A quotient of numbers that are not negative: no greater than 1 if the first one is no greater than the second one; and no greater than the first one if the second one is no less than 1. -/
theorem div_le {x y R : Nat} (hLP : f.leastPlace = -(LP : Int)) (h1 : val f one = 2 ^ LP) (hx : x < f.infRung) (hy : y < f.infRung) (hy0 : 0 < y)
    (hR : (R = one ∧ x ≤ y) ∨ (R = x ∧ one ≤ y)) : ∃ r, f.div x y = some r ∧ r ≤ R := by
  obtain ⟨m, i, e1, i1, v1⟩ := read_pos hx
  obtain ⟨n, j, e2, j1, v2⟩ := read_pos hy
  have hml := log_lt (read_small e1)
  have hnl := log_lt (read_small e2)
  rw [hLP] at i1 j1 v1 v2
  have hvy : 0 < val f y := by have := val_lt f hy0; rw [val_zero] at this; exact this
  have hn : n ≠ 0 := by
    intro h; subst h; rw [Nat.zero_mul] at v2; omega
  unfold Format.div
  rw [e1, e2]
  simp only [Datum.quotient, if_neg hn]
  obtain ⟨mo, hmo⟩ : ∃ mo, f.fractionBits + 2 + n.log2 - m.log2 = mo := ⟨_, rfl⟩
  rw [hmo]
  refine ⟨rungOf f (2 * ((m <<< mo) / n) + ((m <<< mo) % n != 0).toNat) (i - j - mo - 1), ?_, ?_⟩
  · simp only [Option.map_some, Format.write, Bool.xor_false, nearest_rung, word_false]
  by_cases hm0 : m = 0
  · subst hm0
    rw [quot_zero]
    unfold rungOf
    rw [if_pos rfl]
    exact Nat.zero_le _
  · obtain ⟨B, hBi, hBl⟩ : ∃ B : Nat, -(B : Int) ≤ i - j - mo - 1 ∧ LP ≤ B := ⟨(j - i + mo + 1).toNat + LP, by omega, by omega⟩
    have key : ∃ K : Nat, m <<< mo ≤ n * K ∧ K * 2 ^ (i - j - mo + B).toNat = val f R * 2 ^ (B - LP) := by
      have hx1 : m * 2 ^ (i + LP).toNat = val f x := by rw [← v1]; congr 2; omega
      have hy1 : n * 2 ^ (j + LP).toNat = val f y := by rw [← v2]; congr 2; omega
      have hhi := Nat.lt_log2_self (n := n)
      rcases hR with ⟨rfl, hxy⟩ | ⟨rfl, hy1'⟩
      · have hle := val_mono (f := f) hxy
        rw [← hx1, ← hy1] at hle
        have hlo := Nat.log2_self_le hm0
        have hex : i + m.log2 ≤ j + n.log2 := by
          have h1 : 2 ^ m.log2 * 2 ^ (i + LP).toNat < 2 ^ (n.log2 + 1) * 2 ^ (j + LP).toNat :=
            Nat.lt_of_le_of_lt (Nat.le_trans (Nat.mul_le_mul_right _ hlo) hle) (Nat.mul_lt_mul_of_pos_right hhi (Nat.two_pow_pos _))
          rw [← Nat.pow_add, ← Nat.pow_add] at h1
          have := (Nat.pow_lt_pow_iff_right (by omega)).1 h1
          omega
        refine ⟨2 ^ (mo + j - i).toNat, ?_, ?_⟩
        · rw [Nat.shiftLeft_eq]
          apply Nat.le_of_mul_le_mul_right (c := 2 ^ (i + LP).toNat) _ (Nat.two_pow_pos _)
          calc m * 2 ^ mo * 2 ^ (i + LP).toNat = m * 2 ^ (i + LP).toNat * 2 ^ mo := by rw [Nat.mul_right_comm]
            _ ≤ n * 2 ^ (j + LP).toNat * 2 ^ mo := Nat.mul_le_mul_right _ hle
            _ = n * 2 ^ (mo + j - i).toNat * 2 ^ (i + LP).toNat := by
              rw [Nat.mul_assoc, Nat.mul_assoc, ← Nat.pow_add, ← Nat.pow_add]; congr 2; omega
        · rw [h1, ← Nat.pow_add, ← Nat.pow_add]; congr 1; omega
      · have hle := val_mono (f := f) hy1'
        rw [h1, ← hy1] at hle
        have hex : 0 ≤ j + n.log2 := by
          have h1 : 2 ^ LP < 2 ^ (n.log2 + 1) * 2 ^ (j + LP).toNat := Nat.lt_of_le_of_lt hle (Nat.mul_lt_mul_of_pos_right hhi (Nat.two_pow_pos _))
          rw [← Nat.pow_add] at h1
          have := (Nat.pow_lt_pow_iff_right (by omega)).1 h1
          omega
        refine ⟨m * 2 ^ (mo + j).toNat, ?_, ?_⟩
        · rw [Nat.shiftLeft_eq]
          apply Nat.le_of_mul_le_mul_right (c := 2 ^ LP) _ (Nat.two_pow_pos _)
          calc m * 2 ^ mo * 2 ^ LP ≤ m * 2 ^ mo * (n * 2 ^ (j + LP).toNat) := Nat.mul_le_mul_left _ hle
            _ = n * (m * (2 ^ mo * 2 ^ (j + LP).toNat)) := by
              rw [Nat.mul_left_comm, Nat.mul_assoc]
            _ = n * (m * 2 ^ (mo + j).toNat) * 2 ^ LP := by
              rw [Nat.mul_assoc n, Nat.mul_assoc m, ← Nat.pow_add, ← Nat.pow_add]; congr 3; omega
        · rw [← hx1, Nat.mul_assoc, Nat.mul_assoc, ← Nat.pow_add, ← Nat.pow_add]; congr 2; omega
    obtain ⟨K, hK1, hK2⟩ := key
    refine rung_le (base := -(B : Int)) hBi (by rw [hLP]; omega) ?_
    rw [hLP, show (-(LP : Int) - -(B : Int)).toNat = B - LP by omega, ← hK2]
    unfold at_
    have h2 := quot_le (Nat.pos_of_ne_zero hn) hK1
    calc (2 * ((m <<< mo) / n) + ((m <<< mo) % n != 0).toNat) * 2 ^ (i - j - mo - 1 - -(B : Int)).toNat ≤ 2 * K * 2 ^ (i - j - mo - 1 - -(B : Int)).toNat := Nat.mul_le_mul_right _ h2
      _ = K * (2 ^ (i - j - mo - 1 - -(B : Int)).toNat * 2) := by rw [Nat.mul_comm 2 K, Nat.mul_assoc, Nat.mul_comm 2]
      _ = K * 2 ^ (i - j - mo + B).toNat := by rw [← Nat.pow_succ]; congr 2; omega

theorem mul_pow_self (a : Nat) (l : Int) : a * 2 ^ (l - l).toNat = a := by
  rw [Int.sub_self, Int.toNat_zero, Nat.pow_zero, Nat.mul_one]

theorem at_int (c LP : Nat) : at_ c 0 (-(LP : Int)) = c * 2 ^ LP := by
  unfold at_; congr 2; omega

/-- How an integer is rounded. -/
theorem rung_int_le {c R : Nat} (hLP : f.leastPlace = -(LP : Int)) (h : c * 2 ^ LP ≤ val f R) : rungOf f c 0 ≤ R := by
  refine rung_le (base := -(LP : Int)) (by omega) (by rw [hLP]; exact Int.le_refl _) ?_
  rw [hLP, mul_pow_self, at_int]
  exact h
theorem le_rung_int {c R : Nat} (hLP : f.leastPlace = -(LP : Int)) (hR : R ≤ f.infRung) (h : val f R ≤ c * 2 ^ LP) : R ≤ rungOf f c 0 := by
  refine le_rung (base := -(LP : Int)) (by omega) (by rw [hLP]; exact Int.le_refl _) hR ?_
  rw [hLP, mul_pow_self, at_int]
  exact h
theorem nearest_int {c r : Nat} (hLP : f.leastPlace = -(LP : Int)) (hr : r < f.infRung) (h : val f r = c * 2 ^ LP) : f.nearest false c 0 = f.word false r := by
  refine nearest_exact (f := f) (base := -(LP : Int)) false hr (by omega) (by rw [hLP]; exact Int.le_refl _) ?_
  rw [hLP, mul_pow_self, h]
  exact at_int c LP

theorem int_exact {c top T : Nat} (hLP : f.leastPlace = -(LP : Int)) (h0 : c ≠ 0) (hc : c < 2 * f.binade) (hfb : f.fractionBits ≤ LP) (htop : val f top = T * 2 ^ LP) (hT : c ≤ T) (hinf : top < f.infRung) :
    val f (f.nearest false c 0) = c * 2 ^ LP := by
  have hr := rung_of (f := f) (k := c) (q := LP) h0 hc (by omega)
  generalize ((LP + c.log2 - f.fractionBits) * f.binade + c * 2 ^ (f.fractionBits - c.log2)) = r at hr
  have hlt : r < f.infRung := by
    apply Nat.lt_of_le_of_lt _ hinf
    apply Nat.le_of_not_lt
    intro hcc
    have := val_lt f hcc
    rw [hr, htop] at this
    exact absurd this (Nat.not_lt.2 (Nat.mul_le_mul_right _ hT))
  rw [nearest_int hLP hlt hr, word_false, hr]

end

/-- The rung of 1. -/
abbrev ONE : Nat := 4607182418800017408
theorem one_inf : ONE < Ieee.double.infRung := by rw [ir64]; decide
theorem lp64 : Ieee.double.leastPlace = -((1074 : Nat) : Int) := by decide
theorem val_one : val Ieee.double ONE = 2 ^ 1074 := by decide +kernel
end Go.Proofs.Ytnigbjjllolgdaa.Flt
