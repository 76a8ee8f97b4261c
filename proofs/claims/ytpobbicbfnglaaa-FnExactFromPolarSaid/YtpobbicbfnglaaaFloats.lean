import Derived.Test.YtpobbicbfnglaaaSameF
import Derived.Test.YtpobbicbfnglaaaOpt
import Derived.Test.YtpobbicbfnglaaaWalkI64
import Derived.Deep.Slices
/-
  Slices of floats that came in or that the call has made: opened, compared, copied, marked.
-/
set_option linter.unusedVariables false
set_option linter.unusedSimpArgs false
namespace Go.Proofs.Ytpobbicbfnglaaa
open Go.RowKit Flt

section
variable {H : Type} {enc : TypeId × Value → H} {P : Program} {w : World} {base : Nat} {held : Bool}

theorem trod_float {t : TypeId} {k : FloatKind} {spare : Nat → Bool} {fuel : Nat} {cs : List Value} {x : DataW H × List MemPlace} (ht : P.underlying t = some (.float k)) (h : DataW.trod enc P w base spare held fuel t cs = some x) :
    ∃ n, cs = [.float k n] ∧ (Lit.float k n).wf = true := by
  cases fuel with
  | zero => simp [DataW.trod] at h
  | succ n =>
    unfold DataW.trod at h
    rw [ht] at h
    split at h <;> simp_all

end

/-- Floats as values. -/
def flts (zs : List Nat) : List Value := zs.map (Value.float .f64)
theorem flts_length (zs : List Nat) : (flts zs).length = zs.length := by simp [flts]
theorem flts_getD {zs : List Nat} {j : Nat} (h : j < zs.length) : (flts zs).getD j undef = .float .f64 (zs.getD j 0) := getD_map _ zs 0 h
theorem flts_snoc (zs : List Nat) (a : Nat) : flts (zs ++ [a]) = flts zs ++ [.float .f64 a] := by simp [flts]

/-- A slice of floats as the walk reads it, wherever it lies. -/
inductive ReadsF (w : World) : Value → List Nat → Prop
  | none (a : Option Addr) (cap : Nat) : ReadsF w (.slice a 0 cap) []
  | row (x : Addr) (cap L : Nat) (zs : List Nat) (hL : zs.length = L) (h0 : 0 < L) (hc : L ≤ cap) (hm : cap ≤ maxLen) (hz : ∀ z ∈ zs, z < 18446744073709551616) (h : ∀ j, j < L → w.cell? (x.add j) = some (.float .f64 (zs.getD j 0))) : ReadsF w (.slice (some x) L cap) zs

/-- A slice of floats that came in. -/
def IsRowF (w : World) (a : Option Addr) (len cap : Nat) (zs : List Nat) : Prop := ReadsF w (.slice a len cap) zs ∧ (∀ x, a = some x → 0 < len → x.block < w.heap.size)

theorem isRowF_open {H : Type} {enc : TypeId × Value → H} {P : Program} {w : World} {base : Nat} {held : Bool} {t e : TypeId} {fuel : Nat} {a : Option Addr} {len cap : Nat} {x : DataW H × List MemPlace}
    (ht : P.underlying t = some (.slice e)) (he : P.underlying e = some (.float .f64)) (hc : P.cellsOf e = 1) (h : DataW.trod enc P w base (fun _ => true) held fuel t (Value.slice a len cap).cells.toList = some x) : ∃ zs, IsRowF w a len cap zs := by
  have hcs : (Value.slice a len cap).cells.toList = [.slice a len cap] := by simp [Value.cells]
  rw [hcs] at h
  rcases Go.Deep.open_slice1 ht hc h with ⟨h0, _⟩ | ⟨x, l, c, m, n, V, D, Pl, h1, hb, hl, hm, hmm, rfl, hx⟩
  · simp only [List.cons.injEq, Value.slice.injEq, and_true] at h0
    obtain ⟨rfl, rfl, rfl⟩ := h0
    exact ⟨[], .none _ _, fun x hx => by cases hx⟩
  · simp only [List.cons.injEq, Value.slice.injEq, and_true] at h1
    obtain ⟨rfl, rfl, rfl⟩ := h1
    simp only [if_true] at hmm
    subst hmm
    have hV : ∀ i, i < m → ∃ z, V i = .float .f64 z ∧ z < 18446744073709551616 := fun i hi => by
      obtain ⟨z, e1, e2⟩ := trod_float he (hx i hi).2
      exact ⟨z, by simpa using e1, by simpa [Lit.wf] using e2⟩
    by_cases h0 : len = 0
    · subst h0
      exact ⟨[], .none _ _, fun x hx h => by omega⟩
    · let B : Nat → Nat := fun i => match V i with | .float _ z => z | _ => 0
      have hB : ∀ i, i < m → V i = .float .f64 (B i) ∧ B i < 18446744073709551616 := fun i hi => by
        obtain ⟨z, e1, e2⟩ := hV i hi
        have : B i = z := by show (match V i with | .float _ z => z | _ => 0) = z; rw [e1]
        rw [this]; exact ⟨e1, e2⟩
      refine ⟨(List.range len).map B, .row x m len _ (by simp) (by omega) hl hm ?_ ?_, fun y hy _ => ?_⟩
      · intro z hz
        obtain ⟨i, hi, rfl⟩ := List.mem_map.1 hz
        exact (hB i (by have := List.mem_range.1 hi; omega)).2
      · intro j hj
        rw [(hx j (by omega)).1, (hB j (by omega)).1]
        simp [List.getD, hj]
      · cases hy
        have := World.block_lt_of_cell? _ _ (hx 0 (by omega)).1
        rwa [addr_block] at this

theorem ReadsF.of_row {w : World} {B : Nat} {e : TypeId} {v : Value} {zs : List Nat} (h : Row w B e v (flts zs)) (hz : ∀ z ∈ zs, z < 18446744073709551616) : ReadsF w v zs := by
  have h' := h
  rcases h.shape with ⟨a, cap, rfl, h0⟩ | ⟨g, cap, rfl, h0, _, _, h1, h2⟩
  · have : zs = [] := by simpa [flts] using h0
    subst this
    exact .none a cap
  · rw [flts_length] at h0 h1 h' ⊢
    refine .row _ cap _ zs rfl h0 h1 h2 hz fun j hj => ?_
    rw [addr_lit, h'.cellAt hj, flts_getD hj]

theorem ReadsF.below {w w' : World} {B : Nat} {v : Value} {zs : List Nat} (h : ReadsF w v zs) (hb : Below B w w') (hv : ∀ x L cap, v = .slice (some x) L cap → 0 < L → x.block < B) : ReadsF w' v zs := by
  cases h with
  | none a cap => exact .none a cap
  | row x cap L zs hL h0 hc hm hz hh =>
    refine .row x cap L zs hL h0 hc hm hz fun j hj => ?_
    rw [hb.cell (by rw [addr_block]; exact hv x L cap rfl h0)]
    exact hh j hj
theorem ReadsF.drewN {w : World} {v : Value} {zs : List Nat} (h : ReadsF w v zs) (n : Nat) : ReadsF (w.drewN n) v zs := by
  cases h with
  | none a cap => exact .none a cap
  | row x cap L zs hL h0 hc hm hz hh => exact .row x cap L zs hL h0 hc hm hz hh

theorem IsRowF.below {w w' : World} {a : Option Addr} {len cap : Nat} {zs : List Nat} (h : IsRowF w a len cap zs) (hb : Below w.heap.size w w') : ReadsF w' (.slice a len cap) zs :=
  h.1.below hb (fun x L c e hL => by
    simp only [Value.slice.injEq] at e
    exact h.2 x e.1 (by omega))

theorem info_f64 : (Try.prog.info? 29).map (fun i => (i.zero, i.size, i.bytes)) = some (some (.float .f64 0), 1, 8) := by kernel_rfl

theorem fillF_step {zs : List Nat} {n k : Nat} (hk : k < n) (hz : n ≤ zs.length) :
    (flts (zs.take k) ++ List.replicate (n - k) (Value.float .f64 0)).set k (.float .f64 (zs.getD k 0)) = flts (zs.take (k + 1)) ++ List.replicate (n - (k + 1)) (Value.float .f64 0) := by
  have hl : (flts (zs.take k)).length = k := by rw [flts_length, List.length_take]; omega
  rw [List.set_append_right _ _ (by omega), hl, Nat.sub_self]
  obtain ⟨m, hm⟩ : ∃ m, n - k = m + 1 := ⟨n - k - 1, by omega⟩
  rw [hm, List.replicate_succ, List.set_cons_zero, show n - (k + 1) = m by omega, List.take_add_one]
  have e : zs[k]?.toList = [zs.getD k 0] := by simp [List.getD, show k < zs.length by omega]
  rw [e, flts_snoc, List.append_assoc]
  rfl

theorem grown_newF {w w1 w2 : World} {row : Option Nat} {B : Nat} (h : w.grownBy w1 row) (k : w1.grownBy w2 (some B)) (hB : w.heap.size ≤ B) : w.grownBy w2 row :=
  ⟨k.os.trans h.os, k.tape.trans h.tape, k.output.trans h.output, Nat.le_trans h.size k.size, fun j hj hr => (k.block j (Nat.lt_of_lt_of_le hj h.size) (by simp; omega)).trans (h.block j hj hr)⟩

set_option maxRecDepth 100000 in
set_option maxHeartbeats 4000000 in
theorem toFloat64_any {v : Value} {zs : List Nat} {w : World} (h : ReadsF w v zs) (hv : ∀ x L cap, v = .slice (some x) L cap → 0 < L → x.block < w.heap.size) (hl : zs.length ≤ 1048576) :
    Calls Try.prog 14 #[v] w fun e w' => ∃ u, e = .returned u ∧ Row w' w.heap.size 29 u (flts zs) ∧ w.grownBy w' none := by
  obtain ⟨i0, hi, hz0, hz1, hz2⟩ := info_parts info_f64
  cases h with
  | none a cap =>
    go_enter Try.func14, Try.ntmps14
    go_wp2_with (at_make; refine wpList_make_full _ rfl _ _ 22 rfl w.heap.size 29 i0 (.float .f64 0) 1 Try.underlying22 hi hz0 hz1 .i64 .i64 _ _ 0 rfl rfl rfl rfl (by rw [hz2]; omega) (by simp only [maxLen]; omega) (Nat.le_refl _) ?_)
    intro w1 hown hg1
    rw [toList_madeCells_one] at hown
    have HO : Hid (Row w1 w.heap.size 29 (.slice (some ⟨w.heap.size, 0, none⟩) 0 0) []) := by
      show w1.ownsRow _ _ _ _ _ _
      simpa using hown
    have HG := Lib.hid hg1
    clear hown hg1 hi hz0 hz1 hz2
    go_wp2
    refine wp_loop_rounds 1 ?_
    rw [rounds_succ]
    go_wp2
    go_ret
    exact ⟨_, rfl, HO.out, HG.out⟩
  | row x cap L zs hL h0 hc hm hz hh =>
    have hxb := hv x L cap rfl h0
    have hmax := maxLen_int (Nat.le_trans hc hm)
    have HC := Lib.hid hh
    have HL := Lib.hid hL
    have hLb : L ≤ 1048576 := by omega
    clear hh hv hL hl hz hm
    go_enter Try.func14, Try.ntmps14
    go_wp2_with (at_make; refine wpList_make_full _ rfl _ _ 22 rfl w.heap.size 29 i0 (.float .f64 0) 1 Try.underlying22 hi hz0 hz1 .i64 .i64 _ _ L rfl rfl rfl rfl (by rw [hz2]; omega) (by simp only [maxLen]; omega) (Nat.le_refl _) ?_)
    intro w1 hown hg1
    rw [toList_madeCells_one] at hown
    have HO : Hid (Row w1 w.heap.size 29 (.slice (some ⟨w.heap.size, 0, none⟩) L L) (List.replicate L (.float .f64 0))) := by
      show w1.ownsRow _ _ _ _ _ _
      simpa using hown
    have HG := Lib.hid hg1
    clear hown hg1 hi hz0 hz1 hz2
    have hzl : zs.length = L := HL.out
    go_wp2
    go_loopw [4] (fun i wr => ∃ k : Nat, i = .int .i64 k ∧ k ≤ L ∧ Row wr w.heap.size 29 (.slice (some ⟨w.heap.size, 0, none⟩) L L) (flts (zs.take k) ++ List.replicate (L - k) (.float .f64 0)) ∧ w.grownBy wr none) (fun i _ => L - (intOf i).toNat)
    case atStart => exact ⟨0, rfl, Nat.zero_le _, HO.out, HG.out⟩
    case round =>
      obtain ⟨k, rfl, hk, hr, hg⟩ := hrel
      by_cases hlt : k < L
      · have hx1 : wr.cell? (x.add k) = some (.float .f64 (zs.getD k 0)) := by
          rw [← HC.out k hlt]
          exact World.cell?_of_block (hg.block (x.add k).block (by rw [addr_block]; exact hxb) (by simp))
        have hS := hr.set k (.float .f64 (zs.getD k 0))
        rw [fillF_step hlt (by omega)] at hS
        have c1 := hr.cellAt hlt
        have f1 := hr.frozenAt k
        obtain ⟨u, hu⟩ : ∃ u, (flts (zs.take k) ++ List.replicate (L - k) (Value.float .f64 0)).getD k undef = u := ⟨_, rfl⟩
        rw [hu] at c1
        have hg2 := grown_newF hg hS.2 (Nat.le_refl _)
        obtain ⟨z, hzz⟩ : ∃ z, zs.getD k 0 = z := ⟨_, rfl⟩
        rw [hzz] at hx1 hS hg2
        have HS := Lib.hid hS.1
        have HG2 := Lib.hid hg2
        clear hS hg2 hu hzz hr hg
        go_wp2
        go_roundw
        case rel => exact ⟨k + 1, by go_num, by omega, HS.out, HG2.out⟩
        case measure => simp [intOf]; omega
      · have e : k = L := by omega
        subst e
        have HR := Lib.hid hr
        have HG2 := Lib.hid hg
        clear hr hg
        go_wp2
        go_ret
        refine ⟨_, rfl, ?_, HG2.out⟩
        have := HR.out
        rwa [Nat.sub_self, List.replicate_zero, List.append_nil, List.take_of_length_le (by omega)] at this

set_option maxRecDepth 100000 in
set_option maxHeartbeats 4000000 in
theorem eqFloat64_any {v v' : Value} {xs ys : List Nat} {w : World} (h : ReadsF w v xs) (h' : ReadsF w v' ys) (hl : xs.length = ys.length) (he : ∀ j, j < xs.length → cn .f64 (xs.getD j 0) = cn .f64 (ys.getD j 0)) :
    Calls Try.prog 16 #[v, v'] w fun e w' => e = .returned (.bool true) ∧ ∃ n, w' = w.drewN n := by
  cases h with
  | none a cap =>
    cases h' with
    | none a' cap' =>
      clear he
      go_enter Try.func16, Try.ntmps16
      go_wp2
      refine wp_loop_rounds 1 ?_
      rw [rounds_succ]
      go_wp2
      go_ret
      exact ⟨rfl, 0, rfl⟩
    | row x cap L zs hL h0 => simp only [List.length_nil] at hl; omega
  | row x cap L xs hL h0 hc hm hz hcell =>
    cases h' with
    | none a' cap' => simp only [List.length_nil] at hl; omega
    | row x' cap' L' ys hL' _ _ _ hz' hcell' =>
      obtain rfl : L = L' := by omega
      have hmax := maxLen_int (Nat.le_trans hc hm)
      have HC := Lib.hid hcell
      have HC' := Lib.hid hcell'
      have HE : Hid (∀ j, j < L → cn .f64 (xs.getD j 0) = cn .f64 (ys.getD j 0)) := fun j hj => he j (by omega)
      have HZ : Hid (∀ j, j < L → xs.getD j 0 < 18446744073709551616) := fun j hj => hz _ (by
        rw [List.getD_eq_getElem?_getD, List.getElem?_eq_getElem (by omega)]
        exact List.getElem_mem _)
      clear hcell hcell' h0 hL hL' hm hc he hl hz hz'
      go_enter Try.func16, Try.ntmps16
      go_wp2
      go_loopw [5] (fun i wr => ∃ k n : Nat, i = .int .i64 k ∧ k ≤ L ∧ wr = w.drewN n) (fun i _ => L - (intOf i).toNat)
      case atStart => exact ⟨0, 0, rfl, Nat.zero_le _, rfl⟩
      case round =>
        obtain ⟨k, n, rfl, hk, hw⟩ := hrel
        have HW := Lib.hid hw
        clear hw
        by_cases hlt : k < L
        · have c1 : wr.cell? (x.add k) = some (.float .f64 (xs.getD k 0)) := by rw [HW.out]; exact HC.out k hlt
          have c2 : wr.cell? (x'.add k) = some (.float .f64 (ys.getD k 0)) := by rw [HW.out]; exact HC'.out k hlt
          have hcn := HE.out k hlt
          have hzz := HZ.out k hlt
          obtain ⟨a, ha⟩ : ∃ a, xs.getD k 0 = a := ⟨_, rfl⟩
          obtain ⟨b, hb⟩ : ∃ b, ys.getD k 0 = b := ⟨_, rfl⟩
          rw [ha] at c1 hcn hzz
          rw [hb] at c2 hcn
          have S := fun w => sameFloat_any a b hcn hzz w
          clear hcn ha hb
          go_wp2
          go_quiet ((go_at_call 26; exact Calls.quiet_of_same (S _)))
          go_wp2
          go_roundw
          case rel => exact ⟨k + 1, n + nq, by go_num, by omega, by rw [HW.out, World.drewN_drewN]⟩
          case measure => simp [intOf]; omega
        · have e : k = L := by omega
          subst e
          go_wp2
          go_ret
          exact ⟨rfl, n, HW.out⟩

/-- The numbers that are laid in a row of floats: from m on. -/
def fmark (m i : Nat) : Value := .float .f64 (floatOfInt .f64 ((m + i : Nat) : Int))
def fmarks (m n : Nat) : List Value := (List.range n).map (fmark m)
theorem fmarks_length (m n : Nat) : (fmarks m n).length = n := by simp [fmarks]
theorem fmarks_getD {m n j : Nat} (h : j < n) : (fmarks m n).getD j undef = fmark m j := by simp [fmarks, List.getD, h]

set_option maxRecDepth 100000 in
set_option maxHeartbeats 1600000 in
theorem markFloat64_any {v : Value} {cs : List Value} {B m : Nat} {w : World} (h : Row w B 29 v cs) (hm : m ≤ 1000000000000) (hz : cs.length ≤ 1000000000000) :
    Calls Try.prog 17 #[v, .int .i64 m] w fun e w' => e = .returned (.int .i64 ((m + cs.length : Nat) : Int)) ∧ Row w' B 29 v (fmarks m cs.length) ∧ w.grownBy w' v.ownBlock := by
  have hown := h
  rcases h.shape with ⟨a, cap, rfl, rfl⟩ | ⟨g, cap, rfl, h0, hB, hlt, hc, hcm⟩
  · have HO := Lib.hid h
    clear h hown
    go_enter Try.func17, Try.ntmps17
    go_wp2
    refine wp_loop_rounds 1 ?_
    rw [rounds_succ]
    go_wp2
    go_ret
    exact ⟨rfl, HO.out, World.grownBy.refl _ _⟩
  · obtain ⟨L, hL⟩ : ∃ L, cs.length = L := ⟨_, rfl⟩
    rw [hL] at h hz hc h0
    rw [show (Value.slice (some ⟨g, 0, none⟩) cs.length cap) = (Value.slice (some ⟨g, 0, none⟩) L cap) by rw [hL], hL]
    unfold fmarks
    have hmax := maxLen_int (Nat.le_trans hc hcm)
    have hmL : m + L ≤ 2000000000000 := by omega
    obtain ⟨f, hf⟩ : ∃ f : Nat → Value, fmark m = f := ⟨_, rfl⟩
    have HO := Lib.hid h
    have HL := Lib.hid hL
    have HFd := Lib.hid hf
    rw [hf]
    clear h hown hf h0 hL hm hcm
    go_enter Try.func17, Try.ntmps17
    go_wp2
    go_loopw [1, 5] (fun j i wr => ∃ k : Nat, i = .int .i64 k ∧ j = .int .i64 ((m + k : Nat) : Int) ∧ k ≤ L ∧ Row wr B 29 (.slice (some ⟨g, 0, none⟩) L cap) (turned f k cs) ∧ w.grownBy wr (some g)) (fun _ i _ => L - (intOf i).toNat)
    case atStart => exact ⟨0, rfl, rfl, Nat.zero_le _, by rw [turned_zero]; exact HO.out, World.grownBy.refl _ _⟩
    case round =>
      obtain ⟨k, rfl, rfl, hk, hown, hg⟩ := hrel
      by_cases hlt' : k < L
      · have hS := hown.set k (f k)
        rw [turned_step (by rw [HL.out]; exact hlt')] at hS
        have hfk : f k = Value.float .f64 (floatOfInt .f64 ((m + k : Nat) : Int)) := by rw [← HFd.out]; rfl
        rw [hfk] at hS
        have c1 := hown.cellAt hlt'
        have f1 := hown.frozenAt k
        obtain ⟨z, hz⟩ : ∃ z, (turned f k cs).getD k undef = z := ⟨_, rfl⟩
        rw [hz] at c1
        have HS := Lib.hid hS
        have HG := Lib.hid (hg.trans hS.2)
        clear hz hown hg hS hfk
        go_wp2
        go_roundw
        case rel => exact ⟨k + 1, by go_num, by go_num, by omega, HS.out.1, HG.out⟩
        case measure => simp [intOf]; omega
      · have e : k = L := by omega
        subst e
        have HOW := Lib.hid hown
        have HG := Lib.hid hg
        clear hown hg
        go_wp2
        go_ret
        refine ⟨rfl, ?_, HG.out⟩
        have := HOW.out
        rw [← HL.out, turned_all] at this
        rw [← HL.out]
        exact this

end Go.Proofs.Ytpobbicbfnglaaa
