/-
  Several texts of this claim, one behind the other; each says what it holds.
-/
import Derived.Test.YtocjhanehphibaaMPolyph4
import Derived.Test.YtocjhanehphibaaRows
import Derived.Lib.Hide
import Derived.Deep.QuietTactic
import Derived.BigQuiet
import Derived.Deep.RegionWith
import Derived.Deep.RegionLaw
import Derived.Deep.Slices
/-
  Every m-th number of a signal, of any length: everyOf of the program, l05Decimate of the model.
-/
set_option linter.unusedVariables false
set_option linter.unusedSimpArgs false
namespace Go.Proofs.Ytocjhanehphibaa
open Go.RowKit Flt Fast

/-- How many numbers there are at every p-th place from r on. -/
def cntP (n r p : Nat) : Nat := (n - r + p - 1) / p
theorem cntP_lt (n r p t : Nat) (hp : 0 < p) : t < cntP n r p ↔ r + t * p < n := by
  unfold cntP
  rw [Nat.lt_iff_add_one_le, Nat.le_div_iff_mul_le hp, Nat.add_mul, Nat.one_mul]
  omega
theorem cntP_le (n r p : Nat) (hp : 0 < p) : cntP n r p ≤ n := by
  apply Nat.le_of_not_lt
  intro h
  have h1 := (cntP_lt n r p n hp).1 h
  have : n * 1 ≤ n * p := Nat.mul_le_mul_left _ hp
  omega

set_option maxRecDepth 100000 in
set_option maxHeartbeats 4000000 in
theorem everyN_any {v : Value} {xs : List C} {w : World} (h : Reads w v (cvals xs)) (p r : Nat) (hp0 : 0 < p) (hr : r < p) (hp : p ≤ 1024) (hl : xs.length ≤ 1024) :
    Calls Try.prog 55 #[v, .int .i64 r, .int .i64 p] w fun e w' => ∃ v', e = .returned v' ∧ Row w' w.heap.size 30 v' (cvals (partN xs r p (cntP xs.length r p))) ∧ Below w.heap.size w w' := by
  obtain ⟨i0, hi, hz0, hz1, hz2⟩ := info_parts info_c128
  obtain ⟨n, hxn⟩ : ∃ n, xs.length = n := ⟨_, rfl⟩
  have hrd := readsAt' h
  obtain ⟨a, cap, rfl⟩ := h.form'
  rw [cvals_length, hxn] at hrd ⊢
  replace hrd := hrd _ _ _ rfl
  rw [hxn] at hl
  obtain ⟨m, hm⟩ : ∃ m, cntP n r p = m := ⟨_, rfl⟩
  have hcl := cntP_le n r p hp0
  rw [hm] at hcl
  rw [hm]
  have HM : Hid (∀ t, t < m ↔ r + t * p < n) := fun t => by rw [← hm]; exact cntP_lt n r p t hp0
  have HRD := Lib.hid hrd
  have hmp : m ≤ 1024 := by omega
  clear h hxn hrd hm hcl
  go_enter Try.func55, Try.ntmps55
  go_wp2
  go_loopw [7, 8] (fun v8 i wq => ∃ (t J : Nat), i = .int .i64 J ∧ J = r + t * p ∧ t ≤ m ∧ J ≤ n + p ∧ Row wq w.heap.size 30 v8 (cvals (partN xs r p t)) ∧ Below w.heap.size w wq) (fun _ i _ => n - (intOf i).toNat)
  case atStart => exact ⟨0, r, rfl, by omega, Nat.zero_le _, by omega, World.ownsRow_nil _ _ _ _, Below.refl _ _⟩
  case round =>
    obtain ⟨t, J, rfl, hJ, ht, hJn, hrw, hbw⟩ := hrel
    have HJ := Lib.hid hJ
    have HRW := Lib.hid hrw
    have HBW := Lib.hid hbw
    clear hJ hrw hbw
    by_cases hJl : J < n
    · obtain ⟨g, rfl, hg, hc⟩ := HRD.out J hJl
      have c1 : wr.cell? ⟨g, J, none⟩ = some (.complex .f64 (xs.getD J (0, 0)).1 (xs.getD J (0, 0)).2) := by
        rw [HBW.out.cell hg]; exact hc
      have htm : t < m := (HM.out t).2 (by have := HJ.out; omega)
      have hJ2 : J + p = r + (t + 1) * p := by rw [Nat.add_mul, Nat.one_mul, HJ.out]; omega
      have hps := partN_succ xs r p t
      rw [← HJ.out] at hps
      obtain ⟨⟨a, b⟩, hab⟩ : ∃ q, xs.getD J (0, 0) = q := ⟨_, rfl⟩
      rw [hab] at c1 hps
      have hl8 : (cvals (partN xs r p t)).length = t := by rw [cvals_length, partN_length]
      have HS := Lib.hid hps
      have HJ2 := Lib.hid hJ2
      have HL8 := Lib.hid hl8
      clear hab hps hJ2 hl8 hc
      go_wp2_with (at_builtin; refine wpList_append_own _ rfl _ _ 24 rfl w.heap.size 30 i0 (.complex .f64 0 0) 1 16 Try.underlying24 hi hz0 hz1 hz2 rfl (by decide) _ _ _ rfl (HRW.out.alloc _) ⟨_, 0, none⟩ 1 1 [.complex .f64 a b] rfl rfl (cell_one_new _ _ _) (by intro u hu; simp at hu; subst hu; rfl) (by rw [HL8.out]; simp only [maxLen]; omega) (by rw [HL8.out]; omega) (by have := HBW.out.size; simp; omega) ?_)
      intro v' w1 hown' hgrow _
      have hlt' := (HRW.out.alloc (.cells #[.complex .f64 a b] 30)).lt
      have HB' : Hid (Below w.heap.size w w1) := (HBW.out.alloc HBW.out.size _).grown hgrow (by have := HBW.out.size; simp; omega) (fun b e => (hlt' b e).1)
      have HO' : Hid (Row w1 w.heap.size 30 v' (cvals (partN xs r p (t + 1)))) := by
        show w1.ownsRow _ _ _ _ _ _
        rw [HS.out, cvals_snoc, List.length_append]
        exact hown'
      clear hown' hgrow hlt' HRW HBW HS HL8
      go_wp2
      go_roundw
      case rel => first | exact ⟨t + 1, J + p, by go_num, HJ2.out, by omega, by omega, HO'.out, HB'.out⟩ | ((repeat apply Exists.intro); refine ⟨?_, rfl⟩; exact ⟨t + 1, J + p, by go_num, HJ2.out, by omega, by omega, HO'.out, HB'.out⟩)
      case measure => simp [intOf]; omega
    · have htm : t = m := by
        have e1 := HJ.out
        have e2 := HM.out t
        omega
      subst htm
      go_wp2
      go_ret
      exact ⟨_, rfl, HRW.out, HBW.out⟩

set_option maxRecDepth 100000 in
set_option maxHeartbeats 4000000 in
theorem decN_spec {v : Value} {xs : List C} {w : World} (h : Reads w v (cvals xs)) (p r : Nat) (hp0 : 0 < p) (hr : r < p) (hp : p ≤ 1024) (hl : xs.length ≤ 1024) :
    Calls Try.prog 51 #[v, .int .i64 p, .int .i64 r] w fun e w' => ∃ v', e = .returned v' ∧ Row w' w.heap.size 30 v' (cvals (partN xs r p (cntP xs.length r p))) ∧ Below w.heap.size w w' := by
  obtain ⟨i0, hi, hz0, hz1, hz2⟩ := info_parts info_c128
  obtain ⟨n, hxn⟩ : ∃ n, xs.length = n := ⟨_, rfl⟩
  have hrd := readsAt' h
  obtain ⟨a, cap, rfl⟩ := h.form'
  rw [cvals_length, hxn] at hrd ⊢
  replace hrd := hrd _ _ _ rfl
  rw [hxn] at hl
  obtain ⟨m, hm⟩ : ∃ m, cntP n r p = m := ⟨_, rfl⟩
  have hcl := cntP_le n r p hp0
  rw [hm] at hcl
  rw [hm]
  have HM : Hid (∀ t, t < m ↔ r + t * p < n) := fun t => by rw [← hm]; exact cntP_lt n r p t hp0
  have HRD := Lib.hid hrd
  have hmp : m ≤ 1024 := by omega
  clear h hxn hrd hm hcl
  go_enter Try.func51, Try.ntmps51
  go_wp2
  go_loopw [7, 8] (fun v8 i wq => ∃ (t J : Nat), i = .int .i64 J ∧ J = r + t * p ∧ t ≤ m ∧ J ≤ n + p ∧ Row wq w.heap.size 30 v8 (cvals (partN xs r p t)) ∧ Below w.heap.size w wq) (fun _ i _ => n - (intOf i).toNat)
  case atStart => exact ⟨0, r, rfl, by omega, Nat.zero_le _, by omega, World.ownsRow_lit w #[] 0 (Nat.le_refl _) (by unfold maxLen; omega) rfl, (Below.refl _ _).alloc (Nat.le_refl _) _⟩
  case round =>
    obtain ⟨t, J, rfl, hJ, ht, hJn, hrw, hbw⟩ := hrel
    have HJ := Lib.hid hJ
    have HRW := Lib.hid hrw
    have HBW := Lib.hid hbw
    clear hJ hrw hbw
    by_cases hJl : J < n
    · obtain ⟨g, rfl, hg, hc⟩ := HRD.out J hJl
      have c1 : wr.cell? ⟨g, J, none⟩ = some (.complex .f64 (xs.getD J (0, 0)).1 (xs.getD J (0, 0)).2) := by
        rw [HBW.out.cell hg]; exact hc
      have htm : t < m := (HM.out t).2 (by have := HJ.out; omega)
      have hJ2 : J + p = r + (t + 1) * p := by rw [Nat.add_mul, Nat.one_mul, HJ.out]; omega
      have hps := partN_succ xs r p t
      rw [← HJ.out] at hps
      obtain ⟨⟨a, b⟩, hab⟩ : ∃ q, xs.getD J (0, 0) = q := ⟨_, rfl⟩
      rw [hab] at c1 hps
      have hl8 : (cvals (partN xs r p t)).length = t := by rw [cvals_length, partN_length]
      have HS := Lib.hid hps
      have HJ2 := Lib.hid hJ2
      have HL8 := Lib.hid hl8
      clear hab hps hJ2 hl8 hc
      go_wp2_with (at_builtin; refine wpList_append_own _ rfl _ _ 24 rfl w.heap.size 30 i0 (.complex .f64 0 0) 1 16 Try.underlying24 hi hz0 hz1 hz2 rfl (by decide) _ _ _ rfl (HRW.out.alloc _) ⟨_, 0, none⟩ 1 1 [.complex .f64 a b] rfl rfl (cell_one_new _ _ _) (by intro u hu; simp at hu; subst hu; rfl) (by rw [HL8.out]; simp only [maxLen]; omega) (by rw [HL8.out]; omega) (by have := HBW.out.size; simp; omega) ?_)
      intro v' w1 hown' hgrow _
      have hlt' := (HRW.out.alloc (.cells #[.complex .f64 a b] 30)).lt
      have HB' : Hid (Below w.heap.size w w1) := (HBW.out.alloc HBW.out.size _).grown hgrow (by have := HBW.out.size; simp; omega) (fun b e => (hlt' b e).1)
      have HO' : Hid (Row w1 w.heap.size 30 v' (cvals (partN xs r p (t + 1)))) := by
        show w1.ownsRow _ _ _ _ _ _
        rw [HS.out, cvals_snoc, List.length_append]
        exact hown'
      clear hown' hgrow hlt' HRW HBW HS HL8
      go_wp2
      go_roundw
      case rel => first | exact ⟨t + 1, J + p, by go_num, HJ2.out, by omega, by omega, HO'.out, HB'.out⟩ | ((repeat apply Exists.intro); refine ⟨?_, rfl⟩; exact ⟨t + 1, J + p, by go_num, HJ2.out, by omega, by omega, HO'.out, HB'.out⟩)
      case measure => simp [intOf]; omega
    · have htm : t = m := by
        have e1 := HJ.out
        have e2 := HM.out t
        omega
      subst htm
      go_wp2
      go_ret
      exact ⟨_, rfl, HRW.out, HBW.out⟩

end Go.Proofs.Ytocjhanehphibaa
/-
  Bytes that came in; a2At, a2Long.
-/
set_option linter.unusedVariables false
set_option linter.unusedSimpArgs false
namespace Go.Proofs.Ytocjhanehphibaa
open Go.RowKit

theorem isRow_cell {w0 w : World} {x : Addr} {len cap : Nat} {zs : List Int} (hr : IsRow .u8 w0 (some x) len cap zs) (hb : Below w0.heap.size w0 w) {k : Nat} (hk : k < len) :
    ∃ z : Int, w.cell? (x.add k) = some (.int .u8 z) ∧ 0 ≤ z ∧ z ≤ 255 := by
  rcases hr with ⟨h, -⟩ | ⟨y, h, hl, hm, hz, hc, hw⟩
  · cases h
  · obtain rfl := Option.some.inj h
    have hk' : k < zs.length := by omega
    have c := hc k hk'
    refine ⟨zs.getD k 0, ?_, ?_⟩
    · rw [hb.cell (World.block_lt_of_cell? _ _ c), c]
    · have hmem : zs.getD k 0 ∈ zs := by
        rw [List.getD_eq_getElem?_getD, List.getElem?_eq_getElem hk']
        exact List.getElem_mem hk'
      have := hw _ hmem
      simp only [Lit.wf, decide_eq_true_eq] at this
      have h1 : IntKind.u8.min = 0 := by decide
      have h2 : IntKind.u8.max = 255 := by decide
      rw [h1, h2] at this
      simpa using this

theorem isRow_len {w0 : World} {a : Option Addr} {len cap : Nat} {zs : List Int} (hr : IsRow .u8 w0 a len cap zs) : len ≤ 9223372036854775807 := by
  rcases hr with ⟨-, rfl, -⟩ | ⟨y, h, hl, hm, hz, hc, hw⟩
  · omega
  · unfold maxLen at hm; omega

theorem isRow_below {k : IntKind} {w0 w1 : World} {a : Option Addr} {len cap : Nat} {zs : List Int} (hr : IsRow k w0 a len cap zs) (hb : Below w0.heap.size w0 w1) : IsRow k w1 a len cap zs := by
  rcases hr with h | ⟨x, h, hl, hm, hz, hc, hw⟩
  · exact .inl h
  · exact .inr ⟨x, h, hl, hm, hz, fun i hi => by rw [hb.cell (World.block_lt_of_cell? _ _ (hc i hi)), hc i hi], hw⟩

/-- A number from 0 to n - 1 is returned. -/
def Upto (n : Int) (w : World) (e : Ending) (w' : World) : Prop := ∃ r : Int, 0 ≤ r ∧ r < n ∧ e = .returned (.int .i64 r) ∧ w' = w

end Go.Proofs.Ytocjhanehphibaa
/-
  The draws of the model: l00Src and what is drawn by it. Nothing is said of the numbers that are drawn but that they fit.
-/
set_option linter.unusedVariables false
set_option linter.unusedSimpArgs false
namespace Go.Proofs.Ytocjhanehphibaa
open Go.RowKit Flt

/-- In block B of the world w lies a source over the bytes (a, len, cap) that lay there in the world w0. -/
structure Src (w0 : World) (B : Nat) (a : Option Addr) (len cap : Nat) (i : Int) (w : World) : Prop where
  below : Below w0.heap.size w0 w
  new : w0.heap.size ≤ B
  code : w.cell? ⟨B, 0, none⟩ = some (.slice a len cap)
  pos : w.cell? ⟨B, 1, none⟩ = some (.int .i64 i)
  seed : ∃ s, w.cell? ⟨B, 2, none⟩ = some (.int .u64 s)
  free1 : w.frozen? ⟨B, 1, none⟩ = false
  free2 : w.frozen? ⟨B, 2, none⟩ = false
  low : 0 ≤ i

/-- A number from lo to hi is returned, and the source has gone on, by at most so many bytes. -/
def Picks (w0 : World) (B : Nat) (a : Option Addr) (len cap : Nat) (i : Int) (lo hi most : Int) (w : World) (e : Ending) (w' : World) : Prop :=
  ∃ r j, lo ≤ r ∧ r ≤ hi ∧ e = .returned (.int .i64 r) ∧ i ≤ j ∧ j ≤ i + most ∧ Src w0 B a len cap j w' ∧ w.grownBy w' (some B)

theorem block_of_cell {w : World} {B : Nat} {v : Value} {o : Nat} (h : w.cell? ⟨B, o, none⟩ = some v) : B < w.heap.size := World.block_lt_of_cell? _ _ h

/-- What the walk of 'next' leaves. -/
theorem src_step {w0 : World} {B : Nat} {a : Option Addr} {len cap : Nat} {k : Int} {w : World} (h : Src w0 B a len cap k w) (n m : Nat) (s : Int) :
    Src w0 B a len cap (k + 1) ((((w.drewN n).setCell ⟨B, 1, none⟩ (.int .i64 (k + 1))).setCell ⟨B, 2, none⟩ (.int .u64 s)).drewN m) ∧
    w.grownBy ((((w.drewN n).setCell ⟨B, 1, none⟩ (.int .i64 (k + 1))).setCell ⟨B, 2, none⟩ (.int .u64 s)).drewN m) (some B) := by
  obtain ⟨hb, hn, c0, c1, ⟨t, c2⟩, f1, f2, h0⟩ := h
  have hB := block_of_cell c0
  have d0 : (w.drewN n).cell? ⟨B, 0, none⟩ = some (.slice a len cap) := c0
  have d1 : (w.drewN n).cell? ⟨B, 1, none⟩ = some (.int .i64 k) := c1
  have d2 : (w.drewN n).cell? ⟨B, 2, none⟩ = some (.int .u64 t) := c2
  have e2 : ((w.drewN n).setCell ⟨B, 1, none⟩ (.int .i64 (k + 1))).cell? ⟨B, 2, none⟩ = some (.int .u64 t) := by
    rw [World.cell?_setCell_other (h := by simp)]; exact d2
  refine ⟨⟨?_, hn, ?_, ?_, ⟨s, ?_⟩, ?_, ?_, by omega⟩, ?_⟩
  · exact below_draws (Below.setCell (Below.setCell (below_draws hb n) (p := ⟨B, 1, none⟩) hn _) (p := ⟨B, 2, none⟩) hn _) m
  · show (((w.drewN n).setCell ⟨B, 1, none⟩ (.int .i64 (k + 1))).setCell ⟨B, 2, none⟩ (.int .u64 s)).cell? _ = _
    rw [World.cell?_setCell_other (h := by simp), World.cell?_setCell_other (h := by simp)]; exact d0
  · show (((w.drewN n).setCell ⟨B, 1, none⟩ (.int .i64 (k + 1))).setCell ⟨B, 2, none⟩ (.int .u64 s)).cell? _ = _
    rw [World.cell?_setCell_other (h := by simp), World.cell?_setCell_same (h := d1)]
  · show (((w.drewN n).setCell ⟨B, 1, none⟩ (.int .i64 (k + 1))).setCell ⟨B, 2, none⟩ (.int .u64 s)).cell? _ = _
    rw [World.cell?_setCell_same (h := e2)]
  · show (((w.drewN n).setCell ⟨B, 1, none⟩ (.int .i64 (k + 1))).setCell ⟨B, 2, none⟩ (.int .u64 s)).frozen? _ = _
    simp [f1]
  · show (((w.drewN n).setCell ⟨B, 1, none⟩ (.int .i64 (k + 1))).setCell ⟨B, 2, none⟩ (.int .u64 s)).frozen? _ = _
    simp [f2]
  · refine ⟨rfl, rfl, rfl, ?_, ?_⟩
    · show w.heap.size ≤ (((w.drewN n).setCell ⟨B, 1, none⟩ (.int .i64 (k + 1))).setCell ⟨B, 2, none⟩ (.int .u64 s)).heap.size
      simp [World.setCell]
    · intro j hj hne
      have hjB : j ≠ B := fun e => hne (by rw [e])
      show (((w.drewN n).setCell ⟨B, 1, none⟩ (.int .i64 (k + 1))).setCell ⟨B, 2, none⟩ (.int .u64 s)).heap[j]? = _
      rw [Below.heap_setCell _ _ _ _ hjB, Below.heap_setCell _ _ _ _ hjB]
      rfl

set_option maxHeartbeats 1000000 in
theorem next_in (w0 : World) (B : Nat) (x : Addr) (len cap : Nat) (zs : List Int) (hr : IsRow .u8 w0 (some x) len cap zs) (k : Nat) (hi : k < 4611686018427387904) (w : World) (h : Src w0 B (some x) len cap k w) (hl : k < len) :
    Calls Try.prog 65 #[.pointer (some ⟨B, 0, none⟩)] w (Picks w0 B (some x) len cap k 0 255 1 w) := by
  have HS := Lib.hid h
  obtain ⟨hb, hn, c0, c1, ⟨s, c2⟩, f1, f2, h0⟩ := h
  obtain ⟨z, hz, z0, z1⟩ := isRow_cell hr hb hl
  have hlen := isRow_len hr
  have hl' : (k : Int) < (len : Int) := by omega
  clear hr h0 hb
  go_enter Try.func65, Try.ntmps65
  go_wp2
  go_quiet (fail)
  go_wp2
  go_quiet (fail)
  go_wp2
  go_quiet (fail)
  go_wp2
  go_ret
  exact ⟨z, _, z0, z1, rfl, by omega, by omega, src_step HS.out _ _ _⟩

theorem and255 (n : Int) : 0 ≤ bits .and .u64 n 255 ∧ bits .and .u64 n 255 ≤ 255 := by
  have h : ∃ m : Nat, m ≤ 255 ∧ bits .and .u64 n 255 = IntKind.u64.wrap (m : Int) := by
    refine ⟨(BitVec.ofInt 64 n).toNat &&& 255, Nat.and_le_right, ?_⟩
    show IntKind.u64.wrap ((BitVec.ofInt 64 n &&& BitVec.ofInt 64 255).toNat : Int) = _
    rw [BitVec.toNat_and]
    rfl
  obtain ⟨m, hm, e⟩ := h
  rw [e, IntWalk.u64_in _ (by omega)]
  omega

set_option maxHeartbeats 1000000 in
theorem next_out (w0 : World) (B : Nat) (a : Option Addr) (len cap : Nat) (hlen : len ≤ 9223372036854775807) (k : Nat) (hi : k < 4611686018427387904) (w : World) (h : Src w0 B a len cap k w) (hl : ¬ k < len) :
    Calls Try.prog 65 #[.pointer (some ⟨B, 0, none⟩)] w (Picks w0 B a len cap k 0 255 1 w) := by
  have HS := Lib.hid h
  obtain ⟨hb, hn, c0, c1, ⟨s, c2⟩, f1, f2, h0⟩ := h
  have hl' : (len : Int) ≤ (k : Int) := by omega
  clear h0 hb
  go_enter Try.func65, Try.ntmps65
  go_wp2
  go_quiet (fail)
  go_wp2
  go_quiet (fail)
  go_wp2
  go_ret
  refine ⟨_, _, ?_, ?_, rfl, by omega, by omega, src_step HS.out _ _ _⟩
  all_goals
    rw [IntWalk.wrap64_in _ (by have := and255 (IntKind.u64.wrap (IntKind.u64.wrap (IntKind.u64.wrap (s * 6364136223846793005)) + 1442695040888963407) / 1099511627776); omega)]
    have := and255 (IntKind.u64.wrap (IntKind.u64.wrap (IntKind.u64.wrap (s * 6364136223846793005)) + 1442695040888963407) / 1099511627776)
    omega

/-- The bytes that a source reads lay in the world w0. -/
def Bytes (w0 : World) (a : Option Addr) (len cap : Nat) : Prop := ∃ zs, IsRow .u8 w0 a len cap zs

theorem next_any (w0 : World) (B : Nat) (a : Option Addr) (len cap : Nat) (hr : Bytes w0 a len cap) (i : Int) (hi : i < 4611686018427387904) (w : World) (h : Src w0 B a len cap i w) :
    Calls Try.prog 65 #[.pointer (some ⟨B, 0, none⟩)] w (Picks w0 B a len cap i 0 255 1 w) := by
  obtain ⟨zs, hr⟩ := hr
  obtain ⟨k, rfl⟩ : ∃ k : Nat, i = k := ⟨i.toNat, by have := h.low; omega⟩
  by_cases hl : k < len
  · cases a with
    | none =>
      rcases hr with ⟨-, rfl, -⟩ | ⟨x, hx, -⟩
      · omega
      · cases hx
    | some x => exact next_in w0 B x len cap zs hr k (by omega) w h hl
  · exact next_out w0 B a len cap (isRow_len hr) k (by omega) w h hl

theorem grown_trans {a b c : World} {B : Nat} (h : a.grownBy b (some B)) (k : b.grownBy c (some B)) : a.grownBy c (some B) :=
  ⟨k.os.trans h.os, k.tape.trans h.tape, k.output.trans h.output, Nat.le_trans h.size k.size, fun i hi hne => (k.block i (Nat.lt_of_lt_of_le hi h.size) hne).trans (h.block i hi hne)⟩

set_option maxHeartbeats 1000000 in
theorem pick_small (w0 : World) (B : Nat) (a : Option Addr) (len cap : Nat) (hr : Bytes w0 a len cap) (i : Int) (hi : i < 4611686018427387903) (n : Int) (hn : 1 < n) (hn' : n ≤ 200) (w : World) (h : Src w0 B a len cap i w) :
    Calls Try.prog 34 #[.pointer (some ⟨B, 0, none⟩), .int .i64 n] w (Picks w0 B a len cap i 0 (n - 1) 2 w) := by
  go_enter Try.func34, Try.ntmps34
  go_wp2_with fail
  go_at_call 65
  refine (next_any w0 B a len cap hr i (by omega) _ h).mono ?_
  rintro e w1 ⟨r, j, r0, r1, rfl, j0, j1, hs, hg⟩
  go_wp2
  go_ret
  have h1 := Int.emod_nonneg r (show n ≠ 0 by omega)
  have h2 := Int.emod_lt_of_pos r (show 0 < n by omega)
  exact ⟨_, j, h1, by omega, rfl, j0, by omega, hs, hg⟩

set_option maxHeartbeats 1000000 in
theorem pick_great (w0 : World) (B : Nat) (a : Option Addr) (len cap : Nat) (hr : Bytes w0 a len cap) (i : Int) (hi : i < 4611686018427387903) (n : Int) (hn : 200 < n) (hn' : n ≤ 4611686018427387904) (w : World) (h : Src w0 B a len cap i w) :
    Calls Try.prog 34 #[.pointer (some ⟨B, 0, none⟩), .int .i64 n] w (Picks w0 B a len cap i 0 (n - 1) 2 w) := by
  go_enter Try.func34, Try.ntmps34
  go_wp2_with fail
  go_at_call 65
  refine (next_any w0 B a len cap hr i (by omega) _ h).mono ?_
  rintro e w1 ⟨r, j, r0, r1, rfl, j0, j1, hs, hg⟩
  go_wp2_with fail
  go_at_call 65
  refine (next_any w0 B a len cap hr j (by omega) _ hs).mono ?_
  rintro e w2 ⟨r', j', r0', r1', rfl, j0', j1', hs', hg'⟩
  go_wp2
  go_ret
  have h1 := Int.emod_nonneg (r * 256 + r') (show n ≠ 0 by omega)
  have h2 := Int.emod_lt_of_pos (r * 256 + r') (show 0 < n by omega)
  exact ⟨_, j', h1, by omega, rfl, by omega, by omega, hs', grown_trans hg hg'⟩

theorem pick_any (w0 : World) (B : Nat) (a : Option Addr) (len cap : Nat) (hr : Bytes w0 a len cap) (i : Int) (hi : i < 4611686018427387903) (n : Int) (hn : 1 < n) (hn' : n ≤ 4611686018427387904) (w : World) (h : Src w0 B a len cap i w) :
    Calls Try.prog 34 #[.pointer (some ⟨B, 0, none⟩), .int .i64 n] w (Picks w0 B a len cap i 0 (n - 1) 2 w) := by
  by_cases h1 : n ≤ 200
  · exact pick_small w0 B a len cap hr i hi n hn h1 w h
  · exact pick_great w0 B a len cap hr i hi n (by omega) hn' w h

/-- A float is returned, of whatever bits, and the source has gone on. -/
def PicksF (w0 : World) (B : Nat) (a : Option Addr) (len cap : Nat) (i : Int) (most : Int) (w : World) (e : Ending) (w' : World) : Prop :=
  ∃ r j, r < 18446744073709551616 ∧ e = .returned (.float .f64 r) ∧ i ≤ j ∧ j ≤ i + most ∧ Src w0 B a len cap j w' ∧ w.grownBy w' (some B)

theorem Src.draws {w0 : World} {B : Nat} {a : Option Addr} {len cap : Nat} {i : Int} {w : World} (h : Src w0 B a len cap i w) (n : Nat) : Src w0 B a len cap i (w.drewN n) :=
  ⟨below_draws h.below n, h.new, h.code, h.pos, h.seed, h.free1, h.free2, h.low⟩
theorem grown_draws {a b : World} {row : Option Nat} (h : a.grownBy b row) (n : Nat) : a.grownBy (b.drewN n) row := ⟨h.os, h.tape, h.output, h.size, h.block⟩

theorem u64_bounds (x : Int) : 0 ≤ IntKind.u64.wrap x ∧ IntKind.u64.wrap x < 18446744073709551616 := by
  simp only [IntKind.wrap, IntKind.bits, IntKind.signed]
  simp
  omega
theorem bits_bounds (op : BinOp) (x y : Int) : 0 ≤ bits op .u64 x y ∧ bits op .u64 x y < 18446744073709551616 := by
  unfold bits
  exact u64_bounds _
theorem toNat_lt {x : Int} (h : 0 ≤ x ∧ x < 18446744073709551616) : x.toNat < 18446744073709551616 := by omega

theorem inf_neg (w : World) :
    Calls Try.prog 105 #[.int .i64 (-1)] w fun e w' => e = .returned (.float .f64 18442240474082181120) ∧ w' = w := by
  go_enter Try.func105, Try.ntmps105
  go_wp2
  go_ret
  exact ⟨rfl, rfl⟩
theorem nan_call (w : World) :
    Calls Try.prog 104 #[] w fun e w' => e = .returned (.float .f64 9221120237041090561) ∧ w' = w := by
  go_enter Try.func104, Try.ntmps104
  go_wp2
  go_ret
  exact ⟨rfl, rfl⟩
set_option maxRecDepth 100000 in
theorem copysign_zero (w : World) :
    Calls Try.prog 106 #[.float .f64 0, .float .f64 13830554455654793216] w fun e w' => e = .returned (.float .f64 9223372036854775808) ∧ w' = w := by
  go_enter Try.func106, Try.ntmps106
  go_wp2
  go_ret
  exact ⟨by kernel_rfl, rfl⟩

/-- A source that is made anew. -/
theorem src_new {w : World} {a : Option Addr} {len cap : Nat} {t : TypeId} : Src w w.heap.size a len cap 0 (w.alloc (.cells #[.slice a len cap, .int .i64 0, .int .u64 0] t)) := by
  refine ⟨(Below.refl _ _).alloc (Nat.le_refl _) _, Nat.le_refl _, ?_, ?_, ⟨0, ?_⟩, ?_, ?_, Int.le_refl _⟩ <;> simp

theorem below_of_src {w w1 w2 : World} {B : Nat} {a : Option Addr} {len cap : Nat} {i : Int} (h : Src w B a len cap i w2) : Below w.heap.size w w2 := h.below

/-- A float of whatever bits; nothing that was there has turned. -/
def AnyF (w : World) (e : Ending) (w' : World) : Prop := (∃ r, r < 18446744073709551616 ∧ e = .returned (.float .f64 r)) ∧ Below w.heap.size w w'

end Go.Proofs.Ytocjhanehphibaa
/-
  The draws of complex numbers: l01Any, A2Any; and a2At.
-/
set_option linter.unusedVariables false
set_option linter.unusedSimpArgs false
namespace Go.Proofs.Ytocjhanehphibaa
open Go.RowKit Flt

/-- A bool is returned, and the source has gone on. -/
def PicksB (w0 : World) (B : Nat) (a : Option Addr) (len cap : Nat) (i : Int) (most : Int) (w : World) (e : Ending) (w' : World) : Prop :=
  ∃ b j, e = .returned (.bool b) ∧ i ≤ j ∧ j ≤ i + most ∧ Src w0 B a len cap j w' ∧ w.grownBy w' (some B)
/-- A complex number is returned, and the source has gone on. -/
def PicksC (w0 : World) (B : Nat) (a : Option Addr) (len cap : Nat) (i : Int) (most : Int) (w : World) (e : Ending) (w' : World) : Prop :=
  ∃ x y j, x < 18446744073709551616 ∧ y < 18446744073709551616 ∧ e = .returned (.complex .f64 x y) ∧ i ≤ j ∧ j ≤ i + most ∧ Src w0 B a len cap j w' ∧ w.grownBy w' (some B)

theorem one_any (w0 : World) (B : Nat) (a : Option Addr) (len cap : Nat) (hr : Bytes w0 a len cap) (i : Int) (hi : i < 4611686018427387903) (n : Int) (hn : 1 < n) (hn' : n ≤ 4611686018427387904) (w : World) (h : Src w0 B a len cap i w) :
    Calls Try.prog 91 #[.pointer (some ⟨B, 0, none⟩), .int .i64 n] w (PicksB w0 B a len cap i 2 w) := by
  go_enter Try.func91, Try.ntmps91
  go_wp2_with fail
  refine (pick_any w0 B a len cap hr i hi n hn hn' _ h).mono ?_
  rintro e w1 ⟨r, j, r0, r1, rfl, j0, j1, hs, hg⟩
  clear hn hn' h r0 r1
  go_wp2
  go_ret
  exact ⟨_, j, rfl, j0, j1, hs, hg⟩

/-- A complex number of whatever bits; nothing that was there has turned. -/
def AnyC (w : World) (e : Ending) (w' : World) : Prop := ∃ x y, x < 18446744073709551616 ∧ y < 18446744073709551616 ∧ e = .returned (.complex .f64 x y) ∧ Below w.heap.size w w'

end Go.Proofs.Ytocjhanehphibaa
/-
  The draw of a signal: l01Signal, A2Wild.
-/
set_option linter.unusedVariables false
set_option linter.unusedSimpArgs false
namespace Go.Proofs.Ytocjhanehphibaa
open Go.RowKit Flt Fast

theorem Src.alloc {w0 : World} {B : Nat} {a : Option Addr} {len cap : Nat} {i : Int} {w : World} (h : Src w0 B a len cap i w) (o : Obj) : Src w0 B a len cap i (w.alloc o) := by
  have hB := block_of_cell h.code
  have hb : Below w.heap.size w (w.alloc o) := (Below.refl _ _).alloc (Nat.le_refl _) o
  refine ⟨h.below.alloc h.below.size o, h.new, ?_, ?_, ?_, ?_, ?_, h.low⟩
  · rw [hb.cell hB]; exact h.code
  · rw [hb.cell hB]; exact h.pos
  · obtain ⟨s, e⟩ := h.seed; exact ⟨s, by rw [hb.cell hB]; exact e⟩
  · rw [hb.frozen hB]; exact h.free1
  · rw [hb.frozen hB]; exact h.free2

theorem Src.other {w0 : World} {B : Nat} {a : Option Addr} {len cap : Nat} {i : Int} {w w' : World} {row : Option Nat} (h : Src w0 B a len cap i w) (hg : w.grownBy w' row) (hne : row ≠ some B) (hr : ∀ k, row = some k → w0.heap.size ≤ k) : Src w0 B a len cap i w' := by
  have hB := block_of_cell h.code
  have hk : w'.heap[B]? = w.heap[B]? := hg.block B hB (fun e => hne e.symm)
  have hc : ∀ j, w'.cell? ⟨B, j, none⟩ = w.cell? ⟨B, j, none⟩ := fun j => World.cell?_of_block (w := w) hk
  have hf : ∀ j, w'.frozen? ⟨B, j, none⟩ = w.frozen? ⟨B, j, none⟩ := fun j => World.frozen?_of_block (w := w) hk
  refine ⟨h.below.grown hg h.below.size hr, h.new, ?_, ?_, ?_, ?_, ?_, h.low⟩
  · rw [hc]; exact h.code
  · rw [hc]; exact h.pos
  · obtain ⟨s, e⟩ := h.seed; exact ⟨s, by rw [hc]; exact e⟩
  · rw [hf]; exact h.free1
  · rw [hf]; exact h.free2

/-- A signal of at most so many numbers has been drawn. -/
def Wild (n : Nat) (w : World) (e : Ending) (w' : World) : Prop := ∃ v xs, e = .returned v ∧ Row w' w.heap.size 30 v (cvals xs) ∧ xs.length ≤ n ∧ WfC xs ∧ Below w.heap.size w w'

theorem wfC_snoc {xs : List C} {p q : Nat} (h : WfC xs) (hp : p < 18446744073709551616) (hq : q < 18446744073709551616) : WfC (xs ++ [(p, q)]) := by
  intro u hu
  rcases List.mem_append.1 hu with h1 | h1
  · exact h u h1
  · rw [List.mem_singleton.1 h1]; exact ⟨hp, hq⟩

end Go.Proofs.Ytocjhanehphibaa
/-
  The draws of chapter 3 and on: l03Real, l03Number, P6Pick.
-/
set_option linter.unusedVariables false
set_option linter.unusedSimpArgs false
namespace Go.Proofs.Ytocjhanehphibaa
open Go.RowKit Flt Fast

set_option maxRecDepth 100000 in
set_option maxHeartbeats 4000000 in
theorem real_any (w0 : World) (B : Nat) (a : Option Addr) (len cap : Nat) (hr : Bytes w0 a len cap) (i : Int) (hi : i < 4611686018427387000) (w : World) (h : Src w0 B a len cap i w) :
    Calls Try.prog 90 #[.pointer (some ⟨B, 0, none⟩)] w (PicksF w0 B a len cap i 4 w) := by
  go_enter Try.func90, Try.ntmps90
  go_wp2_with fail
  go_at_call 34
  refine (pick_any w0 B a len cap hr i (by omega) 16 (by omega) (by omega) _ h).mono ?_
  rintro e w1 ⟨r, j, r0, r1, rfl, j0, j1, hs, hg⟩
  go_wp2_with fail
  all_goals (first
    | (with_reducible refine (pick_any w0 B a len cap hr j (by omega) 41 (by omega) (by omega) _ hs).mono ?_
       rintro e w2 ⟨s, k, s0, s1, rfl, k0, k1, hs2, hg2⟩
       go_wp2_with (refine wpList_farith _ rfl .quo (by decide) _ _ _ _ rfl .f64 _ _ rfl rfl ?_; intro q n hq hb)
       go_ret
       exact ⟨_, k, hb, rfl, by omega, by omega, hs2.draws _, grown_draws (grown_trans hg hg2) _⟩)
    | (with_reducible refine (pick_any w0 B a len cap hr j (by omega) 33 (by omega) (by omega) _ hs).mono ?_
       rintro e w2 ⟨s, k, s0, s1, rfl, k0, k1, hs2, hg2⟩
       go_wp2_with (refine wpList_farith _ rfl .quo (by decide) _ _ _ _ rfl .f64 _ _ rfl rfl ?_; intro q n hq hb)
       go_ret
       exact ⟨_, k, hb, rfl, by omega, by omega, hs2.draws _, grown_draws (grown_trans hg hg2) _⟩)
    | (with_reducible refine (pick_any w0 B a len cap hr j (by omega) 8 (by omega) (by omega) _ hs).mono ?_
       rintro e w2 ⟨s, k, s0, s1, rfl, k0, k1, hs2, hg2⟩
       go_wp2_with (first
         | (go_at_call 105; (first | (with_reducible refine (inf_any _).mono ?_) | (with_reducible refine (inf_neg _).mono ?_)); rintro e w' ⟨rfl, rfl⟩)
         | (go_at_call 104; refine (nan_call _).mono ?_; rintro e w' ⟨rfl, rfl⟩)
         | (go_at_call 106; refine (copysign_zero _).mono ?_; rintro e w' ⟨rfl, rfl⟩))
       all_goals (go_ret; exact ⟨_, k, by omega, rfl, by omega, by omega, hs2, grown_trans hg hg2⟩)))

/-- A complex number is returned, of whatever bits, and the source has gone on. -/
def PicksN (w0 : World) (B : Nat) (a : Option Addr) (len cap : Nat) (i : Int) (most : Int) (w : World) (e : Ending) (w' : World) : Prop :=
  ∃ p q j, p < 18446744073709551616 ∧ q < 18446744073709551616 ∧ e = .returned (.complex .f64 p q) ∧ i ≤ j ∧ j ≤ i + most ∧ Src w0 B a len cap j w' ∧ w.grownBy w' (some B)

set_option maxRecDepth 100000 in
theorem number_any (w0 : World) (B : Nat) (a : Option Addr) (len cap : Nat) (hr : Bytes w0 a len cap) (i : Int) (hi : i < 4611686018427380000) (w : World) (h : Src w0 B a len cap i w) :
    Calls Try.prog 74 #[.pointer (some ⟨B, 0, none⟩)] w (PicksN w0 B a len cap i 12 w) := by
  go_enter Try.func74, Try.ntmps74
  go_wp2_with fail
  refine (real_any w0 B a len cap hr i (by omega) _ h).mono ?_
  rintro e w1 ⟨r, j, hr1, rfl, j0, j1, hs, hg⟩
  go_wp2_with fail
  refine (one_any w0 B a len cap hr j (by omega) 3 (by omega) (by omega) _ hs).mono ?_
  rintro e w2 ⟨b, k, rfl, k0, k1, hs2, hg2⟩
  cases b
  · go_wp2_with fail
    refine (real_any w0 B a len cap hr k (by omega) _ hs2).mono ?_
    rintro e w3 ⟨s, l, hs1, rfl, l0, l1, hs3, hg3⟩
    go_wp2
    go_ret
    exact ⟨r, s, l, hr1, hs1, rfl, by omega, by omega, hs3, grown_trans (grown_trans hg hg2) hg3⟩
  · go_wp2
    go_ret
    exact ⟨r, 0, k, hr1, by omega, rfl, by omega, by omega, hs2, grown_trans hg hg2⟩

theorem pick_one (w : World) (B : Nat) (n : Int) (hn : n ≤ 1) :
    Calls Try.prog 34 #[.pointer (some ⟨B, 0, none⟩), .int .i64 n] w fun e w' => e = .returned (.int .i64 0) ∧ w' = w := by
  go_enter Try.func34, Try.ntmps34
  go_wp2
  go_ret
  exact ⟨rfl, rfl⟩

/-- A number below n. -/
theorem p6Pick_any (w : World) (a : Option Addr) (len cap : Nat) (hr : ∃ zs, IsRow .u8 w a len cap zs) (n : Int) (h1 : 1 ≤ n) (hn : n ≤ 1000000) :
    Calls Try.prog 8 #[.slice a len cap, .int .i64 n] w fun e w' => ∃ r : Nat, e = .returned (.int .i64 r) ∧ (r : Int) < n ∧ Below w.heap.size w w' := by
  go_enter Try.func8, Try.ntmps8
  go_wp2_with (first | (go_at_call 33; go_in))
  by_cases h2 : n ≤ 1
  · refine (pick_one _ w.heap.size n h2).mono ?_
    rintro e w1 ⟨rfl, rfl⟩
    go_wp2
    go_ret
    exact ⟨0, rfl, by omega, (Below.refl _ _).alloc (Nat.le_refl _) _⟩
  · refine (pick_any w w.heap.size a len cap hr 0 (by omega) n (by omega) (by omega) _ src_new).mono ?_
    rintro e w1 ⟨r, j, r0, r1, rfl, j0, j1, hs, hg⟩
    obtain ⟨m, rfl⟩ : ∃ m : Nat, r = m := ⟨r.toNat, by omega⟩
    go_wp2
    go_ret
    exact ⟨m, rfl, by omega, hs.below⟩

end Go.Proofs.Ytocjhanehphibaa
/-
  Numbers that are added at places, block by block. No program is named here.
-/
set_option linter.unusedVariables false
set_option linter.unusedSimpArgs false
namespace Go.Proofs.Ytocjhanehphibaa

section
variable {Z : Type} (add : Z → Z → Z) (d : Z)
/-- A number is added at a place, or stands there as the first one. -/
def addAt (zs : List Z) (k : Nat) (p : Z) : List Z := if k < zs.length then zs.set k (add (zs.getD k d) p) else zs ++ [p]
def addBlk (zs : List Z) (f : Nat) (q : Nat → Z) : Nat → List Z
  | 0 => zs
  | m + 1 => addAt add d (addBlk zs f q m) (f + m) (q m)
def addAll (q : Nat → Nat → Z) (ln : Nat → Nat) (h : Nat) : Nat → List Z
  | 0 => []
  | b + 1 => addBlk add d (addAll q ln h b) (b * h) (q b) (ln b)

theorem addAt_lt {zs : List Z} {k : Nat} {p : Z} (h : k < zs.length) : addAt add d zs k p = zs.set k (add (zs.getD k d) p) := if_pos h
theorem addAt_ge {zs : List Z} {k : Nat} {p : Z} (h : ¬ k < zs.length) : addAt add d zs k p = zs ++ [p] := if_neg h
theorem addAt_len_le (zs : List Z) (k : Nat) (p : Z) : (addAt add d zs k p).length ≤ zs.length + 1 := by
  unfold addAt; split <;> simp
theorem addBlk_len_le (zs : List Z) (f : Nat) (q : Nat → Z) (m : Nat) : (addBlk add d zs f q m).length ≤ zs.length + m := by
  induction m with
  | zero => exact Nat.le_refl _
  | succ m ih => have := addAt_len_le add d (addBlk add d zs f q m) (f + m) (q m); rw [addBlk]; omega
theorem addAll_len_le (q : Nat → Nat → Z) (ln : Nat → Nat) (h N : Nat) (hl : ∀ b, ln b ≤ N) (b : Nat) : (addAll add d q ln h b).length ≤ b * N := by
  induction b with
  | zero => simp [addAll]
  | succ b ih => have := addBlk_len_le add d (addAll add d q ln h b) (b * h) (q b) (ln b); have := hl b; rw [addAll, Nat.add_mul]; omega
theorem addBlk_len {zs : List Z} {f : Nat} (q : Nat → Z) (hf : f ≤ zs.length) (m : Nat) : (addBlk add d zs f q m).length = max zs.length (f + m) := by
  induction m with
  | zero => simp [addBlk]; omega
  | succ m ih =>
    rw [addBlk]
    by_cases h : f + m < (addBlk add d zs f q m).length
    · rw [addAt_lt add d h, List.length_set, ih]; rw [ih] at h; omega
    · rw [addAt_ge add d h, List.length_append, ih]; rw [ih] at h; simp; omega
theorem addAll_le (q : Nat → Nat → Z) (n h : Nat) (hh : h ≤ n) (b : Nat) : b * h ≤ (addAll add d q (fun _ => n) h b).length := by
  induction b with
  | zero => simp
  | succ b ih => rw [addAll, addBlk_len add d _ ih, Nat.add_mul]; omega
theorem addAll_len (q : Nat → Nat → Z) (n h : Nat) (hh : h ≤ n) (b : Nat) : (addAll add d q (fun _ => n) h (b + 1)).length = b * h + n := by
  rw [addAll, addBlk_len add d _ (addAll_le add d q n h hh b)]
  cases b with
  | zero => simp [addAll]
  | succ b =>
    have : (addAll add d q (fun _ => n) h (b + 1)).length = b * h + n := addAll_len q n h hh b
    rw [this, Nat.add_mul]; omega
end

end Go.Proofs.Ytocjhanehphibaa
/-
  Sums at places over wide complex numbers: sumsAtPlaces of the program; blocks that are read wherever they lie.
-/
set_option linter.unusedVariables false
set_option linter.unusedSimpArgs false
namespace Go.Proofs.Ytocjhanehphibaa
open Go.RowKit Flt Fast
attribute [local go_sem] run_fadd run_fsub run_fmul run_fquo run_cadd run_csub

/-- A slice of complex numbers as the walk reads it, at whatever place of a block it begins. -/
def RdC (w : World) (v : Value) (xs : List C) : Prop :=
  ∃ a cap, v = .slice a xs.length cap ∧ xs.length ≤ cap ∧ cap ≤ maxLen ∧ ∀ j, j < xs.length → ∃ g o, a = some ⟨g, o, none⟩ ∧ g < w.heap.size ∧ w.cell? ⟨g, o + j, none⟩ = some (.complex .f64 (xs.getD j (0, 0)).1 (xs.getD j (0, 0)).2)

theorem RdC.below {w w' : World} {v : Value} {xs : List C} (h : RdC w v xs) (hb : Below w.heap.size w w') : RdC w' v xs := by
  obtain ⟨a, cap, rfl, h1, h2, h3⟩ := h
  refine ⟨a, cap, rfl, h1, h2, fun j hj => ?_⟩
  obtain ⟨g, o, rfl, hg, hc⟩ := h3 j hj
  exact ⟨g, o, rfl, Nat.lt_of_lt_of_le hg hb.size, by rw [hb.cell hg]; exact hc⟩
theorem RdC.draws {w : World} {v : Value} {xs : List C} (h : RdC w v xs) (n : Nat) : RdC (w.drewN n) v xs := h
theorem RdC.of_row {w : World} {B : Nat} {e : TypeId} {v : Value} {xs : List C} (h : Row w B e v (cvals xs)) : RdC w v xs := by
  have h' := h
  rcases h.shape with ⟨a, cap, rfl, h0⟩ | ⟨g, cap, rfl, h0, hB, hg, h1, h2⟩
  · have e0 : xs = [] := by
      have := congrArg List.length h0
      rw [cvals_length] at this
      exact List.eq_nil_of_length_eq_zero (by simpa using this)
    subst e0
    rcases h.2 with ⟨e1, -⟩ | ⟨g, cap', cur, e1, -, -, h3, h4, -⟩
    · simp only [Value.slice.injEq] at e1
      obtain ⟨rfl, -, rfl⟩ := e1
      exact ⟨none, 0, rfl, Nat.le_refl _, Nat.zero_le _, fun j hj => by simp at hj⟩
    · simp only [Value.slice.injEq] at e1
      obtain ⟨rfl, -, rfl⟩ := e1
      exact ⟨_, cap, rfl, Nat.zero_le _, h4, fun j hj => by simp at hj⟩
  · rw [cvals_length] at h0 h1 h' ⊢
    refine ⟨_, cap, rfl, h1, h2, fun j hj => ⟨g, 0, rfl, hg, ?_⟩⟩
    rw [Nat.zero_add, h'.cellAt hj, cvals_getD hj]

/-- Complex numbers that are these. -/
structure FitsC (fs : List C) (zs : List Z) : Prop where
  len : fs.length = zs.length
  good : ∀ i, i < fs.length → IsC (fs.getD i (0, 0)) (zs.getD i z0)

theorem FitsC.nil : FitsC [] [] := ⟨rfl, fun i hi => by simp at hi⟩
theorem FitsC.snoc {fs : List C} {zs : List Z} (h : FitsC fs zs) {a : C} {z : Z} (ha : IsC a z) : FitsC (fs ++ [a]) (zs ++ [z]) := by
  refine ⟨by simp [h.len], fun i hi => ?_⟩
  by_cases hl : i < fs.length
  · rw [show (fs ++ [a]).getD i (0, 0) = fs.getD i (0, 0) by simp [List.getD, List.getElem?_append_left, hl], show (zs ++ [z]).getD i z0 = zs.getD i z0 by simp [List.getD, List.getElem?_append_left, ← h.len, hl]]
    exact h.good i hl
  · have e : i = fs.length := by simp at hi; omega
    subst e
    rw [show (fs ++ [a]).getD fs.length (0, 0) = a by simp [List.getD], show (zs ++ [z]).getD fs.length z0 = z by simp [List.getD, h.len]]
    exact ha
theorem FitsC.set {fs : List C} {zs : List Z} (h : FitsC fs zs) {k : Nat} {a : C} {z : Z} (ha : IsC a z) : FitsC (fs.set k a) (zs.set k z) := by
  refine ⟨by simp [h.len], fun i hi => ?_⟩
  simp at hi
  by_cases hk : k = i
  · subst hk
    rw [show (fs.set k a).getD k (0, 0) = a by simp [List.getD, hi], show (zs.set k z).getD k z0 = z by simp [List.getD, ← h.len, hi]]
    exact ha
  · rw [show (fs.set k a).getD i (0, 0) = fs.getD i (0, 0) by simp [List.getD, List.getElem?_set, hk], show (zs.set k z).getD i z0 = zs.getD i z0 by simp [List.getD, List.getElem?_set, hk]]
    exact h.good i hi

theorem cvals_set (fs : List C) (k : Nat) (a b : Nat) : (cvals fs).set k (.complex .f64 a b) = cvals (fs.set k (a, b)) := by simp [cvals, List.map_set, cval]

/-- A row of complex numbers with sums at places, in the world wr, made behind w. -/
structure SumsC (w wr : World) (v : Value) (zs : List Z) (fs : List C) : Prop where
  row : Row wr w.heap.size 30 v (cvals fs)
  fits : FitsC fs zs
  below : Below w.heap.size w wr

theorem SumsC.draws {w wr : World} {v : Value} {zs : List Z} {fs : List C} (h : SumsC w wr v zs fs) (n : Nat) : SumsC w (wr.drewN n) v zs fs := ⟨h.row.drewN n, h.fits, below_draws h.below n⟩
theorem SumsC.store {w wr : World} {g cap L : Nat} {zs : List Z} {fs : List C} (h : SumsC w wr (.slice (some ⟨g, 0, none⟩) L cap) zs fs) {k x y : Nat} {q : Z} (hk : k < L)
    (hx : IsC (x, y) (addZ (zs.getD k z0) q)) : SumsC w (wr.setCell ⟨g, k, none⟩ (.complex .f64 x y)) (.slice (some ⟨g, 0, none⟩) L cap) (addAt addZ z0 zs k q) (fs.set k (x, y)) := by
  have hl : fs.length = L := by have := h.row.len; rwa [cvals_length] at this
  have hS := h.row.set k (.complex .f64 x y)
  rw [cvals_set] at hS
  have hg : w.heap.size ≤ g := (h.row.lt g rfl).1
  rw [addAt_lt addZ z0 (by rw [← h.fits.len, hl]; exact hk)]
  exact ⟨hS.1, h.fits.set hx, h.below.setCell (p := ⟨g, k, none⟩) hg _⟩

theorem cform {w : World} {v : Value} {cs : List Value} (h : Reads w v cs) : ∃ a cap, v = .slice a cs.length cap := by
  cases h with
  | none a cap => exact ⟨a, cap, rfl⟩
  | row g cap L cs hL => subst hL; exact ⟨_, cap, rfl⟩

end Go.Proofs.Ytocjhanehphibaa
/-
  Slices of floats that came in or that the call has made: opened, compared, copied, marked.
-/
set_option linter.unusedVariables false
set_option linter.unusedSimpArgs false
namespace Go.Proofs.Ytocjhanehphibaa
open Go.RowKit Flt

section
variable {H : Type} {enc : TypeId × Value → H} {P : Program} {w : World} {base : Nat} {held : Bool}

theorem trod_float {t : TypeId} {k : FloatKind} {spare : Nat → Bool} {fuel : Nat} {cs : List Value} {x : DataW H × List MemPlace} (ht : P.underlying t = some (.float k)) (h : DataW.trod enc P w base spare held fuel t cs = some x) :
    ∃ n, cs = [.float k n] ∧ (Lit.float k n).wf = true := by
  cases fuel with
  | zero => simp [DataW.trod] at h
  | succ n =>
    unfold DataW.trod at h
    rw [ht] at h
    split at h <;> simp_all

end

/-- Floats as values. -/
def flts (zs : List Nat) : List Value := zs.map (Value.float .f64)
theorem flts_length (zs : List Nat) : (flts zs).length = zs.length := by simp [flts]
theorem flts_getD {zs : List Nat} {j : Nat} (h : j < zs.length) : (flts zs).getD j undef = .float .f64 (zs.getD j 0) := getD_map _ zs 0 h
theorem flts_snoc (zs : List Nat) (a : Nat) : flts (zs ++ [a]) = flts zs ++ [.float .f64 a] := by simp [flts]

/-- A slice of floats as the walk reads it, wherever it lies. -/
inductive ReadsF (w : World) : Value → List Nat → Prop
  | none (a : Option Addr) (cap : Nat) : ReadsF w (.slice a 0 cap) []
  | row (x : Addr) (cap L : Nat) (zs : List Nat) (hL : zs.length = L) (h0 : 0 < L) (hc : L ≤ cap) (hm : cap ≤ maxLen) (hz : ∀ z ∈ zs, z < 18446744073709551616) (h : ∀ j, j < L → w.cell? (x.add j) = some (.float .f64 (zs.getD j 0))) : ReadsF w (.slice (some x) L cap) zs

/-- A slice of floats that came in. -/
def IsRowF (w : World) (a : Option Addr) (len cap : Nat) (zs : List Nat) : Prop := ReadsF w (.slice a len cap) zs ∧ (∀ x, a = some x → 0 < len → x.block < w.heap.size)

theorem isRowF_open {H : Type} {enc : TypeId × Value → H} {P : Program} {w : World} {base : Nat} {held : Bool} {t e : TypeId} {fuel : Nat} {a : Option Addr} {len cap : Nat} {x : DataW H × List MemPlace}
    (ht : P.underlying t = some (.slice e)) (he : P.underlying e = some (.float .f64)) (hc : P.cellsOf e = 1) (h : DataW.trod enc P w base (fun _ => true) held fuel t (Value.slice a len cap).cells.toList = some x) : ∃ zs, IsRowF w a len cap zs := by
  have hcs : (Value.slice a len cap).cells.toList = [.slice a len cap] := by simp [Value.cells]
  rw [hcs] at h
  rcases Go.Deep.open_slice1 ht hc h with ⟨h0, _⟩ | ⟨x, l, c, m, n, V, D, Pl, h1, hb, hl, hm, hmm, rfl, hx⟩
  · simp only [List.cons.injEq, Value.slice.injEq, and_true] at h0
    obtain ⟨rfl, rfl, rfl⟩ := h0
    exact ⟨[], .none _ _, fun x hx => by cases hx⟩
  · simp only [List.cons.injEq, Value.slice.injEq, and_true] at h1
    obtain ⟨rfl, rfl, rfl⟩ := h1
    simp only [if_true] at hmm
    subst hmm
    have hV : ∀ i, i < m → ∃ z, V i = .float .f64 z ∧ z < 18446744073709551616 := fun i hi => by
      obtain ⟨z, e1, e2⟩ := trod_float he (hx i hi).2
      exact ⟨z, by simpa using e1, by simpa [Lit.wf] using e2⟩
    by_cases h0 : len = 0
    · subst h0
      exact ⟨[], .none _ _, fun x hx h => by omega⟩
    · let B : Nat → Nat := fun i => match V i with | .float _ z => z | _ => 0
      have hB : ∀ i, i < m → V i = .float .f64 (B i) ∧ B i < 18446744073709551616 := fun i hi => by
        obtain ⟨z, e1, e2⟩ := hV i hi
        have : B i = z := by show (match V i with | .float _ z => z | _ => 0) = z; rw [e1]
        rw [this]; exact ⟨e1, e2⟩
      refine ⟨(List.range len).map B, .row x m len _ (by simp) (by omega) hl hm ?_ ?_, fun y hy _ => ?_⟩
      · intro z hz
        obtain ⟨i, hi, rfl⟩ := List.mem_map.1 hz
        exact (hB i (by have := List.mem_range.1 hi; omega)).2
      · intro j hj
        rw [(hx j (by omega)).1, (hB j (by omega)).1]
        simp [List.getD, hj]
      · cases hy
        have := World.block_lt_of_cell? _ _ (hx 0 (by omega)).1
        rwa [addr_block] at this

theorem ReadsF.of_row {w : World} {B : Nat} {e : TypeId} {v : Value} {zs : List Nat} (h : Row w B e v (flts zs)) (hz : ∀ z ∈ zs, z < 18446744073709551616) : ReadsF w v zs := by
  have h' := h
  rcases h.shape with ⟨a, cap, rfl, h0⟩ | ⟨g, cap, rfl, h0, _, _, h1, h2⟩
  · have : zs = [] := by simpa [flts] using h0
    subst this
    exact .none a cap
  · rw [flts_length] at h0 h1 h' ⊢
    refine .row _ cap _ zs rfl h0 h1 h2 hz fun j hj => ?_
    rw [addr_lit, h'.cellAt hj, flts_getD hj]

theorem ReadsF.below {w w' : World} {B : Nat} {v : Value} {zs : List Nat} (h : ReadsF w v zs) (hb : Below B w w') (hv : ∀ x L cap, v = .slice (some x) L cap → 0 < L → x.block < B) : ReadsF w' v zs := by
  cases h with
  | none a cap => exact .none a cap
  | row x cap L zs hL h0 hc hm hz hh =>
    refine .row x cap L zs hL h0 hc hm hz fun j hj => ?_
    rw [hb.cell (by rw [addr_block]; exact hv x L cap rfl h0)]
    exact hh j hj
theorem ReadsF.drewN {w : World} {v : Value} {zs : List Nat} (h : ReadsF w v zs) (n : Nat) : ReadsF (w.drewN n) v zs := by
  cases h with
  | none a cap => exact .none a cap
  | row x cap L zs hL h0 hc hm hz hh => exact .row x cap L zs hL h0 hc hm hz hh

theorem IsRowF.below {w w' : World} {a : Option Addr} {len cap : Nat} {zs : List Nat} (h : IsRowF w a len cap zs) (hb : Below w.heap.size w w') : ReadsF w' (.slice a len cap) zs :=
  h.1.below hb (fun x L c e hL => by
    simp only [Value.slice.injEq] at e
    exact h.2 x e.1 (by omega))

theorem info_f64 : (Try.prog.info? 55).map (fun i => (i.zero, i.size, i.bytes)) = some (some (.float .f64 0), 1, 8) := by kernel_rfl

theorem fillF_step {zs : List Nat} {n k : Nat} (hk : k < n) (hz : n ≤ zs.length) :
    (flts (zs.take k) ++ List.replicate (n - k) (Value.float .f64 0)).set k (.float .f64 (zs.getD k 0)) = flts (zs.take (k + 1)) ++ List.replicate (n - (k + 1)) (Value.float .f64 0) := by
  have hl : (flts (zs.take k)).length = k := by rw [flts_length, List.length_take]; omega
  rw [List.set_append_right _ _ (by omega), hl, Nat.sub_self]
  obtain ⟨m, hm⟩ : ∃ m, n - k = m + 1 := ⟨n - k - 1, by omega⟩
  rw [hm, List.replicate_succ, List.set_cons_zero, show n - (k + 1) = m by omega, List.take_add_one]
  have e : zs[k]?.toList = [zs.getD k 0] := by simp [List.getD, show k < zs.length by omega]
  rw [e, flts_snoc, List.append_assoc]
  rfl

theorem grown_newF {w w1 w2 : World} {row : Option Nat} {B : Nat} (h : w.grownBy w1 row) (k : w1.grownBy w2 (some B)) (hB : w.heap.size ≤ B) : w.grownBy w2 row :=
  ⟨k.os.trans h.os, k.tape.trans h.tape, k.output.trans h.output, Nat.le_trans h.size k.size, fun j hj hr => (k.block j (Nat.lt_of_lt_of_le hj h.size) (by simp; omega)).trans (h.block j hj hr)⟩

set_option maxRecDepth 100000 in
set_option maxHeartbeats 4000000 in
theorem eqFloat64_any {v v' : Value} {xs ys : List Nat} {w : World} (h : ReadsF w v xs) (h' : ReadsF w v' ys) (hl : xs.length = ys.length) (he : ∀ j, j < xs.length → cn .f64 (xs.getD j 0) = cn .f64 (ys.getD j 0)) :
    Calls Try.prog 30 #[v, v'] w fun e w' => e = .returned (.bool true) ∧ ∃ n, w' = w.drewN n := by
  cases h with
  | none a cap =>
    cases h' with
    | none a' cap' =>
      clear he
      go_enter Try.func30, Try.ntmps30
      go_wp2
      refine wp_loop_rounds 1 ?_
      rw [rounds_succ]
      go_wp2
      go_ret
      exact ⟨rfl, 0, rfl⟩
    | row x cap L zs hL h0 => simp only [List.length_nil] at hl; omega
  | row x cap L xs hL h0 hc hm hz hcell =>
    cases h' with
    | none a' cap' => simp only [List.length_nil] at hl; omega
    | row x' cap' L' ys hL' _ _ _ hz' hcell' =>
      obtain rfl : L = L' := by omega
      have hmax := maxLen_int (Nat.le_trans hc hm)
      have HC := Lib.hid hcell
      have HC' := Lib.hid hcell'
      have HE : Hid (∀ j, j < L → cn .f64 (xs.getD j 0) = cn .f64 (ys.getD j 0)) := fun j hj => he j (by omega)
      have HZ : Hid (∀ j, j < L → xs.getD j 0 < 18446744073709551616) := fun j hj => hz _ (by
        rw [List.getD_eq_getElem?_getD, List.getElem?_eq_getElem (by omega)]
        exact List.getElem_mem _)
      clear hcell hcell' h0 hL hL' hm hc he hl hz hz'
      go_enter Try.func30, Try.ntmps30
      go_wp2
      go_loopw [5] (fun i wr => ∃ k n : Nat, i = .int .i64 k ∧ k ≤ L ∧ wr = w.drewN n) (fun i _ => L - (intOf i).toNat)
      case atStart => exact ⟨0, 0, rfl, Nat.zero_le _, rfl⟩
      case round =>
        obtain ⟨k, n, rfl, hk, hw⟩ := hrel
        have HW := Lib.hid hw
        clear hw
        by_cases hlt : k < L
        · have c1 : wr.cell? (x.add k) = some (.float .f64 (xs.getD k 0)) := by rw [HW.out]; exact HC.out k hlt
          have c2 : wr.cell? (x'.add k) = some (.float .f64 (ys.getD k 0)) := by rw [HW.out]; exact HC'.out k hlt
          have hcn := HE.out k hlt
          have hzz := HZ.out k hlt
          obtain ⟨a, ha⟩ : ∃ a, xs.getD k 0 = a := ⟨_, rfl⟩
          obtain ⟨b, hb⟩ : ∃ b, ys.getD k 0 = b := ⟨_, rfl⟩
          rw [ha] at c1 hcn hzz
          rw [hb] at c2 hcn
          have S := fun w => sameFloat_any a b hcn hzz w
          clear hcn ha hb
          go_wp2
          go_quiet ((go_at_call 64; exact Calls.quiet_of_same (S _)))
          go_wp2
          go_roundw
          case rel => exact ⟨k + 1, n + nq, by go_num, by omega, by rw [HW.out, World.drewN_drewN]⟩
          case measure => simp [intOf]; omega
        · have e : k = L := by omega
          subst e
          go_wp2
          go_ret
          exact ⟨rfl, n, HW.out⟩

/-- The numbers that are laid in a row of floats: from m on. -/
def fmark (m i : Nat) : Value := .float .f64 (floatOfInt .f64 ((m + i : Nat) : Int))
def fmarks (m n : Nat) : List Value := (List.range n).map (fmark m)
theorem fmarks_length (m n : Nat) : (fmarks m n).length = n := by simp [fmarks]
theorem fmarks_getD {m n j : Nat} (h : j < n) : (fmarks m n).getD j undef = fmark m j := by simp [fmarks, List.getD, h]

set_option maxRecDepth 100000 in
set_option maxHeartbeats 1600000 in
theorem markFloat64_any {v : Value} {cs : List Value} {B m : Nat} {w : World} (h : Row w B 55 v cs) (hm : m ≤ 1000000000000) (hz : cs.length ≤ 1000000000000) :
    Calls Try.prog 31 #[v, .int .i64 m] w fun e w' => e = .returned (.int .i64 ((m + cs.length : Nat) : Int)) ∧ Row w' B 55 v (fmarks m cs.length) ∧ w.grownBy w' v.ownBlock := by
  have hown := h
  rcases h.shape with ⟨a, cap, rfl, rfl⟩ | ⟨g, cap, rfl, h0, hB, hlt, hc, hcm⟩
  · have HO := Lib.hid h
    clear h hown
    go_enter Try.func31, Try.ntmps31
    go_wp2
    refine wp_loop_rounds 1 ?_
    rw [rounds_succ]
    go_wp2
    go_ret
    exact ⟨rfl, HO.out, World.grownBy.refl _ _⟩
  · obtain ⟨L, hL⟩ : ∃ L, cs.length = L := ⟨_, rfl⟩
    rw [hL] at h hz hc h0
    rw [show (Value.slice (some ⟨g, 0, none⟩) cs.length cap) = (Value.slice (some ⟨g, 0, none⟩) L cap) by rw [hL], hL]
    unfold fmarks
    have hmax := maxLen_int (Nat.le_trans hc hcm)
    have hmL : m + L ≤ 2000000000000 := by omega
    obtain ⟨f, hf⟩ : ∃ f : Nat → Value, fmark m = f := ⟨_, rfl⟩
    have HO := Lib.hid h
    have HL := Lib.hid hL
    have HFd := Lib.hid hf
    rw [hf]
    clear h hown hf h0 hL hm hcm
    go_enter Try.func31, Try.ntmps31
    go_wp2
    go_loopw [1, 5] (fun j i wr => ∃ k : Nat, i = .int .i64 k ∧ j = .int .i64 ((m + k : Nat) : Int) ∧ k ≤ L ∧ Row wr B 55 (.slice (some ⟨g, 0, none⟩) L cap) (turned f k cs) ∧ w.grownBy wr (some g)) (fun _ i _ => L - (intOf i).toNat)
    case atStart => exact ⟨0, rfl, rfl, Nat.zero_le _, by rw [turned_zero]; exact HO.out, World.grownBy.refl _ _⟩
    case round =>
      obtain ⟨k, rfl, rfl, hk, hown, hg⟩ := hrel
      by_cases hlt' : k < L
      · have hS := hown.set k (f k)
        rw [turned_step (by rw [HL.out]; exact hlt')] at hS
        have hfk : f k = Value.float .f64 (floatOfInt .f64 ((m + k : Nat) : Int)) := by rw [← HFd.out]; rfl
        rw [hfk] at hS
        have c1 := hown.cellAt hlt'
        have f1 := hown.frozenAt k
        obtain ⟨z, hz⟩ : ∃ z, (turned f k cs).getD k undef = z := ⟨_, rfl⟩
        rw [hz] at c1
        have HS := Lib.hid hS
        have HG := Lib.hid (hg.trans hS.2)
        clear hz hown hg hS hfk
        go_wp2
        go_roundw
        case rel => exact ⟨k + 1, by go_num, by go_num, by omega, HS.out.1, HG.out⟩
        case measure => simp [intOf]; omega
      · have e : k = L := by omega
        subst e
        have HOW := Lib.hid hown
        have HG := Lib.hid hg
        clear hown hg
        go_wp2
        go_ret
        refine ⟨rfl, ?_, HG.out⟩
        have := HOW.out
        rw [← HL.out, turned_all] at this
        rw [← HL.out]
        exact this

end Go.Proofs.Ytocjhanehphibaa
/-
  The walk of heldFloat64S.
-/
set_option linter.unusedVariables false
set_option linter.unusedSimpArgs false
namespace Go.Proofs.Ytocjhanehphibaa
open Go.RowKit Flt

set_option maxRecDepth 100000 in
set_option maxHeartbeats 1600000 in
theorem heldFloat64_any {v : Value} {m n : Nat} {w : World} (h : Reads w v (fmarks m n)) (hm : m ≤ 1000000000000) (hz : n ≤ 1000000000000) :
    Calls Try.prog 32 #[v, .int .i64 m] w fun e w' => e = .returned (.int .i64 ((m + n : Nat) : Int)) ∧ w' = w := by
  have hlen : (fmarks m n).length = n := fmarks_length m n
  generalize hcs : fmarks m n = cs at h hlen
  cases h with
  | none a cap =>
    simp at hlen
    subst hlen
    clear hcs
    go_enter Try.func32, Try.ntmps32
    go_wp2
    refine wp_loop_rounds 1 ?_
    rw [rounds_succ]
    go_wp2
    go_ret
    exact ⟨rfl, rfl⟩
  | row g cap L cs hL h0 hc hcm hcell =>
    obtain rfl : L = n := by omega
    have hmax := maxLen_int (Nat.le_trans hc hcm)
    have HC : Hid (∀ j, j < L → w.cell? ⟨g, j, none⟩ = some (.float .f64 (floatOfInt .f64 ((m : Int) + (j : Int))))) := fun j hj => by rw [hcell j hj, ← hcs, fmarks_getD hj]; unfold fmark; rw [Int.natCast_add]
    have hmL : m + L ≤ 2000000000000 := by omega
    clear hcell h0 hL hcs hlen hcm hm
    go_enter Try.func32, Try.ntmps32
    go_wp2
    go_loopw [1, 5] (fun j i wr => ∃ k : Nat, i = .int .i64 k ∧ j = .int .i64 ((m + k : Nat) : Int) ∧ k ≤ L ∧ wr = w) (fun _ i _ => L - (intOf i).toNat)
    case atStart => exact ⟨0, rfl, rfl, Nat.zero_le _, rfl⟩
    case round =>
      obtain ⟨k, rfl, rfl, hk, rfl⟩ := hrel
      by_cases hlt : k < L
      · have c1 := HC.out k hlt
        have o1 := ord_eq (nan_floatOfInt .f64 ((m : Int) + (k : Int))) (nan_floatOfInt .f64 ((m : Int) + (k : Int))) rfl
        go_wp2
        go_roundw
        case rel => exact ⟨k + 1, by go_num, by go_num, by omega, (by first | rfl | trivial)⟩
        case measure => simp [intOf]; omega
      · have e : k = L := by omega
        subst e
        go_wp2
        go_ret
        exact ⟨rfl, rfl⟩

end Go.Proofs.Ytocjhanehphibaa
/-
  The laws on functions from floats to floats: what is returned, and three rows in blocks of their own under marks.
-/
set_option linter.unusedVariables false
set_option linter.unusedSimpArgs false
namespace Go.Proofs.Ytocjhanehphibaa
open Go.RowKit Flt

theorem ReadsF.facts' {w : World} {a : Option Addr} {len cap : Nat} {zs : List Nat} (h : ReadsF w (.slice a len cap) zs) : zs.length = len ∧ (∀ z ∈ zs, z < 18446744073709551616) ∧ (len : Int) ≤ 9223372036854775807 := by
  generalize hv : (Value.slice a len cap) = v at h
  cases h with
  | none a cap => simp only [Value.slice.injEq] at hv; obtain ⟨-, rfl, -⟩ := hv; exact ⟨rfl, fun z hz => by simp at hz, by omega⟩
  | row x cap L zs hL h0 hc hm hz hh => simp only [Value.slice.injEq] at hv; obtain ⟨-, rfl, -⟩ := hv; exact ⟨hL, hz, maxLen_int (Nat.le_trans hc hm)⟩

/-- A float and a code are returned. -/
def FloatTo (r : Option Nat) (c : Int) (w : World) (e : Ending) (w' : World) : Prop :=
  ∃ a, e = .returned (.tuple #[.float .f64 a, .int .i64 c]) ∧ IsF a r ∧ Below w.heap.size w w'

/-- A list of floats and a code are returned. -/
def FloatsTo (n : Nat) (z : Nat → Option Nat) (c : Int) (w : World) (e : Ending) (w' : World) : Prop :=
  ∃ v fs, e = .returned (.tuple #[v, .int .i64 c]) ∧ Row w' w.heap.size 55 v (flts fs) ∧ fs.length = n ∧ (∀ i, i < n → IsF (fs.getD i 0) (z i)) ∧ Below w.heap.size w w'

theorem all_lt {fs : List Nat} {z : Nat → Option Nat} (h : ∀ i, i < fs.length → IsF (fs.getD i 0) (z i)) : ∀ x ∈ fs, x < 18446744073709551616 := fun x hx => by
  obtain ⟨i, hi, rfl⟩ := List.getElem_of_mem hx
  have := (h i hi).lt
  simpa [List.getD, hi] using this

theorem apart_low {v u : Value} {w : World} {B1 B2 : Nat} {cs : List Value} {e : TypeId} (hv : ∀ b, v.ownBlock = some b → b < B1) (hB : B1 ≤ B2) (hu : Row w B2 e u cs) : v.ownBlock = none ∨ v.ownBlock ≠ u.ownBlock := by
  cases h : v.ownBlock with
  | none => exact .inl rfl
  | some b =>
    refine .inr fun e => ?_
    have := hv b h
    have := (hu.lt b e.symm).1
    omega
theorem apart_low' {v u : Value} {w : World} {B1 B2 : Nat} {cs : List Value} {e : TypeId} (hv : ∀ b, v.ownBlock = some b → b < B1) (hB : B1 ≤ B2) (hu : Row w B2 e u cs) : u.ownBlock = none ∨ u.ownBlock ≠ v.ownBlock := by
  cases h : u.ownBlock with
  | none => exact .inl rfl
  | some b =>
    refine .inr fun e => ?_
    have := hv b e.symm
    have := (hu.lt b h).1
    omega

/-- The model's result v, the argument y and the program's result u, one behind the other. -/
structure Three (w : World) (e ea : TypeId) (B0 B1 B2 : Nat) (v y u : Value) (f c d : List Value) : Prop where
  rv : Row w B0 e v f
  ry : Row w B1 ea y c
  ru : Row w B2 e u d
  lowv : ∀ b, v.ownBlock = some b → b < B1
  lowy : ∀ b, y.ownBlock = some b → b < B2
  le : B1 ≤ B2

section
variable {w w' : World} {e ea : TypeId} {B0 B1 B2 : Nat} {v y u : Value} {f c d : List Value}
theorem Three.below (h : Three w e ea B0 B1 B2 v y u f c d) (hb : Below w.heap.size w w') : Three w' e ea B0 B1 B2 v y u f c d :=
  ⟨h.rv.below hb (fun k e => (h.rv.lt k e).2), h.ry.below hb (fun k e => (h.ry.lt k e).2), h.ru.below hb (fun k e => (h.ru.lt k e).2), h.lowv, h.lowy, h.le⟩
theorem Three.draws (h : Three w e ea B0 B1 B2 v y u f c d) (n : Nat) : Three (w.drewN n) e ea B0 B1 B2 v y u f c d := ⟨h.rv.drewN n, h.ry.drewN n, h.ru.drewN n, h.lowv, h.lowy, h.le⟩
theorem Three.markY {c' : List Value} (h : Three w e ea B0 B1 B2 v y u f c d) (hg : w.grownBy w' y.ownBlock) (hr : Row w' B1 ea y c') : Three w' e ea B0 B1 B2 v y u f c' d :=
  ⟨h.rv.kept hg (apart_low h.lowv (Nat.le_refl _) h.ry), hr, h.ru.kept hg (apart_low' h.lowy (Nat.le_refl _) h.ru), h.lowv, h.lowy, h.le⟩
theorem Three.markU {d' : List Value} (h : Three w e ea B0 B1 B2 v y u f c d) (hg : w.grownBy w' u.ownBlock) (hr : Row w' B2 e u d') : Three w' e ea B0 B1 B2 v y u f c d' :=
  ⟨h.rv.kept hg (apart_low h.lowv h.le h.ru), h.ry.kept hg (apart_low h.lowy (Nat.le_refl _) h.ru), hr, h.lowv, h.lowy, h.le⟩
end

end Go.Proofs.Ytocjhanehphibaa
