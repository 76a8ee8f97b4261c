/-
  Several texts of this claim, one behind the other; each says what it holds.
-/
import Derived.Test.YtphgibndncjaiaaMRealPa8
import Derived.Laws.EntriesVeiled
/-
  The program's fast transform: joinParts.
-/
set_option linter.unusedVariables false
set_option linter.unusedSimpArgs false
namespace Go.Proofs.Ytphgibndncjaiaa
open Go.RowKit Flt Turn Fast
attribute [local go_sem] run_fadd run_fsub run_fmul run_fquo run_cadd run_csub

/-- What has been filled of a column, in a row at block g. -/
structure OutL (wr : World) (g n m p k q : Nat) (zy : Nat → List Z) (os : List C) : Prop where
  len : os.length = n
  row : Row wr g 26 (.slice (some ⟨g, 0, none⟩) n n) (cvals os)
  wf : WfC os
  good : ∀ i, i < n → (i % m < k ∨ i % m = k ∧ i / m < q) → (zsOf os).getD i z0 = outP n p zy (i % m) (i / m)

section
variable {wr wq : World} {g n m p k q : Nat} {zy : Nat → List Z} {os : List C}
theorem OutL.keeps {B b : Nat} (h : OutL wr g n m p k q zy os) (hk : Keeps B b wr wq) (hB : g < B) (hb : g ≠ b) : OutL wq g n m p k q zy os :=
  ⟨h.len, h.row.keeps hk (fun j hj => by simp only [Value.ownBlock, Option.some.injEq] at hj; omega) (by simp only [Value.ownBlock, ne_eq, Option.some.injEq]; exact hb), h.wf, h.good⟩
theorem OutL.draws (h : OutL wr g n m p k q zy os) (nn : Nat) : OutL (wr.drewN nn) g n m p k q zy os := ⟨h.len, h.row.drewN nn, h.wf, h.good⟩
theorem OutL.col (h : OutL wr g n m p k p zy os) (hn : n = p * m) (hm : 0 < m) : OutL wr g n m p (k + 1) 0 zy os :=
  ⟨h.len, h.row, h.wf, fun i hi hc => h.good i hi (by
    have : i / m < p := Nat.div_lt_of_lt_mul (by rw [Nat.mul_comm]; omega)
    rcases hc with h1 | ⟨_, h2⟩
    · omega
    · exact absurd h2 (Nat.not_lt_zero _))⟩
theorem OutL.all (h : OutL wr g n m p m 0 zy os) (hm : 0 < m) (hd : n / p = m) : zsOf os = joinP n p zy := by
  apply List.ext_getElem (by rw [zsOf_length, h.len, joinP_length])
  intro i h1 h2
  rw [joinP_length] at h2
  have e := h.good i h2 (.inl (Nat.mod_lt _ hm))
  have e2 := joinP_getD (p := p) (ys := zy) h2
  rw [hd] at e2
  rw [← e2] at e
  simpa [List.getD, h1, joinP_length, h2] using e
theorem OutL.alike (h : OutL wr g n m p k q zy os) : OutL wr g n m p k q zy os := h
theorem OutL.next {c d : Nat} (h : OutL wr g n m p k q zy os) (hk : k < m) (hi : k + q * m < n) (hcd : IsC (c, d) (outP n p zy k q)) :
    OutL (wr.setCell ⟨g, k + q * m, none⟩ (.complex .f64 c d)) g n m p k (q + 1) zy (os.set (k + q * m) (c, d)) := by
  have hS := h.row.set (k + q * m) (.complex .f64 c d)
  have hm : 0 < m := by omega
  have e1 : (k + q * m) % m = k := by rw [Nat.add_mul_mod_self_right, Nat.mod_eq_of_lt hk]
  have e2 : (k + q * m) / m = q := by rw [Nat.add_mul_div_right _ _ hm, Nat.div_eq_of_lt hk, Nat.zero_add]
  refine ⟨by rw [List.length_set, h.len], ?_, fun u hu => ?_, fun i hi' hc => ?_⟩
  · have : cvals (os.set (k + q * m) (c, d)) = (cvals os).set (k + q * m) (.complex .f64 c d) := by simp [cvals, cval, List.map_set]
    rw [this]; exact hS.1
  · rcases List.mem_or_eq_of_mem_set hu with h1 | rfl
    · exact h.wf u h1
    · exact ⟨hcd.re.lt, hcd.im.lt⟩
  · have ez : zsOf (os.set (k + q * m) (c, d)) = (zsOf os).set (k + q * m) (zOf (c, d)) := by simp [zsOf, List.map_set]
    rw [ez]
    by_cases he : k + q * m = i
    · subst he
      rw [e1, e2]
      rw [show ((zsOf os).set (k + q * m) (zOf (c, d))).getD (k + q * m) z0 = zOf (c, d) by simp [List.getD, zsOf_length, h.len, hi]]
      unfold zOf
      rw [hcd.re.cn, hcd.im.cn]
    · rw [show ((zsOf os).set (k + q * m) (zOf (c, d))).getD i z0 = (zsOf os).getD i z0 by simp [List.getD, he]]
      refine h.good i hi' ?_
      rcases hc with h1 | ⟨h1, h2⟩
      · exact .inl h1
      · refine .inr ⟨h1, ?_⟩
        have : i / m ≠ q := fun e => he (by rw [← e, ← h1, Nat.mul_comm]; exact Nat.mod_add_div i m)
        omega
end

/-- The parts that are joined, all of them below H. -/
structure PartsJ (w : World) (H p m : Nat) (v6 : Value) (vs : List Value) (ys : Nat → List C) : Prop where
  len : vs.length = p
  row : (∃ B, Row w B 24 v6 vs) ∧ ∀ k, v6.ownBlock = some k → k < H
  each : ∀ i, i < p → ((∃ B, Row w B 26 (vs.getD i undef) (cvals (ys i))) ∧ ∀ k, (vs.getD i undef).ownBlock = some k → k < H) ∧ WfC (ys i) ∧ (ys i).length = m

/-- What the closure of joinParts reads. -/
theorem PartsJ.reads {w : World} {H p m : Nat} {v6 : Value} {vs : List Value} {ys : Nat → List C} (h : PartsJ w H p m v6 vs ys) (hm : 0 < m) (hp : 0 < p) :
    ∃ g6 c6, v6 = .slice (some ⟨g6, 0, none⟩) p c6 ∧ ∀ i, i < p → ∃ gi ci, w.cell? ⟨g6, i, none⟩ = some (.slice (some ⟨gi, 0, none⟩) m ci) ∧ m ≤ ci ∧ ci ≤ maxLen ∧ ∀ j, j < m → w.cell? ⟨gi, j, none⟩ = some (.complex .f64 ((ys i).getD j (0, 0)).1 ((ys i).getD j (0, 0)).2) := by
  obtain ⟨⟨B, hr⟩, -⟩ := h.row
  obtain ⟨g6, c6, rfl, -, -, hc⟩ := hr.getV h.len hp
  refine ⟨g6, c6, rfl, fun i hi => ?_⟩
  obtain ⟨⟨⟨B', hr'⟩, -⟩, -, hl⟩ := h.each i hi
  have hr2 := hr'
  have hsh := hr'.shape
  obtain ⟨gi, ci, e, -, -, hcell⟩ := hr'.get hl hm
  refine ⟨gi, ci, by rw [hc i hi, e], ?_, ?_, hcell⟩
  · rcases hsh with ⟨a, cap, e2, e3⟩ | ⟨g, cap, e2, _, _, _, h1, h2⟩
    · have : (cvals (ys i)).length = m := by rw [cvals_length, hl]
      rw [e3] at this; simp at this; omega
    · rw [e] at e2
      simp only [Value.slice.injEq, cvals_length, hl] at e2 h1
      omega
  · rcases hsh with ⟨a, cap, e2, e3⟩ | ⟨g, cap, e2, _, _, _, h1, h2⟩
    · have : (cvals (ys i)).length = m := by rw [cvals_length, hl]
      rw [e3] at this; simp at this; omega
    · rw [e] at e2
      simp only [Value.slice.injEq] at e2
      omega

theorem PartsJ.keeps {w w' : World} {H p m B b : Nat} {v6 : Value} {vs : List Value} {ys : Nat → List C} (h : PartsJ w H p m v6 vs ys) (hk : Keeps B b w w') (hB : H ≤ B) {c : Nat} (hc : Cache w b c) : PartsJ w' H p m v6 vs ys := by
  refine ⟨h.len, ?_, fun i hi => ?_⟩
  · obtain ⟨⟨B, hr⟩, hH⟩ := h.row
    exact ⟨⟨B, hr.keeps hk (fun k e => Nat.lt_of_lt_of_le (hH k e) hB) (hr.notCache hc)⟩, hH⟩
  · obtain ⟨⟨⟨B, hr⟩, hH⟩, r⟩ := h.each i hi
    exact ⟨⟨⟨B, hr.keeps hk (fun k e => Nat.lt_of_lt_of_le (hH k e) hB) (hr.notCache hc)⟩, hH⟩, r⟩

theorem PartsJ.below {w w' : World} {H p m B : Nat} {v6 : Value} {vs : List Value} {ys : Nat → List C} (h : PartsJ w H p m v6 vs ys) (hk : Below B w w') (hB : H ≤ B) : PartsJ w' H p m v6 vs ys := by
  refine ⟨h.len, ?_, fun i hi => ?_⟩
  · obtain ⟨⟨B, hr⟩, hH⟩ := h.row
    exact ⟨⟨B, hr.below hk (fun k e => Nat.lt_of_lt_of_le (hH k e) hB)⟩, hH⟩
  · obtain ⟨⟨⟨B, hr⟩, hH⟩, r⟩ := h.each i hi
    exact ⟨⟨⟨B, hr.below hk (fun k e => Nat.lt_of_lt_of_le (hH k e) hB)⟩, hH⟩, r⟩

/-- What stays in a round of joinParts. -/
structure JIn (wr : World) (H P0 K0 B1 : Nat) (v6 vt : Value) (p m k : Nat) (vs : List Value) (ys : Nat → List C) (ts : List C) : Prop where
  box : wr.cell? ⟨P0, 0, none⟩ = some v6
  parts : PartsJ wr H p m v6 vs ys
  kc : wr.cell? ⟨K0, 0, none⟩ = some (.int .i64 (k : Int))
  terms : Row wr B1 26 vt (cvals ts)

section
variable {wr wq : World} {H P0 K0 B1 : Nat} {v6 vt : Value} {p m k : Nat} {vs : List Value} {ys : Nat → List C} {ts : List C}
theorem JIn.keeps {b c : Nat} (h : JIn wr H P0 K0 B1 v6 vt p m k vs ys ts) (hk : Keeps wr.heap.size b wr wq) (hc : Cache wr b c) (hH : H ≤ wr.heap.size) : JIn wq H P0 K0 B1 v6 vt p m k vs ys ts :=
  ⟨by rw [hk.cell (World.block_lt_of_cell? _ _ h.box) (cell_notCache h.box hc)]; exact h.box, h.parts.keeps hk hH hc, by rw [hk.cell (World.block_lt_of_cell? _ _ h.kc) (cell_notCache h.kc hc)]; exact h.kc, h.terms.keeps hk (fun j e => (h.terms.lt j e).2) (h.terms.notCache hc)⟩
theorem JIn.draws (h : JIn wr H P0 K0 B1 v6 vt p m k vs ys ts) (n : Nat) : JIn (wr.drewN n) H P0 K0 B1 v6 vt p m k vs ys ts := ⟨h.box, ⟨h.parts.len, h.parts.row, h.parts.each⟩, h.kc, h.terms.drewN n⟩
theorem JIn.set {J0 j : Nat} (h : JIn wr H P0 K0 B1 v6 vt p m k vs ys ts) (h1 : P0 ≠ J0) (h2 : K0 ≠ J0) (h3 : H ≤ J0) (h4 : J0 < B1) (u : Value) : JIn (wr.setCell ⟨J0, j, none⟩ u) H P0 K0 B1 v6 vt p m k vs ys ts := by
  refine ⟨?_, h.parts.below ((Below.refl H wr).setCell (p := ⟨J0, j, none⟩) h3 u) (Nat.le_refl _), ?_, h.terms.far h4⟩
  · rw [World.cell?_setCell_other (h := by simp [h1])]; exact h.box
  · rw [World.cell?_setCell_other (h := by simp [h2])]; exact h.kc
end

set_option maxRecDepth 100000 in
theorem joinClosure_any {w : World} {H p m i k P0 K0 : Nat} {v6 : Value} {vs : List Value} {ys : Nat → List C} (h : PartsJ w H p m v6 vs ys) (hi : i < p) (hk : k < m) (h0 : w.cell? ⟨P0, 0, none⟩ = some v6) (h1 : w.cell? ⟨K0, 0, none⟩ = some (.int .i64 (k : Int))) :
    Calls Try.prog 60 #[.int .i64 i, .pointer (some ⟨P0, 0, none⟩), .pointer (some ⟨K0, 0, none⟩)] w fun e w' => e = .returned (.complex .f64 ((ys i).getD k (0, 0)).1 ((ys i).getD k (0, 0)).2) ∧ ∃ n, w' = w.drewN n := by
  obtain ⟨g6, c6, rfl, hc⟩ := h.reads (by omega) (by omega)
  obtain ⟨gi, ci, c1, c2, c3, c4⟩ := hc i hi
  have c5 := c4 k hk
  have hmx := maxLen_int (Nat.le_trans c2 c3)
  obtain ⟨⟨a, b⟩, hab⟩ : ∃ u, (ys i).getD k (0, 0) = u := ⟨_, rfl⟩
  rw [hab] at c5 ⊢
  clear h hc c4 hab c3
  go_enter Try.func60, Try.ntmps60
  go_wp2
  go_quiet (fail)
  go_wp2
  go_ret
  exact ⟨rfl, _, rfl⟩

set_option maxRecDepth 100000 in
set_option maxHeartbeats 16000000 in
theorem joinParts_any {w : World} {p m b c : Nat} {v6 : Value} {vs : List Value} {ys : Nat → List C} (h : PartsJ w w.heap.size p m v6 vs ys) (hc : Cache w b c) (hp : 2 ≤ p) (hm : 1 ≤ m) (hn : p * m ≤ 1024) (hcf : c ≤ 2000000000000000000) :
    Calls Try.prog 47 #[.map (some b), v6] w fun e w' => ∃ v' os, e = .returned v' ∧ Row w' w.heap.size 26 v' (cvals os) ∧ WfC os ∧ zsOf os = joinP (p * m) p (fun i => zsOf (ys i)) ∧ Cache w' b (c + 16 * (p * m) * p) ∧ Keeps w.heap.size b w w' := by
  obtain ⟨i0, hi, hz0, hz1, hz2⟩ := info_parts info_c128
  obtain ⟨n, hnn⟩ : ∃ n, p * m = n := ⟨_, rfl⟩
  have hpn : p ≤ n := by rw [← hnn]; exact Nat.le_mul_of_pos_right _ (by omega)
  have hmn : m ≤ n := by rw [← hnn]; exact Nat.le_mul_of_pos_left _ (by omega)
  have ePM : (p : Int) * (m : Int) = (n : Int) := by rw [← hnn]; simp
  rw [hnn] at hn ⊢
  have HPM := Lib.hid hnn
  obtain ⟨g6, c6, rfl, hcells⟩ := h.reads (by omega) (by omega)
  obtain ⟨H, hH⟩ : ∃ H, w.heap.size = H := ⟨_, rfl⟩
  rw [hH] at h ⊢
  have hk1 : Keeps w.heap.size b w (w.alloc (.cells #[.slice (some ⟨g6, 0, none⟩) p c6] 69)) := (Keeps.refl _ _ _).alloc (Nat.le_refl _) _
  have hb1 : (w.alloc (.cells #[.slice (some ⟨g6, 0, none⟩) p c6] 69)).cell? ⟨H, 0, none⟩ = some (.slice (some ⟨g6, 0, none⟩) p c6) := by rw [← hH]; simp
  have hp1 := h.keeps hk1 (by omega) hc
  have hc1 := hc.alloc (.cells #[.slice (some ⟨g6, 0, none⟩) p c6] 69)
  have hs1 : (w.alloc (.cells #[.slice (some ⟨g6, 0, none⟩) p c6] 69)).heap.size = H + 1 := by rw [← hH]; simp
  obtain ⟨W1, hW1⟩ : ∃ x, w.alloc (.cells #[.slice (some ⟨g6, 0, none⟩) p c6] 69) = x := ⟨_, rfl⟩
  rw [hW1] at hk1 hb1 hp1 hc1 hs1
  obtain ⟨g7, c7, e7, hcells1⟩ := hp1.reads (by omega) (by omega)
  simp only [Value.slice.injEq, Option.some.injEq, Addr.mk.injEq, true_and, and_true] at e7
  obtain ⟨rfl, rfl⟩ := e7
  obtain ⟨gi, ci, d1, d2, d3, -⟩ := hcells1 0 (by omega)
  have HP1 := Lib.hid hp1
  have HC1 := Lib.hid hc1
  have HK1 := Lib.hid hk1
  clear h hc hcells hcells1 hp1 hc1 hk1 hnn
  go_enter Try.func47, Try.ntmps47
  go_wp2
  clear hW1
  go_quiet (fail)
  have hs2 : (W1.drewN nq).heap.size = H + 1 := hs1
  have HP2 : Hid (PartsJ (W1.drewN nq) H p m (.slice (some ⟨g6, 0, none⟩) p c6) vs ys) := HP1.out.below (below_draws (Below.refl H W1) nq) (Nat.le_refl _)
  have HC2 : Hid (Cache (W1.drewN nq) b c) := HC1.out.drewN nq
  have HK2 : Hid (Keeps H b w (W1.drewN nq)) := by have := HK1.out.draws nq; rw [hH] at this; exact this
  have hb2 : (W1.drewN nq).cell? ⟨H, 0, none⟩ = some (.slice (some ⟨g6, 0, none⟩) p c6) := hb1
  clear HP1 HC1 HK1 hb1 hs1 d1 d2 d3 hH
  generalize W1.drewN nq = W2 at *
  go_wp2_with (at_make; refine wpList_make_full _ rfl _ _ 24 rfl W2.heap.size 26 i0 (.complex .f64 0 0) 1 Try.underlying24 hi hz0 hz1 .i64 .i64 _ _ n rfl rfl rfl rfl (by rw [hz2]; omega) (by simp only [maxLen]; omega) (Nat.le_refl _) ?_)
  intro W3 hown hg1
  rw [toList_madeCells_one] at hown
  have hbl : Below W2.heap.size W2 W3 := (Below.refl _ _).grown hg1 (Nat.le_refl _) (fun b e => by cases e)
  have hO : OutL W3 (H + 1) n m p 0 0 (fun i => zsOf (ys i)) (List.replicate n (0, 0)) := by
    refine ⟨by simp, ?_, fun q hq => ?_, fun i hi hk => (hk.elim (fun e => absurd e (Nat.not_lt_zero _)) (fun e => absurd e.2 (Nat.not_lt_zero _)))⟩
    · show W3.ownsRow _ _ _ _ _ _
      simpa [cvals, cval] using hown
    · rw [List.eq_of_mem_replicate hq]; exact ⟨by omega, by omega⟩
  have hJs : H + 1 < W3.heap.size := (hO.row.lt _ rfl).2
  rw [hs2] at hbl
  have HO := Lib.hid hO
  have HB3 : Hid (W3.cell? ⟨H, 0, none⟩ = some (.slice (some ⟨g6, 0, none⟩) p c6)) := by show W3.cell? _ = _; rw [hbl.cell (by simp)]; exact hb2
  have HP3 : Hid (PartsJ W3 H p m (.slice (some ⟨g6, 0, none⟩) p c6) vs ys) := HP2.out.below hbl (by omega)
  have HC3 : Hid (Cache W3 b c) := HC2.out.below (by rw [hs2]; exact hbl)
  have HK3 : Hid (Keeps H b w W3) := HK2.out.trans (.of_below (hbl.mono (by omega)))
  clear hO hown hg1 hbl HP2 HC2 HK2 hb2 hs2
  go_wp2
  go_loopw [22] (fun i wr => ∃ (k : Nat) (os : List C), i = .int .i64 k ∧ k ≤ m ∧ OutL wr (H + 1) n m p k 0 (fun i => zsOf (ys i)) os ∧ wr.cell? ⟨H, 0, none⟩ = some (.slice (some ⟨g6, 0, none⟩) p c6) ∧ PartsJ wr H p m (.slice (some ⟨g6, 0, none⟩) p c6) vs ys ∧ Cache wr b (c + k * (8 * p + 8 * p * p)) ∧ Keeps H b w wr ∧ H + 1 < wr.heap.size) (fun i _ => m - (intOf i).toNat)
  case atStart => exact ⟨0, _, rfl, Nat.zero_le _, HO.out, HB3.out, HP3.out, HC3.out.mono (by omega), HK3.out, hJs⟩
  case round =>
    clear HO HB3 HP3 HC3 HK3 hJs
    obtain ⟨k, os, rfl, hk, hO, hB, hP, hC, hK, hJs⟩ := hrel
    have HO := Lib.hid hO
    have HB := Lib.hid hB
    have HP := Lib.hid hP
    have HC := Lib.hid hC
    have HK := Lib.hid hK
    clear hO hB hP hC hK
    obtain ⟨wk, rfl⟩ : ∃ x, x = wr := ⟨_, rfl⟩
    by_cases hkm : k < m
    · obtain ⟨W, hW⟩ : ∃ W, wk.alloc (.cells #[.int .i64 (k : Int)] 2) = W := ⟨_, rfl⟩
      have hsW : W.heap.size = wk.heap.size + 1 := by rw [← hW]; simp
      have hbW : Below wk.heap.size wk W := by rw [← hW]; exact (Below.refl _ _).alloc (Nat.le_refl _) _
      have kW : W.cell? ⟨wk.heap.size, 0, none⟩ = some (.int .i64 (k : Int)) := by rw [← hW]; simp
      have bW : W.cell? ⟨H, 0, none⟩ = some (.slice (some ⟨g6, 0, none⟩) p c6) := by rw [hbW.cell (by show H < _; omega)]; exact HB.out
      have pW : PartsJ W H p m (.slice (some ⟨g6, 0, none⟩) p c6) vs ys := HP.out.below hbW (by omega)
      have cW : Cache W b (c + k * (8 * p + 8 * p * p)) := HC.out.below hbW
      have hLO := listOf_c128 60 #[.pointer (some ⟨H, 0, none⟩), .pointer (some ⟨wk.heap.size, 0, none⟩)] p (by omega) (fun i => (zsOf (ys i)).getD k z0) (fun _ w1 => Below W.heap.size W w1) none W (fun _ _ => rfl) (by simp)
        (fun w' hg => (Below.refl _ _).grown hg (Nat.le_refl _) (by simp)) (fun i w1 w2 h1 hb hg => hb.grown hg (by omega) (fun k e => by cases e; exact Nat.le_refl _))
        (fun i w1 hi h1 hb => (joinClosure_any (pW.below hb (by omega)) hi hkm (by rw [hb.cell (by show H < _; omega)]; exact bW) (by rw [hb.cell (by show wk.heap.size < _; omega)]; exact kW)).mono
          (fun e w2 ⟨e1, nn, e2⟩ => ⟨(ys i).getD k (0, 0), e1, isC_getD (pW.each i hi).2.1 (by rw [(pW.each i hi).2.2]; exact hkm), by rw [e2]; exact below_draws hb nn, by rw [e2]; exact grown_drewN (World.grownBy.refl _ _) nn⟩))
      have HLO := Lib.hid hLO
      have HPW := Lib.hid pW
      have HCW := Lib.hid cW
      have HBW := Lib.hid hbW
      clear hLO pW cW hbW
      go_wp2_with fail
      refine HLO.out.mono ?_
      rintro e w2 ⟨v, ts, rfl, hr, hl, hg, hI, -⟩
      obtain ⟨gt, ct, rfl, -, -, -⟩ := hr.get hl (by omega)
      have hb2 : Below wk.heap.size wk w2 := HBW.out.trans (hI.mono (by omega))
      have c2 : Cache w2 b (c + k * (8 * p + 8 * p * p)) := HCW.out.below hI
      have hkb : k * (8 * p + 8 * p * p) ≤ 100000000000 := Nat.le_trans (Nat.mul_le_mul (by omega : k ≤ 1024) (Nat.add_le_add (by omega : 8 * p ≤ 8192) (Nat.mul_le_mul (by omega : 8 * p ≤ 8192) (by omega : p ≤ 1024)))) (by decide)
      have TE := turnEach_any b (c + k * (8 * p + 8 * p * p)) n k (fun i => (zsOf (ys i)).getD k z0) hr hg c2 (by omega) (by omega) (by omega) (by omega) (by omega) (by omega)
      have k2 : w2.cell? ⟨wk.heap.size, 0, none⟩ = some (.int .i64 (k : Int)) := by rw [hI.cell (by show wk.heap.size < _; omega)]; exact kW
      have b2 : w2.cell? ⟨H, 0, none⟩ = some (.slice (some ⟨g6, 0, none⟩) p c6) := by rw [hI.cell (by show H < _; omega)]; exact bW
      have HTE := Lib.hid TE
      have HP2 := Lib.hid (HPW.out.below hI (by omega))
      have HC2 := Lib.hid c2
      have HB2 := Lib.hid hb2
      have hs2 : W.heap.size ≤ w2.heap.size := hI.size
      clear TE c2 hb2 hr hl hg hI HLO HPW HCW HBW hW kW bW
      go_wp2_with fail
      refine HTE.out.mono ?_
      rintro e w3 ⟨rfl, ts3, hr3, hl3, hg3, hc3, hk3⟩
      have hJb : H + 1 ≠ b := fun e => HO.out.row.notCache HC.out (by rw [← e]; rfl)
      have hK3 : Keeps wk.heap.size b wk w3 := (Keeps.of_below HB2.out).trans (hk3.mono (by omega))
      have J3 : JIn w3 H H wk.heap.size W.heap.size (.slice (some ⟨g6, 0, none⟩) p c6) (.slice (some ⟨gt, 0, none⟩) p ct) p m k vs ys ts3 :=
        ⟨by rw [hk3.cell (by show H < _; omega) (cell_notCache b2 HC2.out)]; exact b2, HP2.out.keeps hk3 (by omega) HC2.out, by rw [hk3.cell (by show wk.heap.size < _; omega) (cell_notCache k2 HC2.out)]; exact k2, hr3⟩
      have O3 := HO.out.keeps hK3 hJs hJb
      have hsz3 : wk.heap.size ≤ w3.heap.size := hK3.size
      have HJ3 := Lib.hid J3
      have HO3 := Lib.hid O3
      have HC3 := Lib.hid hc3
      have HK3 := Lib.hid (HK.out.keeps hK3 (by omega))
      have HG3 : Hid (∀ i, i < p → IsC (ts3.getD i (0, 0)) (term n (fun i => zsOf (ys i)) k i)) := hg3
      have HL3 := Lib.hid hl3
      clear hr3 hl3 hg3 hc3 hk3 hK3 J3 O3 HTE HP2 HC2 HB2 k2 b2 HO HB HP HC HK
      by_cases hp2 : p = 2
      · subst hp2
        have hkn2 : k + m < n := by have := HPM.out; omega
        have hmk : k + m ≠ k := by omega
        have t0 := HG3.out 0 (by omega)
        have t1 := HG3.out 1 (by omega)
        have c0 := HJ3.out.terms.cellAt (j := 0) (by omega)
        have c1 := HJ3.out.terms.cellAt (j := 1) (by omega)
        rw [cvals_getD (by rw [HL3.out]; omega)] at c0 c1
        obtain ⟨⟨a0, b0⟩, h0⟩ : ∃ u, ts3.getD 0 (0, 0) = u := ⟨_, rfl⟩
        obtain ⟨⟨a1, b1⟩, h1⟩ : ∃ u, ts3.getD 1 (0, 0) = u := ⟨_, rfl⟩
        rw [h0] at c0 t0
        rw [h1] at c1 t1
        have HT0 := Lib.hid t0
        have HT1 := Lib.hid t1
        have kc := HJ3.out.kc
        have o0 := HO3.out.row.cellAt (j := k) (by omega)
        have o1 := HO3.out.row.cellAt (j := k + m) (by omega)
        have f0 := HO3.out.row.frozenAt k
        have f1 := HO3.out.row.frozenAt (k + m)
        obtain ⟨u0, hu0⟩ : ∃ u, (cvals os).getD k undef = u := ⟨_, rfl⟩
        obtain ⟨u1, hu1⟩ : ∃ u, (cvals os).getD (k + m) undef = u := ⟨_, rfl⟩
        rw [hu0] at o0
        rw [hu1] at o1
        have hgt : gt ≠ H + 1 := by
          have : W.heap.size ≤ gt := (HJ3.out.terms.lt _ rfl).1
          omega
        have HNX : Hid (∀ (nn mm x0 y0 x1 y1 : Nat), IsC (x0, y0) (addZ (term n (fun i => zsOf (ys i)) k 0) (term n (fun i => zsOf (ys i)) k 1)) → IsC (x1, y1) (subZ (term n (fun i => zsOf (ys i)) k 0) (term n (fun i => zsOf (ys i)) k 1)) →
            ∃ os', OutL ((((w3.drewN nn).setCell ⟨H + 1, k, none⟩ (.complex .f64 x0 y0)).drewN mm).setCell ⟨H + 1, k + m, none⟩ (.complex .f64 x1 y1)) (H + 1) n m 2 (k + 1) 0 (fun i => zsOf (ys i)) os' ∧
              JIn ((((w3.drewN nn).setCell ⟨H + 1, k, none⟩ (.complex .f64 x0 y0)).drewN mm).setCell ⟨H + 1, k + m, none⟩ (.complex .f64 x1 y1)) H H wk.heap.size W.heap.size (.slice (some ⟨g6, 0, none⟩) 2 c6) (.slice (some ⟨gt, 0, none⟩) 2 ct) 2 m k vs ys ts3 ∧
              Cache ((((w3.drewN nn).setCell ⟨H + 1, k, none⟩ (.complex .f64 x0 y0)).drewN mm).setCell ⟨H + 1, k + m, none⟩ (.complex .f64 x1 y1)) b (c + (k + 1) * (8 * 2 + 8 * 2 * 2)) ∧
              Keeps H b w ((((w3.drewN nn).setCell ⟨H + 1, k, none⟩ (.complex .f64 x0 y0)).drewN mm).setCell ⟨H + 1, k + m, none⟩ (.complex .f64 x1 y1)) ∧
              H + 1 < ((((w3.drewN nn).setCell ⟨H + 1, k, none⟩ (.complex .f64 x0 y0)).drewN mm).setCell ⟨H + 1, k + m, none⟩ (.complex .f64 x1 y1)).heap.size) := fun nn mm x0 y0 x1 y1 hx0 hx1 => by
          have e0 := (HO3.out.draws nn).next (c := x0) (d := y0) hkm (by rw [Nat.zero_mul]; omega) hx0
          rw [Nat.zero_mul, Nat.add_zero] at e0
          have e1 := (e0.draws mm).next (c := x1) (d := y1) hkm (by rw [Nat.one_mul]; omega) hx1
          rw [Nat.one_mul] at e1
          refine ⟨_, e1.col HPM.out.symm (by omega), (((HJ3.out.draws nn).set (by omega) (by omega) (by omega) (by omega) _).draws mm).set (by omega) (by omega) (by omega) (by omega) _, ((Cache.setCell (Cache.drewN (Cache.setCell (HC3.out.drewN nn) (a := ⟨H + 1, k, none⟩) (fun e => hJb e.symm) _) mm) (a := ⟨H + 1, k + m, none⟩) (fun e => hJb e.symm) _).mono (by omega)), (((HK3.out.draws nn).setCell (p := ⟨H + 1, k, none⟩) (by show H ≤ H + 1; omega) _).draws mm).setCell (p := ⟨H + 1, k + m, none⟩) (by show H ≤ H + 1; omega) _, ?_⟩
          show H + 1 < _
          have : H + 1 < w3.heap.size := by omega
          simpa [World.setCell] using this
        have HN0 := Lib.hid (fun nn => HNX.out nn 0)
        simp only [World.drewN_zero] at HN0
        clear h0 h1 hu0 hu1 t0 t1 HJ3 HO3 HC3 HK3 HG3 HL3
        go_upto_region 9 with fail
        go_cut [] from 37 to 58 (fun wx => ∃ os', OutL wx (H + 1) n m 2 (k + 1) 0 (fun i => zsOf (ys i)) os' ∧ JIn wx H H wk.heap.size W.heap.size (.slice (some ⟨g6, 0, none⟩) 2 c6) (.slice (some ⟨gt, 0, none⟩) 2 ct) 2 m k vs ys ts3 ∧ Cache wx b (c + (k + 1) * (8 * 2 + 8 * 2 * 2)) ∧ Keeps H b w wx ∧ H + 1 < wx.heap.size)
        case first =>
          go_region
          all_goals
            go_wp2_with fail
            go_meet
            first
              | exact HN0.out _ _ _ _ _ ⟨isF_fres HT0.out.re HT1.out.re _, isF_fres HT0.out.im HT1.out.im _⟩ ⟨isF_fres HT0.out.re HT1.out.re _, isF_fres HT0.out.im HT1.out.im _⟩
              | exact HNX.out _ _ _ _ _ _ ⟨isF_fres HT0.out.re HT1.out.re _, isF_fres HT0.out.im HT1.out.im _⟩ ⟨isF_fres HT0.out.re HT1.out.re _, isF_fres HT0.out.im HT1.out.im _⟩
        case rest =>
          obtain ⟨os', e1, e2, e3, e4, e5⟩ := hcut
          have HE1 := Lib.hid e1
          have HE2 := Lib.hid e2
          have HE3 := Lib.hid e3
          have HE4 := Lib.hid e4
          clear e1 e2 e3 e4 HNX HN0 HT0 HT1 c0 c1 kc o0 o1 f0 f1
          go_wp2
          go_roundw
          case rel => first | exact ⟨k + 1, os', by go_num, by omega, HE1.out, HE2.out.box, HE2.out.parts, HE3.out, HE4.out, e5⟩ | ((repeat apply Exists.intro); refine ⟨?_, rfl⟩; exact ⟨k + 1, os', by go_num, by omega, HE1.out, HE2.out.box, HE2.out.parts, HE3.out, HE4.out, e5⟩)
          case measure => simp [intOf]; omega
      · have hp2' : ((p : Int) == 2) = false := by simp; omega
        have HE : Hid (∀ q, outP n p (fun i => zsOf (ys i)) k q = sumT (term n (fun i => zsOf (ys i)) k) p q p) := fun q => by unfold outP; rw [if_neg hp2]
        have HQS : Hid (∀ q, q < p → k + q * m < n) := fun q hq => by
          have h1 : (q + 1) * m ≤ p * m := Nat.mul_le_mul_right _ hq
          rw [Nat.add_mul, Nat.one_mul] at h1
          have h2 := HPM.out
          omega
        obtain ⟨c1, hc1⟩ : ∃ c1, c + k * (8 * p + 8 * p * p) + 8 * p = c1 := ⟨_, rfl⟩
        rw [hc1] at HC3
        have hc1b : c1 ≤ 2000000200000000000 := by omega
        have hWs : W.heap.size ≤ w3.heap.size := by have h1 : W.heap.size ≤ gt := (HJ3.out.terms.lt _ rfl).1; have h2 : gt < w3.heap.size := (HJ3.out.terms.lt _ rfl).2; omega
        have HC1 : Hid (c1 + p * (8 * p) = c + (k + 1) * (8 * p + 8 * p * p)) := by
          show c1 + p * (8 * p) = c + (k + 1) * (8 * p + 8 * p * p)
          rw [← hc1, Nat.add_mul, Nat.one_mul, Nat.mul_comm p (8 * p)]; omega
        have hW2 : H + 1 < W.heap.size := by omega
        clear hc1
        go_wp2
        go_loopw [60] (fun i wr => ∃ (q : Nat) (os' : List C), i = .int .i64 q ∧ q ≤ p ∧ OutL wr (H + 1) n m p k q (fun i => zsOf (ys i)) os' ∧ JIn wr H H wk.heap.size W.heap.size (.slice (some ⟨g6, 0, none⟩) p c6) (.slice (some ⟨gt, 0, none⟩) p ct) p m k vs ys ts3 ∧ Cache wr b (c1 + q * (8 * p)) ∧ Keeps H b w wr ∧ W.heap.size ≤ wr.heap.size) (fun i _ => p - (intOf i).toNat)
        case atStart => exact ⟨0, os, rfl, Nat.zero_le _, HO3.out, HJ3.out, HC3.out.mono (Nat.le_add_right _ _), HK3.out, hWs⟩
        case round =>
          clear HO3 HJ3 HC3 HK3
          obtain ⟨q, os', rfl, hq, hO, hJ, hC, hK, hsz⟩ := hrel
          have HO := Lib.hid hO
          have HJ := Lib.hid hJ
          have HC := Lib.hid hC
          have HK := Lib.hid hK
          clear hO hJ hC hK
          obtain ⟨wq, rfl⟩ : ∃ x, x = wr := ⟨_, rfl⟩
          by_cases hqp : q < p
          · have hqb : q * (8 * p) ≤ 100000000000 := Nat.le_trans (Nat.mul_le_mul (by omega : q ≤ 1024) (by omega : 8 * p ≤ 8192)) (by decide)
            have ST := fun nn => sumOfTurned_any b (c1 + q * (8 * p)) q (term n (fun i => zsOf (ys i)) k) (HJ.out.terms.drewN nn).reads HL3.out HG3.out (HC.out.drewN nn) (by omega) (by omega) (by omega) (by omega)
            have HST := Lib.hid ST
            obtain ⟨P, hP⟩ : ∃ P, k + q * m = P := ⟨_, rfl⟩
            have hPn : P < n := by rw [← hP]; exact HQS.out q hqp
            have hPI : (k : Int) + (q : Int) * (m : Int) = (P : Int) := by rw [← hP]; simp
            have eW : IntKind.i64.wrap ((k : Int) + IntKind.i64.wrap ((q : Int) * (m : Int))) = (P : Int) := by
              have a1 : IntKind.i64.wrap ((q : Int) * (m : Int)) = (q : Int) * (m : Int) := by rw [IntKind.wrap_i64]; omega
              rw [a1, hPI, IntKind.wrap_i64]; omega
            have hk0 := HJ.out.kc
            have o0 := HO.out.row.cellAt hPn
            obtain ⟨u0, hu0⟩ : ∃ u, (cvals os').getD P undef = u := ⟨_, rfl⟩
            have HU0 := Lib.hid hu0
            have HNX : Hid (∀ (wx : World) (x y nn : Nat), Keeps (wq.drewN nn).heap.size b (wq.drewN nn) wx → Cache wx b (c1 + q * (8 * p) + 8 * p) → IsC (x, y) (sumT (term n (fun i => zsOf (ys i)) k) p q p) →
                wx.cell? ⟨wk.heap.size, 0, none⟩ = some (.int .i64 (k : Int)) ∧ wx.cell? ⟨H + 1, P, none⟩ = some u0 ∧ wx.frozen? ⟨H + 1, P, none⟩ = false ∧
                ∃ os2, OutL (wx.setCell ⟨H + 1, P, none⟩ (.complex .f64 x y)) (H + 1) n m p k (q + 1) (fun i => zsOf (ys i)) os2 ∧ JIn (wx.setCell ⟨H + 1, P, none⟩ (.complex .f64 x y)) H H wk.heap.size W.heap.size (.slice (some ⟨g6, 0, none⟩) p c6) (.slice (some ⟨gt, 0, none⟩) p ct) p m k vs ys ts3 ∧ Cache (wx.setCell ⟨H + 1, P, none⟩ (.complex .f64 x y)) b (c1 + (q + 1) * (8 * p)) ∧ Keeps H b w (wx.setCell ⟨H + 1, P, none⟩ (.complex .f64 x y)) ∧ W.heap.size ≤ (wx.setCell ⟨H + 1, P, none⟩ (.complex .f64 x y)).heap.size) := fun wx x y nn hk hcx hxy => by
              have hkq : Keeps wq.heap.size b wq wx := ((Keeps.refl wq.heap.size b wq).draws nn).trans hk
              have hJq : H + 1 < wq.heap.size := by omega
              have o2 := HO.out.keeps hkq hJq hJb
              have j2 := HJ.out.keeps hkq HC.out (by omega)
              have e0 := o2.next (c := x) (d := y) hkm (by rw [hP]; exact hPn) (by rw [HE.out]; exact hxy)
              have o3 := o2.row.cellAt hPn
              have f3 := o2.row.frozenAt P
              rw [hP] at e0
              rw [HU0.out] at o3
              refine ⟨j2.kc, o3, f3, _, e0, j2.set (by omega) (by omega) (by omega) (by omega) _, ((hcx.setCell (a := ⟨H + 1, P, none⟩) (fun e => hJb e.symm) _).mono (by rw [Nat.add_mul, Nat.one_mul]; omega)), (HK.out.trans (hkq.mono (by omega))).setCell (p := ⟨H + 1, P, none⟩) (by show H ≤ H + 1; omega) _, ?_⟩
              have := hkq.size
              show W.heap.size ≤ _
              have h5 : W.heap.size ≤ wx.heap.size := by omega
              simpa [World.setCell] using h5
            clear ST hu0 hP HO HJ HC HK o0
            go_wp2
            go_region_with (go_at_call 62; refine (HST.out _).mono ?_; rintro e w5 ⟨x, y, rfl, hxy, hc5, hk5⟩; obtain ⟨k5, o5, f5, hn5⟩ := HNX.out w5 x y _ hk5 hc5 hxy; have HN5 := Lib.hid hn5; clear hxy hc5 hk5 hn5)
            all_goals
              clear hk0 k5 o5 f5
              go_wp2
              go_roundw
              case rel =>
                obtain ⟨os2, e1, e2, e3, e4, e5⟩ := HN5.out
                first
                  | exact ⟨q + 1, os2, by go_num, by omega, e1, e2, e3, e4, e5⟩
                  | ((repeat apply Exists.intro); refine ⟨?_, rfl⟩; exact ⟨q + 1, os2, by go_num, by omega, e1, e2, e3, e4, e5⟩)
              case measure => simp [intOf]; omega
          · have e : q = p := by omega
            subst e
            have hcol := HO.out.col HPM.out.symm (by omega)
            have HCL := Lib.hid hcol
            have hcc := HC.out
            rw [HC1.out] at hcc
            have HCC := Lib.hid hcc
            clear hcol hcc
            go_wp2
            go_roundw
            case rel => first | exact ⟨k + 1, os', by go_num, by omega, HCL.out, HJ.out.box, HJ.out.parts, HCC.out, HK.out, by omega⟩ | ((repeat apply Exists.intro); refine ⟨?_, rfl⟩; exact ⟨k + 1, os', by go_num, by omega, HCL.out, HJ.out.box, HJ.out.parts, HCC.out, HK.out, by omega⟩)
            case measure => simp [intOf]; omega
    · have e : k = m := by omega
      subst e
      have hall := HO.out.all (by omega) (by rw [← HPM.out]; exact Nat.mul_div_cancel_left _ (by omega))
      have HA := Lib.hid hall
      clear hall
      go_wp2
      go_ret
      exact ⟨_, os, rfl, HO.out.row.base (by omega), HO.out.wf, HA.out, HC.out.mono (by
        have h1 : k * (8 * p + 8 * p * p) = 8 * (p * k) + 8 * (p * k) * p := by rw [Nat.mul_add]; congr 1 <;> simp [Nat.mul_comm, Nat.mul_left_comm, Nat.mul_assoc]
        have h2 : p * k * 1 ≤ p * k * p := Nat.mul_le_mul_left _ (by omega)
        rw [h1, HPM.out]
        rw [HPM.out] at h2
        have : 16 * n * p = 16 * (n * p) := Nat.mul_assoc _ _ _
        have : 8 * n * p = 8 * (n * p) := Nat.mul_assoc _ _ _
        omega), HK.out⟩

end Go.Proofs.Ytphgibndncjaiaa
/-
  The program's fast transform: listOf over slices, the closures, the whole.
-/
set_option linter.unusedVariables false
set_option linter.unusedSimpArgs false
namespace Go.Proofs.Ytphgibndncjaiaa
open Go.RowKit Flt Turn Fast

/-- The list of rows as far as it is filled. -/
structure RowsJ (wr : World) (B : Nat) (n k : Nat) (Q : Nat → List C → Prop) (vs : List Value) (ys : Nat → List C) : Prop where
  len : vs.length = k
  row : Row wr B 24 (.slice (some ⟨B, 0, none⟩) n n) (vs ++ List.replicate (n - k) (.slice none 0 0))
  each : ∀ i, i < k → Row wr B 26 (vs.getD i undef) (cvals (ys i)) ∧ WfC (ys i) ∧ Q i (ys i)

theorem RowsJ.keeps {wr wq : World} {B n k b c : Nat} {Q : Nat → List C → Prop} {vs : List Value} {ys : Nat → List C} (h : RowsJ wr B n k Q vs ys) (hk : Keeps wr.heap.size b wr wq) (hc : Cache wr b c) : RowsJ wq B n k Q vs ys :=
  ⟨h.len, h.row.keeps hk (fun j e => (h.row.lt j e).2) (h.row.notCache hc), fun i hi => ⟨(h.each i hi).1.keeps hk (fun j e => ((h.each i hi).1.lt j e).2) ((h.each i hi).1.notCache hc), (h.each i hi).2⟩⟩

theorem RowsJ.next {wr : World} {B n k : Nat} {Q : Nat → List C → Prop} {vs : List Value} {ys : Nat → List C} {v : Value} {y : List C} (h : RowsJ wr B n k Q vs ys) (hk : k < n) (hv : Row wr B 26 v (cvals y)) (hw : WfC y) (hq : Q k y) :
    RowsJ (wr.setCell ⟨B, k, none⟩ v) B n (k + 1) Q (vs ++ [v]) (fun i => if i = k then y else ys i) := by
  have ne : (26 : TypeId) ≠ 24 := by decide
  have hS := h.row.set k v
  rw [fillV hk h.len] at hS
  refine ⟨by simp [h.len], hS.1, fun i hi => ?_⟩
  by_cases hik : i = k
  · subst hik
    rw [if_pos rfl, show (vs ++ [v]).getD i undef = v by simp [List.getD, ← h.len]]
    exact ⟨hv.kept hS.2 (hv.apart h.row ne), hw, hq⟩
  · rw [if_neg hik, show (vs ++ [v]).getD i undef = vs.getD i undef by simp [List.getD, List.getElem?_append_left, h.len, show i < k by omega]]
    obtain ⟨a, r⟩ := h.each i (by omega)
    exact ⟨a.kept hS.2 (a.apart h.row ne), r⟩

set_option maxRecDepth 100000 in
set_option maxHeartbeats 4000000 in
theorem listOf_rows (fn : Nat) (capt : Array Value) (n : Nat) (hn : n ≤ 1000000) (b c0 K : Nat) (Q : Nat → List C → Prop) (w : World)
    (hfn : ∀ (args : Array Value) (w : World), (callFunc fn args).run Try.prog w = .ok (.enter fn args) w) (hc : Cache w b c0)
    (hcall : ∀ i w1, i < n → Keeps w.heap.size b w w1 → Cache w1 b (c0 + i * K) → Calls Try.prog fn (#[.int .i64 (i : Int)] ++ capt) w1 fun e w2 => ∃ v y, e = .returned v ∧ Row w2 w1.heap.size 26 v (cvals y) ∧ WfC y ∧ Q i y ∧ Cache w2 b (c0 + (i + 1) * K) ∧ Keeps w1.heap.size b w1 w2) :
    Calls Try.prog 48 #[.int .i64 n, .func (.func fn) #[] capt] w fun e w' =>
      ∃ vs ys, e = .returned (.slice (some ⟨w.heap.size, 0, none⟩) n n) ∧ RowsJ w' w.heap.size n n Q vs ys ∧ Cache w' b (c0 + n * K) ∧ Keeps w.heap.size b w w' := by
  obtain ⟨j0, hj, hy0, hy1, hy2⟩ := info_parts info_rows
  have HF := Lib.hid hcall
  have HC := Lib.hid hc
  have hbw := hc.lt
  clear hcall hc
  go_enter Try.func48, Try.ntmps48
  go_wp2_with (at_make; refine wpList_make_full _ rfl _ _ 69 rfl w.heap.size 24 j0 (.slice none 0 0) 1 Try.underlying69 hj hy0 hy1 .i64 .i64 _ _ n rfl rfl rfl rfl (by rw [hy2]; omega) (by simp only [maxLen]; omega) (Nat.le_refl _) ?_)
  intro w1 hown hg1
  rw [toList_madeCells_one] at hown
  have hb1 : Below w.heap.size w w1 := (Below.refl _ _).grown hg1 (Nat.le_refl _) (fun b e => by cases e)
  have HO : Hid (RowsJ w1 w.heap.size n 0 Q [] (fun _ => [])) := ⟨rfl, by show w1.ownsRow _ _ _ _ _ _; simpa using hown, fun i hi => by omega⟩
  have HC1 : Hid (Cache w1 b (c0 + 0 * K)) := (HC.out.below hb1).mono (Nat.le_add_right _ _)
  have HK1 : Hid (Keeps w.heap.size b w w1) := Keeps.of_below hb1
  clear hown hg1 hb1 hj hy0 hy1 hy2
  go_wp2
  go_loopw [10] (fun i wr => ∃ (k : Nat) (vs : List Value) (ys : Nat → List C), i = .int .i64 k ∧ k ≤ n ∧ RowsJ wr w.heap.size n k Q vs ys ∧ Cache wr b (c0 + k * K) ∧ Keeps w.heap.size b w wr) (fun i _ => n - (intOf i).toNat)
  case atStart => exact ⟨0, _, _, rfl, Nat.zero_le _, HO.out, HC1.out, HK1.out⟩
  case round =>
    clear HO HC1 HK1
    obtain ⟨k, vs, ys, rfl, hk, hO, hC, hK⟩ := hrel
    have HO := Lib.hid hO
    have HC1 := Lib.hid hC
    have HK := Lib.hid hK
    clear hO hC hK
    by_cases hlt : k < n
    · have S := Lib.hid (HF.out k wr hlt HK.out HC1.out)
      go_wp2_with fail
      refine S.out.mono ?_
      rintro e w2 ⟨v, y, rfl, hv, hyw, hq, hc2, hk2⟩
      have hsz := HK.out.size
      have hO2 := HO.out.keeps hk2 HC1.out
      obtain ⟨a, cap, rfl⟩ := hv.reads.form'
      have hnx := hO2.next hlt (hv.base hsz) hyw hq
      have o1 := hO2.row.cellAt hlt
      have f1 := hO2.row.frozenAt k
      obtain ⟨u, hu⟩ : ∃ u, (vs ++ List.replicate (n - k) (Value.slice none 0 0)).getD k undef = u := ⟨_, rfl⟩
      rw [hu] at o1
      have HNX := Lib.hid hnx
      have HC2 : Hid (Cache (w2.setCell ⟨w.heap.size, k, none⟩ (.slice a (cvals y).length cap)) b (c0 + (k + 1) * K)) := hc2.setCell (a := ⟨w.heap.size, k, none⟩) (by show b ≠ w.heap.size; omega) _
      have HK2 : Hid (Keeps w.heap.size b w (w2.setCell ⟨w.heap.size, k, none⟩ (.slice a (cvals y).length cap))) := (HK.out.keeps hk2 hsz).setCell (p := ⟨w.heap.size, k, none⟩) (Nat.le_refl _) _
      clear hv hyw hq hc2 hk2 hO2 hnx hu S HO HC1 HK
      go_wp2
      go_roundw
      case rel => first | exact ⟨k + 1, _, _, by go_num, by omega, HNX.out, HC2.out, HK2.out⟩ | ((repeat apply Exists.intro); refine ⟨?_, rfl⟩; exact ⟨k + 1, _, _, by go_num, by omega, HNX.out, HC2.out, HK2.out⟩)
      case measure => simp [intOf]; omega
    · have e : k = n := by omega
      subst e
      go_wp2
      go_ret
      exact ⟨vs, ys, rfl, HO.out, HC1.out, HK.out⟩

end Go.Proofs.Ytphgibndncjaiaa
/-
  The program's fast transform: its closures by induction on the length, and the whole.
-/
set_option linter.unusedVariables false
set_option linter.unusedSimpArgs false
namespace Go.Proofs.Ytphgibndncjaiaa
open Go.RowKit Flt Turn Fast

def costT (n : Nat) : Nat := if n ≤ 1 then 0 else 16 * n * n
theorem costT_le {n : Nat} (h : n ≤ 1024) : costT n ≤ 20000000 := by
  unfold costT
  split
  · omega
  · exact Nat.le_trans (Nat.mul_le_mul (by omega : 16 * n ≤ 16384) h) (by decide)
theorem costT_step {p m : Nat} (hp : 2 ≤ p) (hm : 1 ≤ m) : p * costT m + 16 * (p * m) * p ≤ costT (p * m) := by
  have hn : ¬ p * m ≤ 1 := by
    have : 2 * 1 ≤ p * m := Nat.mul_le_mul hp hm
    omega
  unfold costT
  rw [if_neg hn]
  by_cases h : m ≤ 1
  · rw [if_pos h]
    obtain rfl : m = 1 := by omega
    rw [Nat.mul_one]; omega
  · rw [if_neg h]
    have e1 : p * (16 * m * m) = 16 * (p * m) * m := by simp [Nat.mul_comm, Nat.mul_left_comm, Nat.mul_assoc]
    rw [e1, ← Nat.mul_add]
    apply Nat.mul_le_mul_left
    obtain ⟨a, rfl⟩ : ∃ a, p = a + 2 := ⟨p - 2, by omega⟩
    obtain ⟨d, rfl⟩ : ∃ d, m = d + 2 := ⟨m - 2, by omega⟩
    have : (a + 2) * (d + 2) = a * d + 2 * a + 2 * d + 4 := by rw [Nat.add_mul, Nat.mul_add, Nat.mul_add]; omega
    omega

/-- What the closures read. -/
structure Env (w : World) (b c K0 T0 : Nat) : Prop where
  known : w.cell? ⟨K0, 0, none⟩ = some (.map (some b))
  func : w.cell? ⟨T0, 0, none⟩ = some (.func (.func 44) #[] #[.pointer (some ⟨K0, 0, none⟩), .pointer (some ⟨T0, 0, none⟩)])
  cache : Cache w b c
section
variable {w w' : World} {b c K0 T0 : Nat}
theorem Env.below (h : Env w b c K0 T0) (hb : Below w.heap.size w w') : Env w' b c K0 T0 :=
  ⟨by rw [hb.cell (World.block_lt_of_cell? _ _ h.known)]; exact h.known, by rw [hb.cell (World.block_lt_of_cell? _ _ h.func)]; exact h.func, h.cache.below hb⟩
theorem Env.keeps {c' : Nat} (h : Env w b c K0 T0) (hk : Keeps w.heap.size b w w') (hc : Cache w' b c') : Env w' b c' K0 T0 :=
  ⟨by rw [hk.cell (World.block_lt_of_cell? _ _ h.known) (cell_notCache h.known h.cache)]; exact h.known, by rw [hk.cell (World.block_lt_of_cell? _ _ h.func) (cell_notCache h.func h.cache)]; exact h.func, hc⟩
end

/-- What the program's fast transform returns. -/
def FastIR (xs : List C) (b c : Nat) (w : World) (e : Ending) (w' : World) : Prop :=
  ∃ v ys, e = .returned v ∧ Row w' w.heap.size 26 v (cvals ys) ∧ WfC ys ∧ Fast (zsOf xs) (zsOf ys) ∧ Cache w' b (c + costT xs.length) ∧ Keeps w.heap.size b w w'

def FastIOK (N : Nat) : Prop := ∀ (xs : List C) (v : Value) (B b c K0 T0 : Nat) (w : World), xs.length < N → xs.length ≤ 1024 → WfC xs → Row w B 26 v (cvals xs) → Env w b c K0 T0 → c + costT xs.length ≤ 1000000000000000000 →
  Calls Try.prog 44 #[v, .pointer (some ⟨K0, 0, none⟩), .pointer (some ⟨T0, 0, none⟩)] w (FastIR xs b c w)

set_option maxRecDepth 100000 in
set_option maxHeartbeats 4000000 in
theorem fastI_small (xs : List C) (v : Value) (B b c K0 T0 : Nat) (w : World) (hl : xs.length ≤ 1) (hw : WfC xs) (h : Row w B 26 v (cvals xs)) (he : Env w b c K0 T0) :
    Calls Try.prog 44 #[v, .pointer (some ⟨K0, 0, none⟩), .pointer (some ⟨T0, 0, none⟩)] w (FastIR xs b c w) := by
  obtain ⟨a, cap, rfl⟩ := h.reads.form'
  obtain ⟨n, hn⟩ : ∃ n, xs.length = n := ⟨_, rfl⟩
  have hb1 : Below w.heap.size w (w.alloc (.cells #[.slice a (cvals xs).length cap] 24)) := (Below.refl _ _).alloc (Nat.le_refl _) _
  have E := Lib.hid (everyOf_any (h.below hb1 (fun k e => (h.lt k e).2)).reads 1 n 0 (by rw [hn, Nat.one_mul]) (by omega) (by omega) (by omega))
  have hpo : partN xs 0 1 n = xs := by rw [← hn]; exact partN_one xs
  have HB := Lib.hid hb1
  have HE := Lib.hid he
  have HW := Lib.hid hw
  have HN := Lib.hid hn
  rw [hpo] at E
  have hl1 : n ≤ 1 := by omega
  have hcl : (cvals xs).length = n := by rw [cvals_length, hn]
  rw [hcl] at E HB ⊢
  clear h he hw hb1 hn hpo hl hcl
  go_enter Try.func44, Try.ntmps44
  go_wp2_with fail
  refine E.out.mono ?_
  rintro e w1 ⟨v', rfl, hr, hb⟩
  have hsz : w.heap.size ≤ (w.alloc (.cells #[.slice a n cap] 24)).heap.size := HB.out.size
  have HR := Lib.hid (hr.base hsz)
  have hbb := HB.out.trans (hb.mono hsz)
  have HBB := Lib.hid hbb
  clear hr hb E
  go_wp2
  go_ret
  exact ⟨_, xs, rfl, HR.out, HW.out, .small (by rw [zsOf_length, HN.out]; exact hl1), (HE.out.cache.below HBB.out).mono (Nat.le_add_right _ _), Keeps.of_below HBB.out⟩

set_option maxRecDepth 100000 in
set_option maxHeartbeats 4000000 in
theorem inner_any (N : Nat) (ih : FastIOK N) (xs : List C) (p m r : Nat) (a : Option Addr) (n cap B b c K0 T0 X0 P0 : Nat) (w : World) (hn : xs.length = n) (hpm : n = p * m) (hr : r < p) (hp : p ≤ 1024) (hl : n ≤ 1024) (hm : m < N) (hw : WfC xs) (hrow : Row w B 26 (.slice a n cap) (cvals xs)) (he : Env w b c K0 T0)
    (hX : w.cell? ⟨X0, 0, none⟩ = some (.slice a n cap)) (hP : w.cell? ⟨P0, 0, none⟩ = some (.int .i64 (p : Int))) (hcf : c + costT m ≤ 1000000000000000000) :
    Calls Try.prog 49 #[.int .i64 r, .pointer (some ⟨T0, 0, none⟩), .pointer (some ⟨X0, 0, none⟩), .pointer (some ⟨P0, 0, none⟩)] w fun e w2 => ∃ v y, e = .returned v ∧ Row w2 w.heap.size 26 v (cvals y) ∧ WfC y ∧ (Fast (every (zsOf xs) r p) (zsOf y) ∧ y.length = m) ∧ Cache w2 b (c + costT m) ∧ Keeps w.heap.size b w w2 := by
  have hmn : m ≤ n := by
    rw [hpm]; exact Nat.le_mul_of_pos_left _ (by omega)
  have E := Lib.hid (fun nn => everyOf_any (w := w.drewN nn) (hrow.drewN nn).reads p m r (by omega) hr hp (by omega))
  have hpl : (partN xs r p m).length = m := partN_length xs r p m
  have hpw : WfC (partN xs r p m) := partN_wf hw (by rw [hn]; exact hpm) hr (Nat.le_refl m)
  have hev : zsOf (partN xs r p m) = every (zsOf xs) r p := part_every (by omega) (by rw [hn]; exact hpm) hr
  have REC := Lib.hid (fun (w2 : World) (v' : Value) (hr2 : Row w2 w.heap.size 26 v' (cvals (partN xs r p m))) (he2 : Env w2 b c K0 T0) => ih (partN xs r p m) v' w.heap.size b c K0 T0 w2 (by rw [hpl]; exact hm) (by rw [hpl]; omega) hpw hr2 he2 (by rw [hpl]; exact hcf))
  have HFAST : Hid (∀ y : List C, Fast (zsOf (partN xs r p m)) (zsOf y) → Fast (every (zsOf xs) r p) (zsOf y) ∧ y.length = m) := fun y hy => by
    refine ⟨hev ▸ hy, ?_⟩
    have := hy.length
    rw [zsOf_length, zsOf_length, hpl] at this
    exact this
  have HPL := Lib.hid hpl
  have HE := Lib.hid he
  have t0 := he.func
  have bT := World.block_lt_of_cell? _ _ he.func
  have bX := World.block_lt_of_cell? _ _ hX
  have bP := World.block_lt_of_cell? _ _ hP
  clear hpw hev hrow hw he hpl hpm hn ih
  go_enter Try.func49, Try.ntmps49
  go_wp2
  go_region_with (first
    | (go_at_call 45; refine (E.out _).mono ?_; rintro e w2 ⟨v', rfl, hr2, hb2⟩; have t2 := (hb2.cell (p := ⟨T0, 0, none⟩) bT).trans t0; have HR2 : Hid (Row w2 w.heap.size 26 v' (cvals (partN xs r p m))) := hr2; have HB2 : Hid (Below w.heap.size w w2) := (below_draws (Below.refl _ _) _).trans hb2; clear hr2 hb2)
    | (go_at_call 44; refine (REC.out w2 v' HR2.out (HE.out.below HB2.out)).mono ?_; rintro e w3 ⟨v3, y, rfl, hr3, hw3, hf3, hc3, hk3⟩; have H3 : Hid (Row w3 w.heap.size 26 v3 (cvals y) ∧ WfC y ∧ (Fast (every (zsOf xs) r p) (zsOf y) ∧ y.length = m) ∧ Cache w3 b (c + costT m) ∧ Keeps w.heap.size b w w3) := ⟨hr3.base HB2.out.size, hw3, HFAST.out y hf3, by rw [HPL.out] at hc3; exact hc3, (Keeps.of_below HB2.out).keeps hk3 HB2.out.size⟩; clear hr3 hw3 hf3 hc3 hk3))
  all_goals
    go_wp2
    go_ret
    exact ⟨v3, y, rfl, H3.out⟩

end Go.Proofs.Ytphgibndncjaiaa
/-
  The program's fast transform: the whole.
-/
set_option linter.unusedVariables false
set_option linter.unusedSimpArgs false
namespace Go.Proofs.Ytphgibndncjaiaa
open Go.RowKit Flt Turn Fast

theorem RowsJ.parts {w : World} {B p m : Nat} {Q : Nat → List C → Prop} {vs : List Value} {ys : Nat → List C} (h : RowsJ w B p p Q vs ys) (hm : ∀ i, i < p → (ys i).length = m) : PartsJ w w.heap.size p m (.slice (some ⟨B, 0, none⟩) p p) vs ys := by
  have hr := h.row
  rw [Nat.sub_self, List.replicate_zero, List.append_nil] at hr
  exact ⟨h.len, ⟨⟨_, hr⟩, fun k e => (hr.lt k e).2⟩, fun i hi => ⟨⟨⟨_, (h.each i hi).1⟩, fun k e => ((h.each i hi).1.lt k e).2⟩, (h.each i hi).2.1, hm i hi⟩⟩

set_option maxRecDepth 100000 in
set_option maxHeartbeats 8000000 in
theorem fastI_step (N : Nat) (ih : FastIOK N) (xs : List C) (v : Value) (B b c K0 T0 : Nat) (w : World) (hN : xs.length < N + 1) (h1 : 1 < xs.length) (h2 : xs.length ≤ 1024) (hw : WfC xs) (h : Row w B 26 v (cvals xs)) (he : Env w b c K0 T0) (hcf : c + costT xs.length ≤ 1000000000000000000) :
    Calls Try.prog 44 #[v, .pointer (some ⟨K0, 0, none⟩), .pointer (some ⟨T0, 0, none⟩)] w (FastIR xs b c w) := by
  obtain ⟨a, cap, rfl⟩ := h.reads.form'
  have hcl : (cvals xs).length = xs.length := cvals_length xs
  rw [hcl] at h ⊢
  obtain ⟨n, hn⟩ : ∃ n, xs.length = n := ⟨_, rfl⟩
  rw [hn] at h h1 h2 hN hcf ⊢
  obtain ⟨W1, hW1⟩ : ∃ x, w.alloc (.cells #[.slice a n cap] 24) = x := ⟨_, rfl⟩
  have hb1 : Below w.heap.size w W1 := by rw [← hW1]; exact (Below.refl _ _).alloc (Nat.le_refl _) _
  have hs1 : W1.heap.size = w.heap.size + 1 := by rw [← hW1]; simp
  have x1 : W1.cell? ⟨w.heap.size, 0, none⟩ = some (.slice a n cap) := by rw [← hW1]; simp
  have r1 : Row W1 B 26 (.slice a n cap) (cvals xs) := h.below hb1 (fun k e => (h.lt k e).2)
  have e1 := he.below hb1
  have HB1 := Lib.hid hb1
  have HX1 := Lib.hid x1
  have HR1 := Lib.hid r1
  have HE1 := Lib.hid e1
  have HS1 := Lib.hid hs1
  have HXL := Lib.hid hn
  have k1 := e1.known
  have HW := Lib.hid hw
  clear hb1 r1 e1 h he hn hcl hw hs1
  go_enter Try.func44, Try.ntmps44
  go_wp2_with fail
  refine (least_impl n h1 h2 _).mono ?_
  rintro e W1' ⟨p, rfl, hp, rfl⟩
  clear hW1
  have hp2 := hp.two
  have hpn := hp.le h1
  obtain ⟨m, hm⟩ : ∃ m, n / p = m := ⟨_, rfl⟩
  have hpm : n = p * m := by rw [← hm, Nat.mul_comm]; exact (Nat.div_mul_cancel (Nat.dvd_of_mod_eq_zero hp.dvd)).symm
  have hm1 : 1 ≤ m := by rw [← hm]; exact (Nat.le_div_iff_mul_le (by omega)).2 (by omega)
  have hmn : m < n := by
    have : 2 * m ≤ p * m := Nat.mul_le_mul_right _ hp2
    omega
  obtain ⟨W2, hW2⟩ : ∃ x, W1'.alloc (.cells #[.int .i64 (p : Int)] 2) = x := ⟨_, rfl⟩
  have hb2 : Below W1'.heap.size W1' W2 := by rw [← hW2]; exact (Below.refl _ _).alloc (Nat.le_refl _) _
  have hs2 : W2.heap.size = W1'.heap.size + 1 := by rw [← hW2]; simp
  have p2 : W2.cell? ⟨W1'.heap.size, 0, none⟩ = some (.int .i64 (p : Int)) := by rw [← hW2]; simp
  have x2 : W2.cell? ⟨w.heap.size, 0, none⟩ = some (.slice a n cap) := by rw [hb2.cell (by show w.heap.size < _; have := HS1.out; omega)]; exact HX1.out
  have r2 : Row W2 B 26 (.slice a n cap) (cvals xs) := HR1.out.below hb2 (fun k e => (HR1.out.lt k e).2)
  have e2 := HE1.out.below hb2
  have hcs := costT_step hp2 hm1
  rw [← hpm] at hcs
  have hcm := costT_le (n := m) (by omega)
  have hpcm : ∀ i, i ≤ p → i * costT m ≤ 1024 * 20000000 := fun i hi => Nat.mul_le_mul (by omega) hcm
  have L : ∀ nn, Calls Try.prog 48 #[.int .i64 p, .func (.func 49) #[] #[.pointer (some ⟨T0, 0, none⟩), .pointer (some ⟨w.heap.size, 0, none⟩), .pointer (some ⟨W1'.heap.size, 0, none⟩)]] (W2.drewN nn) fun e w' =>
      ∃ vs ys, e = .returned (.slice (some ⟨(W2.drewN nn).heap.size, 0, none⟩) p p) ∧ RowsJ w' (W2.drewN nn).heap.size p p (fun i y => Fast (every (zsOf xs) i p) (zsOf y) ∧ y.length = m) vs ys ∧ Cache w' b (c + p * costT m) ∧ Keeps (W2.drewN nn).heap.size b (W2.drewN nn) w' := fun nn =>
    listOf_rows 49 _ p (by omega) b c (costT m) _ (W2.drewN nn) (fun _ _ => rfl) (e2.cache.drewN nn) (fun i w1 hi hk hc => by
      have hk' : Keeps W2.heap.size b W2 w1 := ((Keeps.refl _ _ _).draws nn).trans hk
      have := inner_any N ih xs p m i a n cap B b (c + i * costT m) K0 T0 w.heap.size W1'.heap.size w1 HXL.out hpm hi (by omega) h2 (by omega) HW.out (r2.keeps hk' (fun k e => (r2.lt k e).2) (r2.notCache e2.cache)) (e2.keeps hk' hc)
        (by rw [hk'.cell (World.block_lt_of_cell? _ _ x2) (cell_notCache x2 e2.cache)]; exact x2) (by rw [hk'.cell (World.block_lt_of_cell? _ _ p2) (cell_notCache p2 e2.cache)]; exact p2) (by have h9 : (i + 1) * costT m ≤ p * costT m := Nat.mul_le_mul_right _ hi; rw [Nat.add_mul, Nat.one_mul] at h9; omega)
      refine Calls.mono this ?_
      rintro e w2 ⟨v, y, h1, h2, h3, h4, h5, h6⟩
      exact ⟨v, y, h1, h2, h3, h4, by rw [show c + (i + 1) * costT m = c + i * costT m + costT m by rw [Nat.add_mul, Nat.one_mul]; omega]; exact h5, h6⟩)
  have k2 := e2.known
  have bK := World.block_lt_of_cell? _ _ k2
  have nK := cell_notCache k2 e2.cache
  have J : ∀ (w3 : World) vs ys, RowsJ w3 W2.heap.size p p (fun i y => Fast (every (zsOf xs) i p) (zsOf y) ∧ y.length = m) vs ys → Cache w3 b (c + p * costT m) → Keeps W2.heap.size b W2 w3 →
      Calls Try.prog 47 #[.map (some b), .slice (some ⟨W2.heap.size, 0, none⟩) p p] w3 (FastIR xs b c w) := fun w3 vs ys hr hc hk => by
    refine Calls.mono (joinParts_any (hr.parts (fun i hi => (hr.each i hi).2.2.2)) hc hp2 hm1 (by rw [← hpm]; exact h2) (by have := hpcm p (Nat.le_refl _); omega)) ?_
    rintro e w4 ⟨v', os, rfl, hro, hwo, hz, hc4, hk4⟩
    have hsz : w.heap.size ≤ w3.heap.size := by have := hk.size; have := HS1.out; omega
    have hst : Fast (zsOf xs) (joinP n p (fun i => zsOf (ys i))) := by
      have := Fast.step (xs := zsOf xs) (p := p) (ys := fun i => zsOf (ys i)) (by rw [zsOf_length, HXL.out]; exact h1) (by rw [zsOf_length, HXL.out]; exact hp) (fun i hi => (hr.each i hi).2.2.1)
      rwa [zsOf_length, HXL.out] at this
    refine ⟨v', os, rfl, hro.base hsz, hwo, by rw [hz, ← hpm]; exact hst, hc4.mono (by rw [HXL.out, ← hpm]; omega), ?_⟩
    have hk2 : Keeps w.heap.size b w W2 := (Keeps.of_below HB1.out).trans (.of_below (hb2.mono (by have := HS1.out; omega)))
    exact (hk2.trans (hk.mono (by have := HS1.out; omega))).keeps hk4 hsz
  have HL := Lib.hid L
  have HJ := Lib.hid J
  clear L J hp hpm hm hcs hpcm hcm r2 e2 hb2 x2 hs2 HR1 HE1 HX1 HB1
  go_wp2
  clear hW2
  go_region_with (first
    | (go_at_call 48; refine (HL.out _).mono ?_; rintro e w3 ⟨vs, ys, rfl, hr, hc, hk⟩; have hk0 : Keeps W2.heap.size b W2 w3 := ((Keeps.refl _ _ _).draws _).trans hk; have k3 : w3.cell? ⟨K0, 0, none⟩ = some (.map (some b)) := (hk0.cell bK nK).trans k2; have JJ := Lib.hid (HJ.out w3 vs ys hr hc hk0); clear hr hc hk hk0)
    | (go_at_call 47; refine JJ.out.mono ?_; rintro e w4 ⟨v4, y4, rfl, hr4, hw4, hf4, hc4, hk4⟩; have H4 : Hid (FastIR xs b c w (.returned v4) w4) := ⟨v4, y4, rfl, hr4, hw4, hf4, hc4, hk4⟩; clear hr4 hw4 hf4 hc4 hk4))
  all_goals
    go_wp2
    go_ret
    exact H4.out

theorem fastI_all : ∀ N, FastIOK N
  | 0 => fun xs v B b c K0 T0 w h => absurd h (Nat.not_lt_zero _)
  | N + 1 => fun xs v B b c K0 T0 w h h2 hw hr he hc => by
    by_cases h1 : xs.length ≤ 1
    · exact fastI_small xs v B b c K0 T0 w h1 hw hr he
    · exact fastI_step N (fastI_all N) xs v B b c K0 T0 w h (by omega) h2 hw hr he hc

end Go.Proofs.Ytphgibndncjaiaa
/-
  The program's fast transform, from its cache on.
-/
set_option linter.unusedVariables false
set_option linter.unusedSimpArgs false
namespace Go.Proofs.Ytphgibndncjaiaa
open Go.RowKit Flt Turn Fast

set_option maxRecDepth 100000 in
set_option maxHeartbeats 4000000 in
/-- The program's fast transform. -/
theorem fast_impl (xs : List C) (v : Value) (B : Nat) (w : World) (h2 : xs.length ≤ 1024) (hw : WfC xs) (h : Row w B 26 v (cvals xs)) :
    Calls Try.prog 22 #[v] w (FastR xs w) := by
  have hmm := @run_makeMap Try.prog
  obtain ⟨a, cap, rfl⟩ := h.reads.form'
  have hcl : (cvals xs).length = xs.length := cvals_length xs
  rw [hcl] at h ⊢
  obtain ⟨n, hn⟩ : ∃ n, xs.length = n := ⟨_, rfl⟩
  rw [hn] at h h2 ⊢
  have HX := Lib.hid hn
  have HW := Lib.hid hw
  have HR := Lib.hid h
  clear h hn hcl hw
  go_enter Try.func22, Try.ntmps22
  go_wp2_with fail
  have hb : Below w.heap.size w (((w.alloc (.map #[] 0)).alloc (.cells #[.map (some w.heap.size)] 53)).alloc (.cells #[.func (.func 44) #[] #[.pointer (some ⟨w.heap.size + 1, 0, none⟩), .pointer (some ⟨w.heap.size + 1 + 1, 0, none⟩)]] 47)) :=
    (((Below.refl _ _).alloc (Nat.le_refl _) _).alloc (by simp) _).alloc (by simp; omega) _
  have he : Env (((w.alloc (.map #[] 0)).alloc (.cells #[.map (some w.heap.size)] 53)).alloc (.cells #[.func (.func 44) #[] #[.pointer (some ⟨w.heap.size + 1, 0, none⟩), .pointer (some ⟨w.heap.size + 1 + 1, 0, none⟩)]] 47)) w.heap.size 0 (w.heap.size + 1) (w.heap.size + 1 + 1) := by
    refine ⟨by go_simp, by go_simp, ?_⟩
    exact ((Cache.made w).alloc _).alloc _
  have hsz : w.heap.size ≤ (((w.alloc (.map #[] 0)).alloc (.cells #[.map (some w.heap.size)] 53)).alloc (.cells #[.func (.func 44) #[] #[.pointer (some ⟨w.heap.size + 1, 0, none⟩), .pointer (some ⟨w.heap.size + 1 + 1, 0, none⟩)]] 47)).heap.size := hb.size
  generalize (((w.alloc (.map #[] 0)).alloc (.cells #[.map (some w.heap.size)] 53)).alloc (.cells #[.func (.func 44) #[] #[.pointer (some ⟨w.heap.size + 1, 0, none⟩), .pointer (some ⟨w.heap.size + 1 + 1, 0, none⟩)]] 47)) = W at hb he hsz ⊢
  have hcost := costT_le h2
  refine (fastI_all (xs.length + 1) xs (.slice a n cap) B w.heap.size 0 (w.heap.size + 1) (w.heap.size + 1 + 1) W (Nat.lt_succ_self _) (by rw [HX.out]; exact h2) HW.out (HR.out.below hb (fun k e => (HR.out.lt k e).2)) he (by rw [HX.out]; omega)).mono ?_
  rintro e w2 ⟨v, ys, rfl, hr2, hw2, hf2, -, hk2⟩
  have HE : Hid (FastR xs w (.returned v) w2) := ⟨v, ys, rfl, hr2.base hsz, hw2, hf2, hb.trans ⟨hk2.os, hk2.tape, hk2.output, hk2.size, fun k hk => hk2.block k (by omega) (by omega)⟩⟩
  clear hr2 hw2 hf2 hk2 he hb hsz hmm HR
  go_wp2
  go_ret
  exact HE.out

end Go.Proofs.Ytphgibndncjaiaa
