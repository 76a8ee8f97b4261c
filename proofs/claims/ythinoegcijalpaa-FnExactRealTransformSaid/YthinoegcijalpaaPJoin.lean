import Derived.Test.YthinoegcijalpaaPFast
/-
  The program's fast transform: joinParts.
-/
set_option linter.unusedVariables false
set_option linter.unusedSimpArgs false
namespace Go.Proofs.Ythinoegcijalpaa
open Go.RowKit Flt Turn Fast
attribute [local go_sem] run_fadd run_fsub run_fmul run_fquo run_cadd run_csub

/-- What has been filled of a column, in a row at block g. -/
structure OutL (wr : World) (g n m p k q : Nat) (zy : Nat → List Z) (os : List C) : Prop where
  len : os.length = n
  row : Row wr g 34 (.slice (some ⟨g, 0, none⟩) n n) (cvals os)
  wf : WfC os
  good : ∀ i, i < n → (i % m < k ∨ i % m = k ∧ i / m < q) → (zsOf os).getD i z0 = outP n p zy (i % m) (i / m)

section
variable {wr wq : World} {g n m p k q : Nat} {zy : Nat → List Z} {os : List C}
theorem OutL.keeps {B b : Nat} (h : OutL wr g n m p k q zy os) (hk : Keeps B b wr wq) (hB : g < B) (hb : g ≠ b) : OutL wq g n m p k q zy os :=
  ⟨h.len, h.row.keeps hk (fun j hj => by simp only [Value.ownBlock, Option.some.injEq] at hj; omega) (by simp only [Value.ownBlock, ne_eq, Option.some.injEq]; exact hb), h.wf, h.good⟩
theorem OutL.draws (h : OutL wr g n m p k q zy os) (nn : Nat) : OutL (wr.drewN nn) g n m p k q zy os := ⟨h.len, h.row.drewN nn, h.wf, h.good⟩
theorem OutL.col (h : OutL wr g n m p k p zy os) (hn : n = p * m) (hm : 0 < m) : OutL wr g n m p (k + 1) 0 zy os :=
  ⟨h.len, h.row, h.wf, fun i hi hc => h.good i hi (by
    have : i / m < p := Nat.div_lt_of_lt_mul (by rw [Nat.mul_comm]; omega)
    rcases hc with h1 | ⟨_, h2⟩
    · omega
    · exact absurd h2 (Nat.not_lt_zero _))⟩
theorem OutL.all (h : OutL wr g n m p m 0 zy os) (hm : 0 < m) (hd : n / p = m) : zsOf os = joinP n p zy := by
  apply List.ext_getElem (by rw [zsOf_length, h.len, joinP_length])
  intro i h1 h2
  rw [joinP_length] at h2
  have e := h.good i h2 (.inl (Nat.mod_lt _ hm))
  have e2 := joinP_getD (p := p) (ys := zy) h2
  rw [hd] at e2
  rw [← e2] at e
  simpa [List.getD, h1, joinP_length, h2] using e
theorem OutL.alike (h : OutL wr g n m p k q zy os) : OutL wr g n m p k q zy os := h
theorem OutL.next {c d : Nat} (h : OutL wr g n m p k q zy os) (hk : k < m) (hi : k + q * m < n) (hcd : IsC (c, d) (outP n p zy k q)) :
    OutL (wr.setCell ⟨g, k + q * m, none⟩ (.complex .f64 c d)) g n m p k (q + 1) zy (os.set (k + q * m) (c, d)) := by
  have hS := h.row.set (k + q * m) (.complex .f64 c d)
  have hm : 0 < m := by omega
  have e1 : (k + q * m) % m = k := by rw [Nat.add_mul_mod_self_right, Nat.mod_eq_of_lt hk]
  have e2 : (k + q * m) / m = q := by rw [Nat.add_mul_div_right _ _ hm, Nat.div_eq_of_lt hk, Nat.zero_add]
  refine ⟨by rw [List.length_set, h.len], ?_, fun u hu => ?_, fun i hi' hc => ?_⟩
  · have : cvals (os.set (k + q * m) (c, d)) = (cvals os).set (k + q * m) (.complex .f64 c d) := by simp [cvals, cval, List.map_set]
    rw [this]; exact hS.1
  · rcases List.mem_or_eq_of_mem_set hu with h1 | rfl
    · exact h.wf u h1
    · exact ⟨hcd.re.lt, hcd.im.lt⟩
  · have ez : zsOf (os.set (k + q * m) (c, d)) = (zsOf os).set (k + q * m) (zOf (c, d)) := by simp [zsOf, List.map_set]
    rw [ez]
    by_cases he : k + q * m = i
    · subst he
      rw [e1, e2]
      rw [show ((zsOf os).set (k + q * m) (zOf (c, d))).getD (k + q * m) z0 = zOf (c, d) by simp [List.getD, zsOf_length, h.len, hi]]
      unfold zOf
      rw [hcd.re.cn, hcd.im.cn]
    · rw [show ((zsOf os).set (k + q * m) (zOf (c, d))).getD i z0 = (zsOf os).getD i z0 by simp [List.getD, he]]
      refine h.good i hi' ?_
      rcases hc with h1 | ⟨h1, h2⟩
      · exact .inl h1
      · refine .inr ⟨h1, ?_⟩
        have : i / m ≠ q := fun e => he (by rw [← e, ← h1, Nat.mul_comm]; exact Nat.mod_add_div i m)
        omega
end

/-- The parts that are joined, all of them below H. -/
structure PartsJ (w : World) (H p m : Nat) (v6 : Value) (vs : List Value) (ys : Nat → List C) : Prop where
  len : vs.length = p
  row : (∃ B, Row w B 23 v6 vs) ∧ ∀ k, v6.ownBlock = some k → k < H
  each : ∀ i, i < p → ((∃ B, Row w B 34 (vs.getD i undef) (cvals (ys i))) ∧ ∀ k, (vs.getD i undef).ownBlock = some k → k < H) ∧ WfC (ys i) ∧ (ys i).length = m

/-- What the closure of joinParts reads. -/
theorem PartsJ.reads {w : World} {H p m : Nat} {v6 : Value} {vs : List Value} {ys : Nat → List C} (h : PartsJ w H p m v6 vs ys) (hm : 0 < m) (hp : 0 < p) :
    ∃ g6 c6, v6 = .slice (some ⟨g6, 0, none⟩) p c6 ∧ ∀ i, i < p → ∃ gi ci, w.cell? ⟨g6, i, none⟩ = some (.slice (some ⟨gi, 0, none⟩) m ci) ∧ m ≤ ci ∧ ci ≤ maxLen ∧ ∀ j, j < m → w.cell? ⟨gi, j, none⟩ = some (.complex .f64 ((ys i).getD j (0, 0)).1 ((ys i).getD j (0, 0)).2) := by
  obtain ⟨⟨B, hr⟩, -⟩ := h.row
  obtain ⟨g6, c6, rfl, -, -, hc⟩ := hr.getV h.len hp
  refine ⟨g6, c6, rfl, fun i hi => ?_⟩
  obtain ⟨⟨⟨B', hr'⟩, -⟩, -, hl⟩ := h.each i hi
  have hr2 := hr'
  have hsh := hr'.shape
  obtain ⟨gi, ci, e, -, -, hcell⟩ := hr'.get hl hm
  refine ⟨gi, ci, by rw [hc i hi, e], ?_, ?_, hcell⟩
  · rcases hsh with ⟨a, cap, e2, e3⟩ | ⟨g, cap, e2, _, _, _, h1, h2⟩
    · have : (cvals (ys i)).length = m := by rw [cvals_length, hl]
      rw [e3] at this; simp at this; omega
    · rw [e] at e2
      simp only [Value.slice.injEq, cvals_length, hl] at e2 h1
      omega
  · rcases hsh with ⟨a, cap, e2, e3⟩ | ⟨g, cap, e2, _, _, _, h1, h2⟩
    · have : (cvals (ys i)).length = m := by rw [cvals_length, hl]
      rw [e3] at this; simp at this; omega
    · rw [e] at e2
      simp only [Value.slice.injEq] at e2
      omega

theorem PartsJ.keeps {w w' : World} {H p m B b : Nat} {v6 : Value} {vs : List Value} {ys : Nat → List C} (h : PartsJ w H p m v6 vs ys) (hk : Keeps B b w w') (hB : H ≤ B) {c : Nat} (hc : Cache w b c) : PartsJ w' H p m v6 vs ys := by
  refine ⟨h.len, ?_, fun i hi => ?_⟩
  · obtain ⟨⟨B, hr⟩, hH⟩ := h.row
    exact ⟨⟨B, hr.keeps hk (fun k e => Nat.lt_of_lt_of_le (hH k e) hB) (hr.notCache hc)⟩, hH⟩
  · obtain ⟨⟨⟨B, hr⟩, hH⟩, r⟩ := h.each i hi
    exact ⟨⟨⟨B, hr.keeps hk (fun k e => Nat.lt_of_lt_of_le (hH k e) hB) (hr.notCache hc)⟩, hH⟩, r⟩

theorem PartsJ.below {w w' : World} {H p m B : Nat} {v6 : Value} {vs : List Value} {ys : Nat → List C} (h : PartsJ w H p m v6 vs ys) (hk : Below B w w') (hB : H ≤ B) : PartsJ w' H p m v6 vs ys := by
  refine ⟨h.len, ?_, fun i hi => ?_⟩
  · obtain ⟨⟨B, hr⟩, hH⟩ := h.row
    exact ⟨⟨B, hr.below hk (fun k e => Nat.lt_of_lt_of_le (hH k e) hB)⟩, hH⟩
  · obtain ⟨⟨⟨B, hr⟩, hH⟩, r⟩ := h.each i hi
    exact ⟨⟨⟨B, hr.below hk (fun k e => Nat.lt_of_lt_of_le (hH k e) hB)⟩, hH⟩, r⟩

/-- What stays in a round of joinParts. -/
structure JIn (wr : World) (H P0 K0 B1 : Nat) (v6 vt : Value) (p m k : Nat) (vs : List Value) (ys : Nat → List C) (ts : List C) : Prop where
  box : wr.cell? ⟨P0, 0, none⟩ = some v6
  parts : PartsJ wr H p m v6 vs ys
  kc : wr.cell? ⟨K0, 0, none⟩ = some (.int .i64 (k : Int))
  terms : Row wr B1 34 vt (cvals ts)

section
variable {wr wq : World} {H P0 K0 B1 : Nat} {v6 vt : Value} {p m k : Nat} {vs : List Value} {ys : Nat → List C} {ts : List C}
theorem JIn.keeps {b c : Nat} (h : JIn wr H P0 K0 B1 v6 vt p m k vs ys ts) (hk : Keeps wr.heap.size b wr wq) (hc : Cache wr b c) (hH : H ≤ wr.heap.size) : JIn wq H P0 K0 B1 v6 vt p m k vs ys ts :=
  ⟨by rw [hk.cell (World.block_lt_of_cell? _ _ h.box) (cell_notCache h.box hc)]; exact h.box, h.parts.keeps hk hH hc, by rw [hk.cell (World.block_lt_of_cell? _ _ h.kc) (cell_notCache h.kc hc)]; exact h.kc, h.terms.keeps hk (fun j e => (h.terms.lt j e).2) (h.terms.notCache hc)⟩
theorem JIn.draws (h : JIn wr H P0 K0 B1 v6 vt p m k vs ys ts) (n : Nat) : JIn (wr.drewN n) H P0 K0 B1 v6 vt p m k vs ys ts := ⟨h.box, ⟨h.parts.len, h.parts.row, h.parts.each⟩, h.kc, h.terms.drewN n⟩
theorem JIn.set {J0 j : Nat} (h : JIn wr H P0 K0 B1 v6 vt p m k vs ys ts) (h1 : P0 ≠ J0) (h2 : K0 ≠ J0) (h3 : H ≤ J0) (h4 : J0 < B1) (u : Value) : JIn (wr.setCell ⟨J0, j, none⟩ u) H P0 K0 B1 v6 vt p m k vs ys ts := by
  refine ⟨?_, h.parts.below ((Below.refl H wr).setCell (p := ⟨J0, j, none⟩) h3 u) (Nat.le_refl _), ?_, h.terms.far h4⟩
  · rw [World.cell?_setCell_other (h := by simp [h1])]; exact h.box
  · rw [World.cell?_setCell_other (h := by simp [h2])]; exact h.kc
end

set_option maxRecDepth 100000 in
theorem joinClosure_any {w : World} {H p m i k P0 K0 : Nat} {v6 : Value} {vs : List Value} {ys : Nat → List C} (h : PartsJ w H p m v6 vs ys) (hi : i < p) (hk : k < m) (h0 : w.cell? ⟨P0, 0, none⟩ = some v6) (h1 : w.cell? ⟨K0, 0, none⟩ = some (.int .i64 (k : Int))) :
    Calls Try.prog 40 #[.int .i64 i, .pointer (some ⟨P0, 0, none⟩), .pointer (some ⟨K0, 0, none⟩)] w fun e w' => e = .returned (.complex .f64 ((ys i).getD k (0, 0)).1 ((ys i).getD k (0, 0)).2) ∧ ∃ n, w' = w.drewN n := by
  obtain ⟨g6, c6, rfl, hc⟩ := h.reads (by omega) (by omega)
  obtain ⟨gi, ci, c1, c2, c3, c4⟩ := hc i hi
  have c5 := c4 k hk
  have hmx := maxLen_int (Nat.le_trans c2 c3)
  obtain ⟨⟨a, b⟩, hab⟩ : ∃ u, (ys i).getD k (0, 0) = u := ⟨_, rfl⟩
  rw [hab] at c5 ⊢
  clear h hc c4 hab c3
  go_enter Try.func40, Try.ntmps40
  go_wp2
  go_quiet (fail)
  go_wp2
  go_ret
  exact ⟨rfl, _, rfl⟩

set_option maxRecDepth 100000 in
set_option maxHeartbeats 16000000 in
theorem joinParts_any {w : World} {p m b c : Nat} {v6 : Value} {vs : List Value} {ys : Nat → List C} (h : PartsJ w w.heap.size p m v6 vs ys) (hc : Cache w b c) (hp : 2 ≤ p) (hm : 1 ≤ m) (hn : p * m ≤ 1024) (hcf : c ≤ 2000000000000000000) :
    Calls Try.prog 31 #[.map (some b), v6] w fun e w' => ∃ v' os, e = .returned v' ∧ Row w' w.heap.size 34 v' (cvals os) ∧ WfC os ∧ zsOf os = joinP (p * m) p (fun i => zsOf (ys i)) ∧ Cache w' b (c + 16 * (p * m) * p) ∧ Keeps w.heap.size b w w' := by
  obtain ⟨i0, hi, hz0, hz1, hz2⟩ := info_parts info_c128
  obtain ⟨n, hnn⟩ : ∃ n, p * m = n := ⟨_, rfl⟩
  have hpn : p ≤ n := by rw [← hnn]; exact Nat.le_mul_of_pos_right _ (by omega)
  have hmn : m ≤ n := by rw [← hnn]; exact Nat.le_mul_of_pos_left _ (by omega)
  have ePM : (p : Int) * (m : Int) = (n : Int) := by rw [← hnn]; simp
  rw [hnn] at hn ⊢
  have HPM := Lib.hid hnn
  obtain ⟨g6, c6, rfl, hcells⟩ := h.reads (by omega) (by omega)
  obtain ⟨H, hH⟩ : ∃ H, w.heap.size = H := ⟨_, rfl⟩
  rw [hH] at h ⊢
  have hk1 : Keeps w.heap.size b w (w.alloc (.cells #[.slice (some ⟨g6, 0, none⟩) p c6] 44)) := (Keeps.refl _ _ _).alloc (Nat.le_refl _) _
  have hb1 : (w.alloc (.cells #[.slice (some ⟨g6, 0, none⟩) p c6] 44)).cell? ⟨H, 0, none⟩ = some (.slice (some ⟨g6, 0, none⟩) p c6) := by rw [← hH]; simp
  have hp1 := h.keeps hk1 (by omega) hc
  have hc1 := hc.alloc (.cells #[.slice (some ⟨g6, 0, none⟩) p c6] 44)
  have hs1 : (w.alloc (.cells #[.slice (some ⟨g6, 0, none⟩) p c6] 44)).heap.size = H + 1 := by rw [← hH]; simp
  obtain ⟨W1, hW1⟩ : ∃ x, w.alloc (.cells #[.slice (some ⟨g6, 0, none⟩) p c6] 44) = x := ⟨_, rfl⟩
  rw [hW1] at hk1 hb1 hp1 hc1 hs1
  obtain ⟨g7, c7, e7, hcells1⟩ := hp1.reads (by omega) (by omega)
  simp only [Value.slice.injEq, Option.some.injEq, Addr.mk.injEq, true_and, and_true] at e7
  obtain ⟨rfl, rfl⟩ := e7
  obtain ⟨gi, ci, d1, d2, d3, -⟩ := hcells1 0 (by omega)
  have HP1 := Lib.hid hp1
  have HC1 := Lib.hid hc1
  have HK1 := Lib.hid hk1
  clear h hc hcells hcells1 hp1 hc1 hk1 hnn
  go_enter Try.func31, Try.ntmps31
  go_wp2
  clear hW1
  go_quiet (fail)
  have hs2 : (W1.drewN nq).heap.size = H + 1 := hs1
  have HP2 : Hid (PartsJ (W1.drewN nq) H p m (.slice (some ⟨g6, 0, none⟩) p c6) vs ys) := HP1.out.below (below_draws (Below.refl H W1) nq) (Nat.le_refl _)
  have HC2 : Hid (Cache (W1.drewN nq) b c) := HC1.out.drewN nq
  have HK2 : Hid (Keeps H b w (W1.drewN nq)) := by have := HK1.out.draws nq; rw [hH] at this; exact this
  have hb2 : (W1.drewN nq).cell? ⟨H, 0, none⟩ = some (.slice (some ⟨g6, 0, none⟩) p c6) := hb1
  clear HP1 HC1 HK1 hb1 hs1 d1 d2 d3 hH
  generalize W1.drewN nq = W2 at *
  go_wp2_with (at_make; refine wpList_make_full _ rfl _ _ 23 rfl W2.heap.size 34 i0 (.complex .f64 0 0) 1 Try.underlying23 hi hz0 hz1 .i64 .i64 _ _ n rfl rfl rfl rfl (by rw [hz2]; omega) (by simp only [maxLen]; omega) (Nat.le_refl _) ?_)
  intro W3 hown hg1
  rw [toList_madeCells_one] at hown
  have hbl : Below W2.heap.size W2 W3 := (Below.refl _ _).grown hg1 (Nat.le_refl _) (fun b e => by cases e)
  have hO : OutL W3 (H + 1) n m p 0 0 (fun i => zsOf (ys i)) (List.replicate n (0, 0)) := by
    refine ⟨by simp, ?_, fun q hq => ?_, fun i hi hk => (hk.elim (fun e => absurd e (Nat.not_lt_zero _)) (fun e => absurd e.2 (Nat.not_lt_zero _)))⟩
    · show W3.ownsRow _ _ _ _ _ _
      simpa [cvals, cval] using hown
    · rw [List.eq_of_mem_replicate hq]; exact ⟨by omega, by omega⟩
  have hJs : H + 1 < W3.heap.size := (hO.row.lt _ rfl).2
  rw [hs2] at hbl
  have HO := Lib.hid hO
  have HB3 : Hid (W3.cell? ⟨H, 0, none⟩ = some (.slice (some ⟨g6, 0, none⟩) p c6)) := by show W3.cell? _ = _; rw [hbl.cell (by simp)]; exact hb2
  have HP3 : Hid (PartsJ W3 H p m (.slice (some ⟨g6, 0, none⟩) p c6) vs ys) := HP2.out.below hbl (by omega)
  have HC3 : Hid (Cache W3 b c) := HC2.out.below (by rw [hs2]; exact hbl)
  have HK3 : Hid (Keeps H b w W3) := HK2.out.trans (.of_below (hbl.mono (by omega)))
  clear hO hown hg1 hbl HP2 HC2 HK2 hb2 hs2
  go_wp2
  go_loopw [22] (fun i wr => ∃ (k : Nat) (os : List C), i = .int .i64 k ∧ k ≤ m ∧ OutL wr (H + 1) n m p k 0 (fun i => zsOf (ys i)) os ∧ wr.cell? ⟨H, 0, none⟩ = some (.slice (some ⟨g6, 0, none⟩) p c6) ∧ PartsJ wr H p m (.slice (some ⟨g6, 0, none⟩) p c6) vs ys ∧ Cache wr b (c + k * (8 * p + 8 * p * p)) ∧ Keeps H b w wr ∧ H + 1 < wr.heap.size) (fun i _ => m - (intOf i).toNat)
  case atStart => exact ⟨0, _, rfl, Nat.zero_le _, HO.out, HB3.out, HP3.out, HC3.out.mono (by omega), HK3.out, hJs⟩
  case round =>
    clear HO HB3 HP3 HC3 HK3 hJs
    obtain ⟨k, os, rfl, hk, hO, hB, hP, hC, hK, hJs⟩ := hrel
    have HO := Lib.hid hO
    have HB := Lib.hid hB
    have HP := Lib.hid hP
    have HC := Lib.hid hC
    have HK := Lib.hid hK
    clear hO hB hP hC hK
    obtain ⟨wk, rfl⟩ : ∃ x, x = wr := ⟨_, rfl⟩
    by_cases hkm : k < m
    · obtain ⟨W, hW⟩ : ∃ W, wk.alloc (.cells #[.int .i64 (k : Int)] 2) = W := ⟨_, rfl⟩
      have hsW : W.heap.size = wk.heap.size + 1 := by rw [← hW]; simp
      have hbW : Below wk.heap.size wk W := by rw [← hW]; exact (Below.refl _ _).alloc (Nat.le_refl _) _
      have kW : W.cell? ⟨wk.heap.size, 0, none⟩ = some (.int .i64 (k : Int)) := by rw [← hW]; simp
      have bW : W.cell? ⟨H, 0, none⟩ = some (.slice (some ⟨g6, 0, none⟩) p c6) := by rw [hbW.cell (by show H < _; omega)]; exact HB.out
      have pW : PartsJ W H p m (.slice (some ⟨g6, 0, none⟩) p c6) vs ys := HP.out.below hbW (by omega)
      have cW : Cache W b (c + k * (8 * p + 8 * p * p)) := HC.out.below hbW
      have hLO := listOf_c128 40 #[.pointer (some ⟨H, 0, none⟩), .pointer (some ⟨wk.heap.size, 0, none⟩)] p (by omega) (fun i => (zsOf (ys i)).getD k z0) (fun _ w1 => Below W.heap.size W w1) none W (fun _ _ => rfl) (by simp)
        (fun w' hg => (Below.refl _ _).grown hg (Nat.le_refl _) (by simp)) (fun i w1 w2 h1 hb hg => hb.grown hg (by omega) (fun k e => by cases e; exact Nat.le_refl _))
        (fun i w1 hi h1 hb => (joinClosure_any (pW.below hb (by omega)) hi hkm (by rw [hb.cell (by show H < _; omega)]; exact bW) (by rw [hb.cell (by show wk.heap.size < _; omega)]; exact kW)).mono
          (fun e w2 ⟨e1, nn, e2⟩ => ⟨(ys i).getD k (0, 0), e1, isC_getD (pW.each i hi).2.1 (by rw [(pW.each i hi).2.2]; exact hkm), by rw [e2]; exact below_draws hb nn, by rw [e2]; exact grown_drewN (World.grownBy.refl _ _) nn⟩))
      have HLO := Lib.hid hLO
      have HPW := Lib.hid pW
      have HCW := Lib.hid cW
      have HBW := Lib.hid hbW
      clear hLO pW cW hbW
      go_wp2_with fail
      refine HLO.out.mono ?_
      rintro e w2 ⟨v, ts, rfl, hr, hl, hg, hI, -⟩
      obtain ⟨gt, ct, rfl, -, -, -⟩ := hr.get hl (by omega)
      have hb2 : Below wk.heap.size wk w2 := HBW.out.trans (hI.mono (by omega))
      have c2 : Cache w2 b (c + k * (8 * p + 8 * p * p)) := HCW.out.below hI
      have hkb : k * (8 * p + 8 * p * p) ≤ 100000000000 := Nat.le_trans (Nat.mul_le_mul (by omega : k ≤ 1024) (Nat.add_le_add (by omega : 8 * p ≤ 8192) (Nat.mul_le_mul (by omega : 8 * p ≤ 8192) (by omega : p ≤ 1024)))) (by decide)
      have TE := turnEach_any b (c + k * (8 * p + 8 * p * p)) n k (fun i => (zsOf (ys i)).getD k z0) hr hg c2 (by omega) (by omega) (by omega) (by omega) (by omega) (by omega)
      have k2 : w2.cell? ⟨wk.heap.size, 0, none⟩ = some (.int .i64 (k : Int)) := by rw [hI.cell (by show wk.heap.size < _; omega)]; exact kW
      have b2 : w2.cell? ⟨H, 0, none⟩ = some (.slice (some ⟨g6, 0, none⟩) p c6) := by rw [hI.cell (by show H < _; omega)]; exact bW
      have HTE := Lib.hid TE
      have HP2 := Lib.hid (HPW.out.below hI (by omega))
      have HC2 := Lib.hid c2
      have HB2 := Lib.hid hb2
      have hs2 : W.heap.size ≤ w2.heap.size := hI.size
      clear TE c2 hb2 hr hl hg hI HLO HPW HCW HBW hW kW bW
      go_wp2_with fail
      refine HTE.out.mono ?_
      rintro e w3 ⟨rfl, ts3, hr3, hl3, hg3, hc3, hk3⟩
      have hJb : H + 1 ≠ b := fun e => HO.out.row.notCache HC.out (by rw [← e]; rfl)
      have hK3 : Keeps wk.heap.size b wk w3 := (Keeps.of_below HB2.out).trans (hk3.mono (by omega))
      have J3 : JIn w3 H H wk.heap.size W.heap.size (.slice (some ⟨g6, 0, none⟩) p c6) (.slice (some ⟨gt, 0, none⟩) p ct) p m k vs ys ts3 :=
        ⟨by rw [hk3.cell (by show H < _; omega) (cell_notCache b2 HC2.out)]; exact b2, HP2.out.keeps hk3 (by omega) HC2.out, by rw [hk3.cell (by show wk.heap.size < _; omega) (cell_notCache k2 HC2.out)]; exact k2, hr3⟩
      have O3 := HO.out.keeps hK3 hJs hJb
      have hsz3 : wk.heap.size ≤ w3.heap.size := hK3.size
      have HJ3 := Lib.hid J3
      have HO3 := Lib.hid O3
      have HC3 := Lib.hid hc3
      have HK3 := Lib.hid (HK.out.keeps hK3 (by omega))
      have HG3 : Hid (∀ i, i < p → IsC (ts3.getD i (0, 0)) (term n (fun i => zsOf (ys i)) k i)) := hg3
      have HL3 := Lib.hid hl3
      clear hr3 hl3 hg3 hc3 hk3 hK3 J3 O3 HTE HP2 HC2 HB2 k2 b2 HO HB HP HC HK
      by_cases hp2 : p = 2
      · subst hp2
        have hkn2 : k + m < n := by have := HPM.out; omega
        have hmk : k + m ≠ k := by omega
        have t0 := HG3.out 0 (by omega)
        have t1 := HG3.out 1 (by omega)
        have c0 := HJ3.out.terms.cellAt (j := 0) (by omega)
        have c1 := HJ3.out.terms.cellAt (j := 1) (by omega)
        rw [cvals_getD (by rw [HL3.out]; omega)] at c0 c1
        obtain ⟨⟨a0, b0⟩, h0⟩ : ∃ u, ts3.getD 0 (0, 0) = u := ⟨_, rfl⟩
        obtain ⟨⟨a1, b1⟩, h1⟩ : ∃ u, ts3.getD 1 (0, 0) = u := ⟨_, rfl⟩
        rw [h0] at c0 t0
        rw [h1] at c1 t1
        have HT0 := Lib.hid t0
        have HT1 := Lib.hid t1
        have kc := HJ3.out.kc
        have o0 := HO3.out.row.cellAt (j := k) (by omega)
        have o1 := HO3.out.row.cellAt (j := k + m) (by omega)
        have f0 := HO3.out.row.frozenAt k
        have f1 := HO3.out.row.frozenAt (k + m)
        obtain ⟨u0, hu0⟩ : ∃ u, (cvals os).getD k undef = u := ⟨_, rfl⟩
        obtain ⟨u1, hu1⟩ : ∃ u, (cvals os).getD (k + m) undef = u := ⟨_, rfl⟩
        rw [hu0] at o0
        rw [hu1] at o1
        have hgt : gt ≠ H + 1 := by
          have : W.heap.size ≤ gt := (HJ3.out.terms.lt _ rfl).1
          omega
        have HNX : Hid (∀ (nn mm x0 y0 x1 y1 : Nat), IsC (x0, y0) (addZ (term n (fun i => zsOf (ys i)) k 0) (term n (fun i => zsOf (ys i)) k 1)) → IsC (x1, y1) (subZ (term n (fun i => zsOf (ys i)) k 0) (term n (fun i => zsOf (ys i)) k 1)) →
            ∃ os', OutL ((((w3.drewN nn).setCell ⟨H + 1, k, none⟩ (.complex .f64 x0 y0)).drewN mm).setCell ⟨H + 1, k + m, none⟩ (.complex .f64 x1 y1)) (H + 1) n m 2 (k + 1) 0 (fun i => zsOf (ys i)) os' ∧
              JIn ((((w3.drewN nn).setCell ⟨H + 1, k, none⟩ (.complex .f64 x0 y0)).drewN mm).setCell ⟨H + 1, k + m, none⟩ (.complex .f64 x1 y1)) H H wk.heap.size W.heap.size (.slice (some ⟨g6, 0, none⟩) 2 c6) (.slice (some ⟨gt, 0, none⟩) 2 ct) 2 m k vs ys ts3 ∧
              Cache ((((w3.drewN nn).setCell ⟨H + 1, k, none⟩ (.complex .f64 x0 y0)).drewN mm).setCell ⟨H + 1, k + m, none⟩ (.complex .f64 x1 y1)) b (c + (k + 1) * (8 * 2 + 8 * 2 * 2)) ∧
              Keeps H b w ((((w3.drewN nn).setCell ⟨H + 1, k, none⟩ (.complex .f64 x0 y0)).drewN mm).setCell ⟨H + 1, k + m, none⟩ (.complex .f64 x1 y1)) ∧
              H + 1 < ((((w3.drewN nn).setCell ⟨H + 1, k, none⟩ (.complex .f64 x0 y0)).drewN mm).setCell ⟨H + 1, k + m, none⟩ (.complex .f64 x1 y1)).heap.size) := fun nn mm x0 y0 x1 y1 hx0 hx1 => by
          have e0 := (HO3.out.draws nn).next (c := x0) (d := y0) hkm (by rw [Nat.zero_mul]; omega) hx0
          rw [Nat.zero_mul, Nat.add_zero] at e0
          have e1 := (e0.draws mm).next (c := x1) (d := y1) hkm (by rw [Nat.one_mul]; omega) hx1
          rw [Nat.one_mul] at e1
          refine ⟨_, e1.col HPM.out.symm (by omega), (((HJ3.out.draws nn).set (by omega) (by omega) (by omega) (by omega) _).draws mm).set (by omega) (by omega) (by omega) (by omega) _, ((Cache.setCell (Cache.drewN (Cache.setCell (HC3.out.drewN nn) (a := ⟨H + 1, k, none⟩) (fun e => hJb e.symm) _) mm) (a := ⟨H + 1, k + m, none⟩) (fun e => hJb e.symm) _).mono (by omega)), (((HK3.out.draws nn).setCell (p := ⟨H + 1, k, none⟩) (by show H ≤ H + 1; omega) _).draws mm).setCell (p := ⟨H + 1, k + m, none⟩) (by show H ≤ H + 1; omega) _, ?_⟩
          show H + 1 < _
          have : H + 1 < w3.heap.size := by omega
          simpa [World.setCell] using this
        have HN0 := Lib.hid (fun nn => HNX.out nn 0)
        simp only [World.drewN_zero] at HN0
        clear h0 h1 hu0 hu1 t0 t1 HJ3 HO3 HC3 HK3 HG3 HL3
        go_upto_region 9 with fail
        go_cut [] from 37 to 58 (fun wx => ∃ os', OutL wx (H + 1) n m 2 (k + 1) 0 (fun i => zsOf (ys i)) os' ∧ JIn wx H H wk.heap.size W.heap.size (.slice (some ⟨g6, 0, none⟩) 2 c6) (.slice (some ⟨gt, 0, none⟩) 2 ct) 2 m k vs ys ts3 ∧ Cache wx b (c + (k + 1) * (8 * 2 + 8 * 2 * 2)) ∧ Keeps H b w wx ∧ H + 1 < wx.heap.size)
        case first =>
          go_region
          all_goals
            go_wp2_with fail
            go_meet
            first
              | exact HN0.out _ _ _ _ _ ⟨isF_fres HT0.out.re HT1.out.re _, isF_fres HT0.out.im HT1.out.im _⟩ ⟨isF_fres HT0.out.re HT1.out.re _, isF_fres HT0.out.im HT1.out.im _⟩
              | exact HNX.out _ _ _ _ _ _ ⟨isF_fres HT0.out.re HT1.out.re _, isF_fres HT0.out.im HT1.out.im _⟩ ⟨isF_fres HT0.out.re HT1.out.re _, isF_fres HT0.out.im HT1.out.im _⟩
        case rest =>
          obtain ⟨os', e1, e2, e3, e4, e5⟩ := hcut
          have HE1 := Lib.hid e1
          have HE2 := Lib.hid e2
          have HE3 := Lib.hid e3
          have HE4 := Lib.hid e4
          clear e1 e2 e3 e4 HNX HN0 HT0 HT1 c0 c1 kc o0 o1 f0 f1
          go_wp2
          go_roundw
          case rel => first | exact ⟨k + 1, os', by go_num, by omega, HE1.out, HE2.out.box, HE2.out.parts, HE3.out, HE4.out, e5⟩ | ((repeat apply Exists.intro); refine ⟨?_, rfl⟩; exact ⟨k + 1, os', by go_num, by omega, HE1.out, HE2.out.box, HE2.out.parts, HE3.out, HE4.out, e5⟩)
          case measure => simp [intOf]; omega
      · have hp2' : ((p : Int) == 2) = false := by simp; omega
        have HE : Hid (∀ q, outP n p (fun i => zsOf (ys i)) k q = sumT (term n (fun i => zsOf (ys i)) k) p q p) := fun q => by unfold outP; rw [if_neg hp2]
        have HQS : Hid (∀ q, q < p → k + q * m < n) := fun q hq => by
          have h1 : (q + 1) * m ≤ p * m := Nat.mul_le_mul_right _ hq
          rw [Nat.add_mul, Nat.one_mul] at h1
          have h2 := HPM.out
          omega
        obtain ⟨c1, hc1⟩ : ∃ c1, c + k * (8 * p + 8 * p * p) + 8 * p = c1 := ⟨_, rfl⟩
        rw [hc1] at HC3
        have hc1b : c1 ≤ 2000000200000000000 := by omega
        have hWs : W.heap.size ≤ w3.heap.size := by have h1 : W.heap.size ≤ gt := (HJ3.out.terms.lt _ rfl).1; have h2 : gt < w3.heap.size := (HJ3.out.terms.lt _ rfl).2; omega
        have HC1 : Hid (c1 + p * (8 * p) = c + (k + 1) * (8 * p + 8 * p * p)) := by
          show c1 + p * (8 * p) = c + (k + 1) * (8 * p + 8 * p * p)
          rw [← hc1, Nat.add_mul, Nat.one_mul, Nat.mul_comm p (8 * p)]; omega
        have hW2 : H + 1 < W.heap.size := by omega
        clear hc1
        go_wp2
        go_loopw [60] (fun i wr => ∃ (q : Nat) (os' : List C), i = .int .i64 q ∧ q ≤ p ∧ OutL wr (H + 1) n m p k q (fun i => zsOf (ys i)) os' ∧ JIn wr H H wk.heap.size W.heap.size (.slice (some ⟨g6, 0, none⟩) p c6) (.slice (some ⟨gt, 0, none⟩) p ct) p m k vs ys ts3 ∧ Cache wr b (c1 + q * (8 * p)) ∧ Keeps H b w wr ∧ W.heap.size ≤ wr.heap.size) (fun i _ => p - (intOf i).toNat)
        case atStart => exact ⟨0, os, rfl, Nat.zero_le _, HO3.out, HJ3.out, HC3.out.mono (Nat.le_add_right _ _), HK3.out, hWs⟩
        case round =>
          clear HO3 HJ3 HC3 HK3
          obtain ⟨q, os', rfl, hq, hO, hJ, hC, hK, hsz⟩ := hrel
          have HO := Lib.hid hO
          have HJ := Lib.hid hJ
          have HC := Lib.hid hC
          have HK := Lib.hid hK
          clear hO hJ hC hK
          obtain ⟨wq, rfl⟩ : ∃ x, x = wr := ⟨_, rfl⟩
          by_cases hqp : q < p
          · have hqb : q * (8 * p) ≤ 100000000000 := Nat.le_trans (Nat.mul_le_mul (by omega : q ≤ 1024) (by omega : 8 * p ≤ 8192)) (by decide)
            have ST := fun nn => sumOfTurned_any b (c1 + q * (8 * p)) q (term n (fun i => zsOf (ys i)) k) (HJ.out.terms.drewN nn).reads HL3.out HG3.out (HC.out.drewN nn) (by omega) (by omega) (by omega) (by omega)
            have HST := Lib.hid ST
            obtain ⟨P, hP⟩ : ∃ P, k + q * m = P := ⟨_, rfl⟩
            have hPn : P < n := by rw [← hP]; exact HQS.out q hqp
            have hPI : (k : Int) + (q : Int) * (m : Int) = (P : Int) := by rw [← hP]; simp
            have eW : IntKind.i64.wrap ((k : Int) + IntKind.i64.wrap ((q : Int) * (m : Int))) = (P : Int) := by
              have a1 : IntKind.i64.wrap ((q : Int) * (m : Int)) = (q : Int) * (m : Int) := by rw [IntKind.wrap_i64]; omega
              rw [a1, hPI, IntKind.wrap_i64]; omega
            have hk0 := HJ.out.kc
            have o0 := HO.out.row.cellAt hPn
            obtain ⟨u0, hu0⟩ : ∃ u, (cvals os').getD P undef = u := ⟨_, rfl⟩
            have HU0 := Lib.hid hu0
            have HNX : Hid (∀ (wx : World) (x y nn : Nat), Keeps (wq.drewN nn).heap.size b (wq.drewN nn) wx → Cache wx b (c1 + q * (8 * p) + 8 * p) → IsC (x, y) (sumT (term n (fun i => zsOf (ys i)) k) p q p) →
                wx.cell? ⟨wk.heap.size, 0, none⟩ = some (.int .i64 (k : Int)) ∧ wx.cell? ⟨H + 1, P, none⟩ = some u0 ∧ wx.frozen? ⟨H + 1, P, none⟩ = false ∧
                ∃ os2, OutL (wx.setCell ⟨H + 1, P, none⟩ (.complex .f64 x y)) (H + 1) n m p k (q + 1) (fun i => zsOf (ys i)) os2 ∧ JIn (wx.setCell ⟨H + 1, P, none⟩ (.complex .f64 x y)) H H wk.heap.size W.heap.size (.slice (some ⟨g6, 0, none⟩) p c6) (.slice (some ⟨gt, 0, none⟩) p ct) p m k vs ys ts3 ∧ Cache (wx.setCell ⟨H + 1, P, none⟩ (.complex .f64 x y)) b (c1 + (q + 1) * (8 * p)) ∧ Keeps H b w (wx.setCell ⟨H + 1, P, none⟩ (.complex .f64 x y)) ∧ W.heap.size ≤ (wx.setCell ⟨H + 1, P, none⟩ (.complex .f64 x y)).heap.size) := fun wx x y nn hk hcx hxy => by
              have hkq : Keeps wq.heap.size b wq wx := ((Keeps.refl wq.heap.size b wq).draws nn).trans hk
              have hJq : H + 1 < wq.heap.size := by omega
              have o2 := HO.out.keeps hkq hJq hJb
              have j2 := HJ.out.keeps hkq HC.out (by omega)
              have e0 := o2.next (c := x) (d := y) hkm (by rw [hP]; exact hPn) (by rw [HE.out]; exact hxy)
              have o3 := o2.row.cellAt hPn
              have f3 := o2.row.frozenAt P
              rw [hP] at e0
              rw [HU0.out] at o3
              refine ⟨j2.kc, o3, f3, _, e0, j2.set (by omega) (by omega) (by omega) (by omega) _, ((hcx.setCell (a := ⟨H + 1, P, none⟩) (fun e => hJb e.symm) _).mono (by rw [Nat.add_mul, Nat.one_mul]; omega)), (HK.out.trans (hkq.mono (by omega))).setCell (p := ⟨H + 1, P, none⟩) (by show H ≤ H + 1; omega) _, ?_⟩
              have := hkq.size
              show W.heap.size ≤ _
              have h5 : W.heap.size ≤ wx.heap.size := by omega
              simpa [World.setCell] using h5
            clear ST hu0 hP HO HJ HC HK o0
            go_wp2
            go_region_with (go_at_call 42; refine (HST.out _).mono ?_; rintro e w5 ⟨x, y, rfl, hxy, hc5, hk5⟩; obtain ⟨k5, o5, f5, hn5⟩ := HNX.out w5 x y _ hk5 hc5 hxy; have HN5 := Lib.hid hn5; clear hxy hc5 hk5 hn5)
            all_goals
              clear hk0 k5 o5 f5
              go_wp2
              go_roundw
              case rel =>
                obtain ⟨os2, e1, e2, e3, e4, e5⟩ := HN5.out
                first
                  | exact ⟨q + 1, os2, by go_num, by omega, e1, e2, e3, e4, e5⟩
                  | ((repeat apply Exists.intro); refine ⟨?_, rfl⟩; exact ⟨q + 1, os2, by go_num, by omega, e1, e2, e3, e4, e5⟩)
              case measure => simp [intOf]; omega
          · have e : q = p := by omega
            subst e
            have hcol := HO.out.col HPM.out.symm (by omega)
            have HCL := Lib.hid hcol
            have hcc := HC.out
            rw [HC1.out] at hcc
            have HCC := Lib.hid hcc
            clear hcol hcc
            go_wp2
            go_roundw
            case rel => first | exact ⟨k + 1, os', by go_num, by omega, HCL.out, HJ.out.box, HJ.out.parts, HCC.out, HK.out, by omega⟩ | ((repeat apply Exists.intro); refine ⟨?_, rfl⟩; exact ⟨k + 1, os', by go_num, by omega, HCL.out, HJ.out.box, HJ.out.parts, HCC.out, HK.out, by omega⟩)
            case measure => simp [intOf]; omega
    · have e : k = m := by omega
      subst e
      have hall := HO.out.all (by omega) (by rw [← HPM.out]; exact Nat.mul_div_cancel_left _ (by omega))
      have HA := Lib.hid hall
      clear hall
      go_wp2
      go_ret
      exact ⟨_, os, rfl, HO.out.row.base (by omega), HO.out.wf, HA.out, HC.out.mono (by
        have h1 : k * (8 * p + 8 * p * p) = 8 * (p * k) + 8 * (p * k) * p := by rw [Nat.mul_add]; congr 1 <;> simp [Nat.mul_comm, Nat.mul_left_comm, Nat.mul_assoc]
        have h2 : p * k * 1 ≤ p * k * p := Nat.mul_le_mul_left _ (by omega)
        rw [h1, HPM.out]
        rw [HPM.out] at h2
        have : 16 * n * p = 16 * (n * p) := Nat.mul_assoc _ _ _
        have : 8 * n * p = 8 * (n * p) := Nat.mul_assoc _ _ _
        omega), HK.out⟩

end Go.Proofs.Ythinoegcijalpaa