import Derived.Test.YtnbmbegjpkebmaaFil
/-
  FinishFilter; whether a filter is valid, of the model; append, with where the new row lies.
-/
set_option linter.unusedVariables false
set_option linter.unusedSimpArgs false
namespace Go.Proofs.Ytnbmbegjpkebmaa
open Go.RowKit Flt Fast
attribute [local go_sem ↓] run_max_word run_max_word3

set_option maxRecDepth 100000 in
set_option maxHeartbeats 8000000 in
theorem finish_any (t p : List C) (tv pv : Value) (h1 : t.length ≤ 256) (h2 : p.length < t.length) (hwt : WfC t) (hwp : WfC p) (w : World) (hrt : RdO w.heap.size w tv t) (hrp : RdO w.heap.size w pv p) :
    Calls Try.prog 16 #[.agg #[tv, pv]] w fun e w' => ∃ ov ps, e = .returned (.tuple #[ov, .int .i64 0]) ∧
      Row w' w.heap.size 32 ov (cvals ps) ∧ IsCs ps (cvPart (zsOf p) (zsOf t) p.length (cvLen p.length t.length)) ∧ Below w.heap.size w w' := by
  have hle : p.length ≤ cvLen p.length t.length := by
    by_cases h : p.length = 0
    · omega
    · rw [cvLen_pos h (by omega)]; omega
  have hTle := cvLen_le p.length t.length
  have hnum : ∀ w1, Below w.heap.size w w1 → Calls Try.prog 35 #[.agg #[pv, tv], .int .i64 p.length, .int .i64 (cvLen p.length t.length)] w1 fun e w' =>
      ∃ v ps, e = .returned v ∧ Row w' w.heap.size 32 v (cvals ps) ∧ IsCs ps (cvPart (zsOf p) (zsOf t) p.length (cvLen p.length t.length)) ∧ Below w1.heap.size w1 w' := fun w1 hb => by
    refine (numbers_any p t p.length (cvLen p.length t.length) pv tv (by omega) (by omega) hle (by omega) hwp hwt w1 ((hrp.below hb).base hb.size) ((hrt.below hb).base hb.size)).mono ?_
    rintro e w' ⟨v, ps, rfl, hr, hf, hB⟩
    exact ⟨v, ps, rfl, hr.base hb.size, hf, hB⟩
  have HNUM := Lib.hid hnum
  obtain ⟨a1, c1, e1, -, -, -⟩ := hrt.find
  obtain ⟨a2, c2, e2, -, -, -⟩ := hrp.find
  subst e1
  subst e2
  have HLen := Lib.hid (fun w => cvLength_any a2 a1 p.length c2 t.length c1 (by omega) (by omega) w)
  clear hrt hrp hnum hle hTle
  obtain ⟨T, hT⟩ : ∃ T, cvLen p.length t.length = T := ⟨_, rfl⟩
  rw [hT] at HNUM HLen ⊢
  obtain ⟨b, hb⟩ : ∃ b, t.length = b := ⟨_, rfl⟩
  obtain ⟨m, hm⟩ : ∃ m, p.length = m := ⟨_, rfl⟩
  rw [hb] at h1 h2 HNUM HLen ⊢
  rw [hm] at h2 HNUM HLen ⊢
  have HCK := Lib.hid (fun w => checkFilter_any a1 a2 none b c1 m c2 0 0 h1 h2 (by omega) w)
  clear hT hb hm
  obtain ⟨N, hN⟩ : ∃ N, w.heap.size = N := ⟨_, rfl⟩
  have HN := Lib.hid hN
  clear hN
  go_enter Try.func16, Try.ntmps16
  go_wp2_with fail
  with_reducible refine (HCK.out _).mono ?_
  rintro e w2 ⟨rfl, hb⟩
  have hb' : Below (N + 1) (w.alloc (.cells #[.slice a1 b c1, .slice a2 m c2] 34)) w2 := by rw [← HN.out]; simpa using hb
  have p0 : Pair w2 N 34 (.slice a1 b c1) (.slice a2 m c2) := (hb'.block N (by omega)).trans (by rw [← HN.out]; exact World.alloc_heap_new w _)
  have hB2 : Below w.heap.size w w2 := ((Below.refl w.heap.size w).alloc (Nat.le_refl _) _).trans (hb.mono (by simp))
  have hs2 : N + 1 ≤ w2.heap.size := by have := hb.size; rw [← HN.out]; simpa using this
  obtain ⟨w3, hw3⟩ : ∃ z, w2.alloc (.cells #[.slice a2 m c2, .slice a1 b c1] 53) = z := ⟨_, rfl⟩
  have hA : Below w2.heap.size w2 w3 := by rw [← hw3]; exact (Below.refl _ _).alloc (Nat.le_refl _) _
  obtain ⟨M, hM⟩ : ∃ M, w2.heap.size = M := ⟨_, rfl⟩
  have p1 : Pair w3 M 53 (.slice a2 m c2) (.slice a1 b c1) := by rw [← hw3, ← hM]; exact World.alloc_heap_new w2 _
  have p0' : Pair w3 N 34 (.slice a1 b c1) (.slice a2 m c2) := p0.below hA (by omega)
  have hs3 : w3.heap.size = M + 1 := by rw [← hw3, ← hM]; simp
  have HC := Lib.hid (fun W (hW : Below (M + 1) w3 W) => (show W.cell? ⟨N, 1, none⟩ = some (.slice a2 m c2) ∧ W.cell? ⟨M, 0, none⟩ = some (.slice a2 m c2) ∧ W.cell? ⟨M, 1, none⟩ = some (.slice a1 b c1) from
    ⟨(p0'.below hW (by omega)).c1, (p1.below hW (by omega)).c0, (p1.below hW (by omega)).c1⟩))
  have HB3 := Lib.hid (below_step hB2 hA hB2.size)
  have q0 := p0.c0
  have q1 := p0.c1
  have d := HC.out w3.drew (below_draws (Below.refl _ _) 1)
  have d0 := d.1
  have d1 := d.2.1
  have d2 := d.2.2
  have HM := Lib.hid hM
  have HW3 := Lib.hid hw3
  have HS3 := Lib.hid hs3
  rw [← HN.out] at q0 q1 d0
  clear hb hb' p0 p0' p1 hB2 hA d hM hw3 hs3
  go_wp2_with fail
  rw [HW3.out, HM.out]
  go_region_held3 (fun w' => w'.cell? ⟨w.heap.size, 1, none⟩ = some (.slice a2 m c2) ∧ w'.cell? ⟨M, 0, none⟩ = some (.slice a2 m c2) ∧ w'.cell? ⟨M, 1, none⟩ = some (.slice a1 b c1))
    (first
      | exact ⟨d0, d1, d2⟩
      | (rw [HN.out]; exact HC.out _ HB5.out)
      | (rw [HN.out]; exact HC.out _ HB4.out)
      | go_keep)
    (first
      | (go_at_call 36; refine (HLen.out _).mono ?_; rintro e w4 ⟨rfl, hb⟩; have HB4 : Hid (Below (M + 1) w3 w4) := (below_draws (Below.refl _ _) 1).trans (hb.mono (by rw [← HS3.out]; exact Nat.le_refl _)); have HW4 : Hid (Below w.heap.size w w4) := below_step HB3.out ((below_draws (Below.refl _ _) 1).trans hb) HB3.out.size; have hs4 : M + 1 ≤ w4.heap.size := (by rw [← HS3.out]; exact HB4.out.size); clear hb)
      | (go_at_call 35; refine (HNUM.out _ HW4.out).mono ?_; rintro e w5 ⟨v, ps, rfl, hr, hf, hb⟩; obtain ⟨va, vc, rfl⟩ := hr.written rfl; have HE := Lib.hid (And.intro hr (And.intro hf (below_step HW4.out hb HW4.out.size))); have HB5 : Hid (Below (M + 1) w3 w5) := HB4.out.trans (hb.mono hs4); clear hr hf hb))
  all_goals
    go_wp2
    go_ret2
    exact ⟨_, ps, rfl, HE.out.1, HE.out.2.1, HE.out.2.2⟩

set_option maxRecDepth 100000 in
theorem in_spec (n : Nat) (h : 1 ≤ n) (h2 : n ≤ 256) (w : World) :
    Calls Try.prog 52 #[.int .i64 n, .int .i64 1, .int .i64 256] w fun e w' => e = .returned (.bool true) ∧ w' = w := by
  have g1 : decide ((1 : Int) ≤ (n : Int)) = true := decide_eq_true (by omega)
  have g2 : decide ((n : Int) ≤ 256) = true := decide_eq_true (by omega)
  have g3 : decide (1 ≤ n) = true := decide_eq_true h
  have g4 : decide (0 < n) = true := decide_eq_true h
  go_enter Try.func52, Try.ntmps52
  go_wp2
  go_ret
  exact ⟨rfl, rfl⟩

set_option maxRecDepth 100000 in
set_option maxHeartbeats 4000000 in
theorem ok_spec (B : Nat) (a1 a2 : Option Addr) (n1 c1 n2 c2 : Nat) (h1 : 1 ≤ n1) (h2 : n1 ≤ 256) (h3 : n2 < n1) (w : World) (hp : Pair w B 34 (.slice a1 n1 c1) (.slice a2 n2 c2)) :
    Calls Try.prog 32 #[.pointer (some ⟨B, 0, none⟩)] w fun e w' => e = .returned (.bool true) ∧ ∃ n, w' = w.drewN n := by
  have q0 := hp.c0
  have q1 := hp.c1
  have d0 : w.drew.cell? ⟨B, 0, none⟩ = some (.slice a1 n1 c1) := q0
  have d1 : w.drew.cell? ⟨B, 1, none⟩ = some (.slice a2 n2 c2) := q1
  have HI := Lib.hid (fun w => in_spec n1 h1 h2 w)
  have g1 : decide (n2 < n1) = true := decide_eq_true h3
  clear hp
  go_enter Try.func32, Try.ntmps32
  go_wp2_with fail
  go_quiet ((go_at_call 52; exact Calls.quiet_of_same (HI.out _)))
  go_wp2
  go_ret
  exact ⟨rfl, _, rfl⟩

theorem validFilter_spec (a1 a2 : Option Addr) (n1 c1 n2 c2 : Nat) (h1 : 1 ≤ n1) (h2 : n1 ≤ 256) (h3 : n2 < n1) (w : World) :
    Calls Try.prog 14 #[.agg #[.slice a1 n1 c1, .slice a2 n2 c2]] w fun e w' => e = .returned (.bool true) ∧ Below w.heap.size w w' := by
  have K := Lib.hid (ok_spec w.heap.size a1 a2 n1 c1 n2 c2 h1 h2 h3 (w.alloc (.cells #[.slice a1 n1 c1, .slice a2 n2 c2] 34)) (World.alloc_heap_new w _))
  go_enter Try.func14, Try.ntmps14
  go_wp2_with fail
  with_reducible refine K.out.mono ?_
  rintro e w2 ⟨rfl, n, rfl⟩
  go_wp2
  go_ret
  exact ⟨rfl, below_draws ((Below.refl _ _).alloc (Nat.le_refl _) _) n⟩

end Go.Proofs.Ytnbmbegjpkebmaa

/-
  FnFilterCuts, pure: what a filter tells of pieces.
-/
set_option linter.unusedVariables false
set_option linter.unusedSimpArgs false
namespace Go.Proofs.Ytnbmbegjpkebmaa
open Go.RowKit Flt Fast

theorem sumC_congr {f g : Nat → Z} : ∀ {m : Nat}, (∀ j, j < m → f j = g j) → sumC f m = sumC g m
  | 0, _ => rfl
  | m + 1, h => by
    by_cases hm : m = 0
    · subst hm; rw [sumC_one, sumC_one]; exact h 0 (by omega)
    · rw [sumC_succ f hm, sumC_succ g hm, sumC_congr (m := m) (fun j hj => h j (by omega)), h m (by omega)]

/-- Two convolutions with the same taps have the same number, if they have the same terms. -/
theorem cvAt_congr {x y t : List Z} {n n' : Nat} (hc : cvCnt x.length t.length n = cvCnt y.length t.length n') (hl : cvLo x.length n = cvLo y.length n')
    (h : ∀ j, j < cvCnt x.length t.length n → x.getD (n - (cvLo x.length n + j)) z0 = y.getD (n' - (cvLo y.length n' + j)) z0) : cvAt x t n = cvAt y t n' := by
  unfold cvAt cvSum
  rw [← hc]
  refine sumC_congr fun j hj => ?_
  unfold cvTerm
  rw [h j hj, hl]

theorem zsOf_part {X : List C} {k to p : Nat} (h : k + p < to) (h2 : to ≤ X.length) : (zsOf ((X.take to).drop k)).getD p z0 = (zsOf X).getD (k + p) z0 := by
  simp [zsOf, List.getD, List.getElem?_drop, List.getElem?_take, h]

/-- What has come so far, as a filter keeps it. -/
def pastAt (X : List C) (b at' : Nat) : List C := pastOf (X.take at') b
theorem pastAt_eq {X : List C} {b at' : Nat} (h : at' ≤ X.length) : pastAt X b at' = (X.take at').drop (at' - (b - 1)) := by
  unfold pastAt pastOf
  rw [List.length_take, Nat.min_eq_left h]
theorem pastAt_length {X : List C} {b at' : Nat} (h : at' ≤ X.length) : (pastAt X b at').length = min at' (b - 1) := by
  rw [pastAt_eq h, List.length_drop, List.length_take]; omega
/-- Past and piece together. -/
theorem come_eq {X : List C} {b at' to : Nat} (h1 : at' ≤ to) (h2 : to ≤ X.length) : pastAt X b at' ++ (X.drop at').take (to - at') = (X.take to).drop (at' - (b - 1)) := by
  rw [pastAt_eq (by omega)]
  have e : X.take to = X.take at' ++ (X.drop at').take (to - at') := by
    rw [show to = at' + (to - at') by omega, List.take_add]
    simp
  rw [e, List.drop_append_of_le_length (by rw [List.length_take]; omega)]
theorem past_next {X : List C} {b at' to : Nat} (h1 : at' ≤ to) (h2 : to ≤ X.length) : pastOf (pastAt X b at' ++ (X.drop at').take (to - at')) b = pastAt X b to := by
  rw [come_eq h1 h2, pastAt_eq h2]
  unfold pastOf
  rw [List.drop_drop, List.length_drop, List.length_take]
  congr 1
  omega

/-- What is told of a piece. -/
theorem told_piece {X T : List C} {at' to : Nat} (hb : 1 ≤ T.length) (h1 : at' ≤ to) (h2 : to ≤ X.length) :
    cvPart (zsOf (pastAt X T.length at' ++ (X.drop at').take (to - at'))) (zsOf T) (pastAt X T.length at').length ((pastAt X T.length at').length + (to - at')) = (List.range (to - at')).map (fun i => cvAt (zsOf X) (zsOf T) (at' + i)) := by
  obtain ⟨b, hbb⟩ : ∃ b, T.length = b := ⟨_, rfl⟩
  rw [hbb] at hb ⊢
  have hm : (pastAt X b at').length = min at' (b - 1) := pastAt_length (by omega)
  have hce := come_eq (b := b) h1 h2
  have hcl : ((X.take to).drop (at' - (b - 1))).length = to - (at' - (b - 1)) := by rw [List.length_drop, List.length_take]; omega
  rw [hce, hm]
  unfold cvPart
  rw [zsOf_length, zsOf_length, hcl, hbb]
  have hn : min (min at' (b - 1) + (to - at')) (max (min at' (b - 1)) (cvLen (to - (at' - (b - 1))) b)) - min at' (b - 1) = to - at' := by
    by_cases h0 : to - (at' - (b - 1)) = 0
    · omega
    · rw [cvLen_pos h0 (by omega)]; omega
  rw [hn]
  apply List.map_congr_left
  intro i hi
  have hi' : i < to - at' := List.mem_range.1 hi
  refine cvAt_congr ?_ ?_ ?_
  · rw [zsOf_length, zsOf_length, zsOf_length, hcl, hbb]; unfold cvCnt; omega
  · rw [zsOf_length, zsOf_length, hcl]; unfold cvLo; omega
  · intro j hj
    rw [zsOf_length, zsOf_length, hcl, hbb] at hj
    rw [zsOf_length, zsOf_length, hcl]
    unfold cvCnt at hj
    unfold cvLo
    rw [zsOf_part (by omega) h2]
    congr 1
    omega

/-- What is told behind the end. -/
theorem told_end {X T : List C} (hb : 1 ≤ T.length) :
    cvPart (zsOf (pastAt X T.length X.length)) (zsOf T) (pastAt X T.length X.length).length (cvLen (pastAt X T.length X.length).length T.length) = (List.range (cvLen X.length T.length - X.length)).map (fun i => cvAt (zsOf X) (zsOf T) (X.length + i)) := by
  obtain ⟨b, hbb⟩ : ∃ b, T.length = b := ⟨_, rfl⟩
  rw [hbb] at hb ⊢
  have hm : (pastAt X b X.length).length = min X.length (b - 1) := pastAt_length (Nat.le_refl _)
  have hpe := pastAt_eq (X := X) (b := b) (Nat.le_refl X.length)
  unfold cvPart
  rw [zsOf_length, zsOf_length, hm, hbb]
  have hn : min (cvLen (min X.length (b - 1)) b) (max (min X.length (b - 1)) (cvLen (min X.length (b - 1)) b)) - min X.length (b - 1) = cvLen X.length b - X.length := by
    by_cases h0 : X.length = 0
    · rw [h0, cvLen_nil]; simp [cvLen_nil]
    · rw [cvLen_pos h0 (by omega)]
      by_cases h1 : b = 1
      · subst h1; simp [cvLen_nil]
      · rw [cvLen_pos (by omega) (by omega)]; omega
  rw [hn]
  apply List.map_congr_left
  intro i hi
  have hi' : i < cvLen X.length b - X.length := List.mem_range.1 hi
  have h0 : X.length ≠ 0 := fun h => by rw [h, cvLen_nil] at hi'; omega
  rw [cvLen_pos h0 (by omega)] at hi'
  refine cvAt_congr ?_ ?_ ?_
  · rw [zsOf_length, zsOf_length, zsOf_length, hm, hbb]; unfold cvCnt; omega
  · rw [zsOf_length, zsOf_length, hm]; unfold cvLo; omega
  · intro j hj
    rw [zsOf_length, zsOf_length, hm, hbb] at hj
    rw [zsOf_length, zsOf_length, hm, hpe]
    unfold cvCnt at hj
    unfold cvLo
    rw [zsOf_part (by omega) (Nat.le_refl _)]
    congr 1
    omega

theorem cvFirst_add (x h : List Z) (n m : Nat) : cvFirst x h n ++ (List.range m).map (fun i => cvAt x h (n + i)) = cvFirst x h (n + m) := by
  induction m with
  | zero => simp
  | succ m ih => rw [List.range_succ, List.map_append, ← List.append_assoc, ih, ← Nat.add_assoc, cvFirst_succ]; rfl
theorem IsCs.append {ps qs : List C} {zs ys : List Z} (h : IsCs ps zs) (k : IsCs qs ys) : IsCs (ps ++ qs) (zs ++ ys) := by
  refine ⟨by simp [h.1, k.1], fun i hi => ?_⟩
  by_cases e : i < zs.length
  · rw [show (ps ++ qs).getD i (0, 0) = ps.getD i (0, 0) by simp [List.getD, List.getElem?_append_left, h.1, e], show (zs ++ ys).getD i z0 = zs.getD i z0 by simp [List.getD, List.getElem?_append_left, e]]
    exact h.2 i e
  · have hi2 : i - zs.length < ys.length := by simp at hi; omega
    rw [show (ps ++ qs).getD i (0, 0) = qs.getD (i - zs.length) (0, 0) by simp [List.getD, List.getElem?_append_right, h.1, show zs.length ≤ i by omega], show (zs ++ ys).getD i z0 = ys.getD (i - zs.length) z0 by simp [List.getD, List.getElem?_append_right, show zs.length ≤ i by omega]]
    exact k.2 _ hi2
theorem cvFirst_all (x h : List Z) : cvFirst x h (cvLen x.length h.length) = cvAll x h := rfl

theorem app_at {P : Program} (hu : P.underlying 24 = some (.slice 32)) (i : TypeInfo) (hi : P.info? 32 = some i) (hz : i.zero = some (.complex .f64 0 0)) (hsz : i.size = 1) (hby : i.bytes = 16) (ty : TypeId)
    {w : World} {B : Nat} {v u : Value} {xs ys : List C} (hv : Row w B 32 v (cvals xs)) (hr : RdC w u ys) (hB : B ≤ w.heap.size) (hl : xs.length + ys.length ≤ 1000000) :
    ∃ v' w', (Builtin.append_ #[24, 24] ty #[v, u]).run P w = .ok v' w' ∧ Row w' B 32 v' (cvals (xs ++ ys)) ∧ w.grownBy w' v.ownBlock ∧ (v'.ownBlock = v.ownBlock ∨ v'.ownBlock = some w.heap.size) := by
  obtain ⟨a, cap, rfl, h1, h2, h3⟩ := hr
  cases a with
  | none =>
    have h0 : ys.length = 0 := by
      apply Nat.eq_zero_of_not_pos
      intro hp
      obtain ⟨g, o, e, -⟩ := h3 0 hp
      cases e
    obtain rfl := List.eq_nil_of_length_eq_zero h0
    refine ⟨v, w, ?_, by simpa using hv, ⟨rfl, rfl, rfl, Nat.le_refl _, fun _ _ _ => rfl⟩, .inl rfl⟩
    rcases hv.2 with ⟨rfl, h0'⟩ | ⟨g, cap', cur, rfl, -, hg, hnc, -⟩
    · simp [Builtin.append_, run_underlying hu, sizeOf, typeInfo, hi, Builtin.lenOf, Builtin.firstCells, loadCells, loadCellsFrom]
    · simp [Builtin.append_, run_underlying hu, sizeOf, typeInfo, hi, Builtin.lenOf, Builtin.firstCells, loadCells, loadCellsFrom, hnc, storeCells]
  | some x =>
    have hn : ∀ (j : Nat) (u : Value), (cvals ys)[j]? = some u → w.cell? (x.add j) = some u := by
      intro j u hu
      have hj : j < ys.length := by have := (List.getElem?_eq_some_iff.1 hu).1; rwa [cvals_length] at this
      obtain ⟨g, o, e, hg, hc⟩ := h3 j hj
      cases e
      rw [addr_off, hc]
      have e2 := cvals_getD hj
      have e3 : (cvals ys).getD j undef = u := by simp [List.getD, hu]
      rw [← e3, e2]
    have hone : ∀ u ∈ cvals ys, u.oneCell' = true := by
      intro u hu
      obtain ⟨p, -, rfl⟩ := List.mem_map.1 hu
      rfl
    obtain ⟨v', w', e1, e2, e3, -, e5⟩ := run_append_own_at (P := P) w B 24 ty 32 i (.complex .f64 0 0) 1 16 hu hi hz hsz hby rfl (by decide) v (cvals xs).length (cvals xs) hv x ys.length cap (cvals ys) (by rw [cvals_length, Nat.mul_one]) hn hone
      (by rw [cvals_length]; simp only [maxLen]; omega) (by rw [cvals_length]; omega) hB
    refine ⟨v', w', e1, ?_, e3, e5⟩
    show w'.ownsRow _ _ _ _ _ _
    have e4 : cvals (xs ++ ys) = cvals xs ++ cvals ys := by simp [cvals]
    rw [e4, List.length_append, cvals_length ys]
    exact e2

theorem wpList_app_at {P : Program} {w : World} {ops : Array Oper} {rest : List Oper} {o : Oper} {a : Act} {Q : Exit → Act → World → Prop} (hw : Region.wanted o (yielded ops a.tmps) = true) (s x : Operand)
    (ho : o.op = .call { callee := .builtin .append, args := #[s, x], argTypes := #[24, 24] })
    (hu : P.underlying 24 = some (.slice 32)) (i : TypeInfo) (hi : P.info? 32 = some i) (hz : i.zero = some (.complex .f64 0 0)) (hsz : i.size = 1) (hby : i.bytes = 16)
    (B : Nat) (v u : Value) (xs ys : List C) (hs : a.eval s = v) (hx : a.eval x = u) (hv : Row w B 32 v (cvals xs)) (hr : RdC w u ys) (hB : B ≤ w.heap.size) (hl : xs.length + ys.length ≤ 1000000)
    (h : ∀ v' w', Row w' B 32 v' (cvals (xs ++ ys)) → w.grownBy w' v.ownBlock → (v'.ownBlock = v.ownBlock ∨ v'.ownBlock = some w.heap.size) → wpList P ops Q rest (a.put o.dst v') w') : wpList P ops Q (o :: rest) a w := by
  refine BigFrame.wpList_want hw fun K hK => ?_
  obtain ⟨v', w', hrun, h2, h3, h4⟩ := app_at hu i hi hz hsz hby o.type hv hr hB hl
  unfold Oper.wp execOp
  simp only [ho, resolve, invoke, builtin, Sem.run_bind, Sem.run_pure, Result.andThen_ok, List.map_toArray, List.map_cons, List.map_nil, hs, hx, hrun]
  exact hK _ _ (h v' w' h2 h3 h4)

end Go.Proofs.Ytnbmbegjpkebmaa

/-
  append([]byte{byte(k)}, more...): bytes again.
-/
set_option linter.unusedVariables false
set_option linter.unusedSimpArgs false
namespace Go.Proofs.Ytnbmbegjpkebmaa
open Go.RowKit Flt Fast

theorem info_u8 : (Try.prog.info? 5).map (fun i => (i.zero, i.size, i.bytes)) = some (some (.int .u8 0), 1, 1) := by kernel_rfl

theorem zeroCells_one (v : Value) (n : Nat) : Builtin.zeroCells #[v] n = (List.replicate n v).toArray := by
  apply Array.ext'
  simp only [Builtin.zeroCells, List.size_toArray, List.length_singleton, Nat.mul_one]
  apply List.ext_getElem
  · simp
  · intro i h1 h2
    simp [Nat.mod_one]

theorem isRow_cells {W : World} {B : Nat} {e : TypeId} {zs : List Int} {len : Nat} (h : W.heap[B]? = some (.cells (zs.map (Value.int .u8)).toArray e (0, 0))) (hl : len ≤ zs.length) (hm : zs.length ≤ maxLen) (hw : ∀ n ∈ zs, (Lit.int .u8 n).wf = true) :
    IsRow .u8 W (some ⟨B, 0, none⟩) len zs.length zs := by
  refine .inr ⟨⟨B, 0, none⟩, rfl, hl, hm, rfl, fun i hi => ?_, hw⟩
  rw [addr_off, Nat.zero_add]
  refine cell_of_heap h ?_
  simp [List.getD, hi]

theorem bytes_app (i0 : TypeInfo) (hi : Try.prog.info? 5 = some i0) (hz : i0.zero = some (.int .u8 0)) (hsz : i0.size = 1) (hby : i0.bytes = 1) (k : Int) (hk : (Lit.int .u8 k).wf = true) (ty : TypeId) {w : World} {g : Nat} (hg : w.heap[g]? = some (.cells #[.int .u8 k] 5 (0, 0)))
    {a : Option Addr} {len cap : Nat} {zs : List Int} (hr : IsRow .u8 w a len cap zs) (hl : len ≤ 4096) :
    ∃ a' len' cap' w', (Builtin.append_ #[22, 22] ty #[.slice (some ⟨g, 0, none⟩) 1 1, .slice a len cap]).run Try.prog w = .ok (.slice a' len' cap') w' ∧ (∃ zs', IsRow .u8 w' a' len' cap' zs') ∧ w.grownBy w' (some g) := by
  have hu := Try.underlying22
  by_cases h0 : len = 0
  · subst h0
    refine ⟨some ⟨g, 0, none⟩, 1, 1, w, ?_, ⟨[k], isRow_cells (len := 1) (zs := [k]) hg (by simp) (by simp [maxLen]) (by simpa using hk)⟩, ⟨rfl, rfl, rfl, Nat.le_refl _, fun _ _ _ => rfl⟩⟩
    cases a <;> simp [Builtin.append_, run_underlying hu, sizeOf, typeInfo, hi, Builtin.lenOf, Builtin.firstCells, loadCells, loadCellsFrom, storeCells]
  · rcases hr with ⟨-, h, -⟩ | ⟨x, rfl, hlc, hcm, hzl, hcell, hwf⟩
    · exact absurd h h0
    · have hzt : (zs.take len).length = len := by rw [List.length_take]; omega
      have hnews : ∀ j v, ((zs.take len).map (Value.int .u8))[j]? = some v → w.cell? (x.add j) = some v := fun j v hv => by
        have hj : j < len := by have := (List.getElem?_eq_some_iff.1 hv).1; simp at this; omega
        rw [hcell j (by omega), ← hv]
        simp [List.getD, List.getElem?_take, hj, show j < zs.length by omega]
      have holds : ∀ j v, ([Value.int .u8 k] : List Value)[j]? = some v → w.cell? ((⟨g, 0, none⟩ : Addr).add j) = some v := fun j v hv => by
        have hj : j = 0 := by have := (List.getElem?_eq_some_iff.1 hv).1; simpa using this
        subst hj
        rw [addr_off]
        simp at hv
        subst hv
        exact cell_of_heap hg rfl
      have hrun := run_append_grow (P := Try.prog) w 22 ty 5 i0 (.int .u8 0) hu hi hz ⟨g, 0, none⟩ 1 1 [.int .u8 k] (by simp [hsz]) holds x len cap ((zs.take len).map (Value.int .u8)) (by rw [List.length_map, hzt, hsz, Nat.mul_one]) hnews (by omega) (by omega) (growslice_fits (by omega) (by rw [hby]; omega))
      have hge := grownCap_ge w (1 + len) 1 5
      have hmx := grownCap_le_maxLen w (1 + len) 1 5 (by simp only [maxLen]; omega)
      obtain ⟨c, hc⟩ : ∃ c, grownCap w (1 + len) 1 5 = c := ⟨_, rfl⟩
      rw [hc] at hrun hge hmx
      have harr : [Value.int .u8 k].toArray ++ ((zs.take len).map (Value.int .u8)).toArray ++ Builtin.zeroCells (Value.int .u8 0).cells (c - (1 + len)) = (([k] ++ zs.take len ++ List.replicate (c - (1 + len)) 0).map (Value.int .u8)).toArray := by
        rw [show (Value.int .u8 0).cells = #[Value.int .u8 0] from rfl, zeroCells_one]
        simp
      have hlen : ([k] ++ zs.take len ++ List.replicate (c - (1 + len)) (0 : Int)).length = c := by simp only [List.length_append, List.length_replicate, List.length_singleton, hzt]; omega
      refine ⟨_, _, _, _, hrun, ⟨[k] ++ zs.take len ++ List.replicate (c - (1 + len)) 0, ?_⟩, ⟨rfl, rfl, rfl, by simp, fun j hj _ => Below.heap_alloc w.drew _ j hj⟩⟩
      have := isRow_cells (W := w.drew.alloc (.cells ([Value.int .u8 k].toArray ++ ((zs.take len).map (Value.int .u8)).toArray ++ Builtin.zeroCells (Value.int .u8 0).cells (c - (1 + len))) 5)) (B := w.heap.size) (e := 5) (zs := [k] ++ zs.take len ++ List.replicate (c - (1 + len)) 0) (len := 1 + len)
        (by rw [harr]; exact World.alloc_heap_new w.drew _) (by rw [hlen]; exact hge) (by rw [hlen]; exact hmx) (by
          intro n hn
          rcases List.mem_append.1 hn with hn | hn
          · rcases List.mem_append.1 hn with hn | hn
            · rw [List.mem_singleton.1 hn]; exact hk
            · exact hwf n (List.mem_of_mem_take hn)
          · rw [(List.mem_replicate.1 hn).2]; decide)
      rw [hlen] at this
      exact this

theorem wpList_bytes {w : World} {ops : Array Oper} {rest : List Oper} {o : Oper} {a : Act} {Q : Exit → Act → World → Prop} (hw : Region.wanted o (yielded ops a.tmps) = true) (s x : Operand)
    (ho : o.op = .call { callee := .builtin .append, args := #[s, x], argTypes := #[22, 22] })
    (i0 : TypeInfo) (hi : Try.prog.info? 5 = some i0) (hz : i0.zero = some (.int .u8 0)) (hsz : i0.size = 1) (hby : i0.bytes = 1) (k : Int) (hk : (Lit.int .u8 k).wf = true) {g : Nat} (hg : w.heap[g]? = some (.cells #[.int .u8 k] 5 (0, 0)))
    {b : Option Addr} {len cap : Nat} {zs : List Int} (hs : a.eval s = .slice (some ⟨g, 0, none⟩) 1 1) (hx : a.eval x = .slice b len cap) (hr : IsRow .u8 w b len cap zs) (hl : len ≤ 4096)
    (h : ∀ a' len' cap' w', (∃ zs', IsRow .u8 w' a' len' cap' zs') → w.grownBy w' (some g) → wpList Try.prog ops Q rest (a.put o.dst (.slice a' len' cap')) w') : wpList Try.prog ops Q (o :: rest) a w := by
  refine BigFrame.wpList_want hw fun K hK => ?_
  obtain ⟨a', len', cap', w', hrun, h2, h3⟩ := bytes_app i0 hi hz hsz hby k hk o.type hg hr hl
  unfold Oper.wp execOp
  simp only [ho, resolve, invoke, builtin, Sem.run_bind, Sem.run_pure, Result.andThen_ok, List.map_toArray, List.map_cons, List.map_nil, hs, hx, hrun]
  exact hK _ _ (h a' len' cap' w' h2 h3)

end Go.Proofs.Ytnbmbegjpkebmaa

/-
  FnFilterCuts: what its loop keeps.
-/
set_option linter.unusedVariables false
set_option linter.unusedSimpArgs false
namespace Go.Proofs.Ytnbmbegjpkebmaa
open Go.RowKit Flt Fast

theorem RdO.grown {B : Nat} {w w' : World} {row : Option Nat} {v : Value} {xs : List C} (h : RdO B w v xs) (hg : w.grownBy w' row) (hne : xs ≠ [] → ∀ j, v.ownBlock = some j → row ≠ some j) (hB : B ≤ w.heap.size) : RdO B w' v xs := by
  cases h with
  | nil a cap hm => exact .nil a cap hm
  | row g o cap L xs hL h0 hc hm hgb h =>
    refine .row g o cap L xs hL h0 hc hm hgb fun j hj => ?_
    rw [← h j hj]
    have := hg.block g (by omega) (fun e => hne (fun e2 => by subst e2; simp at hL; omega) g (by simp [Value.ownBlock]) e.symm)
    simp [World.cell?, this]
theorem RdO.ownLt {B : Nat} {w : World} {v : Value} {xs : List C} (h : RdO B w v xs) (hx : xs ≠ []) : ∀ j, v.ownBlock = some j → j < B := by
  cases h with
  | nil a cap hm => exact absurd rfl hx
  | row g o cap L xs hL h0 hc hm hgb h => intro j hj; obtain rfl : g = j := by simpa [Value.ownBlock] using hj
                                          exact hgb
theorem Row.grownNe {w w' : World} {B e : Nat} {row : Option Nat} {v : Value} {cs : List Value} (h : Row w B e v cs) (hg : w.grownBy w' row) (hne : ∀ j, v.ownBlock = some j → row ≠ some j) : Row w' B e v cs :=
  h.kept hg (by
    cases e' : v.ownBlock with
    | none => exact .inl rfl
    | some j => exact .inr (fun e2 => hne j e' e2.symm))

/-- What the loop keeps. -/
structure FcInv (X T : List C) (w : World) (F BA : Nat) (vx vt : Value) (at' : Nat) (all tv pv : Value) (ps : List C) (W : World) : Prop where
  pair : Pair W F 34 tv pv
  taps : RdO W.heap.size W tv T
  past : RdO W.heap.size W pv (pastAt X T.length at')
  tapsNe : ∀ j, tv.ownBlock = some j → j ≠ F ∧ all.ownBlock ≠ some j
  pastNe : pastAt X T.length at' ≠ [] → ∀ j, pv.ownBlock = some j → j ≠ F ∧ all.ownBlock ≠ some j
  row : Row W BA 32 all (cvals ps)
  fits : IsCs ps (cvFirst (zsOf X) (zsOf T) at')
  xs : Row W w.heap.size 32 vx (cvals X)
  ts : Row W w.heap.size 32 vt (cvals T)
  xLow : ∀ j, vx.ownBlock = some j → j < F
  tLow : ∀ j, vt.ownBlock = some j → j < F
  below : Below w.heap.size w W
  base : F < BA
  low : w.heap.size ≤ F
  size : BA ≤ W.heap.size
  len : at' ≤ X.length

theorem fc_next {X T : List C} {w W w5 w6 : World} {F BA G : Nat} {vx vt : Value} {at' to : Nat} {all all' tv pv tv' pv' : Value} {ps qs : List C} (hT0 : T ≠ [])
    (h : FcInv X T w F BA vx vt at' all tv pv ps W) (hb : Below W.heap.size W w5) (ht : RdO w5.heap.size w5 tv' T) (hp : RdO w5.heap.size w5 pv' (pastAt X T.length to))
    (hbt : ∀ j, tv'.ownBlock = some j → W.heap.size ≤ j) (hbp : ∀ j, pv'.ownBlock = some j → W.heap.size ≤ j) (hG : Pair w5 G 34 tv' pv') (hGW : W.heap.size ≤ G)
    (hq : IsCs qs ((List.range (to - at')).map (fun i => cvAt (zsOf X) (zsOf T) (at' + i)))) (h1 : at' ≤ to) (h2 : to ≤ X.length)
    (hr6 : Row w6 BA 32 all' (cvals (ps ++ qs))) (hg6 : w5.grownBy w6 all.ownBlock) (hown : all'.ownBlock = all.ownBlock ∨ all'.ownBlock = some w5.heap.size) :
    Pair w6 G 34 tv' pv' ∧ Pair w6 F 34 tv pv ∧ FcInv X T w F BA vx vt to all' tv' pv' (ps ++ qs) ((w6.setCell ⟨F, 0, none⟩ tv').setCell ⟨F, 1, none⟩ pv') := by
  have hFW : F < W.heap.size := Nat.lt_of_lt_of_le h.base h.size
  have hs5 := hb.size
  have hs6 := hg6.size
  have hallW : ∀ j, all.ownBlock = some j → BA ≤ j ∧ j < W.heap.size := fun j e => h.row.lt j e
  have ht5 := ht.ownLt hT0
  have pG : Pair w6 G 34 tv' pv' := hG.kept hg6 (fun e => by have := (hallW G e.symm).2; omega)
  have pF : Pair w6 F 34 tv pv := (h.pair.below hb hFW).kept hg6 (fun e => by have := (hallW F e.symm).1; have := h.base; omega)
  have hsz : ((w6.setCell ⟨F, 0, none⟩ tv').setCell ⟨F, 1, none⟩ pv').heap.size = w6.heap.size := by simp
  have g1 := grown_set w6 F 0 tv'
  have g2 := grown_set (w6.setCell ⟨F, 0, none⟩ tv') F 1 pv'
  have ht6 : RdO w6.heap.size w6 tv' T := (ht.grown hg6 (fun _ j hj e => by have := (hallW j e).2; have := hbt j hj; omega) (Nat.le_refl _)).base hs6
  have hp6 : RdO w6.heap.size w6 pv' (pastAt X T.length to) := (hp.grown hg6 (fun _ j hj e => by have := (hallW j e).2; have := hbp j hj; omega) (Nat.le_refl _)).base hs6
  have hx6 : Row w6 w.heap.size 32 vx (cvals X) := (h.xs.below hb (fun j e => (h.xs.lt j e).2)).grownNe hg6 (fun j hj e => by have := (hallW j e).1; have := h.xLow j hj; have := h.base; omega)
  have htt6 : Row w6 w.heap.size 32 vt (cvals T) := (h.ts.below hb (fun j e => (h.ts.lt j e).2)).grownNe hg6 (fun j hj e => by have := (hallW j e).1; have := h.tLow j hj; have := h.base; omega)
  refine ⟨pG, pF, ⟨(pF.set0 tv').set1 pv', ?_, ?_, fun j hj => ⟨?_, ?_⟩, fun hne j hj => ⟨?_, ?_⟩, ?_, ?_, ?_, ?_, h.xLow, h.tLow, ?_, h.base, h.low, ?_, h2⟩⟩
  · rw [hsz]
    exact (ht6.grown g1 (fun _ j hj e => by have := hbt j hj; cases e; omega) (Nat.le_refl _)).grown g2 (fun _ j hj e => by have := hbt j hj; cases e; omega) (by simp)
  · rw [hsz]
    exact (hp6.grown g1 (fun _ j hj e => by have := hbp j hj; cases e; omega) (Nat.le_refl _)).grown g2 (fun _ j hj e => by have := hbp j hj; cases e; omega) (by simp)
  · have := hbt j hj; omega
  · rcases hown with e | e <;> rw [e]
    · exact fun e2 => by have := (hallW j e2).2; have := hbt j hj; omega
    · exact fun e2 => by have := ht5 j hj; cases e2; omega
  · have := hbp j hj; omega
  · rcases hown with e | e <;> rw [e]
    · exact fun e2 => by have := (hallW j e2).2; have := hbp j hj; omega
    · exact fun e2 => by have := hp.ownLt hne j hj; cases e2; omega
  · exact (hr6.grownNe g1 (fun j hj e => by have := (hr6.lt j hj).1; have := h.base; cases e; omega)).grownNe g2 (fun j hj e => by have := (hr6.lt j hj).1; have := h.base; cases e; omega)
  · have := h.fits.append hq
    rwa [cvFirst_add, show at' + (to - at') = to by omega] at this
  · exact (hx6.grownNe g1 (fun j hj e => by have := h.xLow j hj; cases e; omega)).grownNe g2 (fun j hj e => by have := h.xLow j hj; cases e; omega)
  · exact (htt6.grownNe g1 (fun j hj e => by have := h.tLow j hj; cases e; omega)).grownNe g2 (fun j hj e => by have := h.tLow j hj; cases e; omega)
  · have b6 : Below w.heap.size w w6 := (h.below.trans (hb.mono h.below.size)).grown hg6 (Nat.le_trans h.below.size hs5) (fun j e => by have := (hallW j e).1; have := h.base; have := h.low; omega)
    exact (b6.setCell (p := ⟨F, 0, none⟩) h.low _).setCell (p := ⟨F, 1, none⟩) h.low _
  · rw [hsz]; have := h.size; omega

end Go.Proofs.Ytnbmbegjpkebmaa
