/-
  Several texts of this claim, one behind the other; each says what it holds.
-/
import Derived.Test.YtocjhanehphibaaMPolyph10
/-
  FilterDecimate.
-/
set_option linter.unusedVariables false
set_option linter.unusedSimpArgs false
namespace Go.Proofs.Ytocjhanehphibaa
open Go.RowKit Flt Fast

/-- One number of a convolution. -/
theorem cvPart_one (X H : List Z) (n : Nat) (hn : n < cvLen X.length H.length) : cvPart X H n (n + 1) = [cvAt X H n] := by
  unfold cvPart
  rw [show min (n + 1) (max n (cvLen X.length H.length)) - n = 1 by omega]
  rfl
theorem isCs_one {ps : List C} {z : Z} (h : IsCs ps [z]) : ∃ p, ps = [p] ∧ IsC p z := by
  obtain ⟨h1, h2⟩ := h
  match ps, h1 with
  | [p], _ => exact ⟨p, rfl, by simpa using h2 0 (by simp)⟩

set_option maxRecDepth 100000 in
set_option maxHeartbeats 4000000 in
theorem filterDecimate_impl (x h : List C) (v1 v2 : Value) (m r : Nat) (h1 : 1 ≤ m) (h2 : m ≤ 64) (hr : r < m) (hx : x.length ≤ 256) (hh : h.length ≤ 256) (hl : cvLen x.length h.length ≤ 256) (hwx : WfC x) (hwh : WfC h) (w : World) (hrx : RdO w.heap.size w v1 x) (hrh : RdO w.heap.size w v2 h) :
    Calls Try.prog 24 #[v1, v2, .int .i64 m, .int .i64 r] w (SigTo2 (cntP (cvLen x.length h.length) r m) (fun i => cvAt (zsOf x) (zsOf h) (r + i * m)) w) := by
  obtain ⟨i0, hi, hz0, hz1, hz2⟩ := info_parts info_c128
  have hnum : ∀ n, n < cvLen x.length h.length → ∀ w1, Below w.heap.size w w1 → Calls Try.prog 46 #[.agg #[v1, v2], .int .i64 n, .int .i64 ((n : Int) + 1)] w1 fun e w' =>
      ∃ v p, e = .returned v ∧ Row w' w1.heap.size 30 v (cvals [p]) ∧ IsC p (cvAt (zsOf x) (zsOf h) n) ∧ Below w1.heap.size w1 w' := fun n hn w1 hb => by
    refine (numbers_any x h n (n + 1) v1 v2 (by omega) (by omega) (by omega) (by omega) hwx hwh w1 ((hrx.below hb).base hb.size) ((hrh.below hb).base hb.size)).mono ?_
    rintro e w' ⟨v, ps, rfl, hr, hf, hB⟩
    rw [cvPart_one _ _ _ (by rw [zsOf_length, zsOf_length]; exact hn)] at hf
    obtain ⟨p, rfl, hp⟩ := isCs_one hf
    exact ⟨v, p, rfl, hr, hp, hB⟩
  have HNUM := Lib.hid hnum
  obtain ⟨a1, c1, e1, -, -, -⟩ := hrx.find
  obtain ⟨a2, c2, e2, -, -, -⟩ := hrh.find
  subst e1
  subst e2
  clear hrx hrh hnum
  have HCK := Lib.hid (fun w => cvCheck_any a1 a2 x.length c1 h.length c2 hx hh hl w)
  have HPH := Lib.hid (fun w => isPhase_t m r h1 h2 hr w)
  have HLen := Lib.hid (fun w => cvLength_any a1 a2 x.length c1 h.length c2 (by omega) (by omega) w)
  have HCNT : Hid (∀ t, t < cntP (cvLen x.length h.length) r m ↔ r + t * m < cvLen x.length h.length) := Lib.hid fun t => cntP_lt _ _ _ _ (by omega)
  have hcb := cntP_le (cvLen x.length h.length) r m (by omega)
  obtain ⟨z, hz⟩ : ∃ z, (fun n => cvAt (zsOf x) (zsOf h) n) = z := ⟨_, rfl⟩
  have hz' : ∀ n, cvAt (zsOf x) (zsOf h) n = z n := fun n => by rw [← hz]
  simp only [hz'] at HNUM ⊢
  obtain ⟨T, hT⟩ : ∃ T, cvLen x.length h.length = T := ⟨_, rfl⟩
  rw [hT] at HNUM HLen HCNT hl hcb ⊢
  obtain ⟨ct, hct⟩ : ∃ ct, cntP T r m = ct := ⟨_, rfl⟩
  rw [hct] at HCNT hcb ⊢
  obtain ⟨L, hL⟩ : ∃ L, x.length = L := ⟨_, rfl⟩
  obtain ⟨M, hM⟩ : ∃ M, h.length = M := ⟨_, rfl⟩
  rw [hL] at hx HNUM HCK HLen ⊢
  rw [hM] at hh HNUM HCK HLen ⊢
  clear hz hz' hT hct hL hM
  obtain ⟨N, hN⟩ : ∃ N, w.heap.size = N := ⟨_, rfl⟩
  obtain ⟨W, hW⟩ : ∃ W, w.alloc (.cells #[.slice a1 L c1, .slice a2 M c2] 65) = W := ⟨_, rfl⟩
  have hs : W.heap.size = N + 1 := by rw [← hW, ← hN]; simp
  have HB0 : Hid (Below N w W) := by rw [← hW, ← hN]; exact Lib.hid ((Below.refl _ _).alloc (Nat.le_refl _) _)
  have HC : Hid (∀ V, Below (N + 1) W V → V.cell? ⟨N, 0, none⟩ = some (.slice a1 L c1) ∧ V.cell? ⟨N, 1, none⟩ = some (.slice a2 M c2)) := Lib.hid fun V hV => by
    have hn : W.heap[N]? = some (.cells #[.slice a1 L c1, .slice a2 M c2] 65 (0, 0)) := by rw [← hW, ← hN]; exact World.alloc_heap_new w _
    exact ⟨by rw [hV.cell (by simp)]; exact cell_of_heap hn rfl, by rw [hV.cell (by simp)]; exact cell_of_heap hn rfl⟩
  have HW := Lib.hid hW
  have HN := Lib.hid hN
  have HS := Lib.hid hs
  rw [hN] at HNUM
  have HNUM2 : Hid (∀ n, n < T → ∀ w1, Below (N + 1) W w1 → Calls Try.prog 46 #[.agg #[.slice a1 L c1, .slice a2 M c2], .int .i64 n, .int .i64 ((n : Int) + 1)] w1 fun e w' =>
      ∃ v p, e = .returned v ∧ Row w' w1.heap.size 30 v (cvals [p]) ∧ IsC p (z n) ∧ Below w1.heap.size w1 w') :=
    Lib.hid fun n hn w1 hb => HNUM.out n hn w1 (HB0.out.trans (hb.mono (by omega)))
  clear hW hN hs HNUM
  go_enter Try.func24, Try.ntmps24
  go_wp2_with fail
  rw [HW.out]
  try rw [HN.out]
  with_reducible refine (HCK.out _).mono ?_
  rintro e w2 ⟨rfl, hb⟩
  rw [HS.out] at hb
  have HB2 := Lib.hid hb
  clear hb
  go_wp2_with fail
  with_reducible refine (HPH.out _).mono ?_
  rintro e w' ⟨rfl, rfl⟩
  go_wp2
  go_loopw [12, 13] (fun v i wr => ∃ (k I : Nat) (ps : List C), i = .int .i64 I ∧ I = r + k * m ∧ k ≤ ct ∧ I ≤ T + 64 ∧ Row wr (N + 1) 30 v (cvals ps) ∧ ps.length = k ∧ (∀ j, j < k → IsC (ps.getD j (0, 0)) (z (r + j * m))) ∧ Below (N + 1) W wr) (fun _ i _ => T - (intOf i).toNat)
  case atStart => exact ⟨0, r, [], rfl, by omega, Nat.zero_le _, by omega, World.ownsRow_nil _ _ _ _, rfl, fun j hj => by omega, HB2.out⟩
  case round =>
    clear HB2
    obtain ⟨k, I, ps, rfl, hI, hk, hIT, hrw, hps, hgd, hB⟩ := hrel
    have HI := Lib.hid hI
    have HR := Lib.hid hrw
    have HPS := Lib.hid hps
    have HGD := Lib.hid hgd
    have HB := Lib.hid hB
    have d := HC.out wr hB
    have d0 := d.1
    have d1 := d.2
    clear hI hrw hps hgd hB d
    go_wp2_with fail
    with_reducible refine (HLen.out _).mono ?_
    rintro e w3 ⟨rfl, hb3⟩
    have hz3 : N + 1 ≤ wr.heap.size := by have := HB.out.size; have := HS.out; omega
    have HB3 := Lib.hid (below_step HB.out hb3 hz3)
    have HR3 := Lib.hid (HR.out.below hb3 (fun j e => (HR.out.lt j e).2))
    have d := HC.out w3 HB3.out
    have e0 := d.1
    have e1 := d.2
    clear d hb3 HR HB d0 d1
    by_cases hlt : I < T
    · have hkc : k < ct := (HCNT.out k).2 (by have := HI.out; omega)
      go_wp2_with fail
      with_reducible refine (HNUM2.out I hlt _ HB3.out).mono ?_
      rintro e w4 ⟨v, p, rfl, hrv, hp, hb4⟩
      have hz4 : N + 1 ≤ w3.heap.size := by have := HB3.out.size; have := HS.out; omega
      have HB4 := Lib.hid (below_step HB3.out hb4 hz4)
      have HR4 := Lib.hid (HR3.out.below hb4 (fun j e => (HR3.out.lt j e).2))
      have HV4 := Lib.hid (RdO.of_row hrv (fun j e => (hrv.lt j e).2))
      have HP := Lib.hid hp
      have hz5 : N + 1 ≤ w4.heap.size := Nat.le_trans hz4 hb4.size
      have HV5 := Lib.hid (HV4.out.rdC (Nat.le_refl _))
      clear hrv hp hb4 HR3 HB3 e0 e1
      have hpl : ps.length + [p].length ≤ 1000000 := by rw [HPS.out]; simp; omega
      go_wp2_with (at_builtin; refine wpList_app rfl _ _ rfl Try.underlying24 i0 hi hz0 hz1 hz2 (N + 1) _ _ ps [p] rfl rfl HR4.out HV5.out hz5 hpl ?_; intro v' w5 hr5 hg5; obtain ⟨va, vc, rfl⟩ := hr5.written rfl; have HB5 := Lib.hid (HB4.out.grown hg5 hz5 (fun j e => (HR4.out.lt j e).1)); have HR5 := Lib.hid hr5; clear hr5 hg5)
      have hI2 : I + m = r + (k + 1) * m := by rw [Nat.add_mul, Nat.one_mul, HI.out]; omega
      have HI2 := Lib.hid hI2
      clear hI2 HR4 HV4 HV5 HB4 hpl
      have HF := Lib.hid (snocGood (d := ((0, 0) : Nat × Nat)) (G := fun j p' => IsC p' (z (r + j * m))) (p := p) HPS.out HGD.out (by rw [← HI.out]; exact HP.out))
      go_wp2
      go_roundw
      case rel => first | exact ⟨k + 1, I + m, ps ++ [p], by go_num, HI2.out, by omega, by omega, HR5.out, HF.out.1, HF.out.2, HB5.out⟩ | ((repeat apply Exists.intro); refine ⟨?_, rfl⟩; exact ⟨k + 1, I + m, ps ++ [p], by go_num, HI2.out, by omega, by omega, HR5.out, HF.out.1, HF.out.2, HB5.out⟩)
      case measure => simp [intOf]; omega
    · have hkc : k = ct := by
        have h1 := (HCNT.out k).1
        have h2 := HI.out
        omega
      subst hkc
      obtain ⟨va, vc, rfl⟩ := HR3.out.written rfl
      go_wp2
      go_ret2
      exact ⟨_, ps, rfl, HR3.out.base (by rw [HN.out]; omega), HPS.out, HGD.out, by rw [HN.out]; exact HB0.out.trans (HB3.out.mono (by omega))⟩

end Go.Proofs.Ytocjhanehphibaa
/-
  ExpandFilter.
-/
set_option linter.unusedVariables false
set_option linter.unusedSimpArgs false
namespace Go.Proofs.Ytocjhanehphibaa
open Go.RowKit Flt Fast

theorem list_getD_map {α β : Type} (f : α → β) (xs : List α) (d : α) (e : β) {i : Nat} (h : i < xs.length) : (xs.map f).getD i e = f (xs.getD i d) := by
  simp [List.getD, h]
/-- A part as numbers up to NaN. -/
def pz (h : List C) (m b : Nat) : List Z := (List.range (cntP h.length b m)).map (polQ h m b)
theorem pz_length (h : List C) (m b : Nat) : (pz h m b).length = cntP h.length b m := by simp [pz]
theorem zsOf_eq {xs : List C} {n : Nat} {q : Nat → Z} (hl : xs.length = n) (h : ∀ i, i < n → IsC (xs.getD i (0, 0)) (q i)) : zsOf xs = (List.range n).map q := by
  apply List.ext_getElem (by simp [zsOf, hl])
  intro i h1 h2
  have hi : i < n := by simpa using h2
  have := h i hi
  have e : xs.getD i (0, 0) = xs[i]'(by omega) := by simp [List.getD, show i < xs.length by omega]
  rw [e] at this
  simp only [zsOf, List.getElem_map, List.getElem_range]
  exact Prod.ext this.re.1 this.im.1
theorem isC_lt {xs : List C} {n : Nat} {q : Nat → Z} (hl : xs.length = n) (h : ∀ i, i < n → IsC (xs.getD i (0, 0)) (q i)) : WfC xs := by
  intro u hu
  obtain ⟨i, hi, rfl⟩ := List.getElem_of_mem hu
  have := h i (by omega)
  rw [show xs.getD i (0, 0) = xs[i] by simp [List.getD, hi]] at this
  exact ⟨this.re.2, this.im.2⟩

/-- What stands at a place of a part's convolution, zeros behind it. -/
def zF (x h : List C) (m b i : Nat) : Z := if i < cvLen x.length (cntP h.length b m) then cvAt (zsOf x) (pz h m b) i else z0
theorem zF_of {x h : List C} {m b J : Nat} {ps : List C} (hps : IsCs ps (cvPart (zsOf x) (pz h m b) 0 (cvLen x.length (cntP h.length b m)))) (hJ : cvLen x.length (cntP h.length b m) ≤ J) :
    ps.length ≤ J ∧ (ps ++ List.replicate (J - ps.length) (0, 0)).length = J ∧ ∀ i, i < J → IsC ((ps ++ List.replicate (J - ps.length) (0, 0)).getD i (0, 0)) (zF x h m b i) := by
  have e0 : cvPart (zsOf x) (pz h m b) 0 (cvLen x.length (cntP h.length b m)) = cvAll (zsOf x) (pz h m b) := by
    have := cvPart_all (zsOf x) (pz h m b)
    rwa [zsOf_length, pz_length] at this
  rw [e0] at hps
  obtain ⟨h1, h2⟩ := hps
  have hl : (cvAll (zsOf x) (pz h m b)).length = cvLen x.length (cntP h.length b m) := by rw [cvAll_length, zsOf_length, pz_length]
  rw [hl] at h1 h2
  refine ⟨by omega, by simp; omega, fun i hi => ?_⟩
  unfold zF
  by_cases hlt : i < cvLen x.length (cntP h.length b m)
  · rw [if_pos hlt]
    have := h2 i hlt
    rw [cvAll_getD (by rw [zsOf_length, pz_length]; exact hlt)] at this
    have e : (ps ++ List.replicate (J - ps.length) (0, 0)).getD i (0, 0) = ps.getD i (0, 0) := by simp [List.getD, List.getElem?_append_left, show i < ps.length by omega]
    rw [e]; exact this
  · rw [if_neg hlt]
    have e : (ps ++ List.replicate (J - ps.length) ((0, 0) : C)).getD i (0, 0) = (0, 0) := by
      rw [List.getD, List.getElem?_append_right (by omega)]
      simp [List.getElem?_replicate]
      split <;> rfl
    rw [e]
    exact ⟨IsF.lit (by decide) (by omega), IsF.lit (by decide) (by omega)⟩

/-- One element of a list of signals is put in the place of another one. -/
theorem MadeR.set {W : World} {B g c cap : Nat} {vs : List Value} {bs : Nat → List C} {n n' : Nat → Nat} {q q' : Nat → Nat → Z} (h : MadeR W B n (.slice (some ⟨g, 0, none⟩) c cap) vs bs q) {k : Nat} (hk : k < vs.length) {u : Value} {y : List C} (hu : Row W B 30 u (cvals y)) (hl : y.length = n' k) (hq : ∀ i, i < n' k → IsC (y.getD i (0, 0)) (q' k i))
    (hn : ∀ b, b < vs.length → b ≠ k → n b = n' b ∧ ∀ i, i < n b → q b i = q' b i) :
    MadeR (W.setCell ⟨g, k, none⟩ u) B n' (.slice (some ⟨g, 0, none⟩) c cap) (vs.set k u) (fun b => if b = k then y else bs b) q' ∧ W.grownBy (W.setCell ⟨g, k, none⟩ u) (some g) := by
  have ne : (30 : TypeId) ≠ 24 := by decide
  have hS := h.row.set k u
  refine ⟨⟨hS.1, fun b hb => ?_⟩, hS.2⟩
  rw [List.length_set] at hb
  by_cases hbk : b = k
  · subst hbk
    rw [if_pos rfl, show (vs.set b u).getD b undef = u by simp [List.getD, hb]]
    exact ⟨hu.kept hS.2 (row_apart hu h.row ne), hl, hq⟩
  · rw [if_neg hbk, show (vs.set k u).getD b undef = vs.getD b undef by simp [List.getD, List.getElem?_set_ne (Ne.symm hbk)]]
    obtain ⟨k1, k2, k3⟩ := h.each b hb
    obtain ⟨e1, e2⟩ := hn b hb hbk
    exact ⟨k1.kept hS.2 (row_apart k1 h.row ne), by rw [k2, e1], fun i hi => by rw [← e2 i (by rw [e1]; exact hi)]; exact k3 i (by rw [e1]; exact hi)⟩

/-- The beginning of a row. -/
theorem Row.takeP {w : World} {B e n k cap : Nat} {a : Option Addr} {cs : List Value} (h : Row w B e (.slice a n cap) cs) (hk : k ≤ n) (h0 : 0 < n) : Row w B e (.slice a k cap) (cs.take k) := by
  rcases h.2 with ⟨hv, hn⟩ | ⟨g, cap', cur, hv, hb, hg, hnc, hcm, hs, ht⟩
  · cases hv; omega
  · simp only [Value.slice.injEq] at hv
    obtain ⟨rfl, e1, rfl⟩ := hv
    have hl : cs.length = n := e1.symm
    refine ⟨by simp, .inr ⟨g, cap, cur, ?_, hb, hg, ?_, hcm, hs, ?_⟩⟩
    · rw [List.length_take, hl, Nat.min_eq_left hk]
    · rw [List.length_take]; omega
    · rw [List.length_take, hl, Nat.min_eq_left hk]
      rw [hl] at ht
      rw [← ht]
      simp [List.take_take, Nat.min_eq_left hk]

end Go.Proofs.Ytocjhanehphibaa
/-
  ExpandFilter of the program.
-/
set_option linter.unusedVariables false
set_option linter.unusedSimpArgs false
namespace Go.Proofs.Ytocjhanehphibaa
open Go.RowKit Flt Fast

theorem lenS_const {n : Nat → Nat} {J : Nat} : ∀ {c : Nat}, (∀ b, b < c → n b = J) → lenS n c = c * J
  | 0, _ => by simp [lenS]
  | c + 1, h => by
    have ih := lenS_const (n := n) (J := J) (c := c) (fun b hb => h b (by omega))
    show lenS n c + n c = _
    rw [ih, h c (by omega), Nat.succ_mul]
theorem cntP_ge (n m : Nat) (hm : 0 < m) : n ≤ cntP n 0 m * m := by
  have := (cntP_lt n 0 m (cntP n 0 m) hm)
  omega
theorem cv_fits {a M m b : Nat} (ha : 0 < a) (hm : 0 < m) (hb : b < m) (hM : 0 < M) : cvLen a (cntP M b m) ≤ cntP (a * m + M - 1) 0 m := by
  by_cases h0 : cntP M b m = 0
  · rw [h0, cvLen_nil']; exact Nat.zero_le _
  · rw [cvLen_pos (by omega) h0]
    have h1 := (cntP_lt M b m (cntP M b m - 1) hm).1 (by omega)
    have h2 := cntP_ge (a * m + M - 1) m hm
    refine Nat.le_of_mul_le_mul_right (Nat.le_trans ?_ h2) hm
    rw [show a + cntP M b m - 1 = a + (cntP M b m - 1) by omega, Nat.add_mul]
    omega

/-- How far the parts have been convolved. -/
def nK (J : Nat) (cnt : Nat → Nat) (k b : Nat) : Nat := if b < k then J else cnt b
def qK (zf pq : Nat → Nat → Z) (k b : Nat) : Nat → Z := if b < k then zf b else pq b
theorem frozen_below {n g k : Nat} {W W' : World} (h : Below n W W') (hg : g < n) : W'.frozen? ⟨g, k, none⟩ = W.frozen? ⟨g, k, none⟩ := by
  simp [World.frozen?, h.block g hg]
/-- One part more. -/
theorem MadeR.more {w wr w5 : World} {B g c cap k J : Nat} {cnt : Nat → Nat} {zf pq : Nat → Nat → Z} {vs : List Value} {bs : Nat → List C} {u : Value} {y : List C}
    (h : MadeR wr B (nK J cnt k) (.slice (some ⟨g, 0, none⟩) c cap) vs bs (qK zf pq k)) (hk : k < vs.length) (hB : B ≤ wr.heap.size) (hb0 : Below B w wr) (hb : Below wr.heap.size wr w5) (hu : Row w5 B 30 u (cvals y)) (hl : y.length = J) (hq : ∀ i, i < J → IsC (y.getD i (0, 0)) (zf k i)) :
    MadeR (w5.setCell ⟨g, k, none⟩ u) B (nK J cnt (k + 1)) (.slice (some ⟨g, 0, none⟩) c cap) (vs.set k u) (fun b => if b = k then y else bs b) (qK zf pq (k + 1)) ∧ Below B w (w5.setCell ⟨g, k, none⟩ u) := by
  have h5 := h.below hb
  have e1 : nK J cnt (k + 1) k = J := if_pos (by omega)
  have e2 : qK zf pq (k + 1) k = zf k := if_pos (by omega)
  obtain ⟨m1, m2⟩ := h5.set (n' := nK J cnt (k + 1)) (q' := qK zf pq (k + 1)) hk hu (by rw [e1]; exact hl) (by rw [e1, e2]; exact hq) (fun b hb hne => by
    unfold nK qK
    by_cases hbk : b < k
    · rw [if_pos hbk, if_pos (by omega), if_pos hbk, if_pos (by omega)]; exact ⟨rfl, fun _ _ => rfl⟩
    · rw [if_neg hbk, if_neg (by omega), if_neg hbk, if_neg (by omega)]; exact ⟨rfl, fun _ _ => rfl⟩)
  have hgB : B ≤ g := (h.row.lt g rfl).1
  have h2 := below_step hb0 hb hB
  exact ⟨m1, h2.grown m2 (Nat.le_trans hB hb.size) (fun b e => by cases e; exact hgB)⟩

set_option maxRecDepth 100000 in
set_option maxHeartbeats 8000000 in
theorem expandFilter_impl (x h : List C) (v1 v2 : Value) (m : Nat) (h1 : 1 ≤ m) (h2 : m ≤ 64) (hx0 : 0 < x.length) (hh0 : 0 < h.length) (hx : x.length ≤ 256) (hh : h.length ≤ 256) (hT : x.length * m + h.length - 1 ≤ 256) (hwx : WfC x) (hwh : WfC h) (w : World) (hrx : RdO w.heap.size w v1 x) (hrh : Reads w v2 (cvals h)) :
    Calls Try.prog 27 #[v1, v2, .int .i64 m] w (SigTo2 (x.length * m + h.length - 1) (fun i => zF x h m (i % m) (i / m)) w) := by
  obtain ⟨B, hB⟩ : ∃ B, w.heap.size = B := ⟨_, rfl⟩
  have HPARTS := Lib.hid (partsOf_any hrh hwh m h1 h2 hh)
  have K := Lib.hid (fun w => isStep_t m h1 h2 w)
  have HFIT : Hid (∀ b, b < m → cvLen x.length (cntP h.length b m) ≤ cntP (x.length * m + h.length - 1) 0 m) := Lib.hid fun b hb => cv_fits hx0 (by omega) hb hh0
  have HZF : Hid (∀ b J ps, IsCs ps (cvPart (zsOf x) (pz h m b) 0 (cvLen x.length (cntP h.length b m))) → cvLen x.length (cntP h.length b m) ≤ J →
      ps.length ≤ J ∧ (ps ++ List.replicate (J - ps.length) (0, 0)).length = J ∧ ∀ i, i < J → IsC ((ps ++ List.replicate (J - ps.length) (0, 0)).getD i (0, 0)) (zF x h m b i)) := Lib.hid fun b J ps h1 h2 => zF_of h1 h2
  have HCB : Hid (∀ b, b < m → cntP h.length b m ≤ 256) := Lib.hid fun b hb => Nat.le_trans (cntP_le h.length b m (by omega)) hh
  have HNUM : Hid (∀ (y : List C) (v : Value) (b : Nat) (W : World), b < m → y.length = cntP h.length b m → (∀ i, i < cntP h.length b m → IsC (y.getD i (0, 0)) (polQ h m b i)) → Below w.heap.size w W → RdO W.heap.size W v y →
      Calls Try.prog 46 #[.agg #[v1, v], .int .i64 0, .int .i64 (cvLen x.length (cntP h.length b m))] W fun e w' => ∃ v ps, e = .returned v ∧ Row w' W.heap.size 30 v (cvals ps) ∧ IsCs ps (cvPart (zsOf x) (pz h m b) 0 (cvLen x.length (cntP h.length b m))) ∧ Below W.heap.size W w') := Lib.hid fun y v b W hb hl hq hW hr => by
    have hc := Nat.le_trans (cntP_le h.length b m (by omega)) hh
    have hcl := cvLen_le x.length (cntP h.length b m)
    have e : pz h m b = zsOf y := (zsOf_eq hl hq).symm
    rw [e]
    exact numbers_any x y 0 _ v1 v (by omega) (by omega) (Nat.zero_le _) (by omega) hwx (isC_lt hl hq) W ((hrx.below hW).base hW.size) hr
  have hTm : x.length * m + h.length - 1 ≤ cntP (x.length * m + h.length - 1) 0 m * m := cntP_ge _ m (by omega)
  have hJle := cntP_le (x.length * m + h.length - 1) 0 m (by omega)
  have hJdef : cntP (x.length * m + h.length - 1) 0 m = (x.length * m + h.length - 1 + m - 1) / m := rfl
  obtain ⟨a1, c1, e1, -, -, -⟩ := hrx.find
  subst e1
  obtain ⟨a2, c2, e2⟩ := cform hrh
  rw [cvals_length] at e2
  subst e2
  have HLen : Hid (∀ a2 n2 c2, n2 ≤ 256 → ∀ w, Calls Try.prog 57 #[.agg #[.slice a1 x.length c1, .slice a2 n2 c2]] w fun e w' => e = .returned (.int .i64 (cvLen x.length n2)) ∧ Below w.heap.size w w') := Lib.hid fun a2 n2 c2 hn w => cvLength_any a1 a2 x.length c1 n2 c2 (by omega) (by omega) w
  clear hrx hrh hwx hwh
  obtain ⟨zf, hzf⟩ : ∃ zf, zF x h m = zf := ⟨_, rfl⟩
  obtain ⟨pq, hpq⟩ : ∃ pq, polQ h m = pq := ⟨_, rfl⟩
  obtain ⟨cnt, hcnt⟩ : ∃ cnt : Nat → Nat, (fun b => cntP h.length b m) = cnt := ⟨_, rfl⟩
  have hcnt' : ∀ b, cntP h.length b m = cnt b := fun b => by rw [← hcnt]
  simp only [hcnt', hpq] at HPARTS HNUM HFIT HZF HCB
  rw [hzf] at HZF ⊢
  obtain ⟨X, hX⟩ : ∃ X, zsOf x = X := ⟨_, rfl⟩
  obtain ⟨pz', hpz⟩ : ∃ p, pz h m = p := ⟨_, rfl⟩
  rw [hX, hpz] at HNUM HZF
  obtain ⟨A, hA⟩ : ∃ A, x.length = A := ⟨_, rfl⟩
  obtain ⟨M, hM⟩ : ∃ M, h.length = M := ⟨_, rfl⟩
  rw [hA, hM] at HFIT hT hTm hJle hJdef
  rw [hA] at hx0 hx HNUM HZF HLen ⊢
  rw [hM] at hh0 hh HPARTS ⊢
  obtain ⟨P, hP⟩ : ∃ P, A * m = P := ⟨_, rfl⟩
  have eP : (A : Int) * (m : Int) = (P : Int) := by rw [← hP]; simp
  rw [hP] at HFIT hT hTm hJle hJdef ⊢
  obtain ⟨T, hTT⟩ : ∃ T, P + M - 1 = T := ⟨_, rfl⟩
  rw [hTT] at HFIT hT hTm hJle hJdef ⊢
  obtain ⟨J, hJ⟩ : ∃ J, cntP T 0 m = J := ⟨_, rfl⟩
  rw [hJ] at HFIT hTm hJle hJdef
  have hT1 : 1 ≤ T := by
    have : A * 1 ≤ A * m := Nat.mul_le_mul_left _ h1
    omega
  have eT : (P : Int) + (M : Int) - 1 = (T : Int) := by omega
  have eT1 : (P : Int) + (M : Int) = ((T + 1 : Nat) : Int) := by omega
  obtain ⟨S, hS⟩ : ∃ S, T + m = S := ⟨_, rfl⟩
  obtain ⟨S1, hS1⟩ : ∃ S1, T + m - 1 = S1 := ⟨_, rfl⟩
  have eS : (T : Int) + (m : Int) = (S : Int) := by omega
  have eS1 : (S : Int) - 1 = (S1 : Int) := by omega
  rw [hS1] at hJdef
  have eJ1 : (S1 : Int).tdiv (m : Int) = (J : Int) := by rw [hJdef]; rfl
  have eJ2 : (S1 : Int) / (m : Int) = (J : Int) := by rw [hJdef]; rfl
  have hJb : J ≤ 256 := by omega
  have g1 : decide ((256 : Int) < (A : Int)) = false := by simp <;> omega
  have g2 : decide ((256 : Int) < (M : Int)) = false := by simp <;> omega
  have g3 : decide ((256 : Int) < (T : Int)) = false := by simp <;> omega
  have g4 : ((A : Int) == 0) = false := by simp <;> omega
  have g5 : ((M : Int) == 0) = false := by simp <;> omega
  have hmJ : T ≤ m * J := by rw [Nat.mul_comm]; exact hTm
  have hmJ2 : m * J ≤ 64 * 256 := Nat.mul_le_mul h2 hJb
  rw [hB] at HPARTS HNUM
  have HBB := Lib.hid hB
  have ES := Lib.hid eS
  have ES1 := Lib.hid eS1
  have EJ1 := Lib.hid eJ1
  have EJ2 := Lib.hid eJ2
  clear hzf hpq hcnt hcnt' hX hpz hA hM hP hTT hJ hS hS1 hJdef hTm hJle hB eS eS1 eJ1 eJ2
  go_enter Try.func27, Try.ntmps27
  go_wp2_with fail
  refine (K.out _).mono ?_
  rintro e w' ⟨rfl, rfl⟩
  go_wp2_with fail
  refine HPARTS.out.mono ?_
  rintro e w2 ⟨V, vs, bs, rfl, hmd, hvs, hb2⟩
  obtain ⟨g, cap, rfl⟩ : ∃ g cap, V = .slice (some ⟨g, 0, none⟩) m cap := by
    rcases hmd.row.shape with ⟨a, cap, rfl, e⟩ | ⟨g, cap, rfl, h0, -⟩
    · rw [e] at hvs; simp at hvs; omega
    · exact ⟨g, cap, by rw [hvs]⟩
  have HMD0 : Hid (MadeR w2 B (nK J cnt 0) (.slice (some ⟨g, 0, none⟩) m cap) vs bs (qK zf pq 0)) := Lib.hid hmd
  have HVS := Lib.hid hvs
  have HB2 := Lib.hid hb2
  clear hmd hvs hb2 HPARTS
  go_wp2
  go_loopw [50] (fun i wr => ∃ (k : Nat) (vs : List Value) (bs : Nat → List Go.Proofs.Ytocjhanehphibaa.C), i = .int .i64 k ∧ k ≤ m ∧ vs.length = m ∧ MadeR wr B (nK J cnt k) (.slice (some ⟨g, 0, none⟩) m cap) vs bs (qK zf pq k) ∧ Below B w' wr) (fun i _ => m - (intOf i).toNat)
  case atStart => exact ⟨0, vs, bs, rfl, Nat.zero_le _, HVS.out, HMD0.out, HB2.out⟩
  case round =>
    clear HMD0 HB2
    obtain ⟨k, vs, bs, rfl, hk, hvs, hmd, hB⟩ := hrel
    have HVS := Lib.hid hvs
    have HMD := Lib.hid hmd
    have HB := Lib.hid hB
    clear hvs hmd hB
    by_cases hlt : k < m
    · have hkv : k < vs.length := by rw [HVS.out]; exact hlt
      obtain ⟨k1, k2, k3⟩ := HMD.out.each k hkv
      have n1 : nK J cnt k k = cnt k := if_neg (by omega)
      have q1 : qK zf pq k k = pq k := if_neg (by omega)
      rw [n1] at k2
      rw [n1, q1] at k3
      obtain ⟨pa, pc, hpv⟩ := cform k1.reads
      rw [cvals_length, k2] at hpv
      rw [hpv] at k1
      have hzB : B ≤ wr.heap.size := by have := HB.out.size; have := HBB.out; omega
      have o1 := HMD.out.row.cellAt hlt
      have f1 := HMD.out.row.frozenAt k
      have hgl := HMD.out.row.lt g rfl
      have ov : (vs.getD k undef) = .slice pa (cnt k) pc := hpv
      rw [ov] at o1
      have hcb := HCB.out k hlt
      have HNUM2 : Hid (∀ W, Below wr.heap.size wr W → Calls Try.prog 46 #[.agg #[.slice a1 A c1, .slice pa (cnt k) pc], .int .i64 0, .int .i64 (cvLen A (cnt k))] W fun e w' => ∃ v ps, e = .returned v ∧ Row w' W.heap.size 30 v (cvals ps) ∧ IsCs ps (cvPart X (pz' k) 0 (cvLen A (cnt k))) ∧ Below W.heap.size W w') := Lib.hid fun W hW =>
        HNUM.out (bs k) _ k W hlt k2 k3 (below_step HB.out hW hzB) (RdO.of_row (k1.below hW (fun j e => (k1.lt j e).2)) (fun j e => Nat.lt_of_lt_of_le (k1.lt j e).2 hW.size))
      have HLen2 := Lib.hid (fun w => HLen.out pa (cnt k) pc hcb w)
      have HFIN : Hid (∀ w5 u ps, Below wr.heap.size wr w5 → Row w5 wr.heap.size 30 u (cvals (ps ++ List.replicate (J - ps.length) (0, 0))) → IsCs ps (cvPart X (pz' k) 0 (cvLen A (cnt k))) →
          ∃ vs' bs', vs'.length = m ∧ MadeR (w5.setCell ⟨g, k, none⟩ u) B (nK J cnt (k + 1)) (.slice (some ⟨g, 0, none⟩) m cap) vs' bs' (qK zf pq (k + 1)) ∧ Below B w' (w5.setCell ⟨g, k, none⟩ u)) := Lib.hid fun w5 u ps hb hu hps => by
        obtain ⟨z1, z2, z3⟩ := HZF.out k J ps hps (HFIT.out k hlt)
        obtain ⟨m1, m2⟩ := HMD.out.more hkv hzB HB.out hb (hu.base hzB) z2 z3
        exact ⟨_, _, by rw [List.length_set]; exact HVS.out, m1, m2⟩
      have HWZ : Hid (∀ ps v W, IsCs ps (cvPart X (pz' k) 0 (cvLen A (cnt k))) → Row W wr.heap.size 30 v (cvals ps) → Calls Try.prog 59 #[v, .int .i64 J] W fun e w' => ∃ u, e = .returned u ∧ Row w' W.heap.size 30 u (cvals (ps ++ List.replicate (J - ps.length) (0, 0))) ∧ Below W.heap.size W w') := Lib.hid fun ps v W hps hr =>
        withZeros_any ps J (HZF.out k J ps hps (HFIT.out k hlt)).1 (by omega) v W (RdC.of_row hr)
      obtain ⟨C, hC⟩ : ∃ C, cvLen A (cnt k) = C := ⟨_, rfl⟩
      rw [hC] at HNUM2 HLen2 HFIN HWZ
      obtain ⟨n, hn⟩ : ∃ n, cnt k = n := ⟨_, rfl⟩
      rw [hn] at HNUM2 HLen2 o1 hcb
      obtain ⟨pzk, hpzk⟩ : ∃ z, cvPart X (pz' k) 0 C = z := ⟨_, rfl⟩
      rw [hpzk] at HNUM2 HFIN HWZ
      obtain ⟨N, hN⟩ : ∃ N, wr.heap.size = N := ⟨_, rfl⟩
      obtain ⟨W0, hW0⟩ : ∃ W0, wr.alloc (.cells #[.slice a1 A c1, .slice pa n pc] 65) = W0 := ⟨_, rfl⟩
      have hs0 : W0.heap.size = N + 1 := by rw [← hW0, ← hN]; simp
      have hb0 : Below N wr W0 := by rw [← hW0, ← hN]; exact (Below.refl _ _).alloc (Nat.le_refl _) _
      have HC0 : Hid (∀ V, Below (N + 1) W0 V → V.cell? ⟨N, 0, none⟩ = some (.slice a1 A c1) ∧ V.cell? ⟨N, 1, none⟩ = some (.slice pa n pc) ∧ V.cell? ⟨g, k, none⟩ = some (.slice pa n pc) ∧ V.frozen? ⟨g, k, none⟩ = false) := Lib.hid fun V hV => by
        have hn : W0.heap[N]? = some (.cells #[.slice a1 A c1, .slice pa n pc] 65 (0, 0)) := by rw [← hW0, ← hN]; exact World.alloc_heap_new wr _
        have hgN : g < N := by rw [← hN]; exact hgl.2
        exact ⟨by rw [hV.cell (by simp)]; exact cell_of_heap hn rfl, by rw [hV.cell (by simp)]; exact cell_of_heap hn rfl, by rw [hV.cell (by show g < _; omega), hb0.cell (by show g < _; omega)]; exact o1, by rw [frozen_below hV (by omega), frozen_below hb0 hgN]; exact f1⟩
      rw [hN] at HNUM2 HFIN HWZ hzB
      have d := HC0.out W0.drew (below_draws (Below.refl _ _) 1)
      have d0 := d.1
      have d1 := d.2.1
      have d2 := d.2.2.1
      have d3 := d.2.2.2
      have HW0 := Lib.hid hW0
      have HS0 := Lib.hid hs0
      have HB0 := Lib.hid hb0
      have HNN := Lib.hid hN
      have hNg : ¬ N = g := by rw [← hN]; have := hgl.2; omega
      clear k1 k2 k3 n1 q1 hpv ov hC hn hpzk hN hW0 hs0 hb0 d hgl HMD HCB HLen HFIT HZF HNUM HVS
      have eS := ES.out
      have eS1 := ES1.out
      have eJ1 := EJ1.out
      have eJ2 := EJ2.out
      go_wp2_with fail
      rw [HW0.out]
      try rw [HNN.out]
      have wS : IntKind.i64.wrap (S : Int) = (S : Int) := IntWalk.i64_in _ (by omega)
      have wS1 : IntKind.i64.wrap (S1 : Int) = (S1 : Int) := IntWalk.i64_in _ (by omega)
      have y1 : IntKind.i64.wrap ((T : Int) + (m : Int)) = (S : Int) := by rw [eS]; exact wS
      have y2 : IntKind.i64.wrap ((S : Int) - 1) = (S1 : Int) := by rw [eS1]; exact wS1
      have wJ : IntKind.i64.wrap (J : Int) = (J : Int) := IntWalk.i64_in _ (by omega)
      have g6 : ¬ (m : Int) = 0 := by omega
      have g7 : ¬ m = 0 := by omega
      clear d2 d3
      go_region_held3 (fun w' => w'.cell? ⟨N, 0, none⟩ = some (.slice a1 A c1) ∧ w'.cell? ⟨N, 1, none⟩ = some (.slice pa n pc))
        (first
          | exact ⟨d0, d1⟩
          | exact ⟨by rw [World.cell?_setCell_far _ _ _ _ (fun e => hNg e.symm)]; exact (HC0.out _ HB5.out).1, by rw [World.cell?_setCell_far _ _ _ _ (fun e => hNg e.symm)]; exact (HC0.out _ HB5.out).2.1⟩
          | exact ⟨(HC0.out _ HB5.out).1, (HC0.out _ HB5.out).2.1⟩
          | exact ⟨(HC0.out _ HB4.out).1, (HC0.out _ HB4.out).2.1⟩
          | exact ⟨(HC0.out _ HB3.out).1, (HC0.out _ HB3.out).2.1⟩
          | go_keep)
        (first
          | (go_at_call 57; refine (HLen2.out _).mono ?_; rintro e w3 ⟨rfl, hb⟩; have HB3 : Hid (Below (N + 1) W0 w3) := (below_draws (Below.refl _ _) 1).trans (hb.mono (by rw [← HS0.out]; exact Nat.le_refl _)); have hs3 : N + 1 ≤ w3.heap.size := (by rw [← HS0.out]; exact HB3.out.size); clear hb)
          | (go_at_call 46; refine (HNUM2.out _ (HB0.out.trans (HB3.out.mono (by omega)))).mono ?_; rintro e w4 ⟨v, ps, rfl, hr, hf, hb⟩; obtain ⟨va, vc, rfl⟩ := hr.written rfl; have HR4 := Lib.hid (hr.base (show N ≤ w3.heap.size by omega)); have HF4 := Lib.hid hf; have HB4 : Hid (Below (N + 1) W0 w4) := HB3.out.trans (hb.mono hs3); have hs4 : N + 1 ≤ w4.heap.size := Nat.le_trans hs3 hb.size; clear hr hf hb)
          | (go_at_call 59; refine (HWZ.out _ _ _ HF4.out HR4.out).mono ?_; rintro e w5 ⟨u, rfl, hr, hb⟩; obtain ⟨ua, uc, rfl⟩ := hr.written rfl; have HB5 : Hid (Below (N + 1) W0 w5) := HB4.out.trans (hb.mono hs4); have HR5 := Lib.hid (hr.base (show N ≤ w4.heap.size by omega)); have o5 := (HC0.out _ HB5.out).2.2.1; have f5 := (HC0.out _ HB5.out).2.2.2; clear hr hb))
      all_goals
        obtain ⟨vs', bs', r1, r2, r3⟩ := HFIN.out _ _ _ (HB0.out.trans (HB5.out.mono (by omega))) HR5.out HF4.out
        have R1 := Lib.hid r1
        have R2 := Lib.hid r2
        have R3 := Lib.hid r3
        clear r1 r2 r3
        go_wp2
        go_roundw
        case rel => exact ⟨k + 1, vs', bs', by go_num, by omega, R1.out, R2.out, R3.out⟩
        case measure => simp [intOf]; omega
    · have e : k = m := by omega
      subst e
      have hn : ∀ b, b < vs.length → nK J cnt k b = J := fun b hb => if_pos (by rw [HVS.out] at hb; exact hb)
      have hls : lenS (nK J cnt k) vs.length = k * J := by rw [lenS_const hn, HVS.out]
      have hI := interleaved_any HMD.out.lblkR (k * J) (by rw [HVS.out]; omega) (by rw [HVS.out]; omega) hls (by omega) (fun i hi => by
        rw [hn _ (Nat.mod_lt i (by rw [HVS.out]; omega)), HVS.out]
        exact Nat.div_lt_of_lt_mul hi)
      rw [HVS.out] at hI
      have HI := Lib.hid hI
      have HJ := Lib.hid hmJ
      obtain ⟨Q, hQ⟩ : ∃ Q, k * J = Q := ⟨_, rfl⟩
      rw [hQ] at HI hmJ hmJ2
      clear hn hls hI hQ HJ
      go_wp2_with fail
      refine HI.out.mono ?_
      rintro e w3 ⟨v, ys, rfl, hr, hyl, hyq, hb3⟩
      have hcl : (cvals ys).length = Q := by rw [cvals_length]; exact hyl
      obtain ⟨va, vc, rfl⟩ := hr.written hcl
      have hzB : B ≤ wr.heap.size := by have := HB.out.size; have := HBB.out; omega
      have hcap : Q ≤ vc := by
        rcases hr.shape with ⟨a, cap, e1, e2⟩ | ⟨g, cap, e1, h0, _, _, hle, _⟩
        · rw [e2] at hcl; simp at hcl; omega
        · simp only [Value.slice.injEq] at e1; omega
      have hvm : vc ≤ maxLen := by
        rcases hr.shape with ⟨a, cap, e1, e2⟩ | ⟨g, cap, e1, h0, _, _, hle, hm⟩
        · rw [e2] at hcl; simp at hcl; omega
        · simp only [Value.slice.injEq] at e1; rw [e1.2.2]; exact hm
      have hmx := maxLen_int hvm
      obtain ⟨gg, hgg⟩ : ∃ gg, va = some ⟨gg, 0, none⟩ := by
        rcases hr.shape with ⟨a, cap, e1, e2⟩ | ⟨g, cap, e1, h0, _, _, hle, hm⟩
        · rw [e2] at hcl; simp at hcl; omega
        · simp only [Value.slice.injEq] at e1; exact ⟨_, e1.1⟩
      subst hgg
      have htk := hr.takeP (k := T) hmJ (by omega)
      rw [show (cvals ys).take T = cvals (ys.take T) by simp [cvals, List.map_take]] at htk
      have HT := Lib.hid (htk.base hzB)
      have HB3 := Lib.hid (below_step HB.out hb3 hzB)
      have HY : Hid ((ys.take T).length = T ∧ ∀ i, i < T → IsC ((ys.take T).getD i (0, 0)) (zf (i % k) (i / k))) := Lib.hid ⟨by rw [List.length_take, hyl]; exact Nat.min_eq_left hmJ, fun i hi => by
        have h : IsC (ys.getD i (0, 0)) (qK zf pq k (i % k) (i / k)) := hyq i (by omega)
        have e : (ys.take T).getD i (0, 0) = ys.getD i (0, 0) := by simp [List.getD, List.getElem?_take, hi]
        rw [e]
        have e2 : qK zf pq k (i % k) = zf (i % k) := if_pos (Nat.mod_lt i (by omega))
        rw [e2] at h
        exact h⟩
      clear hr hyl hyq hb3 hcl htk HI
      go_wp2
      go_ret2
      exact ⟨_, ys.take T, rfl, by rw [HBB.out]; exact HT.out, HY.out.1, HY.out.2, by rw [HBB.out]; exact HB3.out⟩

end Go.Proofs.Ytocjhanehphibaa
/-
  Sizes of differences, products and quotients of numbers from 0 to 1. No program.
-/
set_option linter.unusedVariables false
set_option linter.unusedSimpArgs false
namespace Go.Proofs.Ytocjhanehphibaa.Flt
section
open Ieee
variable {f : Format} {LP one : Nat}

theorem val_mono {r s : Nat} (h : r ≤ s) : val f r ≤ val f s := by
  rcases Nat.lt_or_eq_of_le h with h | h
  · exact Nat.le_of_lt (val_lt f h)
  · rw [h]; exact Nat.le_refl _

theorem read_pos {x : Nat} (h : x < f.infRung) : ∃ m p, f.read x = .number false m p ∧ f.leastPlace ≤ p ∧ m * 2 ^ (p - f.leastPlace).toNat = val f x := by
  obtain ⟨m, p, h1, h2, h3⟩ := read_word (f := f) false h
  exact ⟨m, p, h1, h2, h3⟩

theorem word_false (f : Format) (r : Nat) : f.word false r = r := rfl

/-- A product of numbers that are not negative. -/
theorem mul_le {x y R : Nat} (hLP : f.leastPlace = -(LP : Int)) (hx : x < f.infRung) (hy : y < f.infRung) (hv : val f x * val f y ≤ val f R * 2 ^ LP) :
    ∃ r, f.mul x y = some r ∧ r ≤ R := by
  obtain ⟨m, i, e1, i1, v1⟩ := read_pos hx
  obtain ⟨n, j, e2, j1, v2⟩ := read_pos hy
  rw [hLP] at i1 j1 v1 v2
  refine ⟨rungOf f (m * n) (i + j), ?_, ?_⟩
  · unfold Format.mul
    rw [e1, e2]
    simp only [Datum.product, Option.map_some, Format.write, Bool.xor_false, nearest_rung, word_false]
  · refine rung_le (base := -(LP : Int) - LP) (by omega) (by rw [hLP]; omega) ?_
    rw [hLP, show (-(LP : Int) - (-(LP : Int) - LP)).toNat = LP by omega]
    refine Nat.le_trans (Nat.le_of_eq ?_) hv
    unfold at_
    rw [← v1, ← v2, Nat.mul_mul_mul_comm, ← Nat.pow_add]
    congr 2
    omega

theorem mul_le_one {x y : Nat} (hLP : f.leastPlace = -(LP : Int)) (h1 : val f one = 2 ^ LP) (hoi : one < f.infRung) (hx : x < f.infRung) (hy : y ≤ one) : ∃ r, f.mul x y = some r ∧ r ≤ x := by
  refine mul_le hLP hx (Nat.lt_of_le_of_lt hy hoi) ?_
  rw [← h1]
  exact Nat.mul_le_mul_left _ (val_mono hy)

/-- A difference of numbers that are not negative, the first one being no less. -/
theorem sub_le {x y : Nat} (hx : x < f.infRung) (hy : y ≤ x) : ∃ r, f.sub x y = some r ∧ r ≤ x := by
  obtain ⟨m, i, e1, i1, v1⟩ := read_pos hx
  obtain ⟨n, j, e2, j1, v2⟩ := read_pos (f := f) (Nat.lt_of_le_of_lt hy hx)
  have hvv : val f y ≤ val f x := val_mono hy
  generalize hl : f.leastPlace = l at *
  unfold Format.sub
  rw [e1, e2]
  simp only [Datum.opposite, Datum.sum, Bool.not_false]
  obtain ⟨b, hb⟩ : ∃ b, min i j = b := ⟨_, rfl⟩
  rw [hb]
  have hbl : l ≤ b := by omega
  have t1 : signed false m (i - b).toNat = ((m * 2 ^ (i - b).toNat : Nat) : Int) := by rw [signed_eq]; rfl
  have t2 : signed true n (j - b).toNat = -((n * 2 ^ (j - b).toNat : Nat) : Int) := by rw [signed_eq]; rfl
  rw [t1, t2]
  have s1 : m * 2 ^ (i - b).toNat * 2 ^ (b - l).toNat = val f x := by rw [← v1, Nat.mul_assoc, ← Nat.pow_add]; congr 2; omega
  have s2 : n * 2 ^ (j - b).toNat * 2 ^ (b - l).toNat = val f y := by rw [← v2, Nat.mul_assoc, ← Nat.pow_add]; congr 2; omega
  generalize m * 2 ^ (i - b).toNat = M at *
  generalize n * 2 ^ (j - b).toNat = N at *
  have hp : 0 < 2 ^ (b - l).toNat := Nat.two_pow_pos _
  have hNM : N ≤ M := by
    rw [← s1, ← s2] at hvv
    exact Nat.le_of_mul_le_mul_right hvv hp
  have hneg : (if (M : Int) + -(N : Int) = 0 then (false && true) else decide ((M : Int) + -(N : Int) < 0)) = false := by
    split
    · rfl
    · simp; omega
  rw [hneg, show ((M : Int) + -(N : Int)).natAbs = M - N by omega]
  refine ⟨rungOf f (M - N) b, ?_, ?_⟩
  · simp only [Option.map_some, Format.write, nearest_rung, word_false]
  · refine rung_le (base := l) hbl (by omega) ?_
    rw [hl, Int.sub_self, Int.toNat_zero, Nat.pow_zero, Nat.mul_one]
    unfold at_
    rw [← s1]
    exact Nat.mul_le_mul_right _ (Nat.sub_le _ _)

/-- What a quotient is cut to lies on the same side of each whole number. -/
theorem quot_le {D n K : Nat} (hn : 0 < n) (h : D ≤ n * K) : 2 * (D / n) + (D % n != 0).toNat ≤ 2 * K := by
  have e := Nat.div_add_mod D n
  by_cases h0 : D % n = 0
  · rw [h0]
    have : D / n ≤ K := by
      rw [h0, Nat.add_zero] at e
      rw [← e] at h
      exact Nat.le_of_mul_le_mul_left h hn
    simp; omega
  · have : D / n < K := by
      apply Nat.lt_of_not_le
      intro hc
      have := Nat.mul_le_mul_left n hc
      omega
    have hb : (D % n != 0) = true := by simp [h0]
    rw [hb]
    simp only [Bool.toNat_true]
    omega

theorem log_lt {m : Nat} (h : m < 2 * f.binade) : m.log2 ≤ f.fractionBits := by
  by_cases h0 : m = 0
  · subst h0; simp
  · have : m.log2 < f.fractionBits + 1 := (Nat.log2_lt h0).2 (by rw [Nat.pow_succ, Nat.mul_comm]; exact h)
    omega

/-- A number that a word stands for has no more digits than the format. -/
theorem read_small {x m : Nat} {p : Int} (h : f.read x = .number false m p) : m < 2 * f.binade := by
  unfold Format.read at h
  have hb := binade_pos f
  simp only [] at h
  split at h
  · rename_i hlt
    simp only [Datum.number.injEq] at h
    omega
  · split at h
    · simp only [Datum.number.injEq] at h
      have hm := Nat.mod_lt (x % f.signWeight) hb
      omega
    · split at h <;> cases h

theorem quot_zero (mo n : Nat) : 2 * (((0 : Nat) <<< mo) / n) + (((0 : Nat) <<< mo) % n != 0).toNat = 0 := by
  rw [Nat.zero_shiftLeft, Nat.zero_div, Nat.zero_mod]; rfl

/-- A quotient of numbers that are not negative: no greater than 1 if the first one is no greater than the second one; and no greater than the first one if the second one is no less than 1. -/
theorem div_le {x y R : Nat} (hLP : f.leastPlace = -(LP : Int)) (h1 : val f one = 2 ^ LP) (hx : x < f.infRung) (hy : y < f.infRung) (hy0 : 0 < y)
    (hR : (R = one ∧ x ≤ y) ∨ (R = x ∧ one ≤ y)) : ∃ r, f.div x y = some r ∧ r ≤ R := by
  obtain ⟨m, i, e1, i1, v1⟩ := read_pos hx
  obtain ⟨n, j, e2, j1, v2⟩ := read_pos hy
  have hml := log_lt (read_small e1)
  have hnl := log_lt (read_small e2)
  rw [hLP] at i1 j1 v1 v2
  have hvy : 0 < val f y := by have := val_lt f hy0; rw [val_zero] at this; exact this
  have hn : n ≠ 0 := by
    intro h; subst h; rw [Nat.zero_mul] at v2; omega
  unfold Format.div
  rw [e1, e2]
  simp only [Datum.quotient, if_neg hn]
  obtain ⟨mo, hmo⟩ : ∃ mo, f.fractionBits + 2 + n.log2 - m.log2 = mo := ⟨_, rfl⟩
  rw [hmo]
  refine ⟨rungOf f (2 * ((m <<< mo) / n) + ((m <<< mo) % n != 0).toNat) (i - j - mo - 1), ?_, ?_⟩
  · simp only [Option.map_some, Format.write, Bool.xor_false, nearest_rung, word_false]
  by_cases hm0 : m = 0
  · subst hm0
    rw [quot_zero]
    unfold rungOf
    rw [if_pos rfl]
    exact Nat.zero_le _
  · obtain ⟨B, hBi, hBl⟩ : ∃ B : Nat, -(B : Int) ≤ i - j - mo - 1 ∧ LP ≤ B := ⟨(j - i + mo + 1).toNat + LP, by omega, by omega⟩
    have key : ∃ K : Nat, m <<< mo ≤ n * K ∧ K * 2 ^ (i - j - mo + B).toNat = val f R * 2 ^ (B - LP) := by
      have hx1 : m * 2 ^ (i + LP).toNat = val f x := by rw [← v1]; congr 2; omega
      have hy1 : n * 2 ^ (j + LP).toNat = val f y := by rw [← v2]; congr 2; omega
      have hhi := Nat.lt_log2_self (n := n)
      rcases hR with ⟨rfl, hxy⟩ | ⟨rfl, hy1'⟩
      · have hle := val_mono (f := f) hxy
        rw [← hx1, ← hy1] at hle
        have hlo := Nat.log2_self_le hm0
        have hex : i + m.log2 ≤ j + n.log2 := by
          have h1 : 2 ^ m.log2 * 2 ^ (i + LP).toNat < 2 ^ (n.log2 + 1) * 2 ^ (j + LP).toNat :=
            Nat.lt_of_le_of_lt (Nat.le_trans (Nat.mul_le_mul_right _ hlo) hle) (Nat.mul_lt_mul_of_pos_right hhi (Nat.two_pow_pos _))
          rw [← Nat.pow_add, ← Nat.pow_add] at h1
          have := (Nat.pow_lt_pow_iff_right (by omega)).1 h1
          omega
        refine ⟨2 ^ (mo + j - i).toNat, ?_, ?_⟩
        · rw [Nat.shiftLeft_eq]
          apply Nat.le_of_mul_le_mul_right (c := 2 ^ (i + LP).toNat) _ (Nat.two_pow_pos _)
          calc m * 2 ^ mo * 2 ^ (i + LP).toNat = m * 2 ^ (i + LP).toNat * 2 ^ mo := by rw [Nat.mul_right_comm]
            _ ≤ n * 2 ^ (j + LP).toNat * 2 ^ mo := Nat.mul_le_mul_right _ hle
            _ = n * 2 ^ (mo + j - i).toNat * 2 ^ (i + LP).toNat := by
              rw [Nat.mul_assoc, Nat.mul_assoc, ← Nat.pow_add, ← Nat.pow_add]; congr 2; omega
        · rw [h1, ← Nat.pow_add, ← Nat.pow_add]; congr 1; omega
      · have hle := val_mono (f := f) hy1'
        rw [h1, ← hy1] at hle
        have hex : 0 ≤ j + n.log2 := by
          have h1 : 2 ^ LP < 2 ^ (n.log2 + 1) * 2 ^ (j + LP).toNat := Nat.lt_of_le_of_lt hle (Nat.mul_lt_mul_of_pos_right hhi (Nat.two_pow_pos _))
          rw [← Nat.pow_add] at h1
          have := (Nat.pow_lt_pow_iff_right (by omega)).1 h1
          omega
        refine ⟨m * 2 ^ (mo + j).toNat, ?_, ?_⟩
        · rw [Nat.shiftLeft_eq]
          apply Nat.le_of_mul_le_mul_right (c := 2 ^ LP) _ (Nat.two_pow_pos _)
          calc m * 2 ^ mo * 2 ^ LP ≤ m * 2 ^ mo * (n * 2 ^ (j + LP).toNat) := Nat.mul_le_mul_left _ hle
            _ = n * (m * (2 ^ mo * 2 ^ (j + LP).toNat)) := by
              rw [Nat.mul_left_comm, Nat.mul_assoc]
            _ = n * (m * 2 ^ (mo + j).toNat) * 2 ^ LP := by
              rw [Nat.mul_assoc n, Nat.mul_assoc m, ← Nat.pow_add, ← Nat.pow_add]; congr 3; omega
        · rw [← hx1, Nat.mul_assoc, Nat.mul_assoc, ← Nat.pow_add, ← Nat.pow_add]; congr 2; omega
    obtain ⟨K, hK1, hK2⟩ := key
    refine rung_le (base := -(B : Int)) hBi (by rw [hLP]; omega) ?_
    rw [hLP, show (-(LP : Int) - -(B : Int)).toNat = B - LP by omega, ← hK2]
    unfold at_
    have h2 := quot_le (Nat.pos_of_ne_zero hn) hK1
    calc (2 * ((m <<< mo) / n) + ((m <<< mo) % n != 0).toNat) * 2 ^ (i - j - mo - 1 - -(B : Int)).toNat ≤ 2 * K * 2 ^ (i - j - mo - 1 - -(B : Int)).toNat := Nat.mul_le_mul_right _ h2
      _ = K * (2 ^ (i - j - mo - 1 - -(B : Int)).toNat * 2) := by rw [Nat.mul_comm 2 K, Nat.mul_assoc, Nat.mul_comm 2]
      _ = K * 2 ^ (i - j - mo + B).toNat := by rw [← Nat.pow_succ]; congr 2; omega

theorem mul_pow_self (a : Nat) (l : Int) : a * 2 ^ (l - l).toNat = a := by
  rw [Int.sub_self, Int.toNat_zero, Nat.pow_zero, Nat.mul_one]

theorem at_int (c LP : Nat) : at_ c 0 (-(LP : Int)) = c * 2 ^ LP := by
  unfold at_; congr 2; omega

/-- How an integer is rounded. -/
theorem rung_int_le {c R : Nat} (hLP : f.leastPlace = -(LP : Int)) (h : c * 2 ^ LP ≤ val f R) : rungOf f c 0 ≤ R := by
  refine rung_le (base := -(LP : Int)) (by omega) (by rw [hLP]; exact Int.le_refl _) ?_
  rw [hLP, mul_pow_self, at_int]
  exact h
theorem le_rung_int {c R : Nat} (hLP : f.leastPlace = -(LP : Int)) (hR : R ≤ f.infRung) (h : val f R ≤ c * 2 ^ LP) : R ≤ rungOf f c 0 := by
  refine le_rung (base := -(LP : Int)) (by omega) (by rw [hLP]; exact Int.le_refl _) hR ?_
  rw [hLP, mul_pow_self, at_int]
  exact h
theorem nearest_int {c r : Nat} (hLP : f.leastPlace = -(LP : Int)) (hr : r < f.infRung) (h : val f r = c * 2 ^ LP) : f.nearest false c 0 = f.word false r := by
  refine nearest_exact (f := f) (base := -(LP : Int)) false hr (by omega) (by rw [hLP]; exact Int.le_refl _) ?_
  rw [hLP, mul_pow_self, h]
  exact at_int c LP

theorem int_exact {c top T : Nat} (hLP : f.leastPlace = -(LP : Int)) (h0 : c ≠ 0) (hc : c < 2 * f.binade) (hfb : f.fractionBits ≤ LP) (htop : val f top = T * 2 ^ LP) (hT : c ≤ T) (hinf : top < f.infRung) :
    val f (f.nearest false c 0) = c * 2 ^ LP := by
  have hr := rung_of (f := f) (k := c) (q := LP) h0 hc (by omega)
  generalize ((LP + c.log2 - f.fractionBits) * f.binade + c * 2 ^ (f.fractionBits - c.log2)) = r at hr
  have hlt : r < f.infRung := by
    apply Nat.lt_of_le_of_lt _ hinf
    apply Nat.le_of_not_lt
    intro hcc
    have := val_lt f hcc
    rw [hr, htop] at this
    exact absurd this (Nat.not_lt.2 (Nat.mul_le_mul_right _ hT))
  rw [nearest_int hLP hlt hr, word_false, hr]

end

/-- The rung of 1. -/
abbrev ONE : Nat := 4607182418800017408
theorem one_inf : ONE < Ieee.double.infRung := by rw [ir64]; decide
theorem lp64 : Ieee.double.leastPlace = -((1074 : Nat) : Int) := by decide
theorem val_one : val Ieee.double ONE = 2 ^ 1074 := by decide +kernel
end Go.Proofs.Ytocjhanehphibaa.Flt
/-
  Floats of 64 bits as rational numbers: sums, differences, products and quotients are near, and kept between numbers that there are. No program.
-/
set_option linter.unusedVariables false
set_option linter.unusedSimpArgs false
namespace Go.Proofs.Ytocjhanehphibaa
open Go Flt
namespace Flt
open Ieee (double Format Datum)

/-- The places of a float behind the point. -/
def lpn : Nat := 1074
theorem lpn_eq : double.leastPlace = -(lpn : Int) := by decide
/-- A power of 2. -/
def two (n : Nat) : Rat := ((2 ^ n : Nat) : Rat)
theorem two_pos (n : Nat) : 0 < two n := by
  unfold two
  exact Rat.natCast_pos.2 (Nat.two_pow_pos n)
theorem two_add (a b : Nat) : two (a + b) = two a * two b := by
  unfold two
  rw [Nat.pow_add, Rat.natCast_mul]
theorem two_cut {a b : Nat} (h : a ≤ b) : two b = two a * two (b - a) := by rw [← two_add, Nat.add_sub_cancel' h]
theorem two_split {b : Nat} (hb : lpn ≤ b) : two b = two lpn * two (b - lpn) := by rw [← two_add, Nat.add_sub_cancel' hb]
theorem two_zero : two 0 = 1 := rfl
theorem two_one : two 1 = 2 := rfl
theorem two_le {a b : Nat} (h : a ≤ b) : two a ≤ two b := by
  unfold two
  exact Rat.natCast_le_natCast.2 (Nat.pow_le_pow_right (by omega) h)

/-- What a finite word stands for. -/
def fq (x : Nat) : Rat := (rsv double x : Rat) / two lpn
/-- A finite word. -/
def Fin (x : Nat) : Prop := x < 18446744073709551616 ∧ x % 9223372036854775808 < 9218868437227405312
/-- A number that there is. -/
def Rep (q : Rat) : Prop := ∃ x, Fin x ∧ fq x = q

theorem rsv_word (neg : Bool) {r : Nat} (h : r < double.infRung) : rsv double (double.word neg r) = sval double neg r := by
  have hs : double.signWeight = 9223372036854775808 := by decide
  rw [ir64] at h
  unfold rsv Format.word
  rw [hs]
  cases neg
  · simp only [Bool.false_eq_true, if_false]
    have e1 : r / 9223372036854775808 = 0 := Nat.div_eq_of_lt (by omega)
    have e2 : r % 9223372036854775808 = r := Nat.mod_eq_of_lt (by omega)
    rw [e1, e2]
    rfl
  · simp only [if_true]
    have e1 : (9223372036854775808 + r) / 9223372036854775808 = 1 := by omega
    have e2 : (9223372036854775808 + r) % 9223372036854775808 = r := by omega
    rw [e1, e2]
    rfl

theorem fin_word (neg : Bool) {r : Nat} (h : r < double.infRung) : Fin (double.word neg r) := by
  have hs : double.signWeight = 9223372036854775808 := by decide
  rw [ir64] at h
  unfold Fin Format.word
  rw [hs]
  cases neg
  · simp only [Bool.false_eq_true, if_false]; omega
  · simp only [if_true]; omega

theorem word_self' {x : Nat} (h : x < 18446744073709551616) : double.word (x / 9223372036854775808 % 2 == 1) (x % 9223372036854775808) = x := by
  have hs : double.signWeight = 9223372036854775808 := by decide
  unfold Format.word
  rw [hs]
  by_cases h1 : x < 9223372036854775808
  · rw [Nat.div_eq_of_lt h1, Nat.mod_eq_of_lt h1]; rfl
  · have e1 : x / 9223372036854775808 = 1 := by omega
    have e2 : x % 9223372036854775808 = x - 9223372036854775808 := by omega
    rw [e1, e2]
    show 9223372036854775808 + (x - 9223372036854775808) = x
    omega

/-- The value of a rung. -/
def rq (r : Nat) : Rat := (val double r : Rat) / two lpn
theorem fq_word (neg : Bool) {r : Nat} (h : r < double.infRung) : fq (double.word neg r) = if neg then -rq r else rq r := by
  unfold fq rq
  rw [rsv_word neg h]
  unfold sval
  cases neg
  · simp only [Bool.false_eq_true, if_false, Rat.intCast_natCast]
  · simp only [if_true, Rat.intCast_neg, Rat.intCast_natCast]
    grind

theorem div_le_div {a b c : Rat} (hc : 0 < c) (h : a ≤ b) : a / c ≤ b / c := by
  rw [Rat.div_def, Rat.div_def]
  exact Rat.mul_le_mul_of_nonneg_right h (Rat.le_of_lt (Rat.inv_pos.2 hc))
theorem le_of_div {a b c : Rat} (hc : 0 < c) (h : a / c ≤ b / c) : a ≤ b := by
  have := Rat.mul_le_mul_of_nonneg_right h (Rat.le_of_lt hc)
  rwa [Rat.div_mul_cancel (Rat.ne_of_gt hc), Rat.div_mul_cancel (Rat.ne_of_gt hc)] at this

theorem rq_le {r s : Nat} : rq r ≤ rq s ↔ r ≤ s := by
  unfold rq
  constructor
  · intro h
    have := Rat.natCast_le_natCast.1 (le_of_div (two_pos _) h)
    apply Nat.le_of_not_lt
    intro hc
    have := val_lt double hc
    omega
  · intro h
    exact div_le_div (two_pos _) (Rat.natCast_le_natCast.2 (val_mono h))
theorem rq_zero : rq 0 = 0 := by
  unfold rq; rw [val_zero, Rat.div_def]; simp
theorem rq_nonneg (r : Nat) : 0 ≤ rq r := by rw [← rq_zero]; exact rq_le.2 (Nat.zero_le _)

/-- A word is its sign and its rung. -/
theorem fin_parts {x : Nat} (h : Fin x) : ∃ neg r, r < double.infRung ∧ x = double.word neg r := by
  refine ⟨_, x % 9223372036854775808, ?_, (word_self' h.1).symm⟩
  rw [ir64]; exact h.2

theorem rep_neg {q : Rat} (h : Rep q) : Rep (-q) := by
  obtain ⟨x, hx, rfl⟩ := h
  obtain ⟨neg, r, hr, rfl⟩ := fin_parts hx
  refine ⟨double.word (!neg) r, fin_word _ hr, ?_⟩
  rw [fq_word _ hr, fq_word _ hr]
  cases neg
  · simp
  · simp only [Bool.not_true, Bool.false_eq_true, if_false, if_true]; grind
theorem rep_rq {r : Nat} (h : r < double.infRung) : Rep (rq r) := ⟨double.word false r, fin_word _ h, by rw [fq_word _ h]; rfl⟩
theorem rep_zero : Rep 0 := by rw [← rq_zero]; exact rep_rq (by rw [ir64]; omega)

/-- A number that there is and that is not negative is that of a rung. -/
theorem rep_rung {q : Rat} (h : Rep q) (h0 : 0 ≤ q) : ∃ r, r < double.infRung ∧ rq r = q := by
  obtain ⟨x, hx, rfl⟩ := h
  obtain ⟨neg, r, hr, rfl⟩ := fin_parts hx
  rw [fq_word _ hr] at h0 ⊢
  cases neg
  · exact ⟨r, hr, rfl⟩
  · simp only [if_true] at h0 ⊢
    have := rq_nonneg r
    have e : rq r = 0 := by grind
    exact ⟨0, by rw [ir64]; omega, by rw [rq_zero, e]; grind⟩

/-- How far a rounded number may be from the number. -/
def slack (t : Rat) : Rat := t / two 52 + 1 / two (lpn + 1)
def slack' (t : Rat) : Rat := t / two 53 + 1 / two (lpn + 1)
/-- r is what t is rounded to: near, and on the same side of each number that there is. -/
structure Rnd (t r : Rat) : Prop where
  rep : Rep r
  up : r - t ≤ slack t ∨ r - t ≤ slack (-t)
  down : t - r ≤ slack t ∨ t - r ≤ slack (-t)
  le : ∀ s, Rep s → t ≤ s → r ≤ s
  ge : ∀ s, Rep s → s ≤ t → s ≤ r

theorem Rnd.neg {t r : Rat} (h : Rnd t r) : Rnd (-t) (-r) := by
  obtain ⟨h0, h1, h2, h3, h4⟩ := h
  refine ⟨rep_neg h0, ?_, ?_, fun s hs hts => ?_, fun s hs hst => ?_⟩
  · rw [Rat.neg_neg]; grind
  · rw [Rat.neg_neg]; grind
  · have := h4 (-s) (rep_neg hs) (by grind)
    grind
  · have := h3 (-s) (rep_neg hs) (by grind)
    grind
theorem Rnd.exact {t r : Rat} (h : Rnd t r) (ht : Rep t) : r = t := Rat.le_antisymm (h.le t ht (Rat.le_refl)) (h.ge t ht (Rat.le_refl))
theorem Rnd.nonneg {t r : Rat} (h : Rnd t r) (ht : 0 ≤ t) : 0 ≤ r := h.ge 0 rep_zero ht

theorem two53 : two 53 = 9007199254740992 := rfl
theorem two52 : two 52 = 4503599627370496 := rfl

theorem rq_at {b : Nat} (hb : lpn ≤ b) (s : Nat) : rq s = ((val double s * 2 ^ (b - lpn) : Nat) : Rat) / two b := by
  have e : two b = two lpn * two (b - lpn) := two_split hb
  unfold rq
  rw [e, Rat.natCast_mul]
  have h1 := two_pos lpn
  have h2 := two_pos (b - lpn)
  show _ = _ * two (b - lpn) / _
  generalize two (b - lpn) = u at *
  generalize two lpn = v at *
  generalize ((val double s : Nat) : Rat) = a
  rw [Rat.div_def, Rat.div_def, Rat.inv_mul_rev]
  have := Rat.mul_inv_cancel u (Rat.ne_of_gt h2)
  grind

theorem cast_le_div {a c b : Nat} : (a : Rat) / two b ≤ (c : Rat) / two b ↔ a ≤ c :=
  ⟨fun h => Rat.natCast_le_natCast.1 (le_of_div (two_pos _) h), fun h => div_le_div (two_pos _) (Rat.natCast_le_natCast.2 h)⟩

/-- A number that is not negative is rounded to a rung. -/
theorem rung_rnd {m : Nat} {p : Int} {b R : Nat} (hb : lpn ≤ b) (hp : -(b : Int) ≤ p) (hR : R < double.infRung) (hB : ((at_ m p (-(b : Int)) : Nat) : Rat) / two b ≤ rq R) :
    rungOf double m p < double.infRung ∧ Rnd (((at_ m p (-(b : Int)) : Nat) : Rat) / two b) (rq (rungOf double m p)) ∧
      rq (rungOf double m p) - ((at_ m p (-(b : Int)) : Nat) : Rat) / two b ≤ slack' (((at_ m p (-(b : Int)) : Nat) : Rat) / two b) ∧
      ((at_ m p (-(b : Int)) : Nat) : Rat) / two b - rq (rungOf double m p) ≤ slack' (((at_ m p (-(b : Int)) : Nat) : Rat) / two b) := by
  have h2 : -(b : Int) ≤ double.leastPlace := by rw [lpn_eq]; omega
  have e : (double.leastPlace - -(b : Int)).toNat = b - lpn := by rw [lpn_eq]; omega
  have hle : ∀ s, ((at_ m p (-(b : Int)) : Nat) : Rat) / two b ≤ rq s → rungOf double m p ≤ s := fun s hs => by
    rw [rq_at hb, cast_le_div] at hs
    exact rung_le hp h2 (by rw [e]; exact hs)
  have hge : ∀ s, s < double.infRung → rq s ≤ ((at_ m p (-(b : Int)) : Nat) : Rat) / two b → s ≤ rungOf double m p := fun s hi hs => by
    rw [rq_at hb, cast_le_div] at hs
    exact le_rung hp h2 (Nat.le_of_lt hi) (by rw [e]; exact hs)
  have hlt : rungOf double m p < double.infRung := Nat.lt_of_le_of_lt (hle R hB) hR
  have ht0 : 0 ≤ ((at_ m p (-(b : Int)) : Nat) : Rat) / two b := by
    have := div_le_div (two_pos b) (Rat.natCast_nonneg (a := at_ m p (-(b : Int))))
    rwa [Rat.div_def, Rat.zero_mul] at this
  have near : rq (rungOf double m p) - ((at_ m p (-(b : Int)) : Nat) : Rat) / two b ≤ slack' (((at_ m p (-(b : Int)) : Nat) : Rat) / two b) ∧
      ((at_ m p (-(b : Int)) : Nat) : Rat) / two b - rq (rungOf double m p) ≤ slack' (((at_ m p (-(b : Int)) : Nat) : Rat) / two b) := by
    by_cases hm : m = 0
    · have e1 : rungOf double m p = 0 := by unfold rungOf; rw [if_pos hm]
      have e2 : at_ m p (-(b : Int)) = 0 := by unfold at_; rw [hm, Nat.zero_mul]
      have e3 : ((0 : Nat) : Rat) / two b = 0 := by rw [Rat.div_def]; exact Rat.zero_mul _
      have e4 : (0 : Rat) ≤ 1 / two (lpn + 1) := by
        have := div_le_div (two_pos (lpn + 1)) (show (0 : Rat) ≤ 1 by decide)
        rwa [Rat.div_def, Rat.zero_mul] at this
      rw [e1, e2, rq_zero, e3]
      unfold slack'
      rw [show (0 : Rat) / two 53 = 0 by rw [Rat.div_def]; exact Rat.zero_mul _]
      constructor <;> grind
    · obtain ⟨L, k, hr, hq, hk, k1, k2, hbig⟩ := rung_spec (f := double) hm hp h2
      have hr' : rungOf double m p = L * double.binade + k := by omega
      have hv : val double (rungOf double m p) = k * 2 ^ L := by rw [hr']; exact val_of hq hk
      rw [rq_at hb, hv]
      rw [e] at k1 k2 hbig
      have hbin : double.binade = 4503599627370496 := by decide
      rw [hbin] at hbig
      clear hle hge hr hr' hv hq hk hB
      generalize hM : at_ m p (-(b : Int)) = M at *
      have hW : L = 0 → 2 ^ L * 2 ^ (b - lpn) = 2 ^ (b - lpn) := fun h => by rw [h]; simp
      have e5 : k * 2 ^ L * 2 ^ (b - lpn) = k * (2 ^ L * 2 ^ (b - lpn)) := Nat.mul_assoc _ _ _
      rw [e5]
      generalize 2 ^ L * 2 ^ (b - lpn) = W at *
      have e6 : two b = two lpn * two (b - lpn) := two_split hb
      have e7 : two (lpn + 1) = two lpn * 2 := by rw [two_add]; rfl
      have c1 : ∀ a : Nat, ((2 * a : Nat) : Rat) = 2 * (a : Rat) := fun a => by rw [Rat.natCast_mul]; rfl
      have q1 : (2 : Rat) * ((k * W : Nat) : Rat) ≤ 2 * (M : Rat) + (W : Rat) := by
        have := Rat.natCast_le_natCast.2 k1
        rw [Nat.mul_assoc 2 k W, c1, Rat.natCast_add, c1] at this
        exact this
      have q2 : (2 : Rat) * (M : Rat) ≤ 2 * ((k * W : Nat) : Rat) + (W : Rat) := by
        have := Rat.natCast_le_natCast.2 k2
        rw [Nat.add_mul, Nat.one_mul, Nat.mul_assoc 2 k W, c1, Rat.natCast_add, c1] at this
        exact this
      have hbp := two_pos b
      have hlp := two_pos lpn
      have hup := two_pos (b - lpn)
      -- the unit
      have key : (W : Rat) * (two b)⁻¹ ≤ 2 * slack' ((M : Rat) / two b) := by
        have hM0 : 0 ≤ (M : Rat) * (two b)⁻¹ := Rat.mul_nonneg Rat.natCast_nonneg (Rat.le_of_lt (Rat.inv_pos.2 hbp))
        unfold slack'
        rw [two53, e7, Rat.div_def (M : Rat)]
        by_cases hL : L = 0
        · rw [hW hL]
          have e8 : ((2 ^ (b - lpn) : Nat) : Rat) * (two b)⁻¹ = (two lpn)⁻¹ := by
            rw [e6]
            show two (b - lpn) * _ = _
            have := Rat.mul_inv_cancel _ (Rat.ne_of_gt hup)
            rw [Rat.inv_mul_rev]
            grind
          rw [e8]
          have : 1 / (two lpn * 2) = (two lpn)⁻¹ / 2 := by rw [Rat.div_def, Rat.inv_mul_rev]; grind
          rw [this]
          grind
        · have q3 := Rat.natCast_le_natCast.2 (hbig hL)
          rw [Rat.natCast_mul] at q3
          have q4 := Rat.mul_le_mul_of_nonneg_right q3 (Rat.le_of_lt (Rat.inv_pos.2 hbp))
          have q5 : 0 ≤ 1 / (two lpn * 2) := by
            rw [Rat.div_def]
            exact Rat.mul_nonneg (by decide) (Rat.le_of_lt (Rat.inv_pos.2 (Rat.mul_pos hlp (by decide))))
          have q6 : ((4503599627370496 : Nat) : Rat) = 4503599627370496 := rfl
          rw [q6] at q4
          grind
      have hi : 0 ≤ (two b)⁻¹ := Rat.le_of_lt (Rat.inv_pos.2 hbp)
      have q3 := Rat.mul_le_mul_of_nonneg_right q1 hi
      have q4 := Rat.mul_le_mul_of_nonneg_right q2 hi
      generalize hS : slack' ((M : Rat) / two b) = S at *
      rw [Rat.div_def, Rat.div_def]
      generalize (two b)⁻¹ = c at *
      constructor <;> grind
  have hss : slack' (((at_ m p (-(b : Int)) : Nat) : Rat) / two b) ≤ slack (((at_ m p (-(b : Int)) : Nat) : Rat) / two b) := by
    unfold slack slack'
    rw [two52, two53]
    grind
  refine ⟨hlt, ⟨rep_rq hlt, .inl (Rat.le_trans near.1 hss), .inl (Rat.le_trans near.2 hss), fun s hs hts => ?_, fun s hs hst => ?_⟩, near.1, near.2⟩
  · obtain ⟨r, hr, rfl⟩ := rep_rung hs (Rat.le_trans ht0 hts)
    exact rq_le.2 (hle r hts)
  · by_cases h0 : 0 ≤ s
    · obtain ⟨r, hr, rfl⟩ := rep_rung hs h0
      exact rq_le.2 (hge r hr hst)
    · exact Rat.le_trans (Rat.le_of_lt (Rat.not_le.1 h0)) (rq_nonneg _)

end Flt
end Go.Proofs.Ytocjhanehphibaa
