import Derived.Test.YthinoegcijalpaaKeeps
/-
  The program's fast transform: everyOf, restTurn, turnEach, sumOfTurned.
-/
set_option linter.unusedVariables false
set_option linter.unusedSimpArgs false
namespace Go.Proofs.Ythinoegcijalpaa
open Go.RowKit Flt Turn Fast
attribute [local go_sem] run_fadd run_fsub run_fmul run_fquo run_cadd run_csub

set_option maxRecDepth 100000 in
set_option maxHeartbeats 4000000 in
theorem everyOf_any {v : Value} {xs : List C} {w : World} (h : Reads w v (cvals xs)) (p m r : Nat) (hn : xs.length = p * m) (hr : r < p) (hp : p ≤ 1024) (hl : xs.length ≤ 1024) :
    Calls Try.prog 29 #[v, .int .i64 r, .int .i64 p] w fun e w' => ∃ v', e = .returned v' ∧ Row w' w.heap.size 34 v' (cvals (partN xs r p m)) ∧ Below w.heap.size w w' := by
  obtain ⟨i0, hi, hz0, hz1, hz2⟩ := info_parts info_c128
  obtain ⟨n, hxn⟩ : ∃ n, xs.length = n := ⟨_, rfl⟩
  have hrd := readsAt' h
  obtain ⟨a, cap, rfl⟩ := h.form'
  rw [cvals_length, hxn] at hrd ⊢
  replace hrd := hrd _ _ _ rfl
  rw [hxn] at hn hl
  have HPM := Lib.hid hn
  have HRD := Lib.hid hrd
  have hmp : m ≤ 1024 := by
    apply Nat.le_of_not_lt
    intro hc
    have : 1 * m ≤ p * m := Nat.mul_le_mul_right _ (by omega)
    omega
  clear h hn hxn hrd
  go_enter Try.func29, Try.ntmps29
  go_wp2
  go_loopw [7, 8] (fun v8 i wq => ∃ (t J : Nat), i = .int .i64 J ∧ J = r + t * p ∧ t ≤ m ∧ J ≤ n + p ∧ Row wq w.heap.size 34 v8 (cvals (partN xs r p t)) ∧ Below w.heap.size w wq) (fun _ i _ => n - (intOf i).toNat)
  case atStart => exact ⟨0, r, rfl, by omega, Nat.zero_le _, by omega, World.ownsRow_nil _ _ _ _, Below.refl _ _⟩
  case round =>
    obtain ⟨t, J, rfl, hJ, ht, hJn, hrw, hbw⟩ := hrel
    have HJ := Lib.hid hJ
    have HRW := Lib.hid hrw
    have HBW := Lib.hid hbw
    clear hJ hrw hbw
    by_cases hJl : J < n
    · obtain ⟨g, rfl, hg, hc⟩ := HRD.out J hJl
      have c1 : wr.cell? ⟨g, J, none⟩ = some (.complex .f64 (xs.getD J (0, 0)).1 (xs.getD J (0, 0)).2) := by
        rw [HBW.out.cell hg]; exact hc
      have htm : t < m := by
        apply Nat.lt_of_not_le
        intro hc
        have : m * p ≤ t * p := Nat.mul_le_mul_right _ hc
        have e1 := HJ.out
        have e2 := HPM.out
        rw [Nat.mul_comm m p] at this
        omega
      have hJ2 : J + p = r + (t + 1) * p := by rw [Nat.add_mul, Nat.one_mul, HJ.out]; omega
      have hps := partN_succ xs r p t
      rw [← HJ.out] at hps
      obtain ⟨⟨a, b⟩, hab⟩ : ∃ q, xs.getD J (0, 0) = q := ⟨_, rfl⟩
      rw [hab] at c1 hps
      have hl8 : (cvals (partN xs r p t)).length = t := by rw [cvals_length, partN_length]
      have HS := Lib.hid hps
      have HJ2 := Lib.hid hJ2
      have HL8 := Lib.hid hl8
      clear hab hps hJ2 hl8 hc
      go_wp2_with (at_builtin; refine wpList_append_own _ rfl _ _ 23 rfl w.heap.size 34 i0 (.complex .f64 0 0) 1 16 Try.underlying23 hi hz0 hz1 hz2 rfl (by decide) _ _ _ rfl (HRW.out.alloc _) ⟨_, 0, none⟩ 1 1 [.complex .f64 a b] rfl rfl (cell_one_new _ _ _) (by intro u hu; simp at hu; subst hu; rfl) (by rw [HL8.out]; simp only [maxLen]; omega) (by rw [HL8.out]; omega) (by have := HBW.out.size; simp; omega) ?_)
      intro v' w1 hown' hgrow _
      have hlt' := (HRW.out.alloc (.cells #[.complex .f64 a b] 34)).lt
      have HB' : Hid (Below w.heap.size w w1) := (HBW.out.alloc HBW.out.size _).grown hgrow (by have := HBW.out.size; simp; omega) (fun b e => (hlt' b e).1)
      have HO' : Hid (Row w1 w.heap.size 34 v' (cvals (partN xs r p (t + 1)))) := by
        show w1.ownsRow _ _ _ _ _ _
        rw [HS.out, cvals_snoc, List.length_append]
        exact hown'
      clear hown' hgrow hlt' HRW HBW HS HL8
      go_wp2
      go_roundw
      case rel => first | exact ⟨t + 1, J + p, by go_num, HJ2.out, by omega, by omega, HO'.out, HB'.out⟩ | ((repeat apply Exists.intro); refine ⟨?_, rfl⟩; exact ⟨t + 1, J + p, by go_num, HJ2.out, by omega, by omega, HO'.out, HB'.out⟩)
      case measure => simp [intOf]; omega
    · have htm : t = m := by
        have e1 := HJ.out
        have e2 := HPM.out
        apply Nat.le_antisymm ht
        apply Nat.le_of_not_lt
        intro hc
        have : (t + 1) * p ≤ m * p := Nat.mul_le_mul_right _ hc
        rw [Nat.add_mul, Nat.one_mul, Nat.mul_comm m p] at this
        omega
      subst htm
      go_wp2
      go_ret
      exact ⟨_, rfl, HRW.out, HBW.out⟩

theorem partN_one (xs : List C) : partN xs 0 1 xs.length = xs := by
  apply List.ext_getElem (by simp [partN])
  intro i h1 h2
  simp [partN, List.getD, h2]

theorem restTurn_any (n j b c : Nat) (w : World) (hn : 0 < n) (hn2 : n ≤ 100000) (hj : j ≤ 10000000000) (hc : Cache w b c) (hcf : c ≤ 4000000000000000000) :
    Calls Try.prog 45 #[.map (some b), .int .i64 n, .int .i64 (-(j : Int))] w (RetCa (twid n j) b (c + 8) w) := by
  have hrl : rst n j ≤ n := by unfold rst; exact Nat.le_of_lt (Nat.mod_lt _ hn)
  have T := Lib.hid (turn_cache n (rst n j) b c w hn hn2 hrl hc hcf)
  obtain ⟨e, he⟩ : ∃ e, j % n = e := ⟨_, rfl⟩
  have hen : e < n := by rw [← he]; exact Nat.mod_lt _ hn
  have he1 : (j : Int) % (n : Int) = (e : Int) := by rw [← he]; rfl
  obtain ⟨f, hf⟩ : ∃ f, (n - e) % n = f := ⟨_, rfl⟩
  have hf0 : ((n - e : Nat) : Int) = -(e : Int) + (n : Int) := by omega
  have hf1 : (-(e : Int) + (n : Int)).tmod (n : Int) = (f : Int) := by rw [← hf0, ← hf]; rfl
  have hf2 : (-(e : Int) + (n : Int)) % (n : Int) = (f : Int) := by rw [← hf0, ← hf]; rfl
  have hR : rst n j = f := by
    show (n - j % n) % n = f
    rw [he, hf]
  unfold twid
  rw [hR] at T ⊢
  clear hf he hf0 hc hR hrl
  go_enter Try.func45, Try.ntmps45
  go_wp2_with fail
  refine T.out.mono ?_
  rintro e w1 ⟨x, y, rfl, hx, hy, hc1, hg1⟩
  have HE := Lib.hid (show RetCa (turn n f) b (c + 8) w (.returned (.complex .f64 x y)) w1 from ⟨x, y, rfl, hx, hy, hc1, hg1⟩)
  clear hx hy hc1 hg1 T
  go_wp2
  go_ret
  exact HE.out

/-- A term, turned. -/
def turnedT (n k : Nat) (z : Nat → Z) (i : Nat) : Z := if i = 0 then z 0 else mulZ (z i) (twid n (i * k))

set_option maxRecDepth 100000 in
set_option maxHeartbeats 4000000 in
theorem turnEach_any {g L cap B : Nat} {ts : List C} {w : World} (b c n k : Nat) (zt : Nat → Z) (hrow : Row w B 34 (.slice (some ⟨g, 0, none⟩) L cap) (cvals ts)) (hgd : ∀ i, i < L → IsC (ts.getD i (0, 0)) (zt i)) (hc : Cache w b c)
    (hn : 0 < n) (hn2 : n ≤ 100000) (h1 : 1 ≤ L) (hL : L ≤ 1024) (hk : k ≤ 1024) (hcf : c ≤ 3000000000000000000) :
    Calls Try.prog 41 #[.map (some b), .slice (some ⟨g, 0, none⟩) L cap, .int .i64 n, .int .i64 k] w fun e w' => e = .returned (.tuple #[]) ∧ ∃ ts', Row w' B 34 (.slice (some ⟨g, 0, none⟩) L cap) (cvals ts') ∧ ts'.length = L ∧ (∀ i, i < L → IsC (ts'.getD i (0, 0)) (turnedT n k zt i)) ∧ Cache w' b (c + 8 * L) ∧ Keeps B b w w' := by
  have hBg : B ≤ g := (hrow.lt _ rfl).1
  have hlt : ts.length = L := by have := hrow.len; rwa [cvals_length] at this
  have HR0 := Lib.hid hrow
  have HG0 := Lib.hid hgd
  have HC0 := Lib.hid hc
  have HL0 := Lib.hid hlt
  have hBs : B ≤ w.heap.size := Nat.le_trans hBg (Nat.le_of_lt (hrow.lt _ rfl).2)
  clear hrow hgd hc hlt
  go_enter Try.func41, Try.ntmps41
  go_wp2
  go_loopw [8] (fun i wr => ∃ (r : Nat) (ts' : List C), i = .int .i64 r ∧ 1 ≤ r ∧ r ≤ L ∧ Row wr B 34 (.slice (some ⟨g, 0, none⟩) L cap) (cvals ts') ∧ ts'.length = L ∧ (∀ i, i < L → IsC (ts'.getD i (0, 0)) (if i < r then turnedT n k zt i else zt i)) ∧ Cache wr b (c + 8 * r) ∧ Keeps B b w wr) (fun i _ => L - (intOf i).toNat)
  case atStart => exact ⟨1, ts, rfl, Nat.le_refl _, h1, HR0.out, HL0.out, fun i hi => by
    by_cases h0 : i = 0
    · subst h0; exact HG0.out 0 (by omega)
    · rw [if_neg (by omega)]; exact HG0.out i hi, HC0.out.mono (by omega), Keeps.refl _ _ _⟩
  case round =>
    obtain ⟨r, ts', rfl, hr1, hr2, hrw, hl', hgd', hc', hkp⟩ := hrel
    have HRW := Lib.hid hrw
    have HL' := Lib.hid hl'
    have HGD := Lib.hid hgd'
    have HC := Lib.hid hc'
    have HK := Lib.hid hkp
    clear hrw hl' hgd' hc' hkp
    by_cases hrl : r < L
    · obtain ⟨J, hJ⟩ : ∃ J, r * k = J := ⟨_, rfl⟩
      have hJ2 : J ≤ 1048576 := by rw [← hJ]; exact Nat.le_trans (Nat.mul_le_mul (by omega : r ≤ 1024) (by omega : k ≤ 1024)) (by decide)
      have eM : -(r : Int) * (k : Int) = -(J : Int) := by rw [← hJ]; simp [Int.neg_mul]
      have eW : IntKind.i64.wrap (IntKind.i64.wrap (-(r : Int)) * (k : Int)) = -(J : Int) := by
        have a1 : IntKind.i64.wrap (-(r : Int)) = -(r : Int) := by rw [IntKind.wrap_i64]; omega
        rw [a1, eM, IntKind.wrap_i64]; omega
      have RT := Lib.hid (restTurn_any n J b (c + 8 * r) wr hn hn2 (by omega) HC.out (by omega))
      have HJ := Lib.hid hJ
      clear hJ
      go_wp2_with fail
      refine RT.out.mono ?_
      rintro e w1 ⟨x, y, rfl, hx, hy, hc1, hg1⟩
      have hr1' := HRW.out.grownK HC.out hg1
      have c1 := hr1'.cellAt hrl
      rw [cvals_getD (by rw [HL'.out]; exact hrl)] at c1
      have z1 := HGD.out r hrl
      rw [if_neg (by omega)] at z1
      obtain ⟨⟨p, q⟩, hpq⟩ : ∃ u, ts'.getD r (0, 0) = u := ⟨_, rfl⟩
      rw [hpq] at c1 z1
      have HX : Hid (IsC (x, y) (twid n J)) := ⟨hx, hy⟩
      have HR1 := Lib.hid hr1'
      have HC1 := Lib.hid hc1
      have HK1 := Lib.hid (HK.out.grown hg1 (Nat.le_trans hBs HK.out.size))
      have hBs1 : B ≤ w1.heap.size := Nat.le_trans hBg (Nat.le_of_lt (hr1'.lt _ rfl).2)
      have T := Lib.hid (fun w => times_any p q x y (zt r) (twid n J) z1 HX.out w)
      clear hx hy hc1 hg1 hr1' hpq z1 RT HRW HC HK
      go_wp2_with fail
      refine (numberOf_any p q _).mono ?_
      rintro e w2 ⟨rfl, b2⟩
      go_wp2_with fail
      refine (numberOf_any x y _).mono ?_
      rintro e w3 ⟨rfl, b3⟩
      go_wp2_with fail
      refine (T.out _).mono ?_
      rintro e w4 ⟨p2, q2, rfl, hpq2, b4⟩
      have bb : Below w1.heap.size w1 w4 := below_step (below_step b2 b3 b2.size) b4 (Nat.le_trans b2.size b3.size)
      have HR4 := Lib.hid (HR1.out.below bb (fun j hj => (HR1.out.lt j hj).2))
      have HC4 := Lib.hid (HC1.out.below bb)
      have HK4 := Lib.hid (HK1.out.below bb hBs1)
      have hS := (HR4.out).set r (.complex .f64 p2 q2)
      have c4 := HR4.out.cellAt hrl
      have f4 := HR4.out.frozenAt r
      obtain ⟨u, hu⟩ : ∃ u, (cvals ts').getD r undef = u := ⟨_, rfl⟩
      rw [hu] at c4
      have hcs : (cvals ts').set r (.complex .f64 p2 q2) = cvals (ts'.set r (p2, q2)) := by simp [cvals, cval, List.map_set]
      rw [hcs] at hS
      have HS := Lib.hid hS.1
      have hgb : b ≠ g := fun e => (HR4.out.notCache HC4.out) (by rw [e]; rfl)
      have HC5 : Hid (Cache (w4.setCell ⟨g, r, none⟩ (.complex .f64 p2 q2)) b (c + 8 * (r + 1))) := (HC4.out.setCell (a := ⟨g, r, none⟩) hgb _).mono (by omega)
      have HK5 : Hid (Keeps B b w (w4.setCell ⟨g, r, none⟩ (.complex .f64 p2 q2))) := HK4.out.setCell (p := ⟨g, r, none⟩) hBg _
      have HG5 : Hid (∀ i, i < L → IsC ((ts'.set r (p2, q2)).getD i (0, 0)) (if i < r + 1 then turnedT n k zt i else zt i)) := fun i hi => by
        by_cases he : r = i
        · subst he
          rw [if_pos (Nat.lt_succ_self _), show (ts'.set r (p2, q2)).getD r (0, 0) = (p2, q2) by simp [List.getD, HL'.out, hi]]
          unfold turnedT
          rw [if_neg (by omega), HJ.out]
          exact hpq2
        · rw [show (ts'.set r (p2, q2)).getD i (0, 0) = ts'.getD i (0, 0) by simp [List.getD, he]]
          have := HGD.out i hi
          by_cases h2 : i < r
          · rw [if_pos h2] at this; rw [if_pos (by omega)]; exact this
          · rw [if_neg h2] at this; rw [if_neg (by omega)]; exact this
      have HL5 : Hid ((ts'.set r (p2, q2)).length = L) := by show _ = _; rw [List.length_set]; exact HL'.out
      clear b2 b3 b4 bb hS hu hcs hpq2 T HX HR1 HC1 HK1 HR4 HC4 HK4 HGD c1
      go_wp2
      go_roundw
      case rel => first | exact ⟨r + 1, _, by go_num, by omega, by omega, HS.out, HL5.out, HG5.out, HC5.out, HK5.out⟩ | ((repeat apply Exists.intro); refine ⟨?_, rfl⟩; exact ⟨r + 1, _, by go_num, by omega, by omega, HS.out, HL5.out, HG5.out, HC5.out, HK5.out⟩)
      case measure => simp [intOf]; omega
    · have e : r = L := by omega
      subst e
      go_wp2
      go_end0
      exact ⟨rfl, ts', HRW.out, HL'.out, fun i hi => by have := HGD.out i hi; rwa [if_pos hi] at this, HC.out, HK.out⟩

/-- The sum of the turned terms is the one that the model finds. -/
theorem sumC_turned (p q : Nat) (z : Nat → Z) : ∀ j, j ≠ 0 → sumC (turnedT p q z) j = sumT z p q j
  | 0, h => absurd rfl h
  | j + 1, _ => by
    by_cases h : j = 0
    · subst h; rfl
    · rw [sumC_succ _ h, sumT, if_neg h, sumC_turned p q z j h]
      unfold turnedT
      rw [if_neg h]

set_option maxRecDepth 100000 in
set_option maxHeartbeats 4000000 in
theorem sumOfTurned_any {g L cap : Nat} {ts : List C} {w : World} (b c q : Nat) (zt : Nat → Z) (hrow : Reads w (.slice (some ⟨g, 0, none⟩) L cap) (cvals ts)) (hlt : ts.length = L) (hgd : ∀ i, i < L → IsC (ts.getD i (0, 0)) (zt i)) (hc : Cache w b c)
    (h1 : 1 ≤ L) (hL : L ≤ 1024) (hq : q ≤ 1024) (hcf : c ≤ 3000000000000000000) :
    Calls Try.prog 42 #[.map (some b), .slice (some ⟨g, 0, none⟩) L cap, .int .i64 q] w fun e w' => ∃ x y, e = .returned (.complex .f64 x y) ∧ IsC (x, y) (sumT zt L q L) ∧ Cache w' b (c + 8 * L) ∧ Keeps w.heap.size b w w' := by
  have E := Lib.hid (everyOf_any hrow 1 L 0 (by omega) (by omega) (by omega) (by omega))
  have HL := Lib.hid hlt
  have HG := Lib.hid hgd
  have HC := Lib.hid hc
  clear hrow hlt hgd hc
  go_enter Try.func42, Try.ntmps42
  go_wp2_with fail
  refine E.out.mono ?_
  rintro e w1 ⟨v', rfl, hr, hb⟩
  have hpo : partN ts 0 1 L = ts := by rw [← HL.out]; exact partN_one ts
  rw [hpo] at hr
  obtain ⟨g', cap', rfl, -, -, -⟩ := hr.get HL.out (by omega)
  have TE := Lib.hid (turnEach_any b c L q zt hr HG.out (HC.out.below hb) (by omega) (by omega) h1 hL hq hcf)
  have HB := Lib.hid hb
  have hz := hb.size
  clear hr hb E hpo
  go_wp2_with fail
  refine TE.out.mono ?_
  rintro e w2 ⟨rfl, ts', hr2, hl2, hg2, hc2, hk2⟩
  have S := Lib.hid (sumC_any hr2.reads (by omega) (turnedT L q zt) (fun i hi => hg2 i (by omega)))
  have HK : Hid (Keeps w.heap.size b w w2) := (Keeps.of_below HB.out).trans hk2
  have HC2 := Lib.hid hc2
  rw [hl2, sumC_turned L q zt L (by omega)] at S
  clear hr2 hl2 hg2 hc2 hk2 TE HB
  go_wp2_with fail
  refine S.out.mono ?_
  rintro e w3 ⟨x, y, rfl, hxy, n, rfl⟩
  have HX := Lib.hid hxy
  clear hxy S
  go_wp2
  go_ret
  exact ⟨x, y, rfl, HX.out, HC2.out.drewN n, HK.out.draws n⟩

end Go.Proofs.Ythinoegcijalpaa
