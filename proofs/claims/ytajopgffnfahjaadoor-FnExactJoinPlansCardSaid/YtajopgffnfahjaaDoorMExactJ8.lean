/-
  Several texts of this claim, one behind the other; each says what it holds.
-/
import Derived.Test.YtajopgffnfahjaaDoorMExactJ7
import Derived.IntWalk
import Derived.Laws.AppendOwn
import Derived.Deep.RegionHeld3
/-
  slices.Concat of two rows of steps that can be run (written by genapr.py, from Cat).
-/
set_option linter.unusedVariables false
set_option linter.unusedSimpArgs false
namespace Go.Proofs.YtajopgffnfahjaaDoor
open Go.RowKit

theorem run_app_zeros {P : Program} {w : World} (t u ty e : TypeId) (i : TypeInfo) (z : Value) (ht : P.underlying t = some (.slice e)) (hu : P.underlying u = some (.int .i64)) (hi : P.info? e = some i) (hz : i.zero = some z) (hsz : i.size = 1) (hby : i.bytes = 16)
    (n : Nat) (h0 : 0 < n) (h1 : n ≤ 1000000) :
    (Builtin.append_ #[t, u] ty #[.slice none 0 0, .int .i64 n]).run P w =
      .ok (.slice (some ⟨w.heap.size, 0, none⟩) n (grownCap w n 0 e)) (w.drew.alloc (.cells (Builtin.zeroCells z.cells n ++ Builtin.zeroCells z.cells (grownCap w n 0 e - n)) e)) := by
  have hn : n ≠ 0 := by omega
  have h63' : ¬ (9223372036854775807 < (n : Int)) := by omega
  have h48' : ¬ (281474976710656 < Builtin.nextslicecap n 0 * i.bytes) := by rw [nextslicecap_zero h0, hby]; omega
  have h48'' : ¬ (281474976710656 < (n : Int) * (i.bytes : Int)) := by rw [hby]; omega
  have hw : IntKind.i64.wrap (n : Int) = (n : Int) := IntWalk.i64_in _ (by omega)
  have hneg : ¬ ((n : Int) < 0) := by omega
  have hle : ¬ ((n : Int) ≤ 0) := by omega
  have hmax : max (n : Int) 0 = (n : Int) := by omega
  simp [Builtin.append_, run_underlying ht, run_underlying hu, sizeOf, typeInfo, zeroValue, hi, hz, Builtin.lenOf, hn, h63', h48', h48'', hw, hneg, hsz, Question.forced, run_firstCells_none, newRow, grownCap, asInt, asIntOf, hle, hmax]

theorem row_room (w : World) (n : Nat) (cur : Array Value) (e : TypeId) (cap : Nat) (hcur : cur.size = cap) (hcap : cap ≤ maxLen) :
    Row (w.drew.alloc (.cells cur e)) w.heap.size e (.slice (some ⟨w.heap.size, 0, none⟩) 0 cap) [] :=
  ⟨by simp, .inr ⟨w.heap.size, cap, cur, rfl, Nat.le_refl _, World.alloc_heap_new w.drew _, Nat.zero_le _, hcap, by simpa using hcur, by simp⟩⟩

theorem under_int : Tryd.prog.underlying 3 = some (.int .i64) := by kernel_rfl

theorem wpList_zeros {P : Program} {w : World} {ops : Array Oper} {rest : List Oper} {o : Oper} {a : Act} {Q : Exit → Act → World → Prop} (hw : Region.wanted o (yielded ops a.tmps) = true) (s x : Operand)
    (ho : o.op = .call { callee := .builtin .append, args := #[s, x], argTypes := #[59, 3] }) (v u v' : Value) (w' : World) (hs : a.eval s = v) (hx : a.eval x = u)
    (hrun : ∀ ty, (Builtin.append_ #[59, 3] ty #[v, u]).run P w = .ok v' w') (h : wpList P ops Q rest (a.put o.dst v') w') : wpList P ops Q (o :: rest) a w := by
  refine BigFrame.wpList_want hw fun K hK => ?_
  unfold Oper.wp execOp
  simp only [ho, resolve, invoke, builtin, Sem.run_bind, Sem.run_pure, Result.andThen_ok, List.map_toArray, List.map_cons, List.map_nil, hs, hx, hrun]
  exact hK _ _ h

set_option maxRecDepth 100000 in
set_option maxHeartbeats 4000000 in
theorem grow_any (n : Nat) (hn : n ≤ 1000000) (w : World) :
    Calls Tryd.prog 73 #[.slice none 0 0, .int .i64 n] w fun e w' => ∃ a cap, e = .returned (.slice a 0 cap) ∧ Row w' w.heap.size 66 (.slice a 0 cap) [] ∧ Below w.heap.size w w' := by
  obtain ⟨i0, hi, hz0, hz1, hz2⟩ := info_parts' info_ifc
  by_cases h0 : n = 0
  · subst h0
    go_enter Tryd.func73, Tryd.ntmps73
    go_wp2
    go_ret
    exact ⟨none, 0, rfl, World.ownsRow_nil _ _ _ _, Below.refl _ _⟩
  · have hpos : decide ((0 : Int) < (n : Int)) = true := decide_eq_true (by omega)
    have hrun : ∀ (W : World) (ty : TypeId), (Builtin.append_ #[59, 3] ty #[.slice none 0 0, .int .i64 (n : Int)]).run Tryd.prog W = .ok (.slice (some ⟨W.heap.size, 0, none⟩) n (grownCap W n 0 66)) (W.drew.alloc (.cells (Builtin.zeroCells (Value.nilIface).cells n ++ Builtin.zeroCells (Value.nilIface).cells (grownCap W n 0 66 - n)) 66)) := fun W ty =>
      run_app_zeros _ _ ty _ i0 _ Tryd.underlying59 under_int hi hz0 hz1 hz2 n (by omega) hn
    have hge := grownCap_ge w n 0 66
    have hmx := grownCap_le_maxLen w n 0 66 (by simp only [maxLen]; omega)
    have HFin : Hid (Row (w.drew.alloc (.cells (Builtin.zeroCells (Value.nilIface).cells n ++ Builtin.zeroCells (Value.nilIface).cells (grownCap w n 0 66 - n)) 66)) w.heap.size 66 (.slice (some ⟨w.heap.size, 0, none⟩) 0 (grownCap w n 0 66)) [] ∧
        Below w.heap.size w (w.drew.alloc (.cells (Builtin.zeroCells (Value.nilIface).cells n ++ Builtin.zeroCells (Value.nilIface).cells (grownCap w n 0 66 - n)) 66))) :=
      ⟨row_room w n _ _ _ (by rw [Array.size_append, size_zeroCells, size_zeroCells]; simp [Value.cells]; omega) hmx, (below_draws (Below.refl _ _) 1).alloc (Nat.le_refl _) _⟩
    obtain ⟨cap, hcap⟩ : ∃ c, grownCap w n 0 66 = c := ⟨_, rfl⟩
    have hrun1 := hrun w
    rw [hcap] at hrun1 HFin hge hmx
    obtain ⟨W1, hW1⟩ : ∃ W1, w.drew.alloc (.cells (Builtin.zeroCells (Value.nilIface).cells n ++ Builtin.zeroCells (Value.nilIface).cells (cap - n)) 66) = W1 := ⟨_, rfl⟩
    rw [hW1] at hrun1 HFin
    clear hrun hcap hW1
    go_enter Tryd.func73, Tryd.ntmps73
    go_wp2_with (at_builtin; refine wpList_zeros rfl _ _ rfl _ _ _ _ rfl rfl hrun1 ?_)
    go_ret
    exact ⟨_, cap, rfl, HFin.out.1, HFin.out.2⟩


theorem Row.written' {w : World} {B e n : Nat} {v : Value} {cs : List Value} (h : Row w B e v cs) (hn : cs.length = n) : ∃ a cap, v = .slice a n cap := by
  rcases h.shape with ⟨a, cap, e, e'⟩ | ⟨g, cap, e, _⟩
  · refine ⟨a, cap, ?_⟩
    rw [e, ← hn, e']; rfl
  · exact ⟨_, cap, by rw [e, hn]⟩

set_option maxRecDepth 100000 in
set_option maxHeartbeats 4000000 in
/-- Two rows, one behind the other. -/
theorem concatS_any (x y : List Value) (a1 a2 : Option Addr) (c1 c2 : Nat) (hl : x.length + y.length ≤ 1000000) (h1x : ∀ u ∈ x, u.oneCell' = true) (h1y : ∀ u ∈ y, u.oneCell' = true) (g : Nat) (w : World) (hrx : ∀ w', Below w.heap.size w w' → Reads w' (.slice a1 x.length c1) x) (hry : ∀ w', Below w.heap.size w w' → Reads w' (.slice a2 y.length c2) y) (hg : g < w.heap.size)
    (hc0 : w.cell? ⟨g, 0, none⟩ = some (.slice a1 x.length c1)) (hc1 : w.cell? ⟨g, 1, none⟩ = some (.slice a2 y.length c2)) :
    Calls Tryd.prog 37 #[.slice (some ⟨g, 0, none⟩) 2 2] w fun e w' => ∃ v, e = .returned v ∧ Row w' w.heap.size 66 v (x ++ y) ∧ Below w.heap.size w w' := by
  obtain ⟨i0, hi, hz0, hz1, hz2⟩ := info_parts' info_ifc
  have HRX := Lib.hid hrx
  have HRY := Lib.hid hry
  have H1X := Lib.hid h1x
  have H1Y := Lib.hid h1y
  clear hrx hry h1x h1y
  have hl0 : x.length ≤ 1000000 := by omega
  have HG := Lib.hid (fun w => grow_any (x.length + y.length) hl w)
  have n1 : ((x.length : Int) + (y.length : Int) < 0) = False := by first | (simp; done) | (simp; omega)
  have n2 : ((x.length : Int) < 0) = False := by first | (simp; done) | (simp; omega)
  have hsum : (x.length : Int) + (y.length : Int) = ((x.length + y.length : Nat) : Int) := by omega
  have HSUM := Lib.hid hsum
  clear hsum
  go_enter Tryd.func37, Tryd.ntmps37
  go_wp2
  refine wp_loop_rounds 3 ?_
  rw [rounds_succ]
  go_wp2
  rw [rounds_succ]
  go_wp2
  rw [rounds_succ]
  go_wp2_with fail
  rw [HSUM.out]
  with_reducible refine (HG.out _).mono ?_
  rintro e w1 ⟨b, cb, rfl, hr, hb⟩
  have d0 : w1.cell? ⟨g, 0, none⟩ = some (.slice a1 x.length c1) := by rw [hb.cell hg]; exact hc0
  have d1 : w1.cell? ⟨g, 1, none⟩ = some (.slice a2 y.length c2) := by rw [hb.cell hg]; exact hc1
  have HR1 := Lib.hid hr
  have HX1 := Lib.hid (HRX.out w1 hb)
  have HB1 := Lib.hid hb
  have hs1 := hb.size
  clear hr hb hc0 hc1
  go_wp2
  refine wp_loop_rounds 3 ?_
  rw [rounds_succ]
  go_wp2_with (at_builtin; refine wpList_appR rfl _ _ _ 66 rfl Tryd.underlying59 i0 hi hz0 hz1 hz2 (by decide) rfl w.heap.size _ _ [] x rfl rfl HR1.out HX1.out H1X.out hs1 (by simp; omega) ?_; intro v' w2 hr2 hg2; obtain ⟨e1, e2, rfl⟩ := hr2.written' rfl; have hb2 : Below w.heap.size w w2 := HB1.out.grown hg2 hs1 (fun k e => (HR1.out.lt k e).1); have hs2 := hb2.size; have HY2 := Lib.hid (HRY.out w2 hb2); have HR2 := Lib.hid hr2; have HB2 := Lib.hid hb2; have d2 : w2.cell? ⟨g, 1, none⟩ = some (.slice a2 y.length c2) := (by rw [hb2.cell hg, ← HB1.out.cell hg]; exact d1); clear hr2 hg2 hb2)
  rw [rounds_succ]
  go_wp2_with (at_builtin; refine wpList_appR rfl _ _ _ 66 rfl Tryd.underlying59 i0 hi hz0 hz1 hz2 (by decide) rfl w.heap.size _ _ ([] ++ x) y rfl rfl HR2.out HY2.out H1Y.out hs2 (by simp; omega) ?_; intro v' w3 hr3 hg3; obtain ⟨e3, e4, rfl⟩ := hr3.written' rfl; have HB3 := Lib.hid (HB2.out.grown hg3 hs2 (fun k e => (HR2.out.lt k e).1)); have HR3 := Lib.hid hr3; clear hr3 hg3)
  rw [rounds_succ]
  go_wp2
  go_ret
  exact ⟨.slice e3 (x.length + y.length) e4, rfl, (by have := HR3.out; simpa using this), HB3.out⟩

end Go.Proofs.YtajopgffnfahjaaDoor
/-
  JoinPlans of the program.
-/
set_option linter.unusedVariables false
set_option linter.unusedSimpArgs false
namespace Go.Proofs.YtajopgffnfahjaaDoor
open Go.RowKit

/-- The code of two plans that are joined. -/
def jCode (ss rs : List St) : Int := if validPl ss && validPl rs then (if 8 < ss.length + rs.length then 3 else 0) else 1
/-- The steps of two plans that are joined. -/
def jL (ss rs : List St) : List St := if jCode ss rs = 0 then ss ++ rs else []

/-- What JoinPlans returns. -/
def JoinTo (D : Int) (ls : List St) (w : World) (e : Ending) (w' : World) : Prop :=
  ∃ V tv, e = .returned (.tuple #[.agg #[V], .int .i64 D]) ∧ StepsO w' w.heap.size V ls.length ls.length ls tv ∧ Below w.heap.size w w'

theorem ifVs_append (ss rs : List St) (tv tv2 : Nat → Value) : ifVs ss tv ss.length ++ ifVs rs tv2 rs.length = ifVs (ss ++ rs) (fun i => if i < ss.length then tv i else tv2 (i - ss.length)) (ss ++ rs).length := by
  apply List.ext_getElem
  · simp [ifVs]
  · intro i h1 h2
    simp only [ifVs_length, List.length_append] at h2
    by_cases h : i < ss.length
    · rw [List.getElem_append_left (by rw [ifVs_length]; exact h)]
      simp only [ifVs, List.getElem_map, List.getElem_range]
      rw [if_pos h, List.getD_eq_getElem?_getD, List.getD_eq_getElem?_getD, List.getElem?_append_left h]
    · rw [List.getElem_append_right (by rw [ifVs_length]; omega)]
      simp only [ifVs, List.getElem_map, List.getElem_range, List.length_map, List.length_range]
      rw [if_neg h, List.getD_eq_getElem?_getD, List.getD_eq_getElem?_getD, List.getElem?_append_right (by omega)]
theorem getD_app {ss rs : List St} {i : Nat} : (ss ++ rs).getD i default = if i < ss.length then ss.getD i default else rs.getD (i - ss.length) default := by
  by_cases h : i < ss.length
  · rw [if_pos h, List.getD_eq_getElem?_getD, List.getD_eq_getElem?_getD, List.getElem?_append_left h]
  · rw [if_neg h, List.getD_eq_getElem?_getD, List.getD_eq_getElem?_getD, List.getElem?_append_right (by omega)]
theorem ifVs_one (ss : List St) (tv : Nat → Value) (n : Nat) : ∀ u ∈ ifVs ss tv n, u.oneCell' = true := by
  intro u hu
  obtain ⟨p, -, rfl⟩ := List.mem_map.1 hu
  rfl
theorem steps_nil (w : World) (B : Nat) (tv : Nat → Value) : StepsO w B (.slice none 0 0) 0 0 [] tv := ⟨⟨[], World.ownsRow_nil _ _ _ _, fun j hj => by omega⟩, fun j hj => by omega, fun i j _ hj => by omega⟩
theorem valid_taps {s : St} (h : validSt s = true) : s.taps.length ≤ 1000 := by
  obtain ⟨k1, k2⟩ := validSt_kind h
  obtain ⟨kd, n, k, taps⟩ := s
  simp only at k1 k2
  rcases kind_cases ⟨k1, k2⟩ with rfl | rfl | rfl | rfl | rfl | rfl | rfl | rfl | rfl | rfl | rfl | rfl | rfl
  all_goals simp [validSt, inZ, partsB] at h
  all_goals simp only
  all_goals first | omega | (obtain ⟨h, -⟩ := h; simp [h]; done) | (obtain ⟨⟨h, -⟩, -⟩ := h; simp [h]; done)

/-- What planOf has returned: a row of values, none of a plan that is not valid. -/
theorem plan_row {ss : List St} {tv : Nat → Value} {w1 : World} {N : Nat} {V : Value} (hV : if validPl ss then Row w1 N 66 V (ifVs ss tv ss.length) else V = .slice none 0 0) :
    ∃ x a c, V = .slice a x.length c ∧ Row w1 N 66 V x ∧ (∀ u ∈ x, u.oneCell' = true) ∧ x.length ≤ 8 ∧ (validPl ss = true → x = ifVs ss tv ss.length) := by
  by_cases hv : validPl ss = true
  · rw [if_pos hv] at hV
    obtain ⟨a, c, e⟩ := hV.form
    have h8 : ss.length ≤ 8 := by
      simp only [validPl, Bool.and_eq_true, decide_eq_true_eq] at hv
      exact hv.1
    exact ⟨_, a, c, e, hV, ifVs_one _ _ _, by rw [ifVs_length]; exact h8, fun _ => rfl⟩
  · rw [if_neg hv] at hV
    subst hV
    exact ⟨[], none, 0, rfl, World.ownsRow_nil _ _ _ _, (fun u h => by cases h), by simp, fun h => absurd h hv⟩

set_option maxRecDepth 100000 in
set_option maxHeartbeats 8000000 in
theorem joinPlans_impl {w : World} {B B2 : Nat} {V V2 : Value} {ss rs : List St} {tv tv2 : Nat → Value} (h : StepsO w B V ss.length ss.length ss tv) (h2 : StepsO w B2 V2 rs.length rs.length rs tv2) (ht : Tab w) :
    Calls Tryd.prog 11 #[.agg #[V], .agg #[V2]] w (JoinTo (jCode ss rs) (jL ss rs) w) := by
  obtain ⟨a, cap, rfl⟩ := h.form
  obtain ⟨b, cap2, rfl⟩ := h2.form
  obtain ⟨W, hW⟩ : ∃ W, W = ((w.alloc (.cells #[.slice a ss.length cap] 28)).alloc (.cells #[.slice b rs.length cap2] 28)).alloc (.cells #[.slice none 0 0] 28) := ⟨_, rfl⟩
  have hs : W.heap.size = w.heap.size + 1 + 1 + 1 := by rw [hW]; simp
  have q0 : W.cell? ⟨w.heap.size + 1, 0, none⟩ = some (.slice b rs.length cap2) := by rw [hW]; go_simp
  have q1 : W.cell? ⟨w.heap.size + 1 + 1, 0, none⟩ = some (.slice none 0 0) := by rw [hW]; go_simp
  have q2 : W.frozen? ⟨w.heap.size + 1 + 1, 0, none⟩ = false := by rw [hW]; go_simp
  have hb0 : Below w.heap.size w W := by rw [hW]; exact (((Below.refl _ _).alloc (Nat.le_refl _) _).alloc (by simp) _).alloc (by simp; omega) _
  have HQ : Hid (∀ W', Below W.heap.size W W' → W'.cell? ⟨w.heap.size + 1, 0, none⟩ = some (.slice b rs.length cap2) ∧ W'.cell? ⟨w.heap.size + 1 + 1, 0, none⟩ = some (.slice none 0 0) ∧ W'.frozen? ⟨w.heap.size + 1 + 1, 0, none⟩ = false) := fun W' hb =>
    ⟨(hb.cell (by show w.heap.size + 1 < W.heap.size; omega)).trans q0, (hb.cell (by show w.heap.size + 1 + 1 < W.heap.size; omega)).trans q1, (hb.frozen (by show w.heap.size + 1 + 1 < W.heap.size; omega)).trans q2⟩
  have PO := Lib.hid (planOf_any (h.below hb0 (Nat.le_refl _)) (ht.below hb0))
  have PO2 := Lib.hid (fun (W' : World) (hb : Below W.heap.size W W') => planOf_any (h2.below (below_step' hb0 hb hb0.size) (Nat.le_refl _)) (ht.below (below_step' hb0 hb hb0.size)))
  have HE1 := Lib.hid (fun (W' : World) (hb : Below W.heap.size W W') (i : Nat) (hi : i < ss.length) => (h.each i hi).below (below_step' hb0 hb hb0.size) (fun k e => ((h.each i hi).lt k e).2))
  have HE2 := Lib.hid (fun (W' : World) (hb : Below W.heap.size W W') (i : Nat) (hi : i < rs.length) => (h2.each i hi).below (below_step' hb0 hb hb0.size) (fun k e => ((h2.each i hi).lt k e).2))
  have HB0 := Lib.hid hb0
  have HS := Lib.hid hs
  have HW := Lib.hid hW.symm
  clear h h2 ht hb0 hW q0 q1 q2
  unfold PlanTo at PO PO2
  obtain ⟨d1, hd1⟩ : ∃ d : Int, (if validPl ss = true then (0 : Int) else 1) = d := ⟨_, rfl⟩
  obtain ⟨d2, hd2⟩ : ∃ d : Int, (if validPl rs = true then (0 : Int) else 1) = d := ⟨_, rfl⟩
  simp only [hd1] at PO
  simp only [hd2] at PO2
  have HD1 := Lib.hid hd1
  have HD2 := Lib.hid hd2
  clear hd1 hd2
  obtain ⟨D, hD⟩ : ∃ D, jCode ss rs = D := ⟨_, rfl⟩
  have HD := Lib.hid hD
  rw [hD]
  clear hD
  go_enter Tryd.func11, Tryd.ntmps11
  go_wp2_with fail
  rw [HW.out]
  with_reducible refine PO.out.mono ?_
  rintro e w1 ⟨V1, rfl, hV1, hb1⟩
  obtain ⟨x, a1, c1, rfl, hx, hx1, hx8, hxv⟩ := plan_row hV1
  have HB1 := Lib.hid hb1
  have hb1a : Below W.heap.size W (w1.alloc (.cells #[.slice a1 x.length c1] 61)) := hb1.alloc hb1.size _
  obtain ⟨r0, r1, r2⟩ := HQ.out _ hb1a
  have PO2' := Lib.hid (PO2.out _ hb1a)
  have HBX := Lib.hid hb1a
  have HX := Lib.hid hx
  have HX1 := Lib.hid hx1
  have HX8 := Lib.hid hx8
  have HXV := Lib.hid hxv
  clear hb1 hb1a hV1 hx hx1 hx8 hxv PO PO2
  go_wp2_with fail
  with_reducible refine PO2'.out.mono ?_
  rintro e w2 ⟨V3, rfl, hV3, hb2⟩
  obtain ⟨y, a3, c3, rfl, hy, hy1, hy8, hyv⟩ := plan_row hV3
  have hlt1 : w1.heap.size < w2.heap.size := by have := hb2.size; simp at this; omega
  have t0 : w2.cell? ⟨w1.heap.size, 0, none⟩ = some (.slice a1 x.length c1) := by rw [hb2.cell (p := ⟨w1.heap.size, 0, none⟩) (by simp)]; go_simp
  have hb2b : Below W.heap.size W w2 := below_step' HBX.out hb2 HBX.out.size
  obtain ⟨W3, hW3⟩ : ∃ W3, W3 = (w2.alloc (.cells #[.slice a3 y.length c3] 61)).alloc (.cells #[.slice a1 x.length c1, .slice a3 y.length c3] 59) := ⟨_, rfl⟩
  have hb3 : Below w2.heap.size w2 W3 := by rw [hW3]; exact ((Below.refl _ _).alloc (Nat.le_refl _) _).alloc (by simp) _
  have s3 : W3.heap.size = w2.heap.size + 1 + 1 := by rw [hW3]; simp
  have m0 : W3.cell? ⟨w2.heap.size + 1, 0, none⟩ = some (.slice a1 x.length c1) := by rw [hW3]; go_simp
  have m1 : W3.cell? ⟨w2.heap.size + 1, 1, none⟩ = some (.slice a3 y.length c3) := by rw [hW3]; go_simp
  have k1 : (w2.alloc (.cells #[.slice a3 y.length c3] 61)).cell? ⟨w1.heap.size, 0, none⟩ = some (.slice a1 x.length c1) := by
    have hba : Below w2.heap.size w2 (w2.alloc (.cells #[.slice a3 y.length c3] 61)) := (Below.refl _ _).alloc (Nat.le_refl _) _
    rw [hba.cell (p := ⟨w1.heap.size, 0, none⟩) hlt1]
    exact t0
  have hXR : Row w2 w.heap.size 66 (.slice a1 x.length c1) x := by
    have hx := HX.out
    have hba : Below w1.heap.size w1 (w1.alloc (.cells #[.slice a1 x.length c1] 61)) := (Below.refl _ _).alloc (Nat.le_refl _) _
    exact ((hx.below hba (fun k e => (hx.lt k e).2)).below hb2 (fun k e => by have := (hx.lt k e).2; simp; omega)).base' (by omega)
  have hYR := hy
  have h4 : ∀ w', Below W3.heap.size W3 w' → Below w2.heap.size w2 w' := fun w' hb => below_step' hb3 hb hb3.size
  have hx8 := HX8.out
  have CT := concatS_any x y a1 a3 c1 c3 (by omega) HX1.out hy1 (w2.heap.size + 1) W3 (fun w' hb => (hXR.below (h4 w' hb) (fun k e => (hXR.lt k e).2)).reads) (fun w' hb => (hYR.below (h4 w' hb) (fun k e => (hYR.lt k e).2)).reads) (by omega) m0 m1
  have CT := Lib.hid CT
  have HB2 := Lib.hid hb2b
  have HB3 := Lib.hid (below_step' hb2b hb3 hb2b.size)
  have HW3 := Lib.hid hW3.symm
  have HYV := Lib.hid hyv
  have HY8 := Lib.hid hy8
  obtain ⟨r0', r1', r2'⟩ := HQ.out w2 hb2b
  clear hb2 hb2b hV3 hy hy1 hy8 hyv hb3 hW3 m0 m1 hXR hYR h4 PO2' r0 r1 r2 hs
  go_wp2_with fail
  rw [HW3.out]
  clear k1 t0
  go_wp2_with fail
  with_reducible refine CT.out.mono ?_
  rintro e w4 ⟨V4, rfl, hr4, hb4⟩
  obtain ⟨a4, c4, rfl⟩ := hr4.written' (n := x.length + y.length) (by rw [List.length_append])
  have hb4a : Below W.heap.size W (w4.alloc (.cells #[.slice a4 (x.length + y.length) c4] 61)) := (below_step' HB3.out hb4 HB3.out.size).alloc (below_step' HB3.out hb4 HB3.out.size).size _
  obtain ⟨z0, z1, z2⟩ := HQ.out _ hb4a
  have HB4 := Lib.hid hb4a
  have HR4 := Lib.hid hr4
  have HB5 := Lib.hid (below_step' HB0.out hb4a HB0.out.size)
  obtain ⟨n4, hn4⟩ : ∃ n4, x.length + y.length = n4 := ⟨_, rfl⟩
  rw [hn4] at HR4 HB4 HB5 z0 z1 z2 ⊢
  have zb : (w4.alloc (.cells #[.slice a4 n4 c4] 61)).cell? ⟨w4.heap.size, 0, none⟩ = some (.slice a4 n4 c4) := by go_simp
  have hn16 : n4 ≤ 16 := by have := HY8.out; omega
  clear hr4 hb4 hb4a r0' r1' r2' CT hx8
  by_cases hv1 : validPl ss = true
  · have e1 : d1 = 0 := by rw [← HD1.out, if_pos hv1]
    subst e1
    by_cases hv2 : validPl rs = true
    · have e2 : d2 = 0 := by rw [← HD2.out, if_pos hv2]
      subst e2
      have ex := HXV.out hv1
      have ey := HYV.out hv2
      have hnn : n4 = ss.length + rs.length := by rw [← hn4, ex, ey, ifVs_length, ifVs_length]
      by_cases h8 : 8 < n4
      · have e : D = 3 := by rw [← HD.out]; unfold jCode; rw [hv1, hv2]; simp only [Bool.and_self, if_true]; rw [if_pos (by omega)]
        have EL : Hid (jL ss rs = []) := by show jL ss rs = []; unfold jL; rw [HD.out, e]; rfl
        subst e
        have g8 : decide ((8 : Int) < (n4 : Int)) = true := decide_eq_true (by omega)
        clear ex ey hn4 hnn
        go_wp2
        (try simp only [Exit.inBlock, Exit.then])
        refine bodyPost_ret (res_cell_tmp rfl _ _ _ rfl (run_loadVar_mid _ _ _ _ [.slice none 0 0] _ ?_ Tryd.underlying28 rfl infoPlan)) rfl ?_
        · intro j v hv
          rcases j with _ | j <;> simp at hv <;> subst hv <;> go_simp
        · exact ⟨_, fun _ => undef, rfl, (by rw [EL.out]; exact steps_nil _ _ _), HB5.out.setCell (by show w.heap.size ≤ w.heap.size + 1 + 1; omega) _⟩
      · have e : D = 0 := by rw [← HD.out]; unfold jCode; rw [hv1, hv2]; simp only [Bool.and_self, if_true]; rw [if_neg (by omega)]
        have EL : Hid (jL ss rs = ss ++ rs) := by show jL ss rs = ss ++ rs; unfold jL; rw [HD.out, e]; rfl
        subst e
        have g8 : decide ((8 : Int) < (n4 : Int)) = false := decide_eq_false (by omega)
        have hr5 := HR4.out
        rw [ex, ey, ifVs_append] at hr5
        have hr6 := hr5.alloc (.cells #[.slice a4 n4 c4] 61)
        have hvt : ∀ (zs : List St), validPl zs = true → ∀ i, i < zs.length → (zs.getD i default).taps.length ≤ 1000 := fun zs hz i hi => by
          simp only [validPl, Bool.and_eq_true] at hz
          refine valid_taps ?_
          rw [List.getD_eq_getElem?_getD, List.getElem?_eq_getElem hi]
          exact List.all_eq_true.1 hz.2 _ (List.getElem_mem _)
        have hvk : ∀ (zs : List St), validPl zs = true → ∀ i, i < zs.length → 1 ≤ (zs.getD i default).kind ∧ (zs.getD i default).kind ≤ 13 := fun zs hz i hi => by
          simp only [validPl, Bool.and_eq_true] at hz
          refine validSt_kind ?_
          rw [List.getD_eq_getElem?_getD, List.getElem?_eq_getElem hi]
          exact List.all_eq_true.1 hz.2 _ (List.getElem_mem _)
        have AP := asPlan_any (B2 := 0) hr6 (by rw [List.length_append]; omega)
          (fun i hi => by
            rw [getD_app]
            rw [List.length_append] at hi
            split
            · rename_i h; exact hvk ss hv1 i h
            · exact hvk rs hv2 _ (by omega))
          (fun i hi => by
            rw [getD_app]
            rw [List.length_append] at hi
            by_cases h : i < ss.length
            · simp only [if_pos h]; exact (HE1.out _ HB4.out i h).base' (Nat.zero_le _)
            · simp only [if_neg h]; exact (HE2.out _ HB4.out (i - ss.length) (by omega)).base' (Nat.zero_le _))
          (fun i hi => by
            rw [getD_app]
            rw [List.length_append] at hi
            split
            · rename_i h; exact hvt ss hv1 i h
            · exact hvt rs hv2 _ (by omega))
        have AP := Lib.hid AP
        clear ex ey hn4 hr5 hr6 hvk hvt hnn
        go_wp2_with fail
        refine AP.out.mono ?_
        rintro e w5 ⟨V5, tv5, rfl, hO5, hb5⟩
        obtain ⟨y0, y1, y2⟩ := HQ.out w5 (below_step' HB4.out hb5 HB4.out.size)
        have HB6 := Lib.hid (below_step' HB5.out hb5 HB5.out.size)
        have HO5 := Lib.hid (hO5.base HB5.out.size)
        have HOX := Lib.hid (fun (u : Value) => hO5.other (b := w.heap.size + 1 + 1) (i := 0) u (by have h2 := HB4.out.size; have h3 := HS.out; simp at h2 ⊢; omega))
        obtain ⟨a5, c5, rfl⟩ := hO5.form
        clear hO5 hb5 AP z0 z1 z2 zb
        go_wp2
        (try simp only [Exit.inBlock, Exit.then])
        refine bodyPost_ret (res_cell_tmp rfl _ _ _ rfl (run_loadVar_mid _ _ _ _ [.slice a5 (ss.length + rs.length) c5] _ ?_ Tryd.underlying28 rfl infoPlan)) rfl ?_
        · intro j v hv
          rcases j with _ | j <;> simp at hv <;> subst hv <;> go_simp
        · refine ⟨_, tv5, rfl, ?_, HB6.out.setCell (by show w.heap.size ≤ w.heap.size + 1 + 1; omega) _⟩
          rw [EL.out]
          have := (HOX.out (.slice a5 (ss.length + rs.length) c5)).base HB5.out.size
          simpa only [List.length_append] using this
    · have e2 : d2 = 1 := by rw [← HD2.out, if_neg hv2]
      subst e2
      have e : D = 1 := by rw [← HD.out]; unfold jCode; rw [hv1, Bool.eq_false_iff.2 hv2]; rfl
      have EL : Hid (jL ss rs = []) := by show jL ss rs = []; unfold jL; rw [HD.out, e]; rfl
      subst e
      go_wp2
      (try simp only [Exit.inBlock, Exit.then])
      refine bodyPost_ret (res_cell_tmp rfl _ _ _ rfl (run_loadVar_mid _ _ _ _ [.slice none 0 0] _ ?_ Tryd.underlying28 rfl infoPlan)) rfl ?_
      · intro j v hv
        rcases j with _ | j <;> simp at hv <;> subst hv <;> go_simp
      · exact ⟨_, fun _ => undef, rfl, (by rw [EL.out]; exact steps_nil _ _ _), HB5.out.setCell (by show w.heap.size ≤ w.heap.size + 1 + 1; omega) _⟩
  · have e1 : d1 = 1 := by rw [← HD1.out, if_neg hv1]
    subst e1
    have e : D = 1 := by rw [← HD.out]; unfold jCode; rw [Bool.eq_false_iff.2 hv1]; rfl
    have EL : Hid (jL ss rs = []) := by show jL ss rs = []; unfold jL; rw [HD.out, e]; rfl
    subst e
    go_wp2
    (try simp only [Exit.inBlock, Exit.then])
    refine bodyPost_ret (res_cell_tmp rfl _ _ _ rfl (run_loadVar_mid _ _ _ _ [.slice none 0 0] _ ?_ Tryd.underlying28 rfl infoPlan)) rfl ?_
    · intro j v hv
      rcases j with _ | j <;> simp at hv <;> subst hv <;> go_simp
    · exact ⟨_, fun _ => undef, rfl, (by rw [EL.out]; exact steps_nil _ _ _), HB5.out.setCell (by show w.heap.size ≤ w.heap.size + 1 + 1; omega) _⟩

end Go.Proofs.YtajopgffnfahjaaDoor
/-
  Steps that are copied, as the model does it: l07Own.
-/
set_option linter.unusedVariables false
set_option linter.unusedSimpArgs false
namespace Go.Proofs.YtajopgffnfahjaaDoor
open Go.RowKit

/-- One step more is appended. -/
theorem StepsO.push {w w' : World} {B k b0 : Nat} {V V' : Value} {ss : List St} {tv : Nat → Value} {cs : List Value} (h1 : w.ownsRow B 39 4 V k cs) (h2 : Four cs k ss tv) (h3 : ∀ j, j < k → Row w B 2 (tv j) (ints (ss.getD j default).taps))
    (h4 : ∀ i j, i < j → j < k → ∀ a b, (tv i).ownBlock = some a → (tv j).ownBlock = some b → a ≠ b) {S : St} {t : Value} (hS : ss.getD k default = S)
    (hown : w'.ownsRow B 39 4 V' (k + 1) (cs ++ [.int .i64 S.kind, .int .i64 S.n, .int .i64 S.k, t])) (hg : w.grownBy w' V.ownBlock) (ht : Row w b0 2 t (ints S.taps)) (hB : B ≤ b0) (hlt : ∀ i, i < k → ∀ a, (tv i).ownBlock = some a → a < b0) :
    StepsO w' B V' (k + 1) (k + 1) ss (fun i => if i = k then t else tv i) := by
  have hl : cs.length = k * 4 := h1.1
  refine ⟨⟨_, hown, fun j hj => ?_⟩, fun j hj => ?_, fun i j hij hj a b ea eb => ?_⟩
  · try dsimp only
    by_cases e : j = k
    · subst e
      rw [if_pos rfl, hS]
      refine ⟨?_, ?_, ?_, ?_⟩
      · rw [List.getElem?_append_right (by omega), show j * 4 - cs.length = 0 by omega]; rfl
      · rw [List.getElem?_append_right (by omega), show j * 4 + 1 - cs.length = 1 by omega]; rfl
      · rw [List.getElem?_append_right (by omega), show j * 4 + 2 - cs.length = 2 by omega]; rfl
      · rw [List.getElem?_append_right (by omega), show j * 4 + 3 - cs.length = 3 by omega]; rfl
    · rw [if_neg e]
      obtain ⟨q0, q1, q2, q3⟩ := h2 j (by omega)
      exact ⟨(List.getElem?_append_left (by omega)).trans q0, (List.getElem?_append_left (by omega)).trans q1, (List.getElem?_append_left (by omega)).trans q2, (List.getElem?_append_left (by omega)).trans q3⟩
  · try dsimp only
    by_cases e : j = k
    · subst e
      rw [if_pos rfl, hS]
      exact (ht.base' hB).kept hg (ownsRow_apart ht h1 (Ne.symm step_ne_int))
    · rw [if_neg e]
      have := h3 j (by omega)
      exact this.kept hg (ownsRow_apart this h1 (Ne.symm step_ne_int))
  · have hik : i ≠ k := by omega
    simp only [if_neg hik] at ea
    by_cases e : j = k
    · subst e
      simp only [if_true] at eb
      have := hlt i hij a ea
      have := (ht.lt b eb).1
      omega
    · simp only [if_neg e] at eb
      exact h4 i j hij (by omega) a b ea eb

set_option maxRecDepth 100000 in
set_option maxHeartbeats 8000000 in
theorem ownS_any {w : World} {B0 : Nat} {V : Value} {ss : List St} {tv : Nat → Value} (h : StepsO w B0 V ss.length ss.length ss tv) (hn : ss.length ≤ 1000) (ht : ∀ j, j < ss.length → (ss.getD j default).taps.length ≤ 1000) :
    Calls Tryd.prog 34 #[V] w fun e w' => ∃ V' tv', e = .returned V' ∧ StepsO w' w.heap.size V' ss.length ss.length ss tv' ∧ Below w.heap.size w w' := by
  obtain ⟨i0, hi, hz0, hz1, hz2⟩ := info_parts' info_step
  have HA := Lib.hid (fun j (hj : j < ss.length) => h.at hj (Nat.le_refl _))
  obtain ⟨a, cap, rfl⟩ := h.form
  obtain ⟨L, hL⟩ : ∃ L, ss.length = L := ⟨_, rfl⟩
  rw [hL] at HA hn ht ⊢
  have HT := Lib.hid ht
  have HO : Hid (StepsO (w.alloc (.cells #[] 39)) w.heap.size (.slice (some ⟨w.heap.size, 0, none⟩) 0 0) 0 0 ss (fun _ => undef)) := ⟨⟨[], World.ownsRow_lit w #[] 0 (Nat.le_refl _) (by unfold maxLen; omega) rfl, fun j hj => by omega⟩, fun j hj => by omega, fun i j _ hj => by omega⟩
  have HG : Hid (Below w.heap.size w (w.alloc (.cells #[] 39))) := (Below.refl _ _).alloc (Nat.le_refl _) _
  clear h hL ht
  go_enter Tryd.func34, Tryd.ntmps34
  go_wp2
  go_loopw [3, 4] (fun v i wr => ∃ (k : Nat) (tv : Nat → Value), i = .int .i64 k ∧ k ≤ L ∧ StepsO wr w.heap.size v k k ss tv ∧ Below w.heap.size w wr) (fun _ i _ => L - (intOf i).toNat)
  case atStart => exact ⟨0, _, rfl, Nat.zero_le _, HO.out, HG.out⟩
  case round =>
    clear HO HG
    obtain ⟨k, tv', rfl, hk, hO, hB⟩ := hrel
    have HO := Lib.hid hO
    have HB := Lib.hid hB
    obtain ⟨av, cv, rfl⟩ := hO.form
    clear hO hB
    by_cases hlt : k < L
    · obtain ⟨g, cp, ta, tc, e, -, -, hgw, -, c0, c1, c2, c3, hr⟩ := HA.out k hlt
      simp only [Value.slice.injEq] at e
      obtain ⟨rfl, -, rfl⟩ := e
      have hlen := HT.out k hlt
      obtain ⟨S, hS⟩ : ∃ S, ss.getD k default = S := ⟨_, rfl⟩
      have HS := Lib.hid hS
      rw [hS] at c0 c1 c2 c3 hr hlen
      have hgr := HB.out
      rw [← hgr.cell (by exact hgw)] at c0 c1 c2 c3
      have hba : Below wr.heap.size wr (wr.alloc (.cells #[.int .i64 S.kind, .int .i64 S.n, .int .i64 S.k, .slice ta S.taps.length tc] 39)) := (Below.refl _ _).alloc (Nat.le_refl _) _
      have OW := Lib.hid (ownI_any (w := wr.alloc (.cells #[.int .i64 S.kind, .int .i64 S.n, .int .i64 S.k, .slice ta S.taps.length tc] 39)) (v := .slice ta S.taps.length tc) (zs := S.taps) (fun w' hb => hr.reads.keep (below_step' HB.out (below_step' hba hb hba.size) HB.out.size)) hlen)
      obtain ⟨T, hT⟩ : ∃ T, S.taps.length = T := ⟨_, rfl⟩
      rw [hT] at OW c3
      have HLT := Lib.hid hlt
      clear hS hr hlen hgr hba hT
      go_wp2_with fail
      with_reducible refine OW.out.mono ?_
      rintro e w2 ⟨u, rfl, hu, hb2⟩
      have hba : Below wr.heap.size wr (wr.alloc (.cells #[.int .i64 S.kind, .int .i64 S.n, .int .i64 S.k, .slice ta T tc] 39)) := (Below.refl _ _).alloc (Nat.le_refl _) _
      have hsa : (wr.alloc (.cells #[.int .i64 S.kind, .int .i64 S.n, .int .i64 S.k, .slice ta T tc] 39)).heap.size = wr.heap.size + 1 := by simp
      have hb12 : Below wr.heap.size wr w2 := below_step' hba hb2 hba.size
      have hne : u.ownBlock ≠ some wr.heap.size := fun e => by have := (hu.lt _ e).1; omega
      obtain ⟨ua, uc, rfl⟩ := hu.form
      have d0 : w2.cell? ⟨wr.heap.size, 0, none⟩ = some (.int .i64 S.kind) := by rw [hb2.cell (p := ⟨wr.heap.size, 0, none⟩) (by simp)]; go_simp
      have d1 : w2.cell? ⟨wr.heap.size, 1, none⟩ = some (.int .i64 S.n) := by rw [hb2.cell (p := ⟨wr.heap.size, 1, none⟩) (by simp)]; go_simp
      have d2 : w2.cell? ⟨wr.heap.size, 2, none⟩ = some (.int .i64 S.k) := by rw [hb2.cell (p := ⟨wr.heap.size, 2, none⟩) (by simp)]; go_simp
      have d3 : w2.cell? ⟨wr.heap.size, 3, none⟩ = some (.slice ta T tc) := by rw [hb2.cell (p := ⟨wr.heap.size, 3, none⟩) (by simp)]; go_simp
      have d4 : w2.frozen? ⟨wr.heap.size, 3, none⟩ = false := by rw [hb2.frozen (p := ⟨wr.heap.size, 3, none⟩) (by simp)]; go_simp
      have hbb := (hb12.setCell (p := ⟨wr.heap.size, 3, none⟩) (Nat.le_refl _) (.slice ua (ints S.taps).length uc)).alloc (by simp; exact hb12.size) (.cells #[.int .i64 S.kind, .int .i64 S.n, .int .i64 S.k, .slice ua (ints S.taps).length uc] 39)
      have O3 := HO.out.below hbb (Nat.le_refl _)
      have hrow := (hu.other (b := wr.heap.size) (j := 3) (.slice ua (ints S.taps).length uc) hne).alloc (.cells #[.int .i64 S.kind, .int .i64 S.n, .int .i64 S.k, .slice ua (ints S.taps).length uc] 39)
      obtain ⟨⟨cs, h1, h2⟩, h3, h4⟩ := O3
      have x0 : ∀ (j : Nat) (x : Value), ([.int .i64 S.kind, .int .i64 S.n, .int .i64 S.k, .slice ua (ints S.taps).length uc] : List Value)[j]? = some x → ((w2.setCell ⟨wr.heap.size, 3, none⟩ (.slice ua (ints S.taps).length uc)).alloc (.cells #[.int .i64 S.kind, .int .i64 S.n, .int .i64 S.k, .slice ua (ints S.taps).length uc] 39)).cell? ((⟨w2.heap.size, 0, none⟩ : Addr).add j) = some x := fun j x hx => by
        rw [show (⟨w2.heap.size, 0, none⟩ : Addr).add j = ⟨w2.heap.size, j, none⟩ by unfold Addr.add; split <;> simp_all]
        rcases j with _ | _ | _ | _ | j <;> simp at hx <;> subst hx <;> go_simp
      obtain ⟨WB, hWB⟩ : ∃ WB, (w2.setCell ⟨wr.heap.size, 3, none⟩ (.slice ua (ints S.taps).length uc)).alloc (.cells #[.int .i64 S.kind, .int .i64 S.n, .int .i64 S.k, .slice ua (ints S.taps).length uc] 39) = WB := ⟨_, rfl⟩
      rw [hWB] at hbb hrow h1 h3
      simp only [hWB] at x0
      have HX0 := Lib.hid x0
      have H1 := Lib.hid h1
      have hszB := hbb.size
      have HPUSH : Hid (∀ v' w3, w3.ownsRow w.heap.size 39 4 v' (k + 1) (cs ++ [.int .i64 S.kind, .int .i64 S.n, .int .i64 S.k, .slice ua (ints S.taps).length uc]) → WB.grownBy w3 (Value.slice av k cv).ownBlock →
          ∃ tv2, StepsO w3 w.heap.size v' (k + 1) (k + 1) ss tv2 ∧ Below w.heap.size w w3) := fun v' w3 ho hg => by
        refine ⟨_, StepsO.push h1 h2 h3 h4 HS.out ho hg hrow (by have := HB.out.size; omega) (fun i hi a ea => ?_), ?_⟩
        · have := ((HO.out.each i hi).lt a ea).2
          omega
        · exact (below_step' HB.out hbb HB.out.size).grown hg (Nat.le_trans HB.out.size hszB) (fun b e => (HO.out.lt b e).1)
      have HWB := Lib.hid hWB
      clear hba hsa hb12 hne hu hb2 hbb hrow h1 h2 h3 h4 x0 hWB
      have hone : ∀ x ∈ ([.int .i64 S.kind, .int .i64 S.n, .int .i64 S.k, .slice ua (ints S.taps).length uc] : List Value), x.oneCell' = true := by
        intro x hx
        simp only [List.mem_cons, List.mem_nil_iff, or_false] at hx
        rcases hx with rfl | rfl | rfl | rfl <;> rfl
      have HONE := Lib.hid hone
      have hk16 : k ≤ 1000 := by omega
      have hsw := HB.out.size
      clear hone
      go_wp2_with (at_builtin; rw [HWB.out]; refine wpList_append_own _ rfl _ _ 26 rfl w.heap.size 39 i0 _ 4 48 Tryd.underlying26 hi hz0 hz1 hz2 rfl (by decide) _ k cs rfl H1.out ⟨w2.heap.size, 0, none⟩ 1 1 [.int .i64 S.kind, .int .i64 S.n, .int .i64 S.k, .slice ua (ints S.taps).length uc] rfl rfl HX0.out HONE.out (by simp only [maxLen]; omega) (by omega) (by omega) ?_; intro v' w3 hown' hgrow _; obtain ⟨g', cap', rfl⟩ := ownsRow_succ hown'; obtain ⟨tv2, hO2, hB2⟩ := HPUSH.out _ _ hown' hgrow; have HO2 := Lib.hid hO2; have HB2 := Lib.hid hB2; clear hown' hgrow hO2 hB2)
      go_roundw
      case rel => exact ⟨k + 1, tv2, by go_num, HLT.out, HO2.out, HB2.out⟩
      case measure => have := HLT.out; simp [intOf]; omega
    · have e : k = L := by omega
      subst e
      go_wp2
      go_ret
      exact ⟨_, tv', rfl, HO.out, HB.out⟩

end Go.Proofs.YtajopgffnfahjaaDoor
/-
  Rows of steps that are appended to rows of steps.
-/
set_option linter.unusedVariables false
set_option linter.unusedSimpArgs false
namespace Go.Proofs.YtajopgffnfahjaaDoor
open Go.RowKit

theorem app_own {P : Program} {t e : TypeId} (hu : P.underlying t = some (.slice e)) (i : TypeInfo) (hi : P.info? e = some i) {z : Value} (hz : i.zero = some z) {size : Nat} (hsz : i.size = size) {bytes : Nat} (hby : i.bytes = bytes) (hb64 : bytes ≤ 64) (hzs : z.cells.size = size) (hpos : 0 < size) (ty : TypeId)
    {w : World} {B B2 n m : Nat} {v u : Value} {xs ys : List Value} (hv : w.ownsRow B e size v n xs) (hr : w.ownsRow B2 e size u m ys) (h1 : ∀ x ∈ ys, x.oneCell' = true) (hB : B ≤ w.heap.size) (hl : n + m ≤ 1000000) :
    ∃ v' w', (Builtin.append_ #[t, t] ty #[v, u]).run P w = .ok v' w' ∧ w'.ownsRow B e size v' (n + m) (xs ++ ys) ∧ w.grownBy w' v.ownBlock := by
  have hbb : (n + m) * bytes ≤ 140737488355328 := by
    have := Nat.mul_le_mul hl hb64
    omega
  have hyl : ys.length = m * size := hr.1
  rcases hr.2 with ⟨rfl, hm0⟩ | ⟨g, cap, cur, rfl, -, hg, hnc, -⟩
  · subst hm0
    have : ys = [] := List.eq_nil_of_length_eq_zero (by rw [hyl]; simp)
    subst this
    refine ⟨v, w, ?_, by simpa using hv, ⟨rfl, rfl, rfl, Nat.le_refl _, fun _ _ _ => rfl⟩⟩
    rcases hv.2 with ⟨rfl, h0'⟩ | ⟨g, cap', cur, rfl, -, hg, hnc, -⟩
    · simp [Builtin.append_, run_underlying hu, sizeOf, typeInfo, hi, Builtin.lenOf, Builtin.firstCells, loadCells, loadCellsFrom]
    · simp [Builtin.append_, run_underlying hu, sizeOf, typeInfo, hi, Builtin.lenOf, Builtin.firstCells, loadCells, loadCellsFrom, hnc, storeCells]
  · have hn : ∀ (j : Nat) (u : Value), ys[j]? = some u → w.cell? ((⟨g, 0, none⟩ : Addr).add j) = some u := by
      intro j u hu
      have hj : j < ys.length := (List.getElem?_eq_some_iff.1 hu).1
      rw [show (⟨g, 0, none⟩ : Addr).add j = ⟨g, j, none⟩ by unfold Addr.add; split <;> simp_all, World.ownsRow.cellAt hr j (by omega)]
      exact hu
    obtain ⟨v', w', e1, e2, e3, -⟩ := run_append_own (P := P) w B t ty e i z size bytes hu hi hz hsz hby hzs hpos v n xs hv ⟨g, 0, none⟩ m cap ys hyl hn h1
      (by simp only [maxLen]; omega) hbb hB
    exact ⟨v', w', e1, e2, e3⟩

theorem step_appO {P : Program} {ops : Array Oper} {o : Oper} {a : Act} {w : World} {K : Act → World → Prop} {Q : Exit → Act → World → Prop} {E : Prop} (hgd : o.guard = none) (s x : Operand) (t e : TypeId)
    (ho : o.op = .call { callee := .builtin .append, args := #[s, x], argTypes := #[t, t] })
    (hu : P.underlying t = some (.slice e)) (i : TypeInfo) (hi : P.info? e = some i) {z : Value} (hz : i.zero = some z) {size : Nat} (hsz : i.size = size) {bytes : Nat} (hby : i.bytes = bytes) (hb64 : bytes ≤ 64) (hzs : z.cells.size = size) (hpos : 0 < size)
    (B B2 n m : Nat) (v u : Value) (xs ys : List Value) (hs : a.eval s = v) (hx : a.eval x = u) (hv : w.ownsRow B e size v n xs) (hr : w.ownsRow B2 e size u m ys) (h1 : ∀ x ∈ ys, x.oneCell' = true) (hB : B ≤ w.heap.size) (hl : n + m ≤ 1000000)
    (h : ∀ v' w', w'.ownsRow B e size v' (n + m) (xs ++ ys) → w.grownBy w' v.ownBlock → K (a.put o.dst v') w') :
    if Region.wanted o (yielded ops a.tmps) = true then Oper.wp P o a w K Q else E := by
  have hw : Region.wanted o (yielded ops a.tmps) = true := by simp [Region.wanted, hgd]
  rw [if_pos hw]
  obtain ⟨v', w', hrun, h2, h3⟩ := app_own hu i hi hz hsz hby hb64 hzs hpos o.type hv hr h1 hB hl
  unfold Oper.wp execOp
  simp only [ho, resolve, invoke, builtin, Sem.run_bind, Sem.run_pure, Result.andThen_ok, List.map_toArray, List.map_cons, List.map_nil, hs, hx, hrun]
  exact h v' w' h2 h3

theorem Four.one {w : World} {B : Nat} {n : Nat} {ss : List St} {tv : Nat → Value} {cs : List Value} (hl : cs.length = n * 4) (h : Four cs n ss tv) (h3 : ∀ j, j < n → Row w B 2 (tv j) (ints (ss.getD j default).taps)) : ∀ x ∈ cs, x.oneCell' = true := by
  intro x hx
  obtain ⟨p, hp, rfl⟩ := List.getElem_of_mem hx
  obtain ⟨j, i, rfl, hi⟩ : ∃ j i, p = j * 4 + i ∧ i < 4 := ⟨p / 4, p % 4, by omega, by omega⟩
  have hj : j < n := by omega
  obtain ⟨q0, q1, q2, q3⟩ := h j hj
  have hget : cs[j * 4 + i]? = some cs[j * 4 + i] := List.getElem?_eq_getElem hp
  obtain ⟨ta, tc, et⟩ := (h3 j hj).form
  rcases i with _ | _ | _ | _ | i
  · have e := Option.some.inj (hget.symm.trans q0); rw [e]; rfl
  · have e := Option.some.inj (hget.symm.trans q1); rw [e]; rfl
  · have e := Option.some.inj (hget.symm.trans q2); rw [e]; rfl
  · have e := Option.some.inj (hget.symm.trans q3); rw [e, et]; rfl
  · omega

/-- Two rows of steps in one. -/
theorem StepsO.app {w w' : World} {B n m : Nat} {V V' : Value} {ss rs : List St} {tv tv2 : Nat → Value} (hn : ss.length = n) (hm : rs.length = m) {cs ds : List Value}
    (h1 : w.ownsRow B 39 4 V n cs) (h2 : Four cs n ss tv) (h3 : ∀ j, j < n → Row w B 2 (tv j) (ints (ss.getD j default).taps)) (h4 : ∀ i j, i < j → j < n → ∀ a b, (tv i).ownBlock = some a → (tv j).ownBlock = some b → a ≠ b)
    (k2 : Four ds m rs tv2) (k3 : ∀ j, j < m → Row w B 2 (tv2 j) (ints (rs.getD j default).taps)) (k4 : ∀ i j, i < j → j < m → ∀ a b, (tv2 i).ownBlock = some a → (tv2 j).ownBlock = some b → a ≠ b)
    (hd : ∀ i j, i < n → j < m → ∀ a b, (tv i).ownBlock = some a → (tv2 j).ownBlock = some b → a ≠ b)
    (hown : w'.ownsRow B 39 4 V' (n + m) (cs ++ ds)) (hg : w.grownBy w' V.ownBlock) :
    StepsO w' B V' (n + m) (n + m) (ss ++ rs) (fun i => if i < n then tv i else tv2 (i - n)) := by
  have hl : cs.length = n * 4 := h1.1
  have hD : ∀ i, (ss ++ rs).getD i default = if i < n then ss.getD i default else rs.getD (i - n) default := fun i => by rw [getD_app, hn]
  refine ⟨⟨_, hown, fun j hj => ?_⟩, fun j hj => ?_, fun i j hij hj a b ea eb => ?_⟩
  · try dsimp only
    rw [hD]
    by_cases e : j < n
    · rw [if_pos e, if_pos e]
      obtain ⟨q0, q1, q2, q3⟩ := h2 j e
      exact ⟨(List.getElem?_append_left (by omega)).trans q0, (List.getElem?_append_left (by omega)).trans q1, (List.getElem?_append_left (by omega)).trans q2, (List.getElem?_append_left (by omega)).trans q3⟩
    · rw [if_neg e, if_neg e]
      obtain ⟨q0, q1, q2, q3⟩ := k2 (j - n) (by omega)
      have key : ∀ i, (cs ++ ds)[j * 4 + i]? = ds[(j - n) * 4 + i]? := fun i => by
        rw [List.getElem?_append_right (by omega), show j * 4 + i - cs.length = (j - n) * 4 + i by omega]
      exact ⟨(key 0).trans q0, (key 1).trans q1, (key 2).trans q2, (key 3).trans q3⟩
  · try dsimp only
    rw [hD]
    by_cases e : j < n
    · rw [if_pos e, if_pos e]
      have := h3 j e
      exact this.kept hg (ownsRow_apart this h1 (Ne.symm step_ne_int))
    · rw [if_neg e, if_neg e]
      have := k3 (j - n) (by omega)
      exact this.kept hg (ownsRow_apart this h1 (Ne.symm step_ne_int))
  · try dsimp only at ea eb
    by_cases e : j < n
    · rw [if_pos e] at eb
      rw [if_pos (by omega)] at ea
      exact h4 i j hij e a b ea eb
    · rw [if_neg e] at eb
      by_cases e' : i < n
      · rw [if_pos e'] at ea
        exact hd i (j - n) e' (by omega) a b ea eb
      · rw [if_neg e'] at ea
        exact k4 (i - n) (j - n) (by omega) (by omega) a b ea eb


/-- Two rows of steps that share no taps. -/
structure TwoSteps (w : World) (B n m : Nat) (V U : Value) (ss rs : List St) (tv tv2 : Nat → Value) : Prop where
  one : StepsO w B V n n ss tv
  two : StepsO w B U m m rs tv2
  apart : ∀ i j, i < n → j < m → ∀ a b, (tv i).ownBlock = some a → (tv2 j).ownBlock = some b → a ≠ b

theorem TwoSteps.mk12 {w w' : World} {B B1 n m : Nat} {V U : Value} {ss rs : List St} {tv tv2 : Nat → Value} (h1 : StepsO w B1 V n n ss tv) (hB : B ≤ B1) (h2 : StepsO w' w.heap.size U m m rs tv2) (hb : Below w.heap.size w w') (hB2 : B1 ≤ w.heap.size) : TwoSteps w' B n m V U ss rs tv tv2 := by
  refine ⟨(h1.below hb (Nat.le_refl _)).base hB, h2.base (by omega), fun i j hi hj a b ea eb => ?_⟩
  have := ((h1.each i hi).lt a ea).2
  have := ((h2.each j hj).lt b eb).1
  omega
theorem TwoSteps.mk21 {w w' : World} {B B1 n m : Nat} {V U : Value} {ss rs : List St} {tv tv2 : Nat → Value} (h1 : StepsO w B1 U m m rs tv2) (hB : B ≤ B1) (h2 : StepsO w' w.heap.size V n n ss tv) (hb : Below w.heap.size w w') (hB2 : B1 ≤ w.heap.size) : TwoSteps w' B n m V U ss rs tv tv2 := by
  refine ⟨h2.base (by omega), (h1.below hb (Nat.le_refl _)).base hB, fun i j hi hj a b ea eb => ?_⟩
  have := ((h1.each j hj).lt b eb).2
  have := ((h2.each i hi).lt a ea).1
  omega

theorem TwoSteps.step {w : World} {B n m : Nat} {V U : Value} {ss rs : List St} {tv tv2 : Nat → Value} (h : TwoSteps w B n m V U ss rs tv tv2) (hn : ss.length = n) (hm : rs.length = m) (hB : B ≤ w.heap.size) (hl : n + m ≤ 1000)
    {ops : Array Oper} {o : Oper} {a : Act} {K : Act → World → Prop} {Q : Exit → Act → World → Prop} {E : Prop} (hgd : o.guard = none) (s x : Operand) (ho : o.op = .call { callee := .builtin .append, args := #[s, x], argTypes := #[26, 26] })
    (hs : a.eval s = V) (hx : a.eval x = U)
    (hk : ∀ a' cap w' tv', StepsO w' B (.slice a' (n + m) cap) (n + m) (n + m) (ss ++ rs) tv' → Below B w w' → K (a.put o.dst (.slice a' (n + m) cap)) w') :
    if Region.wanted o (yielded ops a.tmps) = true then Oper.wp Tryd.prog o a w K Q else E := by
  obtain ⟨i0, hi, hz0, hz1, hz2⟩ := info_parts' info_step
  obtain ⟨⟨cs, c1, c2⟩, c3, c4⟩ := h.one
  obtain ⟨⟨ds, d1, d2⟩, d3, d4⟩ := h.two
  refine step_appO hgd s x 26 39 ho Tryd.underlying26 i0 hi hz0 hz1 hz2 (by decide) rfl (by decide) B B n m V U cs ds hs hx c1 d1 (Four.one d1.1 d2 d3) hB (by omega) fun v' w' hown hg => ?_
  have hO := StepsO.app hn hm c1 c2 c3 c4 d2 d3 d4 h.apart hown hg
  obtain ⟨a', cap, rfl⟩ := hO.form
  exact hk a' cap w' _ hO ((Below.refl _ _).grown hg hB (fun b e => (ownsRow_lt c1 b e).1))

end Go.Proofs.YtajopgffnfahjaaDoor
/-
  JoinPlans of the model.
-/
set_option linter.unusedVariables false
set_option linter.unusedSimpArgs false
namespace Go.Proofs.YtajopgffnfahjaaDoor
open Go.RowKit

theorem validPl_taps {zs : List St} (hz : validPl zs = true) : ∀ i, i < zs.length → (zs.getD i default).taps.length ≤ 1000 := fun i hi => by
  simp only [validPl, Bool.and_eq_true] at hz
  refine valid_taps ?_
  rw [List.getD_eq_getElem?_getD, List.getElem?_eq_getElem hi]
  exact List.all_eq_true.1 hz.2 _ (List.getElem_mem _)
theorem validPl_eight {zs : List St} (hz : validPl zs = true) : zs.length ≤ 8 := by
  simp only [validPl, Bool.and_eq_true, decide_eq_true_eq] at hz
  exact hz.1

set_option maxRecDepth 100000 in
set_option maxHeartbeats 8000000 in
theorem joinPlans_spec {w : World} {B B2 : Nat} {V V2 : Value} {ss rs : List St} {tv tv2 : Nat → Value} (h : StepsO w B V ss.length ss.length ss tv) (h2 : StepsO w B2 V2 rs.length rs.length rs tv2) :
    Calls Tryd.prog 9 #[.agg #[V], .agg #[V2]] w (JoinTo (jCode ss rs) (jL ss rs) w) := by
  obtain ⟨a, cap, rfl⟩ := h.form
  obtain ⟨b, cap2, rfl⟩ := h2.form
  obtain ⟨W, hW⟩ : ∃ W, W = ((w.alloc (.cells #[.slice a ss.length cap] 28)).alloc (.cells #[.slice b rs.length cap2] 28)).alloc (.cells #[.slice none 0 0] 28) := ⟨_, rfl⟩
  have hs : W.heap.size = w.heap.size + 1 + 1 + 1 := by rw [hW]; simp
  have p0 : W.cell? ⟨w.heap.size, 0, none⟩ = some (.slice a ss.length cap) := by rw [hW]; go_simp
  have q0 : W.cell? ⟨w.heap.size + 1, 0, none⟩ = some (.slice b rs.length cap2) := by rw [hW]; go_simp
  have q1 : W.cell? ⟨w.heap.size + 1 + 1, 0, none⟩ = some (.slice none 0 0) := by rw [hW]; go_simp
  have q2 : W.frozen? ⟨w.heap.size + 1 + 1, 0, none⟩ = false := by rw [hW]; go_simp
  have hb0 : Below w.heap.size w W := by rw [hW]; exact (((Below.refl _ _).alloc (Nat.le_refl _) _).alloc (by simp) _).alloc (by simp; omega) _
  have HQ : Hid (∀ W', Below W.heap.size W W' → W'.cell? ⟨w.heap.size, 0, none⟩ = some (.slice a ss.length cap) ∧ W'.cell? ⟨w.heap.size + 1, 0, none⟩ = some (.slice b rs.length cap2) ∧ W'.cell? ⟨w.heap.size + 1 + 1, 0, none⟩ = some (.slice none 0 0) ∧ W'.frozen? ⟨w.heap.size + 1 + 1, 0, none⟩ = false) := fun W' hb =>
    ⟨(hb.cell (by show w.heap.size < W.heap.size; omega)).trans p0, (hb.cell (by show w.heap.size + 1 < W.heap.size; omega)).trans q0, (hb.cell (by show w.heap.size + 1 + 1 < W.heap.size; omega)).trans q1, (hb.frozen (by show w.heap.size + 1 + 1 < W.heap.size; omega)).trans q2⟩
  have C1 := l07Ok_any (b := w.heap.size) (h.below hb0 (Nat.le_refl _)) p0
  have C2 := fun (W' : World) (hb : Below W.heap.size W W') => l07Ok_any (b := w.heap.size + 1) (h2.below (below_step' hb0 hb hb0.size) (Nat.le_refl _)) (HQ.out W' hb).2.1
  have O1 := Lib.hid (fun (hv : validPl ss = true) (W' : World) (hb : Below W.heap.size W W') => ownS_any (h.below (below_step' hb0 hb hb0.size) (Nat.le_refl _)) (by have := validPl_eight hv; omega) (validPl_taps hv))
  have O2 := Lib.hid (fun (hv : validPl rs = true) (W' : World) (hb : Below W.heap.size W W') => ownS_any (h2.below (below_step' hb0 hb hb0.size) (Nat.le_refl _)) (by have := validPl_eight hv; omega) (validPl_taps hv))
  have H81 := Lib.hid (fun hv => validPl_eight (zs := ss) hv)
  have H82 := Lib.hid (fun hv => validPl_eight (zs := rs) hv)
  obtain ⟨D, hD⟩ : ∃ D, jCode ss rs = D := ⟨_, rfl⟩
  have HJ := Lib.hid hD
  obtain ⟨Z, hZ⟩ : ∃ Z, jL ss rs = Z := ⟨_, rfl⟩
  have HZ : Hid (Z = if D = 0 then ss ++ rs else []) := by rw [← hZ, ← hD]; exact Lib.hid rfl
  rw [hD, hZ]
  unfold jCode at hD
  obtain ⟨v1, hv1⟩ : ∃ v, validPl ss = v := ⟨_, rfl⟩
  obtain ⟨v2, hv2⟩ : ∃ v, validPl rs = v := ⟨_, rfl⟩
  rw [hv1] at C1 O1 H81 hD
  rw [hv2] at O2 H82 hD
  simp only [hv2] at C2
  obtain ⟨n, hn⟩ : ∃ n, ss.length = n := ⟨_, rfl⟩
  obtain ⟨m, hm⟩ : ∃ m, rs.length = m := ⟨_, rfl⟩
  rw [hn] at O1 H81 hD HQ hW
  rw [hm] at O2 H82 hD HQ hW
  have HN := Lib.hid hn
  have HM := Lib.hid hm
  have C1 := Lib.hid C1
  have C2 := Lib.hid C2
  have HD := Lib.hid hD
  have HB0 := Lib.hid hb0
  have HW := Lib.hid hW.symm
  have HS := Lib.hid hs
  rw [hn, hm]
  clear h h2 hs p0 q0 q1 q2 hb0 hW hD hZ hv1 hv2 hn hm HJ
  go_enter Tryd.func9, Tryd.ntmps9
  go_wp2_with fail
  rw [HW.out]
  with_reducible refine C1.out.mono ?_
  rintro e w1 ⟨rfl, hb1⟩
  obtain ⟨d0, d1, d2, d3⟩ := HQ.out w1 hb1
  have HB1 := Lib.hid hb1
  have C2' := Lib.hid (C2.out w1 hb1)
  clear hb1 C1 C2
  cases v1 with
  | false =>
    have e : D = 1 := by rw [← HD.out]; rfl
    subst e
    have EL : Z = [] := by rw [HZ.out]; rfl
    subst EL
    go_wp2
    (try simp only [Exit.inBlock, Exit.then])
    refine bodyPost_ret (res_cell_tmp rfl _ _ _ rfl (run_loadVar_mid _ _ _ _ [.slice none 0 0] _ ?_ Tryd.underlying28 rfl infoPlan)) rfl ?_
    · intro j v hv
      rcases j with _ | j <;> simp at hv <;> subst hv <;> go_simp
    · exact ⟨_, fun _ => undef, rfl, steps_nil _ _ _, (below_step' HB0.out HB1.out HB0.out.size).setCell (by show w.heap.size ≤ w.heap.size + 1 + 1; omega) _⟩
  | true =>
    go_wp2_with fail
    with_reducible refine C2'.out.mono ?_
    rintro e w2 ⟨rfl, hb2⟩
    have HB2 := Lib.hid (below_step' HB1.out hb2 HB1.out.size)
    obtain ⟨d0, d1, d2, d3⟩ := HQ.out w2 HB2.out
    clear hb2 C2'
    cases v2 with
    | false =>
      have e : D = 1 := by rw [← HD.out]; rfl
      subst e
      have EL : Z = [] := by rw [HZ.out]; rfl
      subst EL
      go_wp2
      (try simp only [Exit.inBlock, Exit.then])
      refine bodyPost_ret (res_cell_tmp rfl _ _ _ rfl (run_loadVar_mid _ _ _ _ [.slice none 0 0] _ ?_ Tryd.underlying28 rfl infoPlan)) rfl ?_
      · intro j v hv
        rcases j with _ | j <;> simp at hv <;> subst hv <;> go_simp
      · exact ⟨_, fun _ => undef, rfl, steps_nil _ _ _, (below_step' HB0.out HB2.out HB0.out.size).setCell (by show w.heap.size ≤ w.heap.size + 1 + 1; omega) _⟩
    | true =>
      have h8 := H81.out (by first | rfl | trivial)
      have h8' := H82.out (by first | rfl | trivial)
      have ew : IntKind.i64.wrap ((n : Int) + (m : Int)) = (n : Int) + (m : Int) := IntWalk.i64_in _ (by omega)
      by_cases h88 : 8 < n + m
      · have e : D = 3 := by rw [← HD.out]; simp only [Bool.and_self, if_true]; rw [if_pos h88]
        subst e
        have EL : Z = [] := by rw [HZ.out]; rfl
        subst EL
        have g8 : decide ((8 : Int) < (n : Int) + (m : Int)) = true := decide_eq_true (by omega)
        have g9 : (8 : Int) < (n : Int) + (m : Int) := by omega
        go_wp2
        (try simp only [Exit.inBlock, Exit.then])
        refine bodyPost_ret (res_cell_tmp rfl _ _ _ rfl (run_loadVar_mid _ _ _ _ [.slice none 0 0] _ ?_ Tryd.underlying28 rfl infoPlan)) rfl ?_
        · intro j v hv
          rcases j with _ | j <;> simp at hv <;> subst hv <;> go_simp
        · exact ⟨_, fun _ => undef, rfl, steps_nil _ _ _, (below_step' HB0.out HB2.out HB0.out.size).setCell (by show w.heap.size ≤ w.heap.size + 1 + 1; omega) _⟩
      · have e : D = 0 := by rw [← HD.out]; simp only [Bool.and_self, if_true]; rw [if_neg h88]
        subst e
        have EL : Hid (Z = ss ++ rs) := by rw [HZ.out]; exact Lib.hid rfl
        have g8 : decide ((8 : Int) < (n : Int) + (m : Int)) = false := decide_eq_false (by omega)
        have g9 : ¬ (8 : Int) < (n : Int) + (m : Int) := by omega
        have O1' := Lib.hid (O1.out (by first | rfl | trivial))
        have O2' := Lib.hid (O2.out (by first | rfl | trivial))
        have HLE : Hid (n + m ≤ 1000) := by show n + m ≤ 1000; omega
        have HD0 : Hid (Below W.heap.size W w2.drew) := below_draws HB2.out 1
        clear O1 O2 h8 h8' h88 H81 H82
        have hne1 : ¬ w.heap.size + 1 + 1 = w.heap.size := by omega
        have hne2 : ¬ w.heap.size = w.heap.size + 1 + 1 := by omega
        go_wp2_with fail
        go_region_held3 (fun w' => w'.cell? ⟨w.heap.size, 0, none⟩ = some (.slice a n cap) ∧ w'.cell? ⟨w.heap.size + 1, 0, none⟩ = some (.slice b m cap2))
          (first
            | exact ⟨d0, d1⟩
            | exact ⟨(HQ.out _ HP1.out).1, (HQ.out _ HP1.out).2.1⟩
            | exact ⟨(HQ.out _ HQ1.out).1, (HQ.out _ HQ1.out).2.1⟩
            | exact ⟨(HQ.out _ HE.out).1, (HQ.out _ HE.out).2.1⟩
            | exact ⟨(HQ.out _ HF.out).1, (HQ.out _ HF.out).2.1⟩
            | go_keep)
          (first
            | (go_at_call 34; first
                | ((with_reducible show Calls _ _ #[.slice a n cap] _ _); refine (O1'.out wq HQ1.out).mono ?_; rintro e wp ⟨VP, tP, rfl, hOP, hbp⟩; obtain ⟨pa, pc, rfl⟩ := hOP.form; have HE : Hid (Below W.heap.size W wp) := below_step' HQ1.out hbp HQ1.out.size; have H2S := Lib.hid (TwoSteps.mk21 HOQ.out HD0.out.size hOP hbp HQL.out); clear hbp hOP)
                | ((with_reducible show Calls _ _ #[.slice b m cap2] _ _); refine (O2'.out wp HP1.out).mono ?_; rintro e wq ⟨VQ, tQ, rfl, hOQ, hbq⟩; obtain ⟨qa, qc, rfl⟩ := hOQ.form; have HE : Hid (Below W.heap.size W wq) := below_step' HP1.out hbq HP1.out.size; have H2S := Lib.hid (TwoSteps.mk12 HOP.out HD0.out.size hOQ hbq HPL.out); clear hbq hOQ)
                | ((with_reducible show Calls _ _ #[.slice a n cap] _ _); refine (O1'.out w2.drew HD0.out).mono ?_; rintro e wp ⟨VP, tP, rfl, hOP, hbp⟩; obtain ⟨pa, pc, rfl⟩ := hOP.form; have HP1 : Hid (Below W.heap.size W wp) := below_step' HD0.out hbp HD0.out.size; have HPL := Lib.hid hbp.size; have HOP := Lib.hid hOP; clear hbp hOP)
                | ((with_reducible show Calls _ _ #[.slice b m cap2] _ _); refine (O2'.out w2.drew HD0.out).mono ?_; rintro e wq ⟨VQ, tQ, rfl, hOQ, hbq⟩; obtain ⟨qa, qc, rfl⟩ := hOQ.form; have HQ1 : Hid (Below W.heap.size W wq) := below_step' HD0.out hbq HD0.out.size; have HQL := Lib.hid hbq.size; have HOQ := Lib.hid hOQ; clear hbq hOQ)
                | fail)
            | (refine TwoSteps.step H2S.out HN.out HM.out HE.out.size HLE.out rfl _ _ rfl rfl rfl ?_; intro a3 c3 w3 tv3 hO3 hb3; have HF : Hid (Below W.heap.size W w3) := HE.out.trans hb3; have HO3 := Lib.hid hO3; obtain ⟨z0, z1, z2, z3⟩ := HQ.out _ HF.out; clear hO3 hb3)
            | fail)
        all_goals
          go_wp2
          (try simp only [Exit.inBlock, Exit.then])
          refine bodyPost_ret (res_cell_tmp rfl _ _ _ rfl (run_loadVar_mid _ _ _ _ [.slice a3 (n + m) c3] _ ?_ Tryd.underlying28 rfl infoPlan)) rfl ?_
          · intro j v hv
            rcases j with _ | j <;> simp at hv <;> subst hv <;> go_simp
          · refine ⟨_, tv3, rfl, ?_, (below_step' HB0.out HF.out HB0.out.size).setCell (by show w.heap.size ≤ w.heap.size + 1 + 1; omega) _⟩
            rw [EL.out, List.length_append, HN.out, HM.out]
            exact (HO3.out.other _ (by have := HS.out; omega)).base HB0.out.size

end Go.Proofs.YtajopgffnfahjaaDoor
