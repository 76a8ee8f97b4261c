import Derived.Test.YtnbmbegjpkebmaaCvI
import Derived.Test.YtnbmbegjpkebmaaBig
/-
  slices.Concat of two signals.
-/
set_option linter.unusedVariables false
set_option linter.unusedSimpArgs false
namespace Go.Proofs.Ytnbmbegjpkebmaa
open Go.RowKit Flt Fast

theorem run_app_zeros {P : Program} {w : World} (t u ty e : TypeId) (i : TypeInfo) (z : Value) (ht : P.underlying t = some (.slice e)) (hu : P.underlying u = some (.int .i64)) (hi : P.info? e = some i) (hz : i.zero = some z) (hsz : i.size = 1) (hby : i.bytes = 16)
    (n : Nat) (h0 : 0 < n) (h1 : n ≤ 1000000) :
    (Builtin.append_ #[t, u] ty #[.slice none 0 0, .int .i64 n]).run P w =
      .ok (.slice (some ⟨w.heap.size, 0, none⟩) n (grownCap w n 0 e)) (w.drew.alloc (.cells (Builtin.zeroCells z.cells n ++ Builtin.zeroCells z.cells (grownCap w n 0 e - n)) e)) := by
  have hn : n ≠ 0 := by omega
  have h63' : ¬ (9223372036854775807 < (n : Int)) := by omega
  have h48' : ¬ (281474976710656 < Builtin.nextslicecap n 0 * i.bytes) := by rw [nextslicecap_zero h0, hby]; omega
  have h48'' : ¬ (281474976710656 < (n : Int) * (i.bytes : Int)) := by rw [hby]; omega
  have hw : IntKind.i64.wrap (n : Int) = (n : Int) := IntWalk.i64_in _ (by omega)
  have hneg : ¬ ((n : Int) < 0) := by omega
  have hle : ¬ ((n : Int) ≤ 0) := by omega
  have hmax : max (n : Int) 0 = (n : Int) := by omega
  simp [Builtin.append_, run_underlying ht, run_underlying hu, sizeOf, typeInfo, zeroValue, hi, hz, Builtin.lenOf, hn, h63', h48', h48'', hw, hneg, hsz, Question.forced, run_firstCells_none, newRow, grownCap, asInt, asIntOf, hle, hmax]

theorem row_room (w : World) (n : Nat) (cur : Array Value) (e : TypeId) (cap : Nat) (hcur : cur.size = cap) (hcap : cap ≤ maxLen) :
    Row (w.drew.alloc (.cells cur e)) w.heap.size e (.slice (some ⟨w.heap.size, 0, none⟩) 0 cap) [] :=
  ⟨by simp, .inr ⟨w.heap.size, cap, cur, rfl, Nat.le_refl _, World.alloc_heap_new w.drew _, Nat.zero_le _, hcap, by simpa using hcur, by simp⟩⟩

theorem under_int : Try.prog.underlying 3 = some (.int .i64) := by kernel_rfl

theorem wpList_zeros {P : Program} {w : World} {ops : Array Oper} {rest : List Oper} {o : Oper} {a : Act} {Q : Exit → Act → World → Prop} (hw : Region.wanted o (yielded ops a.tmps) = true) (s x : Operand)
    (ho : o.op = .call { callee := .builtin .append, args := #[s, x], argTypes := #[24, 3] }) (v u v' : Value) (w' : World) (hs : a.eval s = v) (hx : a.eval x = u)
    (hrun : ∀ ty, (Builtin.append_ #[24, 3] ty #[v, u]).run P w = .ok v' w') (h : wpList P ops Q rest (a.put o.dst v') w') : wpList P ops Q (o :: rest) a w := by
  refine BigFrame.wpList_want hw fun K hK => ?_
  unfold Oper.wp execOp
  simp only [ho, resolve, invoke, builtin, Sem.run_bind, Sem.run_pure, Result.andThen_ok, List.map_toArray, List.map_cons, List.map_nil, hs, hx, hrun]
  exact hK _ _ h

set_option maxRecDepth 100000 in
set_option maxHeartbeats 4000000 in
theorem grow_any (n : Nat) (hn : n ≤ 1000000) (w : World) :
    Calls Try.prog 54 #[.slice none 0 0, .int .i64 n] w fun e w' => ∃ a cap, e = .returned (.slice a 0 cap) ∧ Row w' w.heap.size 32 (.slice a 0 cap) (cvals []) ∧ Below w.heap.size w w' := by
  obtain ⟨i0, hi, hz0, hz1, hz2⟩ := info_parts info_c128
  by_cases h0 : n = 0
  · subst h0
    go_enter Try.func54, Try.ntmps54
    go_wp2
    go_ret
    exact ⟨none, 0, rfl, World.ownsRow_nil _ _ _ _, Below.refl _ _⟩
  · have hpos : decide ((0 : Int) < (n : Int)) = true := decide_eq_true (by omega)
    have hrun : ∀ (W : World) (ty : TypeId), (Builtin.append_ #[24, 3] ty #[.slice none 0 0, .int .i64 (n : Int)]).run Try.prog W = .ok (.slice (some ⟨W.heap.size, 0, none⟩) n (grownCap W n 0 32)) (W.drew.alloc (.cells (Builtin.zeroCells (Value.complex .f64 0 0).cells n ++ Builtin.zeroCells (Value.complex .f64 0 0).cells (grownCap W n 0 32 - n)) 32)) := fun W ty =>
      run_app_zeros _ _ ty _ i0 _ Try.underlying24 under_int hi hz0 hz1 hz2 n (by omega) hn
    have hge := grownCap_ge w n 0 32
    have hmx := grownCap_le_maxLen w n 0 32 (by simp only [maxLen]; omega)
    have HFin : Hid (Row (w.drew.alloc (.cells (Builtin.zeroCells (Value.complex .f64 0 0).cells n ++ Builtin.zeroCells (Value.complex .f64 0 0).cells (grownCap w n 0 32 - n)) 32)) w.heap.size 32 (.slice (some ⟨w.heap.size, 0, none⟩) 0 (grownCap w n 0 32)) (cvals []) ∧
        Below w.heap.size w (w.drew.alloc (.cells (Builtin.zeroCells (Value.complex .f64 0 0).cells n ++ Builtin.zeroCells (Value.complex .f64 0 0).cells (grownCap w n 0 32 - n)) 32))) :=
      ⟨row_room w n _ _ _ (by rw [Array.size_append, size_zeroCells, size_zeroCells]; simp [Value.cells]; omega) hmx, (below_draws (Below.refl _ _) 1).alloc (Nat.le_refl _) _⟩
    obtain ⟨cap, hcap⟩ : ∃ c, grownCap w n 0 32 = c := ⟨_, rfl⟩
    have hrun1 := hrun w
    rw [hcap] at hrun1 HFin hge hmx
    obtain ⟨W1, hW1⟩ : ∃ W1, w.drew.alloc (.cells (Builtin.zeroCells (Value.complex .f64 0 0).cells n ++ Builtin.zeroCells (Value.complex .f64 0 0).cells (cap - n)) 32) = W1 := ⟨_, rfl⟩
    rw [hW1] at hrun1 HFin
    clear hrun hcap hW1
    go_enter Try.func54, Try.ntmps54
    go_wp2_with (at_builtin; refine wpList_zeros rfl _ _ rfl _ _ _ _ rfl rfl hrun1 ?_)
    go_ret
    exact ⟨_, cap, rfl, HFin.out.1, HFin.out.2⟩

set_option maxRecDepth 100000 in
set_option maxHeartbeats 4000000 in
/-- Two signals, one behind the other. -/
theorem concat_any (x y : List C) (v1 v2 : Value) (hl : x.length + y.length ≤ 1000000) (g : Nat) (w : World) (hrx : RdO w.heap.size w v1 x) (hry : RdO w.heap.size w v2 y) (hg : g < w.heap.size)
    (hc0 : w.cell? ⟨g, 0, none⟩ = some v1) (hc1 : w.cell? ⟨g, 1, none⟩ = some v2) :
    Calls Try.prog 34 #[.slice (some ⟨g, 0, none⟩) 2 2] w fun e w' => ∃ v, e = .returned v ∧ Row w' w.heap.size 32 v (cvals (x ++ y)) ∧ Below w.heap.size w w' := by
  obtain ⟨i0, hi, hz0, hz1, hz2⟩ := info_parts info_c128
  have HRX := Lib.hid hrx
  have HRY := Lib.hid hry
  obtain ⟨a1, c1, e1, -, -, -⟩ := hrx.find
  obtain ⟨a2, c2, e2, -, -, -⟩ := hry.find
  subst e1
  subst e2
  clear hrx hry
  have hl0 : x.length ≤ 1000000 := by omega
  have HG := Lib.hid (fun w => grow_any (x.length + y.length) hl w)
  have n1 : ((x.length : Int) + (y.length : Int) < 0) = False := by first | (simp; done) | (simp; omega)
  have n2 : ((x.length : Int) < 0) = False := by first | (simp; done) | (simp; omega)
  have hsum : (x.length : Int) + (y.length : Int) = ((x.length + y.length : Nat) : Int) := by omega
  have HSUM := Lib.hid hsum
  clear hsum
  go_enter Try.func34, Try.ntmps34
  go_wp2
  refine wp_loop_rounds 3 ?_
  rw [rounds_succ]
  go_wp2
  rw [rounds_succ]
  go_wp2
  rw [rounds_succ]
  go_wp2_with fail
  rw [HSUM.out]
  with_reducible refine (HG.out _).mono ?_
  rintro e w1 ⟨b, cb, rfl, hr, hb⟩
  have hx1 := (HRX.out.below hb).rdC hb.size
  have hy1 := (HRY.out.below hb)
  have d0 : w1.cell? ⟨g, 0, none⟩ = some (.slice a1 x.length c1) := by rw [hb.cell hg]; exact hc0
  have d1 : w1.cell? ⟨g, 1, none⟩ = some (.slice a2 y.length c2) := by rw [hb.cell hg]; exact hc1
  have HR1 := Lib.hid hr
  have HX1 := Lib.hid hx1
  have HB1 := Lib.hid hb
  have hs1 := hb.size
  clear hr hb hx1 hy1 hc0 hc1
  go_wp2
  refine wp_loop_rounds 3 ?_
  rw [rounds_succ]
  go_wp2_with (at_builtin; refine wpList_app rfl _ _ rfl Try.underlying24 i0 hi hz0 hz1 hz2 w.heap.size _ _ [] x rfl rfl HR1.out HX1.out hs1 (by simp; omega) ?_; intro v' w2 hr2 hg2; obtain ⟨e1, e2, rfl⟩ := hr2.written rfl; have hb2 : Below w.heap.size w w2 := HB1.out.grown hg2 hs1 (fun k e => (HR1.out.lt k e).1); have hs2 := hb2.size; have HY2 := Lib.hid ((HRY.out.below hb2).rdC hs2); have HR2 := Lib.hid hr2; have HB2 := Lib.hid hb2; have d2 : w2.cell? ⟨g, 1, none⟩ = some (.slice a2 y.length c2) := (by rw [hb2.cell hg, ← HB1.out.cell hg]; exact d1); clear hr2 hg2 hb2)
  rw [rounds_succ]
  go_wp2_with (at_builtin; refine wpList_app rfl _ _ rfl Try.underlying24 i0 hi hz0 hz1 hz2 w.heap.size _ _ ([] ++ x) y rfl rfl HR2.out HY2.out hs2 (by simp; omega) ?_; intro v' w3 hr3 hg3; obtain ⟨e3, e4, rfl⟩ := hr3.written rfl; have HB3 := Lib.hid (HB2.out.grown hg3 hs2 (fun k e => (HR2.out.lt k e).1)); have HR3 := Lib.hid hr3; clear hr3 hg3)
  rw [rounds_succ]
  go_wp2
  go_ret
  exact ⟨_, rfl, HR3.out, HB3.out⟩

end Go.Proofs.Ytnbmbegjpkebmaa
