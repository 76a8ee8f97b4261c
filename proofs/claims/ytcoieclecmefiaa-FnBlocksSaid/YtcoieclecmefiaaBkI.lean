import Derived.Test.YtcoieclecmefiaaBkH
/-
  WindowedBlocks of the program, where the window is of ones.
-/
set_option linter.unusedVariables false
set_option linter.unusedSimpArgs false
namespace Go.Proofs.Ytcoieclecmefiaa
open Go.RowKit Flt Fast

set_option maxRecDepth 100000 in
set_option maxHeartbeats 4000000 in
theorem tw_any (xs : List C) (n : Nat) (hn : n ≤ 256) (z : Nat → Z) (v u : Value) (w : World) (hx : Reads w v (cvals xs)) (hl : xs.length = n) (hz : ∀ i, i < n → IsC (xs.getD i (0, 0)) (z i)) (hu : Reads w u (flts (ones n))) :
    Calls Try.prog 112 #[v, u] w fun e w' => ∃ t y, e = .returned t ∧ Row w' w.heap.size 26 t (cvals y) ∧ y.length = n ∧ (∀ i, i < n → IsC (y.getD i (0, 0)) (z i)) ∧ Below w.heap.size w w' := by
  obtain ⟨a, cap, rfl⟩ := cform hx
  rw [cvals_length, hl] at hx ⊢
  obtain ⟨a', cap', rfl⟩ := fl_form hu
  have ho : (ones n).length = n := List.length_replicate ..
  rw [flts_length, ho] at hu ⊢
  obtain ⟨v, hv⟩ : ∃ v, Value.slice a n cap = v := ⟨_, rfl⟩
  obtain ⟨u, hu2⟩ : ∃ u, Value.slice a' n cap' = u := ⟨_, rfl⟩
  rw [hv] at hx
  rw [hu2] at hu
  have hb0 : Below w.heap.size w ((w.alloc (.cells #[v] 24)).alloc (.cells #[u] 49)) := ((Below.refl _ _).alloc (Nat.le_refl _) _).alloc (by simp) _
  have F := Lib.hid (fun i w1 (hi : i < n) (hb : Below w.heap.size w w1) c0 c1 => tw1_any xs n i w.heap.size (w.heap.size + 1) (z i) v u w1 (hx.below hb) hl hi (hz i hi) (hu.below hb) c0 c1)
  have c0 : ((w.alloc (.cells #[v] 24)).alloc (.cells #[u] 49)).cell? ⟨w.heap.size, 0, none⟩ = some v := by go_simp
  have c1 : ((w.alloc (.cells #[v] 24)).alloc (.cells #[u] 49)).cell? ⟨w.heap.size + 1, 0, none⟩ = some u := by go_simp
  have hs : ((w.alloc (.cells #[v] 24)).alloc (.cells #[u] 49)).heap.size = w.heap.size + 2 := by simp
  have L := Lib.hid (listOf_cB 126 #[.pointer (some ⟨w.heap.size, 0, none⟩), .pointer (some ⟨w.heap.size + 1, 0, none⟩)] n (by omega) z ((w.alloc (.cells #[v] 24)).alloc (.cells #[u] 49)) enter_tw1
    (fun i w1 hi hb => F.out i w1 hi (below_step hb0 hb hb0.size) (by rw [hb.cell (by rw [hs]; show w.heap.size < _; omega)]; exact c0) (by rw [hb.cell (by rw [hs]; show w.heap.size + 1 < _; omega)]; exact c1)))
  have HB0 := Lib.hid hb0
  clear hx hz hu F c0 c1 hs hb0 hl ho
  subst hv hu2
  go_enter Try.func112, Try.ntmps112
  go_wp2_with fail
  refine L.out.mono ?_
  rintro e w2 ⟨t, y, rfl, h1, h2, h3, h4⟩
  have HX := Lib.hid (And.intro (h1.base HB0.out.size) (And.intro h2 (And.intro h3 (below_step HB0.out h4 HB0.out.size))))
  clear h1 h2 h3 h4 L
  go_wp2
  go_ret
  exact ⟨t, y, rfl, HX.out⟩

set_option maxRecDepth 100000 in
set_option maxHeartbeats 4000000 in
theorem btw1_any {V : Value} {vs : List Value} {bs : Nat → List C} {q : Nat → Nat → Z} {n : Nat} (hn : n ≤ 256) (k B0 B1 : Nat) (u : Value) (w : World) (h : LBlk w V vs bs q n) (hk : k < vs.length) (hu : Reads w u (flts (ones n))) (c0 : w.cell? ⟨B0, 0, none⟩ = some V) (c1 : w.cell? ⟨B1, 0, none⟩ = some u) :
    Calls Try.prog 111 #[.int .i64 k, .pointer (some ⟨B0, 0, none⟩), .pointer (some ⟨B1, 0, none⟩)] w fun e w2 => ∃ t y, e = .returned t ∧ Row w2 w.heap.size 26 t (cvals y) ∧ y.length = n ∧ (∀ i, i < n → IsC (y.getD i (0, 0)) (q k i)) ∧ Below w.heap.size w w2 := by
  obtain ⟨a, cap, rfl, hf⟩ := h.find
  obtain ⟨g, ab, cb, rfl, hg, hcell, hr, hbl, hz⟩ := hf k hk
  have T : Hid (∀ t : Nat, Calls Try.prog 112 #[.slice ab n cb, u] (w.drewN t) fun e w' => ∃ t y, e = .returned t ∧ Row w' w.heap.size 26 t (cvals y) ∧ y.length = n ∧ (∀ i, i < n → IsC (y.getD i (0, 0)) (q k i)) ∧ Below w.heap.size w w') := fun t =>
    (tw_any (bs k) n hn (q k) (.slice ab n cb) u (w.drewN t) (hr.below (below_draws (Below.refl _ _) t)) hbl hz (hu.below (below_draws (Below.refl _ _) t))).mono
      (fun e w' ⟨t', y, e1, e2, e3, e4, e5⟩ => ⟨t', y, e1, e2, e3, e4, ⟨e5.os, e5.tape, e5.output, e5.size, e5.block⟩⟩)
  obtain ⟨c, hc⟩ : ∃ c, vs.length = c := ⟨_, rfl⟩
  rw [hc] at c0 hk
  clear h hf hr hbl hz hu hc
  have HC1 := Lib.hid c1
  go_enter Try.func111, Try.ntmps111
  go_wp2_with fail
  go_region_law (go_simp; go_at_call 112; refine (T.out 1).mono ?_; rintro e w2 ⟨t, y, rfl, hx⟩; have HX := Lib.hid hx; clear hx)
  all_goals
    go_wp2
    go_ret
    exact ⟨t, y, rfl, HX.out⟩

set_option maxRecDepth 100000 in
set_option maxHeartbeats 4000000 in
theorem btw_any {V : Value} {vs : List Value} {bs : Nat → List C} {q : Nat → Nat → Z} {n : Nat} (hn : n ≤ 256) (u : Value) (w : World) (h : LBlk w V vs bs q n) (hvs : vs.length ≤ 64) (hu : Reads w u (flts (ones n))) :
    Calls Try.prog 87 #[V, u] w fun e w' => ∃ V' vs' bs', e = .returned V' ∧ Made w' w.heap.size n V' vs' bs' q ∧ vs'.length = vs.length ∧ Below w.heap.size w w' := by
  obtain ⟨a, cap, hV, -⟩ := h.find
  obtain ⟨a', cap', hU⟩ := fl_form hu
  have ho : (ones n).length = n := List.length_replicate ..
  rw [flts_length, ho] at hU
  obtain ⟨c, hc⟩ : ∃ c, vs.length = c := ⟨_, rfl⟩
  have F := Lib.hid (fun i w1 (hi : i < c) (hb : Below w.heap.size w w1) c0 c1 => btw1_any hn i w.heap.size (w.heap.size + 1) u w1 (h.below hb) (by rw [hc]; exact hi) (hu.below hb) c0 c1)
  rw [hc] at hV hvs ⊢
  clear h hu ho hc
  have hb0 : Below w.heap.size w ((w.alloc (.cells #[V] 59)).alloc (.cells #[u] 49)) := ((Below.refl _ _).alloc (Nat.le_refl _) _).alloc (by simp) _
  have c0 : ((w.alloc (.cells #[V] 59)).alloc (.cells #[u] 49)).cell? ⟨w.heap.size, 0, none⟩ = some V := by go_simp
  have c1 : ((w.alloc (.cells #[V] 59)).alloc (.cells #[u] 49)).cell? ⟨w.heap.size + 1, 0, none⟩ = some u := by go_simp
  have hs : ((w.alloc (.cells #[V] 59)).alloc (.cells #[u] 49)).heap.size = w.heap.size + 2 := by simp
  have L := Lib.hid (listOf_rowsM 111 #[.pointer (some ⟨w.heap.size, 0, none⟩), .pointer (some ⟨w.heap.size + 1, 0, none⟩)] c n (by omega) q ((w.alloc (.cells #[V] 59)).alloc (.cells #[u] 49)) enter_btw1
    (fun i w1 hi hb => F.out i w1 hi (below_step hb0 hb hb0.size) (by rw [hb.cell (by rw [hs]; show w.heap.size < _; omega)]; exact c0) (by rw [hb.cell (by rw [hs]; show w.heap.size + 1 < _; omega)]; exact c1)))
  have HB0 := Lib.hid hb0
  clear F c0 c1 hs hb0
  subst hV hU
  go_enter Try.func87, Try.ntmps87
  go_wp2_with fail
  refine L.out.mono ?_
  rintro e w2 ⟨V', vs', bs', rfl, hm, h2, h4⟩
  have HM : Hid (Made w2 w.heap.size n V' vs' bs' q) := ⟨hm.row.base HB0.out.size, fun b hb => ⟨(hm.each b hb).1.base HB0.out.size, (hm.each b hb).2⟩⟩
  have HX := Lib.hid (And.intro h2 (below_step HB0.out h4 HB0.out.size))
  clear hm h2 h4 L
  go_wp2
  go_ret
  exact ⟨V', vs', bs', rfl, HM.out, HX.out⟩

set_option maxRecDepth 100000 in
set_option maxHeartbeats 4000000 in
theorem windowed_impl (xs : List C) (hw : WfC xs) (n h : Nat) (hh : 1 ≤ h ∧ h ≤ n) (hn : n ≤ 256) (hL : xs.length ≤ 64) (v u : Value) (w : World) (hv : Reads w v (cvals xs)) (hu : Reads w u (flts (ones n))) :
    Calls Try.prog 40 #[v, u, .int .i64 h] w (BlkTo n (blkQ xs h) (cntR xs.length n h) w) := by
  have B := Lib.hid (blocksOf_impl xs hw n h hh hn hL v w hv)
  obtain ⟨c, hc, hcl, hcL⟩ := cnt_facts xs.length n h hh
  rw [hc] at B ⊢
  have hc64 : c ≤ 64 := by omega
  have T := Lib.hid (fun V vs bs (w2 : World) (hb : Below w.heap.size w w2) (hm : LBlk w2 V vs bs (blkQ xs h) n) (hl : vs.length ≤ 64) => btw_any hn u w2 hm hl (hu.below hb))
  obtain ⟨a, cap, rfl⟩ := fl_form hu
  have ho : (ones n).length = n := List.length_replicate ..
  rw [flts_length, ho] at T ⊢
  obtain ⟨q, hq⟩ : ∃ q, blkQ xs h = q := ⟨_, rfl⟩
  rw [hq] at B T ⊢
  clear hv hu hw hc hcl ho hq
  go_enter Try.func40, Try.ntmps40
  go_wp2_with fail
  refine B.out.mono ?_
  rintro e w2 ⟨V, vs, bs, rfl, hm, hl, hb⟩
  have HB := Lib.hid hb
  have T2 := Lib.hid (T.out V vs bs w2 hb hm.lblk (by omega))
  have hl2 : vs.length = c := by omega
  have HL := Lib.hid hl2
  clear hm hl hb T B hl2
  go_wp2_with fail
  refine T2.out.mono ?_
  rintro e w3 ⟨V', vs', bs', rfl, hm, hl, hb⟩
  have HM : Hid (Made w3 w.heap.size n V' vs' bs' q) := ⟨hm.row.base HB.out.size, fun b hb => ⟨(hm.each b hb).1.base HB.out.size, (hm.each b hb).2⟩⟩
  have HX : Hid ((vs'.length : Int) = c) := by have := HL.out; show (vs'.length : Int) = c; omega
  have HB3 := Lib.hid (below_step HB.out hb HB.out.size)
  clear hm hl hb T2 HL HB
  go_wp2
  go_ret2
  exact ⟨V', vs', bs', rfl, HM.out, HX.out, HB3.out⟩

end Go.Proofs.Ytcoieclecmefiaa
