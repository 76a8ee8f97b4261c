import Derived.Test.YtdefhmpmgcahpaaDoorStpZ
import Derived.Test.YtdefhmpmgcahpaaDoorBlsZ
import Derived.Deep.MidRow
/-
  toInt64S, toStep: copies of what came in.
-/
set_option linter.unusedVariables false
set_option linter.unusedSimpArgs false
namespace Go.Proofs.YtdefhmpmgcahpaaDoor
open Go.RowKit

theorem info_i64 : (Tryd.prog.info? 2).map (fun i => (i.zero, i.size, i.bytes)) = some (some (.int .i64 0), 1, 8) := by kernel_rfl
theorem info_parts' {e : TypeId} {z : Value} {s b : Nat} (h : (Tryd.prog.info? e).map (fun i => (i.zero, i.size, i.bytes)) = some (some z, s, b)) : ∃ i, Tryd.prog.info? e = some i ∧ i.zero = some z ∧ i.size = s ∧ i.bytes = b := by
  cases h' : Tryd.prog.info? e with
  | none => rw [h'] at h; cases h
  | some i =>
    rw [h'] at h
    simp only [Option.map_some, Option.some.injEq, Prod.mk.injEq] at h
    exact ⟨i, rfl, h.1, h.2.1, h.2.2⟩

theorem ints_snoc (zs : List Int) (a : Int) : ints (zs ++ [a]) = ints zs ++ [.int .i64 a] := by simp [ints]
theorem fillI_step {zs : List Int} {n k : Nat} (hk : k < n) (hz : n ≤ zs.length) :
    (ints (zs.take k) ++ List.replicate (n - k) (Value.int .i64 0)).set k (.int .i64 (zs.getD k 0)) = ints (zs.take (k + 1)) ++ List.replicate (n - (k + 1)) (Value.int .i64 0) := by
  have hl : (ints (zs.take k)).length = k := by rw [ints_length, List.length_take]; omega
  rw [List.set_append_right _ _ (by omega), hl, Nat.sub_self]
  obtain ⟨m, hm⟩ : ∃ m, n - k = m + 1 := ⟨n - k - 1, by omega⟩
  rw [hm, List.replicate_succ, List.set_cons_zero, show n - (k + 1) = m by omega, List.take_add_one]
  have e : zs[k]?.toList = [zs.getD k 0] := by simp [List.getD, show k < zs.length by omega]
  rw [e, ints_snoc, List.append_assoc]
  rfl
theorem grown_newI {w w1 w2 : World} {row : Option Nat} {B : Nat} (h : w.grownBy w1 row) (k : w1.grownBy w2 (some B)) (hB : w.heap.size ≤ B) : w.grownBy w2 row :=
  ⟨k.os.trans h.os, k.tape.trans h.tape, k.output.trans h.output, Nat.le_trans h.size k.size, fun j hj hr => (k.block j (Nat.lt_of_lt_of_le hj h.size) (by simp; omega)).trans (h.block j hj hr)⟩
theorem below_new {w w1 : World} (h : w.grownBy w1 none) : Below w.heap.size w w1 := (Below.refl _ _).grown h (Nat.le_refl _) (fun b e => by cases e)

set_option maxRecDepth 100000 in
set_option maxHeartbeats 4000000 in
theorem toInt64_any {v : Value} {zs : List Int} {w : World} (h : IntsIn w v zs) (hl : zs.length ≤ 1048576) :
    Calls Tryd.prog 114 #[v] w fun e w' => ∃ u, e = .returned u ∧ Row w' w.heap.size 2 u (ints zs) ∧ w.grownBy w' none := by
  obtain ⟨i0, hi, hz0, hz1, hz2⟩ := info_parts' info_i64
  cases h with
  | nil a cap =>
    go_enter Tryd.func114, Tryd.ntmps114
    go_wp2_with (at_make; refine wpList_make_full _ rfl _ _ 34 rfl w.heap.size 2 i0 (.int .i64 0) 1 Tryd.underlying34 hi hz0 hz1 .i64 .i64 _ _ 0 rfl rfl rfl rfl (by rw [hz2]; omega) (by simp only [maxLen]; omega) (Nat.le_refl _) ?_)
    intro w1 hown hg1
    rw [toList_madeCells_one] at hown
    have HO : Hid (Row w1 w.heap.size 2 (.slice (some ⟨w.heap.size, 0, none⟩) 0 0) []) := by
      show w1.ownsRow _ _ _ _ _ _
      simpa using hown
    have HG := Lib.hid hg1
    clear hown hg1 hi hz0 hz1 hz2
    go_wp2
    refine wp_loop_rounds 1 ?_
    rw [rounds_succ]
    go_wp2
    go_ret
    exact ⟨_, rfl, HO.out, HG.out⟩
  | row x cap L zs hL h0 hc hm hb hh =>
    have hxb := hb
    have hmax := maxLen_int (Nat.le_trans hc hm)
    have HC := Lib.hid hh
    have HL := Lib.hid hL
    have hLb : L ≤ 1048576 := by omega
    clear hh hb hL hl hm
    go_enter Tryd.func114, Tryd.ntmps114
    go_wp2_with (at_make; refine wpList_make_full _ rfl _ _ 34 rfl w.heap.size 2 i0 (.int .i64 0) 1 Tryd.underlying34 hi hz0 hz1 .i64 .i64 _ _ L rfl rfl rfl rfl (by rw [hz2]; omega) (by simp only [maxLen]; omega) (Nat.le_refl _) ?_)
    intro w1 hown hg1
    rw [toList_madeCells_one] at hown
    have HO : Hid (Row w1 w.heap.size 2 (.slice (some ⟨w.heap.size, 0, none⟩) L L) (List.replicate L (.int .i64 0))) := by
      show w1.ownsRow _ _ _ _ _ _
      simpa using hown
    have HG := Lib.hid hg1
    clear hown hg1 hi hz0 hz1 hz2
    have hzl : zs.length = L := HL.out
    go_wp2
    go_loopw [4] (fun i wr => ∃ k : Nat, i = .int .i64 k ∧ k ≤ L ∧ Row wr w.heap.size 2 (.slice (some ⟨w.heap.size, 0, none⟩) L L) (ints (zs.take k) ++ List.replicate (L - k) (.int .i64 0)) ∧ w.grownBy wr none) (fun i _ => L - (intOf i).toNat)
    case atStart => exact ⟨0, rfl, Nat.zero_le _, HO.out, HG.out⟩
    case round =>
      obtain ⟨k, rfl, hk, hr, hg⟩ := hrel
      by_cases hlt : k < L
      · have hx1 : wr.cell? (x.add k) = some (.int .i64 (zs.getD k 0)) := by
          rw [← HC.out k hlt]
          exact World.cell?_of_block (hg.block (x.add k).block (by rw [addr_block]; exact hxb) (by simp))
        have hS := hr.set k (.int .i64 (zs.getD k 0))
        rw [fillI_step hlt (by omega)] at hS
        have c1 := hr.cellAt hlt
        have f1 := hr.frozenAt k
        obtain ⟨u, hu⟩ : ∃ u, (ints (zs.take k) ++ List.replicate (L - k) (Value.int .i64 0)).getD k undef = u := ⟨_, rfl⟩
        rw [hu] at c1
        have hg2 := grown_newI hg hS.2 (Nat.le_refl _)
        obtain ⟨z, hzz⟩ : ∃ z, zs.getD k 0 = z := ⟨_, rfl⟩
        rw [hzz] at hx1 hS hg2
        have HS := Lib.hid hS.1
        have HG2 := Lib.hid hg2
        clear hS hg2 hu hzz hr hg
        go_wp2
        go_roundw
        case rel => exact ⟨k + 1, by go_num, by omega, HS.out, HG2.out⟩
        case measure => simp [intOf]; omega
      · have e : k = L := by omega
        subst e
        have HR := Lib.hid hr
        have HG2 := Lib.hid hg
        clear hr hg
        go_wp2
        go_ret
        refine ⟨_, rfl, ?_, HG2.out⟩
        have := HR.out
        rwa [Nat.sub_self, List.replicate_zero, List.append_nil, List.take_of_length_le (by omega)] at this

/-- The cells of a step. -/
def stCells (s : St) (tv : Value) : List Value := [.int .i64 s.kind, .int .i64 s.n, .int .i64 s.k, tv]
/-- A step whose taps lie in a row of the call's own. -/
def StepO (w : World) (B : Nat) (v : Value) (s : St) (tv : Value) : Prop := v = .agg #[.int .i64 s.kind, .int .i64 s.n, .int .i64 s.k, tv] ∧ Row w B 2 tv (ints s.taps)

theorem IntsIn.form {w : World} {v : Value} {zs : List Int} (h : IntsIn w v zs) : ∃ a cap, v = .slice a zs.length cap ∧ zs.length ≤ 9223372036854775807 := by
  cases h with
  | nil a cap => exact ⟨a, cap, rfl, by simp⟩
  | row x cap L zs hL h0 hc hm hb hh => exact ⟨_, cap, by rw [hL], by unfold maxLen at hm; omega⟩
theorem Row.form {w : World} {B : Nat} {e : TypeId} {v : Value} {cs : List Value} (h : Row w B e v cs) : ∃ a cap, v = .slice a cs.length cap := by
  rcases h.shape with ⟨a, cap, rfl, rfl⟩ | ⟨g, cap, rfl, _⟩
  · exact ⟨a, cap, rfl⟩
  · exact ⟨_, cap, rfl⟩

theorem Row.base' {w : World} {B B' : Nat} {e : TypeId} {v : Value} {cs : List Value} (h : Row w B' e v cs) (hB : B ≤ B') : Row w B e v cs := by
  refine ⟨h.1, ?_⟩
  rcases h.2 with hn | ⟨g, cap, cur, rfl, hb, rest⟩
  · exact .inl hn
  · exact .inr ⟨g, cap, cur, rfl, Nat.le_trans hB hb, rest⟩
theorem Row.other {w : World} {B : Nat} {e : TypeId} {v : Value} {cs : List Value} (h : Row w B e v cs) {b j : Nat} (u : Value) (hne : v.ownBlock ≠ some b) : Row (w.setCell ⟨b, j, none⟩ u) B e v cs :=
  h.kept (row := some b) ⟨rfl, rfl, rfl, by simp, fun k _ hk => heap_setCell_other w ⟨b, j, none⟩ k u (fun e => hk (by simp [e]))⟩ (.inr hne)
theorem infoStep : (Tryd.prog.info? 36).map (·.size) = some 4 := by kernel_rfl

set_option maxRecDepth 100000 in
set_option maxHeartbeats 4000000 in
theorem toStep_any {v : Value} {s : St} {w : World} (h : StepIn w v s) (hl : s.taps.length ≤ 1048576) :
    Calls Tryd.prog 90 #[v] w fun e w' => ∃ u tv, e = .returned u ∧ StepO w' w.heap.size u s tv ∧ Below w.heap.size w w' := by
  obtain ⟨kd, n, k, taps⟩ := s
  obtain ⟨tv, rfl, h⟩ := h
  simp only at h hl ⊢
  have T := Lib.hid (fun w' (hb : Below w.heap.size w w') => toInt64_any (h.below hb) hl)
  obtain ⟨a, cap, rfl, hlen⟩ := h.form
  obtain ⟨L, hL⟩ : ∃ L, taps.length = L := ⟨_, rfl⟩
  rw [hL] at T hlen ⊢
  clear h hl hL
  go_enter Tryd.func90, Tryd.ntmps90
  go_wp2_with fail
  have HW : Hid (∃ W, W = (((w.alloc (.cells #[.int .i64 kd, .int .i64 n, .int .i64 k, .slice a L cap] 118)).alloc (.cells #[.int .i64 0, .int .i64 0, .int .i64 0, .slice none 0 0] 36)).alloc (.cells #[.int .i64 kd, .int .i64 n, .int .i64 k, .slice none 0 0] 36))) := ⟨_, rfl⟩
  obtain ⟨W, hW⟩ := HW.out
  have hs : W.heap.size = w.heap.size + 1 + 1 + 1 := by rw [hW]; simp
  have k0 : W.cell? ⟨w.heap.size + 1 + 1, 0, none⟩ = some (.int .i64 kd) := by rw [hW]; go_simp
  have k1 : W.cell? ⟨w.heap.size + 1 + 1, 1, none⟩ = some (.int .i64 n) := by rw [hW]; go_simp
  have k2 : W.cell? ⟨w.heap.size + 1 + 1, 2, none⟩ = some (.int .i64 k) := by rw [hW]; go_simp
  have k3 : W.cell? ⟨w.heap.size + 1 + 1, 3, none⟩ = some (.slice none 0 0) := by rw [hW]; go_simp
  have kf : W.frozen? ⟨w.heap.size + 1 + 1, 3, none⟩ = false := by rw [hW]; go_simp
  have j0 : W.cell? ⟨w.heap.size + 1, 0, none⟩ = some (.int .i64 0) := by rw [hW]; go_simp
  have j1 : W.cell? ⟨w.heap.size + 1, 1, none⟩ = some (.int .i64 0) := by rw [hW]; go_simp
  have j2 : W.cell? ⟨w.heap.size + 1, 2, none⟩ = some (.int .i64 0) := by rw [hW]; go_simp
  have j3 : W.cell? ⟨w.heap.size + 1, 3, none⟩ = some (.slice none 0 0) := by rw [hW]; go_simp
  have g0 : W.frozen? ⟨w.heap.size + 1, 0, none⟩ = false := by rw [hW]; go_simp
  have g1 : W.frozen? ⟨w.heap.size + 1, 1, none⟩ = false := by rw [hW]; go_simp
  have g2 : W.frozen? ⟨w.heap.size + 1, 2, none⟩ = false := by rw [hW]; go_simp
  have g3 : W.frozen? ⟨w.heap.size + 1, 3, none⟩ = false := by rw [hW]; go_simp
  have HB : Hid (Below w.heap.size w W) := by
    rw [hW]
    exact (((Below.refl w.heap.size w).alloc (Nat.le_refl _) _).alloc (by simp) _ |>.alloc (by simp; omega) _)
  rw [← hW]
  clear hW HW
  refine (T.out _ HB.out).mono ?_
  rintro e w1 ⟨u, rfl, hr, hg⟩
  have hb := below_new hg
  have hlt : ∀ i x, W.cell? ⟨i, x, none⟩ ≠ none → i < W.heap.size := fun i x hx => by
    cases hc : W.cell? ⟨i, x, none⟩ with
    | none => exact absurd hc hx
    | some v => exact World.block_lt_of_cell? _ _ hc
  have b1 : w.heap.size + 1 < W.heap.size := by omega
  have b2 : w.heap.size + 1 + 1 < W.heap.size := by omega
  rw [← hb.cell (by exact b2)] at k0 k1 k2 k3
  rw [← hb.cell (by exact b1)] at j0 j1 j2 j3
  rw [← hb.frozen (by exact b2)] at kf
  rw [← hb.frozen (by exact b1)] at g0 g1 g2 g3
  have HR := Lib.hid (hr.base' (B := w.heap.size) (by omega))
  have HB2 := Lib.hid (below_step' HB.out hb HB.out.size)
  have HL : Hid (∀ g, u.ownBlock = some g → w.heap.size + 1 + 1 < g) := fun g hg' => by have := (hr.lt g hg').1; omega
  obtain ⟨a', cap', rfl⟩ := hr.form
  clear hr hg hb hlt T HB b1 b2
  go_wp2
  (try simp only [Exit.inBlock, Exit.then])
  refine bodyPost_ret (res_cell1' rfl _ _ _ rfl (run_loadVar_mid _ _ _ _ [.int .i64 kd, .int .i64 n, .int .i64 k, .slice a' (ints taps).length cap'] _ ?_ Tryd.underlying36 rfl infoStep)) rfl ?_
  · intro j v hv
    rcases j with _ | _ | _ | _ | j <;> simp at hv <;> subst hv <;> go_simp
  · refine ⟨_, _, rfl, ⟨rfl, ?_⟩, ?_⟩
    · have hne1 : (Value.slice a' (ints taps).length cap').ownBlock ≠ some (w.heap.size + 1 + 1) := fun e => by have := HL.out _ e; omega
      have hne2 : (Value.slice a' (ints taps).length cap').ownBlock ≠ some (w.heap.size + 1) := fun e => by have := HL.out _ e; omega
      exact ((((HR.out.other _ hne1).other _ hne2).other _ hne2).other _ hne2).other _ hne2
    · refine (((((HB2.out.setCell ?_ _).setCell ?_ _).setCell ?_ _).setCell ?_ _).setCell ?_ _) <;> (simp only []; omega)

end Go.Proofs.YtdefhmpmgcahpaaDoor
