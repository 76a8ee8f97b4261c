import Derived.Test.YtdefhmpmgcahpaaDoorImpBZ
import Derived.Laws.CopyOwn
import Derived.Laws.Rows
/-
  ValidStep of the program: a step with numbers.
-/
set_option linter.unusedVariables false
set_option linter.unusedSimpArgs false
namespace Go.Proofs.YtdefhmpmgcahpaaDoor
open Go.RowKit

theorem infoInt1 : (Tryd.prog.info? 2).map (·.size) = some 1 := by kernel_rfl

set_option maxRecDepth 100000 in
set_option maxHeartbeats 4000000 in
theorem stepWith_filter (v : Value) (a : Option Addr) (L c : Nat) (hv : v = .slice a L c) (w : World) :
    Calls Tryd.prog 42 #[.int .i64 3, v] w fun e w' => e = .returned (.agg #[.int .i64 3, .int .i64 0, .int .i64 0, v]) ∧ Below w.heap.size w w' := by
  subst hv
  go_enter Tryd.func42, Tryd.ntmps42
  go_wp2
  (try simp only [Exit.inBlock, Exit.then])
  refine bodyPost_ret (res_cell1' rfl _ _ _ rfl (run_loadVar_mid _ _ _ _ [.int .i64 3, .int .i64 0, .int .i64 0, .slice a L c] _ ?_ Tryd.underlying36 rfl infoStep)) rfl ?_
  · intro j v hv
    rcases j with _ | _ | _ | _ | j <;> simp at hv <;> subst hv <;> go_simp
  · refine ⟨rfl, ?_⟩
    exact (Below.refl _ _).alloc (Nat.le_refl _) _

theorem cell_heap {w : World} {g j : Nat} {cs : List Value} {t : TypeId} (h : w.heap[g]? = some (.cells cs.toArray t (0, 0))) : w.cell? ⟨g, j, none⟩ = cs[j]? := by
  rw [cell_of_row w g j cs.toArray t (0, 0) h]
  simp

set_option maxRecDepth 100000 in
set_option maxHeartbeats 4000000 in
theorem stepWith_other (kd : Int) (hk : kd ≠ 3) (zs : List Int) (a : Option Addr) (cap : Nat) (w : World) (h : Reads w (.slice a zs.length cap) (ints zs)) :
    Calls Tryd.prog 42 #[.int .i64 kd, .slice a zs.length cap] w fun e w' => e = .returned (.agg #[.int .i64 kd, .int .i64 (zs.getD 0 0), .int .i64 (zs.getD 1 0), .slice none 0 0]) ∧ Below w.heap.size w w' := by
  obtain ⟨a', cap', e, hmax, hrd⟩ := ints_find h
  simp only [Value.slice.injEq] at e
  obtain ⟨rfl, -, rfl⟩ := e
  have hcl : (ints (zs.take 2)).length = Nat.min zs.length 2 := by rw [ints_length, List.length_take]; exact Nat.min_comm _ _
  have hsp : splice [Value.int .i64 0, Value.int .i64 0] 0 (ints (zs.take 2)) = [.int .i64 (zs.getD 0 0), .int .i64 (zs.getD 1 0)] := by
    rcases zs with _ | ⟨x, _ | ⟨y, zs⟩⟩ <;> rfl
  have hsrc : Hid (0 < (ints (zs.take 2)).length → ∃ ad, a = some ad ∧ ∀ (W : World), Below w.heap.size w W → ∀ (j : Nat) (v : Value), (ints (zs.take 2))[j]? = some v → W.cell? (ad.add j) = some v) := fun h0 => by
    rw [ints_length, List.length_take] at h0
    obtain ⟨g, rfl, -⟩ := hrd 0 (by omega)
    refine ⟨_, rfl, fun W hb j v hj => ?_⟩
    have hj2 : j < (ints (zs.take 2)).length := (List.getElem?_eq_some_iff.1 hj).1
    rw [ints_length, List.length_take] at hj2
    obtain ⟨g', e', hc⟩ := hrd j (by omega)
    simp only [Option.some.injEq, Addr.mk.injEq, and_true] at e'
    subst e'
    rw [addr_lit, hb.cell (World.block_lt_of_cell? _ _ hc), hc]
    rw [← hj]
    simp only [ints, List.getElem?_map, List.getElem?_take]
    rw [if_pos (by omega), List.getElem?_eq_getElem (by omega), List.getD_eq_getElem?_getD, List.getElem?_eq_getElem (by omega)]
    rfl
  have hone : ∀ v ∈ ints (zs.take 2), v.oneCell' = true := by
    intro u hu
    obtain ⟨p, -, rfl⟩ := List.mem_map.1 hu
    rfl
  obtain ⟨cs, hcs⟩ : ∃ cs, ints (zs.take 2) = cs := ⟨_, rfl⟩
  rw [hcs] at hcl hsp hsrc hone
  obtain ⟨x, hx⟩ : ∃ x, zs.getD 0 0 = x := ⟨_, rfl⟩
  obtain ⟨y, hy⟩ : ∃ y, zs.getD 1 0 = y := ⟨_, rfl⟩
  rw [hx, hy] at hsp ⊢
  obtain ⟨L, hL⟩ : ∃ L, zs.length = L := ⟨_, rfl⟩
  rw [hL] at hcl hmax ⊢
  have HCL := Lib.hid hcl
  have HSP := Lib.hid hsp
  have HON := Lib.hid hone
  have hk3 : (kd == 3) = false := by simpa using hk
  clear h hrd hcl hsp hone hcs hx hy hL
  go_enter Tryd.func42, Tryd.ntmps42
  go_wp2_with (refine wpList_copy_splice rfl (.tmp 11) (.tmp 12) 34 34 rfl 2 Tryd.underlying34 infoInt1 _ _ _ _ _ _ rfl rfl (w.heap.size + 1) 0 [.int .i64 0, .int .i64 0] 113 (heap_alloc2_new w _ _) cs HCL.out (fun h => ⟨rfl, by obtain ⟨ad, e, hh⟩ := hsrc.out h; exact ⟨ad, e, hh _ (((Below.refl _ _).alloc (Nat.le_refl _) _).alloc (by simp) _)⟩⟩) (by rw [HCL.out]; exact Nat.le_trans (Nat.le_of_eq (Nat.zero_add _)) (Nat.min_le_right _ _)) HON.out (w.heap.size + 1) (w.alloc (.cells #[.int .i64 0, .int .i64 0, .int .i64 0, .slice none 0 0] 36)) ((Below.refl _ _).alloc (by simp) _) (Nat.le_refl _) ?_)
  intro w1 hH hB
  rw [HSP.out] at hH
  have hW : w.heap.size < (w.alloc (.cells #[.int .i64 0, .int .i64 0, .int .i64 0, .slice none 0 0] 36)).heap.size := by simp
  have k0 : w1.cell? ⟨w.heap.size, 0, none⟩ = some (.int .i64 0) := by rw [hB.cell (Nat.lt_succ_self _)]; go_simp
  have k1 : w1.cell? ⟨w.heap.size, 1, none⟩ = some (.int .i64 0) := by rw [hB.cell (Nat.lt_succ_self _)]; go_simp
  have k2 : w1.cell? ⟨w.heap.size, 2, none⟩ = some (.int .i64 0) := by rw [hB.cell (Nat.lt_succ_self _)]; go_simp
  have k3 : w1.cell? ⟨w.heap.size, 3, none⟩ = some (.slice none 0 0) := by rw [hB.cell (Nat.lt_succ_self _)]; go_simp
  have f0 : w1.frozen? ⟨w.heap.size, 0, none⟩ = false := by rw [hB.frozen (Nat.lt_succ_self _)]; go_simp
  have f1 : w1.frozen? ⟨w.heap.size, 1, none⟩ = false := by rw [hB.frozen (Nat.lt_succ_self _)]; go_simp
  have f2 : w1.frozen? ⟨w.heap.size, 2, none⟩ = false := by rw [hB.frozen (Nat.lt_succ_self _)]; go_simp
  have f3 : w1.frozen? ⟨w.heap.size, 3, none⟩ = false := by rw [hB.frozen (Nat.lt_succ_self _)]; go_simp
  have d0 : w1.cell? ⟨w.heap.size + 1, 0, none⟩ = some (.int .i64 x) := by rw [cell_heap hH.out]; rfl
  have d1 : w1.cell? ⟨w.heap.size + 1, 1, none⟩ = some (.int .i64 y) := by rw [cell_heap hH.out]; rfl
  have HBW : Hid (Below w.heap.size w w1) := below_step' ((Below.refl _ _).alloc (Nat.le_refl _) _) (hB.mono (by simp)) (by simp)
  clear hH hB hW HCL HSP HON hsrc
  go_wp2
  (try simp only [Exit.inBlock, Exit.then])
  refine bodyPost_ret (res_cell1' rfl _ _ _ rfl (run_loadVar_mid _ _ _ _ [.int .i64 kd, .int .i64 x, .int .i64 y, .slice none 0 0] _ ?_ Tryd.underlying36 rfl infoStep)) rfl ?_
  · intro j v hv
    rcases j with _ | _ | _ | _ | j <;> simp at hv <;> subst hv <;> go_simp
  · refine ⟨rfl, ?_⟩
    refine (((HBW.out.setCell ?_ _).setCell ?_ _).setCell ?_ _).setCell ?_ _ <;> (simp only []; omega)

end Go.Proofs.YtdefhmpmgcahpaaDoor
