import Derived.Test.YtpobbicbfnglaaaSpG
import Derived.Test.YtpobbicbfnglaaaSpH
import Derived.IntWalk
import Derived.Deep.MidRow
/-
  Hills: PeakBetween of both; neighbours on a ring.
-/
set_option linter.unusedVariables false
set_option linter.unusedSimpArgs false
namespace Go.Proofs.Ytpobbicbfnglaaa
open Go.RowKit Flt Fast
attribute [local go_sem] run_fadd run_fsub run_fmul run_fquo run_cadd run_csub

theorem rest_facts (k : Int) (n r : Nat) (hn : 0 < n) (hr : k % (n : Int) = (r : Int)) : ∃ t : Int, k.tmod (n : Int) = t ∧ -(n : Int) < t ∧ t < (n : Int) ∧ (t + (n : Int)).tmod (n : Int) = (r : Int) ∧ (t + (n : Int)) % (n : Int) = (r : Int) := by
  have hn' : (0 : Int) < (n : Int) := by omega
  have h1 : k.tmod (n : Int) < (n : Int) := Int.tmod_lt_of_pos k hn'
  have h2 : -(n : Int) < k.tmod (n : Int) := Int.lt_tmod_of_pos k hn'
  have h3 : (k.tmod (n : Int) + (n : Int)) % (n : Int) = (r : Int) := by
    rw [Int.add_emod_right, ← hr, Int.tmod_def, Int.sub_mul_emod_self_left]
  refine ⟨_, rfl, h2, h1, ?_, h3⟩
  rw [Int.tmod_eq_emod_of_nonneg (by omega)]
  exact h3

theorem restOf_any (k : Int) (n r : Nat) (hn : 0 < n) (hn2 : n ≤ 1000000) (hr : k % (n : Int) = (r : Int)) (w : World) :
    Calls Try.prog 47 #[.int .i64 k, .int .i64 n] w fun e w' => e = .returned (.int .i64 (r : Int)) ∧ w' = w := by
  obtain ⟨t, e1, h1, h2, e2, e3⟩ := rest_facts k n r hn hr
  have hz : ¬ (n : Int) = 0 := by omega
  have hz' : ¬ n = 0 := by omega
  have hb : (n : Int) ≤ 1000000 := by omega
  clear hr hn hn2
  go_enter Try.func47, Try.ntmps47
  go_wp2
  go_ret
  exact ⟨rfl, rfl⟩

/-- The place before, and the place behind, on a ring of n places. -/
def prv (n k : Nat) : Nat := if k = 0 then n - 1 else k - 1
def nxt (n k : Nat) : Nat := if k + 1 = n then 0 else k + 1
theorem prv_lt {n k : Nat} (h : k < n) : prv n k < n := by unfold prv; split <;> omega
theorem nxt_lt {n k : Nat} (h : k < n) : nxt n k < n := by unfold nxt; split <;> omega
theorem prv_rest {n k : Nat} (h : k < n) : ((k : Int) - 1) % (n : Int) = (prv n k : Int) := by
  unfold prv
  split
  · rename_i h0
    rw [← Int.add_emod_right, Int.emod_eq_of_lt (by omega) (by omega)]
    omega
  · rw [Int.emod_eq_of_lt (by omega) (by omega)]
    omega
theorem nxt_rest {n k : Nat} (h : k < n) : ((k : Int) + 1) % (n : Int) = (nxt n k : Int) := by
  unfold nxt
  split
  · rename_i h0
    rw [show (k : Int) + 1 = (n : Int) by omega, Int.emod_self]; rfl
  · rw [Int.emod_eq_of_lt (by omega) (by omega)]
    omega

theorem res_cell1 {fn : Func} {p : Tmp} {ty : TypeId} (h : fn.results = #[.cell p ty]) (tmps : Array Value) (P : Program) (w : World) {a : Addr} {v : Value} (ha : tmps.getD p undef = .pointer (some a)) (hv : (loadVar ty a).run P w = .ok v w) :
    (results fn tmps).run P w = .ok v w := by
  have ha' : tmps[p]?.getD undef = .pointer (some a) := by simpa using ha
  simp only [results, h]
  simp [Sem.run_bind, Result.andThen, ha', asAddr, hv]
theorem infoHill : (Try.prog.info? 56).map (·.size) = some 3 := by kernel_rfl

set_option maxRecDepth 100000 in
set_option maxHeartbeats 4000000 in
theorem hillAt_any (xs : List Nat) (n : Nat) (hx : xs.length = n) (hn : n ≤ 256) (k : Nat) (hk : k < n) (v : Value) (w : World) (h : Reads w v (flts xs)) :
    Calls Try.prog 51 #[v, .int .i64 k] w fun e w' => e = .returned (.agg #[.float .f64 (xs.getD (prv n k) 0), .float .f64 (xs.getD k 0), .float .f64 (xs.getD (nxt n k) 0)]) ∧ Below w.heap.size w w' := by
  have hrd := fl_reads h
  have hp := prv_lt hk
  have hq := nxt_lt hk
  have R1 := Lib.hid (fun w => restOf_any ((k : Int) - 1) n (prv n k) (by omega) (by omega) (prv_rest hk) w)
  have R2 := Lib.hid (fun w => restOf_any ((k : Int) + 1) n (nxt n k) (by omega) (by omega) (nxt_rest hk) w)
  obtain ⟨a, cap, rfl⟩ := fl_form h
  rw [flts_length, hx] at hrd ⊢
  obtain ⟨P, hP⟩ : ∃ P, prv n k = P := ⟨_, rfl⟩
  obtain ⟨Q, hQ⟩ : ∃ Q, nxt n k = Q := ⟨_, rfl⟩
  rw [hP] at hp R1 ⊢
  rw [hQ] at hq R2 ⊢
  obtain ⟨g, rfl, hgw, c1⟩ := hrd _ _ _ rfl P hp
  obtain ⟨g', e', -, c2⟩ := hrd _ _ _ rfl k hk
  simp only [Option.some.injEq, Addr.mk.injEq, and_true] at e'
  subst e'
  obtain ⟨g', e', -, c3⟩ := hrd _ _ _ rfl Q hq
  simp only [Option.some.injEq, Addr.mk.injEq, and_true] at e'
  subst e'
  obtain ⟨x, hxx⟩ : ∃ x, xs.getD P 0 = x := ⟨_, rfl⟩
  obtain ⟨y, hyy⟩ : ∃ y, xs.getD k 0 = y := ⟨_, rfl⟩
  obtain ⟨z, hzz⟩ : ∃ z, xs.getD Q 0 = z := ⟨_, rfl⟩
  rw [hxx] at c1 ⊢
  rw [hyy] at c2 ⊢
  rw [hzz] at c3 ⊢
  have i1 : (P : Int) < (n : Int) := by omega
  have i2 : (Q : Int) < (n : Int) := by omega
  have i3 : (k : Int) < (n : Int) := by omega
  have hgs : g ≠ w.heap.size := by omega
  have eW1 : IntKind.i64.wrap ((k : Int) - 1) = (k : Int) - 1 := IntWalk.i64_in _ (by omega)
  have eW2 : IntKind.i64.wrap ((k : Int) + 1) = (k : Int) + 1 := IntWalk.i64_in _ (by omega)
  clear h hrd hxx hyy hzz hP hQ hx
  go_enter Try.func51, Try.ntmps51
  go_wp2
  refine wp_region_still_tail 18 (by kernel_rfl) (by kernel_rfl) ?_
  simp only [List.take_succ_cons, List.take_zero, List.drop_succ_cons, List.drop_zero]
  change wpStill _ _ (World.drew (w.alloc (.cells #[.float .f64 0, .float .f64 0, .float .f64 0] 56))) (fun a' => wpList _ _ _ _ a' (World.drew (w.alloc (.cells #[.float .f64 0, .float .f64 0, .float .f64 0] 56)))) _ _
  have HW : Hid (∃ W, W = (w.alloc (.cells #[.float .f64 0, .float .f64 0, .float .f64 0] 56)).drew) := ⟨_, rfl⟩
  obtain ⟨W, hW⟩ := HW.out
  have d1 : W.cell? ⟨g, P, none⟩ = some (.float .f64 x) := by rw [hW]; go_simp
  have d2 : W.cell? ⟨g, k, none⟩ = some (.float .f64 y) := by rw [hW]; go_simp
  have d3 : W.cell? ⟨g, Q, none⟩ = some (.float .f64 z) := by rw [hW]; go_simp
  have a0 : W.cell? ⟨w.heap.size, 0, none⟩ = some (.float .f64 0) := by rw [hW]; go_simp
  have a1 : W.cell? ⟨w.heap.size, 1, none⟩ = some (.float .f64 0) := by rw [hW]; go_simp
  have a2 : W.cell? ⟨w.heap.size, 2, none⟩ = some (.float .f64 0) := by rw [hW]; go_simp
  have f0 : W.frozen? ⟨w.heap.size, 0, none⟩ = false := by rw [hW]; go_simp
  have f1 : W.frozen? ⟨w.heap.size, 1, none⟩ = false := by rw [hW]; go_simp
  have f2 : W.frozen? ⟨w.heap.size, 2, none⟩ = false := by rw [hW]; go_simp
  have HB : Hid (Below w.heap.size w W) := by
    have h0 := (Below.refl w.heap.size w).alloc (Nat.le_refl _) (.cells #[.float .f64 0, .float .f64 0, .float .f64 0] 56)
    rw [hW]
    exact ⟨h0.os, h0.tape, h0.output, h0.size, h0.block⟩
  have HSZ : Hid (w.heap.size < W.heap.size) := by rw [hW]; show _ < (w.alloc _).heap.size; simp
  rw [← hW]
  clear hW HW c1 c2 c3
  repeat still_step
  still_call (R1.out _)
  repeat still_step
  still_call (R2.out _)
  repeat still_step
  refine wpStill_nil ?_
  go_wp2
  (try simp only [Exit.inBlock, Exit.then])
  refine bodyPost_ret (res_cell1 rfl _ _ _ rfl (run_loadVar_mid _ _ _ _ [.float .f64 x, .float .f64 y, .float .f64 z] _ ?_ Try.underlying56 rfl infoHill)) rfl ?_
  · intro j v hv
    rcases j with _ | _ | _ | j <;> simp at hv <;> subst hv <;> go_simp
  · refine ⟨rfl, ?_⟩
    exact ((HB.out.setCell (Nat.le_refl _) _).setCell (Nat.le_refl _) _).setCell (Nat.le_refl _) _

end Go.Proofs.Ytpobbicbfnglaaa
