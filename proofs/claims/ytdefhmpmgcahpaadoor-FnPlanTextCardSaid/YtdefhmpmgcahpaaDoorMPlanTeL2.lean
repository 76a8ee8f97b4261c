/-
  Several texts of this claim, one behind the other; each says what it holds.
-/
import Derived.Test.YtdefhmpmgcahpaaDoorMPlanTeL18
import Derived.Test.YtdefhmpmgcahpaaDoorBwkZ
/-
  asPlan: the iterator's closure, the row of steps (written by genasq.py).
-/
set_option linter.unusedVariables false
set_option linter.unusedSimpArgs false
namespace Go.Proofs.YtdefhmpmgcahpaaDoor
open Go.RowKit

theorem given_of (S : St) (hk : 1 ≤ S.kind ∧ S.kind ≤ 13) (t : Value) (hl : S.taps.length ≤ 1000) :
    ∃ (T : TypeId) (v : Value) (f : Nat) (rv : Value), ifV S t = .iface T v ∧ (∀ w : World, (method 328 T v "loop.example/g01155/impl.given").run Tryd.prog w = .ok (f, rv) w) ∧
      (∀ args w, (callFunc f args).run Tryd.prog w = .ok (.enter f args) w) ∧
      ∀ w B, Row w B 2 t (ints S.taps) → Calls Tryd.prog f #[rv] w fun e w' => ∃ u tv, e = .returned u ∧ StepO w' w.heap.size u S tv ∧ Below w.heap.size w w' := by
  have hkk := kind_cases hk
  obtain ⟨kd, N, K, taps⟩ := S
  simp only at hkk hl
  rcases hkk with rfl | rfl | rfl | rfl | rfl | rfl | rfl | rfl | rfl | rfl | rfl | rfl | rfl
  · exact ⟨157, .agg #[.int .i64 1, .int .i64 N, .int .i64 K, t], 167, .agg #[.int .i64 1, .int .i64 N, .int .i64 K, t], rfl, fun _ => by kernel_rfl, enters_of Tryd.func167 (by kernel_rfl) rfl, fun w B h => given_any (S := ⟨1, N, K, taps⟩) h hl⟩
  · exact ⟨158, .agg #[.int .i64 2, .int .i64 N, .int .i64 K, t], 167, .agg #[.int .i64 2, .int .i64 N, .int .i64 K, t], rfl, fun _ => by kernel_rfl, enters_of Tryd.func167 (by kernel_rfl) rfl, fun w B h => given_any (S := ⟨2, N, K, taps⟩) h hl⟩
  · exact ⟨159, .agg #[.int .i64 3, .int .i64 N, .int .i64 K, t], 167, .agg #[.int .i64 3, .int .i64 N, .int .i64 K, t], rfl, fun _ => by kernel_rfl, enters_of Tryd.func167 (by kernel_rfl) rfl, fun w B h => given_any (S := ⟨3, N, K, taps⟩) h hl⟩
  · exact ⟨160, .agg #[.int .i64 4, .int .i64 N, .int .i64 K, t], 167, .agg #[.int .i64 4, .int .i64 N, .int .i64 K, t], rfl, fun _ => by kernel_rfl, enters_of Tryd.func167 (by kernel_rfl) rfl, fun w B h => given_any (S := ⟨4, N, K, taps⟩) h hl⟩
  · exact ⟨161, .agg #[.int .i64 5, .int .i64 N, .int .i64 K, t], 167, .agg #[.int .i64 5, .int .i64 N, .int .i64 K, t], rfl, fun _ => by kernel_rfl, enters_of Tryd.func167 (by kernel_rfl) rfl, fun w B h => given_any (S := ⟨5, N, K, taps⟩) h hl⟩
  · exact ⟨162, .agg #[.int .i64 6, .int .i64 N, .int .i64 K, t], 167, .agg #[.int .i64 6, .int .i64 N, .int .i64 K, t], rfl, fun _ => by kernel_rfl, enters_of Tryd.func167 (by kernel_rfl) rfl, fun w B h => given_any (S := ⟨6, N, K, taps⟩) h hl⟩
  · exact ⟨164, .agg #[.int .i64 7, .int .i64 N, .int .i64 K, t], 167, .agg #[.int .i64 7, .int .i64 N, .int .i64 K, t], rfl, fun _ => by kernel_rfl, enters_of Tryd.func167 (by kernel_rfl) rfl, fun w B h => given_any (S := ⟨7, N, K, taps⟩) h hl⟩
  · exact ⟨165, .agg #[.int .i64 8, .int .i64 N, .int .i64 K, t], 167, .agg #[.int .i64 8, .int .i64 N, .int .i64 K, t], rfl, fun _ => by kernel_rfl, enters_of Tryd.func167 (by kernel_rfl) rfl, fun w B h => given_any (S := ⟨8, N, K, taps⟩) h hl⟩
  · exact ⟨166, .agg #[.int .i64 9, .int .i64 N, .int .i64 K, t], 167, .agg #[.int .i64 9, .int .i64 N, .int .i64 K, t], rfl, fun _ => by kernel_rfl, enters_of Tryd.func167 (by kernel_rfl) rfl, fun w B h => given_any (S := ⟨9, N, K, taps⟩) h hl⟩
  · exact ⟨167, .agg #[.int .i64 10, .int .i64 N, .int .i64 K, t], 167, .agg #[.int .i64 10, .int .i64 N, .int .i64 K, t], rfl, fun _ => by kernel_rfl, enters_of Tryd.func167 (by kernel_rfl) rfl, fun w B h => given_any (S := ⟨10, N, K, taps⟩) h hl⟩
  · exact ⟨168, .agg #[.int .i64 11, .int .i64 N, .int .i64 K, t], 167, .agg #[.int .i64 11, .int .i64 N, .int .i64 K, t], rfl, fun _ => by kernel_rfl, enters_of Tryd.func167 (by kernel_rfl) rfl, fun w B h => given_any (S := ⟨11, N, K, taps⟩) h hl⟩
  · exact ⟨169, .agg #[.int .i64 12, .int .i64 N, .int .i64 K, t], 167, .agg #[.int .i64 12, .int .i64 N, .int .i64 K, t], rfl, fun _ => by kernel_rfl, enters_of Tryd.func167 (by kernel_rfl) rfl, fun w B h => given_any (S := ⟨12, N, K, taps⟩) h hl⟩
  · exact ⟨170, .agg #[.int .i64 13, .int .i64 N, .int .i64 K, t], 167, .agg #[.int .i64 13, .int .i64 N, .int .i64 K, t], rfl, fun _ => by kernel_rfl, enters_of Tryd.func167 (by kernel_rfl) rfl, fun w B h => given_any (S := ⟨13, N, K, taps⟩) h hl⟩

theorem enter_as1 (args : Array Value) (w : World) : (callFunc 96 args).run Tryd.prog w = .ok (.enter 96 args) w := by kernel_rfl

set_option maxRecDepth 100000 in
set_option maxHeartbeats 4000000 in
theorem as1_any {w : World} {B B2 b n : Nat} {V : Value} {ss : List St} {tv : Nat → Value} (h : Row w B 125 V (ifVs ss tv n)) (hp : w.cell? ⟨b, 0, none⟩ = some V) (i : Nat) (hi : i < n) (hk : 1 ≤ (ss.getD i default).kind ∧ (ss.getD i default).kind ≤ 13)
    (hr : Row w B2 2 (tv i) (ints (ss.getD i default).taps)) (hl : (ss.getD i default).taps.length ≤ 1000) :
    Calls Tryd.prog 96 #[.int .i64 (i : Int), .pointer (some ⟨b, 0, none⟩)] w fun e w' => ∃ u t, e = .returned u ∧ StepO w' w.heap.size u (ss.getD i default) t ∧ Below w.heap.size w w' := by
  have hsh := h.shape
  rcases hsh with ⟨a, cap, rfl, e⟩ | ⟨g, cap, rfl, h0, _, hg, h1, h2⟩
  · have := congrArg List.length e
    rw [ifVs_length] at this
    simp at this
    omega
  have c0 := h.cellAt (j := i) (by rw [ifVs_length]; exact hi)
  rw [ifVs_getD hi] at c0
  rw [ifVs_length] at h0 h1 hp
  obtain ⟨S, hS⟩ : ∃ S, ss.getD i default = S := ⟨_, rfl⟩
  rw [hS] at hk hr hl c0 ⊢
  have hlt0 : ∀ b, (tv i).ownBlock = some b → b < w.heap.size := fun b e => (hr.lt b e).2
  obtain ⟨T, u, f, rv, hif, hm, hent, hcall⟩ := given_of S hk (tv i) hl
  rw [hif] at c0
  have hb : Below w.heap.size w (w.alloc (.cells #[.int .i64 0, .int .i64 0, .int .i64 0, .slice none 0 0] 36)) := (Below.refl _ _).alloc (Nat.le_refl _) _
  have C := Lib.hid (hcall _ _ (hr.below hb hlt0))
  have HB := Lib.hid hb
  have hmx : (n : Int) ≤ 9223372036854775807 := by unfold maxLen at h2; omega
  have hii : (i : Int) < (n : Int) := by omega
  clear h hr hlt0 hcall hS hif hb
  obtain ⟨W, hW⟩ : ∃ W, W = (w.alloc (.cells #[.int .i64 0, .int .i64 0, .int .i64 0, .slice none 0 0] 36)) := ⟨_, rfl⟩
  have hs : W.heap.size = w.heap.size + 1 := by rw [hW]; simp
  have j0 : W.cell? ⟨w.heap.size, 0, none⟩ = some (.int .i64 0) := by rw [hW]; go_simp
  have j1 : W.cell? ⟨w.heap.size, 1, none⟩ = some (.int .i64 0) := by rw [hW]; go_simp
  have j2 : W.cell? ⟨w.heap.size, 2, none⟩ = some (.int .i64 0) := by rw [hW]; go_simp
  have j3 : W.cell? ⟨w.heap.size, 3, none⟩ = some (.slice none 0 0) := by rw [hW]; go_simp
  have g0 : W.frozen? ⟨w.heap.size, 0, none⟩ = false := by rw [hW]; go_simp
  have g1 : W.frozen? ⟨w.heap.size, 1, none⟩ = false := by rw [hW]; go_simp
  have g2 : W.frozen? ⟨w.heap.size, 2, none⟩ = false := by rw [hW]; go_simp
  have g3 : W.frozen? ⟨w.heap.size, 3, none⟩ = false := by rw [hW]; go_simp
  have hgb : b < w.heap.size := World.block_lt_of_cell? _ _ hp
  have k1 : (w.alloc (.cells #[.int .i64 0, .int .i64 0, .int .i64 0, .slice none 0 0] 36)).cell? ⟨b, 0, none⟩ = some (.slice (some ⟨g, 0, none⟩) n cap) := by rw [HB.out.cell (p := ⟨b, 0, none⟩) hgb]; exact hp
  have k2 : (w.alloc (.cells #[.int .i64 0, .int .i64 0, .int .i64 0, .slice none 0 0] 36)).cell? ⟨g, i, none⟩ = some (.iface T u) := by rw [HB.out.cell (p := ⟨g, i, none⟩) hg]; exact c0
  rw [← hW] at C HB
  have HW := Lib.hid hW.symm
  clear hW hp c0
  go_enter Tryd.func96, Tryd.ntmps96
  go_wp2_with fail
  rw [HW.out]
  clear k1 k2
  go_wp2_with fail
  refine C.out.mono ?_
  rintro e w1 ⟨x, t', rfl, ⟨rfl, hr⟩, hb⟩
  have b1 : w.heap.size < W.heap.size := by omega
  rw [← hb.cell (by exact b1)] at j0 j1 j2 j3
  rw [← hb.frozen (by exact b1)] at g0 g1 g2 g3
  have HR := Lib.hid (hr.base' (B := w.heap.size) (by omega))
  have HB2 := Lib.hid (below_step' HB.out hb HB.out.size)
  have HL : Hid (∀ g, t'.ownBlock = some g → w.heap.size < g) := fun g hg' => by have := (hr.lt g hg').1; omega
  obtain ⟨a', cap', rfl⟩ := hr.form
  clear hr hb C HB b1
  go_wp2
  (try simp only [Exit.inBlock, Exit.then])
  refine bodyPost_ret (res_cell1' rfl _ _ _ rfl (run_loadVar_mid _ _ _ _ [.int .i64 S.kind, .int .i64 S.n, .int .i64 S.k, .slice a' (ints S.taps).length cap'] _ ?_ Tryd.underlying36 rfl infoStep)) rfl ?_
  · intro j v hv
    rcases j with _ | _ | _ | _ | j <;> simp at hv <;> subst hv <;> go_simp
  · refine ⟨_, _, rfl, ⟨rfl, ?_⟩, ?_⟩
    · have hne2 : (Value.slice a' (ints S.taps).length cap').ownBlock ≠ some (w.heap.size) := fun e => by have := HL.out _ e; omega
      exact (((HR.out.other _ hne2).other _ hne2).other _ hne2).other _ hne2
    · refine ((((HB2.out.setCell ?_ _).setCell ?_ _).setCell ?_ _).setCell ?_ _) <;> (simp only []; omega)

set_option maxRecDepth 100000 in
set_option maxHeartbeats 4000000 in
theorem listOf_steps (fn : Nat) (capt : Array Value) (n : Nat) (hn : n ≤ 1000000) (ss : List St) (w : World)
    (hfn : ∀ (args : Array Value) (w : World), (callFunc fn args).run Tryd.prog w = .ok (.enter fn args) w)
    (hcall : ∀ i w1, i < n → Below w.heap.size w w1 → Calls Tryd.prog fn (#[.int .i64 (i : Int)] ++ capt) w1 fun e w2 => ∃ u t, e = .returned u ∧ StepO w2 w1.heap.size u (ss.getD i default) t ∧ Below w1.heap.size w1 w2) :
    Calls Tryd.prog 95 #[.int .i64 n, .func (.func fn) #[] capt] w fun e w' =>
      ∃ V tv, e = .returned V ∧ StepsO w' w.heap.size V n n ss tv ∧ Below w.heap.size w w' := by
  obtain ⟨i0, hi, hz0, hz1, hz2⟩ := info_parts' info_step
  have HF := Lib.hid hcall
  clear hcall
  go_enter Tryd.func95, Tryd.ntmps95
  go_wp2_with (at_make; refine wpList_make_full _ rfl _ _ 24 rfl w.heap.size 36 i0 _ 4 Tryd.underlying24 hi hz0 hz1 .i64 .i64 _ _ n rfl rfl rfl rfl (by rw [hz2]; omega) (by simp only [maxLen]; omega) (Nat.le_refl _) ?_)
  intro w1 hown hg1
  have HO : Hid (StepsO w1 w.heap.size (.slice (some ⟨w.heap.size, 0, none⟩) n n) n 0 ss (fun _ => undef)) := ⟨⟨_, hown, fun j hj => by omega⟩, fun j hj => by omega, fun i j _ hj => by omega⟩
  have HG := Lib.hid (below_new hg1)
  clear hown hg1 hi hz0 hz1 hz2
  go_wp2
  go_loopw [10] (fun i wr => ∃ (k : Nat) (tv : Nat → Value), i = .int .i64 k ∧ k ≤ n ∧ StepsO wr w.heap.size (.slice (some ⟨w.heap.size, 0, none⟩) n n) n k ss tv ∧ Below w.heap.size w wr) (fun i _ => n - (intOf i).toNat)
  case atStart => exact ⟨0, _, rfl, Nat.zero_le _, HO.out, HG.out⟩
  case round =>
    clear HO HG
    obtain ⟨k, tv, rfl, hk, hO, hB⟩ := hrel
    have HO := Lib.hid hO
    have HB := Lib.hid hB
    clear hO hB
    by_cases hlt : k < n
    · have T := HF.out k wr hlt HB.out
      obtain ⟨S, hS⟩ : ∃ S, ss.getD k default = S := ⟨_, rfl⟩
      rw [hS] at T
      have T := Lib.hid T
      have HS := Lib.hid hS
      clear hS
      go_wp2_with fail
      refine T.out.mono ?_
      rintro e w2 ⟨u, t', rfl, ⟨rfl, hr⟩, hb2⟩
      have hO2 := HO.out.below hb2 (Nat.le_refl _)
      have hsz := HB.out.size
      obtain ⟨z0, z1, z2, z3, d0, d1, d2, d3, df⟩ := hO2.place hlt
      have f0 := df (k * 4)
      have f1 := df (k * 4 + 1)
      have f2 := df (k * 4 + 2)
      have f3 := df (k * 4 + 3)
      have hnx := hO2.next hlt HS.out hsz hr (fun i hi a ea => ((HO.out.each i hi).lt a ea).2)
      have HB2 := Lib.hid (below_step' HB.out hb2 hsz)
      obtain ⟨a', cap', rfl⟩ := hr.form
      have HN := Lib.hid hnx.1
      have HGR : Hid (Below w.heap.size w _) := HB2.out.grown hnx.2 (Nat.le_trans hsz hb2.size) (fun b e => by cases e; exact Nat.le_refl _)
      clear hnx hO2 df hr hb2 T HB2
      obtain ⟨l', hl'⟩ : ∃ l, (ints S.taps).length = l := ⟨_, rfl⟩
      rw [hl'] at HN HGR ⊢
      clear hl'
      go_wp2
      go_roundw
      case rel => exact ⟨k + 1, _, by go_num, by omega, HN.out, HGR.out⟩
      case measure => simp [intOf]; omega
    · have e : k = n := by omega
      subst e
      go_wp2
      go_ret
      exact ⟨_, tv, rfl, HO.out, HB.out⟩

end Go.Proofs.YtdefhmpmgcahpaaDoor
/-
  asPlan.
-/
set_option linter.unusedVariables false
set_option linter.unusedSimpArgs false
namespace Go.Proofs.YtdefhmpmgcahpaaDoor
open Go.RowKit

set_option maxRecDepth 100000 in
set_option maxHeartbeats 4000000 in
/-- The plan of steps that can be run: steps of its own, with taps of their own. -/
theorem asPlan_any {w : World} {B B2 n : Nat} {V : Value} {ss : List St} {tv : Nat → Value} (h : Row w B 125 V (ifVs ss tv n)) (hn : n ≤ 1000000) (hk : ∀ i, i < n → 1 ≤ (ss.getD i default).kind ∧ (ss.getD i default).kind ≤ 13)
    (hr : ∀ i, i < n → Row w B2 2 (tv i) (ints (ss.getD i default).taps)) (hl : ∀ i, i < n → (ss.getD i default).taps.length ≤ 1000) :
    Calls Tryd.prog 62 #[.agg #[V]] w fun e w' => ∃ V' tv', e = .returned (.agg #[V']) ∧ StepsO w' w.heap.size V' n n ss tv' ∧ Below w.heap.size w w' := by
  have hlt0 : ∀ b, V.ownBlock = some b → b < w.heap.size := fun b e => (h.lt b e).2
  have hfm := h.form
  rw [ifVs_length] at hfm
  obtain ⟨a, cap, rfl⟩ := hfm
  have hb : Below w.heap.size w ((w.alloc (.cells #[.slice a n cap] 97)).alloc (.cells #[.slice none 0 0] 26)) := ((Below.refl _ _).alloc (Nat.le_refl _) _).alloc (by simp) _
  obtain ⟨W, hW⟩ : ∃ W, W = (w.alloc (.cells #[.slice a n cap] 97)).alloc (.cells #[.slice none 0 0] 26) := ⟨_, rfl⟩
  have hs : W.heap.size = w.heap.size + 1 + 1 := by rw [hW]; simp
  have c0 : W.cell? ⟨w.heap.size, 0, none⟩ = some (.slice a n cap) := by rw [hW]; go_simp
  have j0 : W.cell? ⟨w.heap.size + 1, 0, none⟩ = some (.slice none 0 0) := by rw [hW]; go_simp
  have f0 : W.frozen? ⟨w.heap.size + 1, 0, none⟩ = false := by rw [hW]; go_simp
  rw [← hW] at hb
  have LO := listOf_steps 96 #[.pointer (some ⟨w.heap.size, 0, none⟩)] n hn ss W enter_as1 (fun i w1 hi hb1 => by
    have hbw : Below w.heap.size w w1 := below_step' hb hb1 hb.size
    refine as1_any (tv := tv) (h.below hbw hlt0) ?_ i hi (hk i hi) ((hr i hi).below hbw (fun b e => ((hr i hi).lt b e).2)) (hl i hi)
    rw [hb1.cell (p := ⟨w.heap.size, 0, none⟩) (by show w.heap.size < W.heap.size; omega)]
    exact c0)
  have LO := Lib.hid LO
  have HB := Lib.hid hb
  have HW := Lib.hid hW.symm
  have hmx : (n : Int) ≤ 9223372036854775807 := by omega
  clear h hk hr hl hlt0 hb hW c0
  go_enter Tryd.func62, Tryd.ntmps62
  go_wp2_with fail
  rw [HW.out]
  refine LO.out.mono ?_
  rintro e w1 ⟨V', tv', rfl, hO, hb1⟩
  have b1 : w.heap.size + 1 < W.heap.size := by omega
  rw [← hb1.cell (by exact b1)] at j0
  rw [← hb1.frozen (by exact b1)] at f0
  have HB1 := Lib.hid (below_step' HB.out hb1 HB.out.size)
  have HO := Lib.hid hO
  obtain ⟨a', cap', rfl⟩ := hO.form
  clear hO hb1 LO HB b1
  go_wp2
  (try simp only [Exit.inBlock, Exit.then])
  refine bodyPost_ret (res_cell1' rfl _ _ _ rfl (run_loadVar_mid _ _ _ _ [.slice a' n cap'] _ ?_ Tryd.underlying26 rfl infoPlan)) rfl ?_
  · intro j v hv
    rcases j with _ | j <;> simp at hv <;> subst hv <;> go_simp
  · refine ⟨_, _, rfl, (HO.out.other _ (by omega)).base (by omega), HB1.out.setCell (by show w.heap.size ≤ w.heap.size + 1; omega) _⟩

end Go.Proofs.YtdefhmpmgcahpaaDoor
