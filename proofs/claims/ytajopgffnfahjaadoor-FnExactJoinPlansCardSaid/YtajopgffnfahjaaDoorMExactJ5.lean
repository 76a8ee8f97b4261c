/-
  Several texts of this claim, one behind the other; each says what it holds.
-/
import Derived.Test.YtajopgffnfahjaaDoorMExactJ4
import Derived.RangeFuncWrites
import Derived.RangeFuncNested
import Derived.RangeFuncBound
import Derived.RangeFuncCalls
import Derived.RangeFuncLeaves
import Derived.Shelf.Abstract
import Derived.Shelf.RegionOpen
import Derived.WalkKit
import Derived.OwnWalkIn
import Derived.TacticsInMore
import Derived.LoopNIn
import Derived.LoopIn
import Derived.IntWalk
import Derived.Test.YtajopgffnfahjaaDoorRows
import Derived.Lib.Hide
/-
  planOf: the steps that can be run, in a row.
-/
set_option linter.unusedVariables false
set_option linter.unusedSimpArgs false
namespace Go.Proofs.YtajopgffnfahjaaDoor
open Go.RowKit

/-- The values of the steps that can be run. -/
def ifVs (ss : List St) (tv : Nat → Value) (n : Nat) : List Value := (List.range n).map fun j => ifV (ss.getD j default) (tv j)
theorem ifVs_length (ss : List St) (tv : Nat → Value) (n : Nat) : (ifVs ss tv n).length = n := by simp [ifVs]
theorem ifVs_snoc (ss : List St) (tv : Nat → Value) (n : Nat) : ifVs ss tv (n + 1) = ifVs ss tv n ++ [ifV (ss.getD n default) (tv n)] := by simp [ifVs, List.range_succ]
theorem ifVs_getD {ss : List St} {tv : Nat → Value} {n j : Nat} (h : j < n) : (ifVs ss tv n).getD j undef = ifV (ss.getD j default) (tv j) := by simp [ifVs, List.getD, h]

theorem fillW {vs : List Value} {n k : Nat} {z v : Value} (hk : k < n) (hl : vs.length = k) : (vs ++ List.replicate (n - k) z).set k v = (vs ++ [v]) ++ List.replicate (n - (k + 1)) z := by
  rw [List.set_append_right _ _ (by omega), hl, Nat.sub_self]
  obtain ⟨m, hm⟩ : ∃ m, n - k = m + 1 := ⟨n - k - 1, by omega⟩
  rw [hm, List.replicate_succ, List.set_cons_zero, show n - (k + 1) = m by omega, List.append_assoc]
  rfl

theorem info_ifc : (Tryd.prog.info? 66).map (fun i => (i.zero, i.size, i.bytes)) = some (some .nilIface, 1, 16) := by kernel_rfl

set_option maxRecDepth 100000 in
set_option maxHeartbeats 4000000 in
theorem listOf_chain (fn : Nat) (capt : Array Value) (n : Nat) (hn : n ≤ 1000000) (ss : List St) (tv : Nat → Value) (w : World)
    (hfn : ∀ (args : Array Value) (w : World), (callFunc fn args).run Tryd.prog w = .ok (.enter fn args) w)
    (hcall : ∀ i w1, i < n → Below w.heap.size w w1 → Calls Tryd.prog fn (#[.int .i64 (i : Int)] ++ capt) w1 fun e w2 => e = .returned (ifV (ss.getD i default) (tv i)) ∧ Below w1.heap.size w1 w2) :
    Calls Tryd.prog 70 #[.int .i64 n, .func (.func fn) #[] capt] w fun e w' =>
      ∃ V, e = .returned V ∧ Row w' w.heap.size 66 V (ifVs ss tv n) ∧ Below w.heap.size w w' := by
  obtain ⟨j0, hj, hy0, hy1, hy2⟩ := info_parts' info_ifc
  have HF := Lib.hid hcall
  clear hcall
  go_enter Tryd.func70, Tryd.ntmps70
  go_wp2_with (at_make; refine wpList_make_full _ rfl _ _ 58 rfl w.heap.size 66 j0 .nilIface 1 Tryd.underlying58 hj hy0 hy1 .i64 .i64 _ _ n rfl rfl rfl rfl (by rw [hy2]; omega) (by simp only [maxLen]; omega) (Nat.le_refl _) ?_)
  intro w1 hown hg1
  rw [toList_madeCells_one] at hown
  have HO : Hid (Row w1 w.heap.size 66 (.slice (some ⟨w.heap.size, 0, none⟩) n n) (ifVs ss tv 0 ++ List.replicate (n - 0) .nilIface)) := by show w1.ownsRow _ _ _ _ _ _; simpa [ifVs] using hown
  have HK1 := Lib.hid (below_new hg1)
  clear hown hg1 hj hy0 hy1 hy2
  go_wp2
  go_loopw [10] (fun i wr => ∃ (k : Nat), i = .int .i64 k ∧ k ≤ n ∧ Row wr w.heap.size 66 (.slice (some ⟨w.heap.size, 0, none⟩) n n) (ifVs ss tv k ++ List.replicate (n - k) .nilIface) ∧ Below w.heap.size w wr) (fun i _ => n - (intOf i).toNat)
  case atStart => exact ⟨0, rfl, Nat.zero_le _, HO.out, HK1.out⟩
  case round =>
    clear HO HK1
    obtain ⟨k, rfl, hk, hO, hK⟩ := hrel
    have HO := Lib.hid hO
    have HK := Lib.hid hK
    clear hO hK
    by_cases hlt : k < n
    · have S := Lib.hid (HF.out k wr hlt HK.out)
      go_wp2_with fail
      refine S.out.mono ?_
      rintro e w2 ⟨rfl, hk2⟩
      have hO2 := HO.out.below hk2 (fun j e => ((HO.out).lt j e).2)
      have hsz := HK.out.size
      have hS := hO2.set k (ifV (ss.getD k default) (tv k))
      rw [fillW hlt (ifVs_length _ _ _), ← ifVs_snoc] at hS
      have o1 := hO2.cellAt hlt
      have f1 := hO2.frozenAt k
      obtain ⟨u, hu⟩ : ∃ u, (ifVs ss tv k ++ List.replicate (n - k) Value.nilIface).getD k undef = u := ⟨_, rfl⟩
      rw [hu] at o1
      have HNX := Lib.hid hS.1
      have HK2 : Hid (Below w.heap.size w (w2.setCell ⟨w.heap.size, k, none⟩ (ifV (ss.getD k default) (tv k)))) := by
        have h2 := below_step' HK.out hk2 hsz
        exact h2.grown hS.2 h2.size (fun b e => by cases e; exact Nat.le_refl _)
      obtain ⟨z, hz⟩ : ∃ z, ifV (ss.getD k default) (tv k) = z := ⟨_, rfl⟩
      have HZ : Hid (z.oneCell' = true) := by show z.oneCell' = true; rw [← hz]; rfl
      rw [hz] at HNX HK2 ⊢
      have hzf : ∃ t u, z = .iface t u := ⟨_, _, hz.symm⟩
      obtain ⟨zt, zu, rfl⟩ := hzf
      clear hk2 hO2 hS hu S HO HK hz
      go_wp2
      go_roundw
      case rel => exact ⟨k + 1, by go_num, by omega, HNX.out, HK2.out⟩
      case measure => simp [intOf]; omega
    · have e : k = n := by omega
      subst e
      go_wp2
      go_ret
      refine ⟨_, rfl, ?_, HK.out⟩
      have := HO.out
      rwa [Nat.sub_self, List.replicate_zero, List.append_nil] at this

theorem enter_po1 (args : Array Value) (w : World) : (callFunc 71 args).run Tryd.prog w = .ok (.enter 71 args) w := by kernel_rfl

set_option maxRecDepth 100000 in
theorem po1_any {w : World} {B b : Nat} {V : Value} {ss : List St} {tv : Nat → Value} (h : StepsO w B V ss.length ss.length ss tv) (hp : w.cell? ⟨b, 0, none⟩ = some V) (i : Nat) (hi : i < ss.length) (hk : 1 ≤ (ss.getD i default).kind ∧ (ss.getD i default).kind ≤ 13) :
    Calls Tryd.prog 71 #[.int .i64 (i : Int), .pointer (some ⟨b, 0, none⟩)] w fun e w' => e = .returned (ifV (ss.getD i default) (tv i)) ∧ Below w.heap.size w w' := by
  have hmax := h.len
  obtain ⟨g, cp, ta, tc, rfl, -, -, hg, et, c0, c1, c2, c3, -⟩ := h.at hi (Nat.le_refl _)
  have C := Lib.hid (stepOf_any (ss.getD i default) hk ta (ss.getD i default).taps.length tc w)
  rw [← et] at C c3
  obtain ⟨S, hS⟩ : ∃ S, ss.getD i default = S := ⟨_, rfl⟩
  rw [hS] at c0 c1 c2 C ⊢
  obtain ⟨t, ht⟩ : ∃ t, tv i = t := ⟨_, rfl⟩
  rw [ht] at C c3 ⊢
  obtain ⟨L, hL⟩ : ∃ L, ss.length = L := ⟨_, rfl⟩
  rw [hL] at hp hi hmax
  have hi3 : (i : Int) < (L : Int) := by omega
  clear h et hS ht hL
  go_enter Tryd.func71, Tryd.ntmps71
  go_wp2_with fail
  refine C.out.mono ?_
  rintro e w1 ⟨rfl, hb⟩
  have HB := Lib.hid hb
  clear hb
  go_wp2
  go_ret
  exact ⟨rfl, HB.out⟩

theorem res_cell_tmp {fn : Func} {p q : Tmp} {ty : TypeId} (h : fn.results = #[.cell p ty, .tmp q]) (tmps : Array Value) (P : Program) (w : World) {a : Addr} {v : Value} (ha : tmps.getD p undef = .pointer (some a)) (hv : (loadVar ty a).run P w = .ok v w) :
    (results fn tmps).run P w = .ok (.tuple #[v, tmps.getD q undef]) w := by
  have ha' : tmps[p]?.getD undef = .pointer (some a) := by simpa using ha
  simp only [results, h]
  simp [Sem.run_bind, Result.andThen, ha', asAddr, hv]
theorem infoPl : (Tryd.prog.info? 61).map (·.size) = some 1 := by kernel_rfl

/-- What planOf returns. -/
def PlanTo (ss : List St) (tv : Nat → Value) (w : World) (e : Ending) (w' : World) : Prop :=
  ∃ V, e = .returned (.tuple #[.agg #[V], .int .i64 (if validPl ss then 0 else 1)]) ∧ (if validPl ss then Row w' w.heap.size 66 V (ifVs ss tv ss.length) else V = .slice none 0 0) ∧ Below w.heap.size w w'

set_option maxRecDepth 100000 in
set_option maxHeartbeats 4000000 in
theorem planOf_any {w : World} {B : Nat} {V : Value} {ss : List St} {tv : Nat → Value} (h : StepsO w B V ss.length ss.length ss tv) (ht : Tab w) :
    Calls Tryd.prog 36 #[.agg #[V]] w (PlanTo ss tv w) := by
  have hmax := h.len
  obtain ⟨a, cap, rfl⟩ := h.form
  have hb : Below w.heap.size w ((w.alloc (.cells #[.slice a ss.length cap] 28)).alloc (.cells #[.slice none 0 0] 61)) := ((Below.refl _ _).alloc (Nat.le_refl _) _).alloc (by simp) _
  obtain ⟨W, hW⟩ : ∃ W, W = (w.alloc (.cells #[.slice a ss.length cap] 28)).alloc (.cells #[.slice none 0 0] 61) := ⟨_, rfl⟩
  have hs : W.heap.size = w.heap.size + 1 + 1 := by rw [hW]; simp
  have b0 : W.cell? ⟨w.heap.size, 0, none⟩ = some (.slice a ss.length cap) := by rw [hW]; go_simp
  have b1 : W.cell? ⟨w.heap.size + 1, 0, none⟩ = some (.slice none 0 0) := by rw [hW]; go_simp
  have f1 : W.frozen? ⟨w.heap.size + 1, 0, none⟩ = false := by rw [hW]; go_simp
  rw [← hW] at hb
  have VP := Lib.hid (validPlan_impl (h.below hb (Nat.le_refl _)) (ht.below hb))
  have HO := Lib.hid (fun (W' : World) (hb' : Below W.heap.size W W') => h.below (below_step' hb hb' hb.size) (Nat.le_refl _))
  have HB := Lib.hid hb
  have HW := Lib.hid hW.symm
  have HVK : Hid (validPl ss = true → (ss.length ≤ 8 ∧ ∀ i, i < ss.length → 1 ≤ (ss.getD i default).kind ∧ (ss.getD i default).kind ≤ 13)) := fun hv => by
    simp only [validPl, Bool.and_eq_true, decide_eq_true_eq] at hv
    refine ⟨hv.1, fun i hi => ?_⟩
    rw [List.getD_eq_getElem?_getD, List.getElem?_eq_getElem hi]
    exact validSt_kind (List.all_eq_true.1 hv.2 _ (List.getElem_mem _))
  unfold PlanTo
  obtain ⟨A, hA⟩ : ∃ A, validPl ss = A := ⟨_, rfl⟩
  rw [hA] at VP HVK ⊢
  clear h ht hb hW hA
  go_enter Tryd.func36, Tryd.ntmps36
  go_wp2_with fail
  rw [HW.out]
  with_reducible refine VP.out.mono ?_
  rintro e w1 ⟨rfl, hb1⟩
  have k0 : w.heap.size < W.heap.size := by omega
  have k1 : w.heap.size + 1 < W.heap.size := by omega
  rw [← hb1.cell (by exact k0)] at b0
  rw [← hb1.cell (by exact k1)] at b1
  rw [← hb1.frozen (by exact k1)] at f1
  have HB1 := Lib.hid (below_step' HB.out hb1 HB.out.size)
  have HBW := Lib.hid hb1
  clear hb1 VP HW
  cases A
  · go_wp2
    (try simp only [Exit.inBlock, Exit.then])
    refine bodyPost_ret (res_cell_tmp rfl _ _ _ rfl (run_loadVar_mid _ _ _ _ [.slice none 0 0] _ ?_ Tryd.underlying61 rfl infoPl)) rfl ?_
    · intro j v hv
      rcases j with _ | j <;> simp at hv <;> subst hv <;> go_simp
    · refine ⟨_, rfl, rfl, ?_⟩
      refine (HB1.out.setCell ?_ _) <;> (simp only []; omega)
  · obtain ⟨h8, hkk⟩ := HVK.out rfl
    have hP := Lib.hid (HO.out w1 HBW.out)
    have LC := listOf_chain 71 #[.pointer (some ⟨w.heap.size, 0, none⟩)] ss.length (by omega) ss tv w1 enter_po1 (fun i w2 hi hb2 => po1_any (hP.out.below hb2 (Nat.le_refl _)) (by rw [hb2.cell (World.block_lt_of_cell? _ _ b0)]; exact b0) i hi (hkk i hi))
    have LC := Lib.hid LC
    obtain ⟨L, hL⟩ : ∃ L, ss.length = L := ⟨_, rfl⟩
    rw [hL] at LC hmax b0 ⊢
    clear HVK hkk
    go_wp2_with fail
    with_reducible refine LC.out.mono ?_
    rintro e w2 ⟨V', rfl, hR, hb2⟩
    rw [← hb2.cell (World.block_lt_of_cell? _ _ b1)] at b1
    rw [← hb2.frozen (World.block_lt_of_cell? _ _ (by rw [← hb2.cell]; exact b1; exact Nat.lt_of_lt_of_le k1 HBW.out.size))] at f1
    have HR := Lib.hid (hR.base' (B := w.heap.size) HB1.out.size)
    have HRL : Hid (∀ b, V'.ownBlock = some b → w.heap.size + 1 < b) := fun b e => by
      have := (hR.lt b e).1
      have := HBW.out.size
      omega
    have HB2 := Lib.hid (below_step' HB1.out hb2 HB1.out.size)
    obtain ⟨a', cap', rfl⟩ := hR.form
    rw [ifVs_length] at HR HRL ⊢
    clear hR hb2 LC
    go_wp2
    (try simp only [Exit.inBlock, Exit.then])
    refine bodyPost_ret (res_cell_tmp rfl _ _ _ rfl (run_loadVar_mid _ _ _ _ [.slice a' L cap'] _ ?_ Tryd.underlying61 rfl infoPl)) rfl ?_
    · intro j v hv
      rcases j with _ | j <;> simp at hv <;> subst hv <;> go_simp
    · refine ⟨_, rfl, ?_, ?_⟩
      · exact HR.out.other _ (fun e => by have := HRL.out _ e; omega)
      · refine (HB2.out.setCell ?_ _) <;> (simp only []; omega)

end Go.Proofs.YtajopgffnfahjaaDoor
/-
  asPlan: the steps of a plan of functions, with taps of their own.
-/
set_option linter.unusedVariables false
set_option linter.unusedSimpArgs false
namespace Go.Proofs.YtajopgffnfahjaaDoor
open Go.RowKit

theorem info_i64' : (Tryd.prog.info? 2).map (fun i => (i.zero, i.size, i.bytes)) = some (some (.int .i64 0), 1, 8) := by kernel_rfl

theorem clone_nil (c : Nat) (w : World) :
    Calls Tryd.prog 169 #[.slice none 0 c] w fun e w' => e = .returned (.slice none 0 0) ∧ w' = w := by
  have hq : ∀ w, (binOp .eql 37 (.slice none 0 c) (.slice none 0 0)).run Tryd.prog w = .ok (.bool true) w := fun w => Lib.run_eql_slice_nil w _ _ none 0 c 0 0 Tryd.underlying37
  go_enter Tryd.func169, Tryd.ntmps169
  go_wp2
  go_ret
  exact ⟨rfl, rfl⟩

set_option maxRecDepth 100000 in
set_option maxHeartbeats 4000000 in
theorem clone_some (zs : List Int) (L cap : Nat) (x : Addr) (hx : zs.length = L) (hl : L ≤ 1000) (w : World) (hb : x.block < w.heap.size) (hc : ∀ j, j < L → w.cell? (x.add j) = some (.int .i64 (zs.getD j 0))) :
    Calls Tryd.prog 169 #[.slice (some x) L cap] w fun e w' => ∃ u, e = .returned u ∧ Row w' w.heap.size 2 u (ints zs) ∧ Below w.heap.size w w' := by
  obtain ⟨i0, hi, hz0, hz1, hz2⟩ := info_parts' info_i64'
  have hn : ∀ (j : Nat) (u : Value), (ints zs)[j]? = some u → (w.alloc (.cells #[] 2)).cell? (x.add j) = some u := by
    intro j u hu
    have hj : j < zs.length := by have := (List.getElem?_eq_some_iff.1 hu).1; rwa [ints_length] at this
    have hb' : Below w.heap.size w (w.alloc (.cells #[] 2)) := (Below.refl _ _).alloc (Nat.le_refl _) _
    rw [hb'.cell (p := x.add j) (by rw [addr_block]; exact hb), hc j (by omega), ← ints_getD hj]
    simp [List.getD, hu]
  have hone : ∀ u ∈ ints zs, u.oneCell' = true := by
    intro u hu
    obtain ⟨p, -, rfl⟩ := List.mem_map.1 hu
    rfl
  have hcl : (ints zs).length = L * 1 := by rw [ints_length, Nat.mul_one, hx]
  have HN := Lib.hid hn
  have HON := Lib.hid hone
  have HCL := Lib.hid hcl
  have hmax : (L : Int) ≤ 9223372036854775807 := by omega
  have hq : ∀ w, (binOp .eql 37 (.slice (some x) L cap) (.slice none 0 0)).run Tryd.prog w = .ok (.bool false) w := fun w => Lib.run_eql_slice_nil w _ _ (some x) L cap 0 0 Tryd.underlying37
  clear hn hone hcl hx hb hc
  go_enter Tryd.func169, Tryd.ntmps169
  go_wp2_with (at_builtin; refine wpList_append_own _ rfl _ _ 37 rfl w.heap.size 2 i0 (.int .i64 0) 1 8 Tryd.underlying37 hi hz0 hz1 hz2 rfl (by decide) _ 0 [] rfl (World.ownsRow_lit w #[] 0 (Nat.le_refl _) (by unfold maxLen; omega) rfl) x L cap (ints zs) rfl HCL.out HN.out HON.out (by simp only [maxLen]; omega) (by omega) (by simp) ?_)
  intro v' w1 hown' hgrow _
  have HO : Hid (Row w1 w.heap.size 2 v' (ints zs)) := by
    show w1.ownsRow _ _ _ _ _ _
    rw [HCL.out, Nat.mul_one]
    simpa using hown'
  have HB : Hid (Below w.heap.size w w1) := ((Below.refl w.heap.size w).alloc (Nat.le_refl _) _).grown hgrow (by simp) (fun b e => by simp [Value.ownBlock] at e; omega)
  clear hown' hgrow
  go_wp2
  go_ret
  exact ⟨_, rfl, HO.out, HB.out⟩

/-- A copy of the taps of a step. -/
theorem cloneI_any {w : World} {B : Nat} {v : Value} {zs : List Int} (h : Row w B 2 v (ints zs)) (hl : zs.length ≤ 1000) :
    Calls Tryd.prog 169 #[v] w fun e w' => ∃ u, e = .returned u ∧ Row w' w.heap.size 2 u (ints zs) ∧ Below w.heap.size w w' := by
  rcases h.2 with ⟨rfl, h0⟩ | ⟨g, cap, cur, rfl, hb, hg, -⟩
  · have e : zs = [] := by
      rw [ints_length] at h0
      exact List.length_eq_zero_iff.1 h0
    subst e
    refine (clone_nil 0 w).mono ?_
    rintro e w' ⟨rfl, rfl⟩
    exact ⟨_, rfl, World.ownsRow_nil _ _ _ _, Below.refl _ _⟩
  · have hlt : g < w.heap.size := (Array.getElem?_eq_some_iff.1 hg).1
    have hrd := ints_find h.reads
    obtain ⟨a', c', e, -, hrd⟩ := hrd
    simp only [Value.slice.injEq] at e
    obtain ⟨rfl, e2, rfl⟩ := e
    rw [e2]
    refine clone_some zs zs.length _ _ rfl hl w hlt (fun j hj => ?_)
    obtain ⟨g', e1, e3⟩ := hrd j hj
    simp only [Option.some.injEq, Addr.mk.injEq, and_true] at e1
    subst e1
    rw [show (⟨g, 0, none⟩ : Addr).add j = ⟨g, j, none⟩ by unfold Addr.add; split <;> simp_all]
    exact e3

set_option maxRecDepth 100000 in
set_option maxHeartbeats 4000000 in
/-- What a step that can be run hands back: the step, with taps of its own. -/
theorem given_any {w : World} {B : Nat} {S : St} {t : Value} (h : Row w B 2 t (ints S.taps)) (hl : S.taps.length ≤ 1000) :
    Calls Tryd.prog 168 #[.agg #[.int .i64 S.kind, .int .i64 S.n, .int .i64 S.k, t]] w fun e w' => ∃ u tv, e = .returned u ∧ StepO w' w.heap.size u S tv ∧ Below w.heap.size w w' := by
  obtain ⟨kd, n, k, taps⟩ := S
  simp only at h hl ⊢
  have hlt0 : ∀ b, t.ownBlock = some b → b < w.heap.size := fun b e => (h.lt b e).2
  obtain ⟨a, cap, rfl⟩ := h.form
  rw [ints_length] at h hlt0 ⊢
  obtain ⟨L, hL⟩ : ∃ L, taps.length = L := ⟨_, rfl⟩
  have T := Lib.hid (fun w' (hb : Below w.heap.size w w') => cloneI_any (h.below hb hlt0) hl)
  rw [hL] at T ⊢
  clear h hl hL hlt0
  go_enter Tryd.func168, Tryd.ntmps168
  go_wp2_with fail
  have HW : Hid (∃ W, W = ((w.alloc (.cells #[.int .i64 kd, .int .i64 n, .int .i64 k, .slice a L cap] 139)).alloc (.cells #[.int .i64 0, .int .i64 0, .int .i64 0, .slice none 0 0] 39))) := ⟨_, rfl⟩
  obtain ⟨W, hW⟩ := HW.out
  have hs : W.heap.size = w.heap.size + 1 + 1 := by rw [hW]; simp
  have k0 : W.cell? ⟨w.heap.size, 0, none⟩ = some (.int .i64 kd) := by rw [hW]; go_simp
  have k1 : W.cell? ⟨w.heap.size, 1, none⟩ = some (.int .i64 n) := by rw [hW]; go_simp
  have k2 : W.cell? ⟨w.heap.size, 2, none⟩ = some (.int .i64 k) := by rw [hW]; go_simp
  have k3 : W.cell? ⟨w.heap.size, 3, none⟩ = some (.slice a L cap) := by rw [hW]; go_simp
  have kf : W.frozen? ⟨w.heap.size, 3, none⟩ = false := by rw [hW]; go_simp
  have j0 : W.cell? ⟨w.heap.size + 1, 0, none⟩ = some (.int .i64 0) := by rw [hW]; go_simp
  have j1 : W.cell? ⟨w.heap.size + 1, 1, none⟩ = some (.int .i64 0) := by rw [hW]; go_simp
  have j2 : W.cell? ⟨w.heap.size + 1, 2, none⟩ = some (.int .i64 0) := by rw [hW]; go_simp
  have j3 : W.cell? ⟨w.heap.size + 1, 3, none⟩ = some (.slice none 0 0) := by rw [hW]; go_simp
  have g0 : W.frozen? ⟨w.heap.size + 1, 0, none⟩ = false := by rw [hW]; go_simp
  have g1 : W.frozen? ⟨w.heap.size + 1, 1, none⟩ = false := by rw [hW]; go_simp
  have g2 : W.frozen? ⟨w.heap.size + 1, 2, none⟩ = false := by rw [hW]; go_simp
  have g3 : W.frozen? ⟨w.heap.size + 1, 3, none⟩ = false := by rw [hW]; go_simp
  have HB : Hid (Below w.heap.size w W) := by
    rw [hW]
    exact ((Below.refl w.heap.size w).alloc (Nat.le_refl _) _).alloc (by simp) _
  rw [← hW]
  clear hW HW
  refine (T.out _ HB.out).mono ?_
  rintro e w1 ⟨u, rfl, hr, hb⟩
  have b1 : w.heap.size + 1 < W.heap.size := by omega
  have b2 : w.heap.size < W.heap.size := by omega
  rw [← hb.cell (by exact b2)] at k0 k1 k2 k3
  rw [← hb.cell (by exact b1)] at j0 j1 j2 j3
  rw [← hb.frozen (by exact b2)] at kf
  rw [← hb.frozen (by exact b1)] at g0 g1 g2 g3
  have HR := Lib.hid (hr.base' (B := w.heap.size) (by omega))
  have HB2 := Lib.hid (below_step' HB.out hb HB.out.size)
  have HL : Hid (∀ g, u.ownBlock = some g → w.heap.size + 1 < g) := fun g hg' => by have := (hr.lt g hg').1; omega
  obtain ⟨a', cap', rfl⟩ := hr.form
  clear hr hb T HB b1 b2
  go_wp2
  (try simp only [Exit.inBlock, Exit.then])
  refine bodyPost_ret (res_cell1' rfl _ _ _ rfl (run_loadVar_mid _ _ _ _ [.int .i64 kd, .int .i64 n, .int .i64 k, .slice a' (ints taps).length cap'] _ ?_ Tryd.underlying39 rfl infoStep)) rfl ?_
  · intro j v hv
    rcases j with _ | _ | _ | _ | j <;> simp at hv <;> subst hv <;> go_simp
  · refine ⟨_, _, rfl, ⟨rfl, ?_⟩, ?_⟩
    · have hne1 : (Value.slice a' (ints taps).length cap').ownBlock ≠ some w.heap.size := fun e => by have := HL.out _ e; omega
      have hne2 : (Value.slice a' (ints taps).length cap').ownBlock ≠ some (w.heap.size + 1) := fun e => by have := HL.out _ e; omega
      exact ((((HR.out.other _ hne1).other _ hne2).other _ hne2).other _ hne2).other _ hne2
    · refine (((((HB2.out.setCell ?_ _).setCell ?_ _).setCell ?_ _).setCell ?_ _).setCell ?_ _) <;> (simp only []; omega)

end Go.Proofs.YtajopgffnfahjaaDoor
/-
  A range over a function whose rounds come in a told order: the body may know which one comes next.
-/
set_option linter.unusedVariables false
set_option linter.unusedSimpArgs false
namespace Go.Proofs.YtajopgffnfahjaaDoor
open Go Go.RowKit

/-- What comes: states, the steps with what yield is handed, and silent steps. -/
structure Told (σ α : Type) where
  encs : α → Array Value
  step : σ → α → σ → Prop
  silent : σ → σ → Prop
  start : σ
  last : σ

/-- An iterator hands yield what is told, in the told order, to its end or until a round says that it is enough. -/
def Tells {σ α : Type} (F : Fence) (n : Nat) (P : Program) (g : Nat) (lb : Array Value) (T : Told σ α) (Kp : World → World → Prop) (w : World) : Prop :=
  ∀ (l : Nat) (J Jx : σ → World → Prop) (W : World), Below w.heap.size w W → AbidesFrom W.heap.size J → AbidesFrom W.heap.size Jx →
    (∀ s s' W1, J s W1 → T.silent s s' → J s' W1) →
    (∀ s x s' W1, J s W1 → T.step s x s' → YieldAt F (n - 1) P l (T.encs x) W1 fun e W' =>
      (e = .returned (.bool true) ∧ J s' W' ∧ Kp W1 W') ∨ (e = .returned (.bool false) ∧ Jx s' W')) →
    J T.start W →
    CallsIn F n P g (#[.func (.yield l) #[] #[]] ++ lb) W fun e W' => (∃ v, e = .returned v) ∧ (J T.last W' ∨ ∃ s, Jx s W')

/-- How a round's body may be left. -/
def LeavesAt {σ : Type} (B : Nat) (Kp : World → World → Prop) (I : σ → World → Prop) (Ix : Code → σ → World → Prop) (s : σ) (W : World) : Exit → Act → World → Prop
  | .normal, _, W' => KeepsFrom B W W' ∧ Kp W W' ∧ I s W'
  | .panic _, _, _ => False
  | .outgrown, _, _ => False
  | .ret, _, W' => KeepsFrom B W W' ∧ Ix .ret s W'
  | .exit id, _, W' => KeepsFrom B W W' ∧ Ix (.exit id) s W'
  | .goto t, _, W' => KeepsFrom B W W' ∧ Ix (.goto t) s W'

section
variable {F : Fence} {n : Nat} {P : Program} {σ α : Type}

/-- The law: a loop over such an iterator, in a function of its own (no round of another loop). -/
theorem wpIn_range_told {g : Operand} {ps : Array Tmp} {assign body : Code} {Q : Exit → Act → World → Prop} {a : Act} {w w0 : World} {gf : Nat} {lb : Array Value} {T : Told σ α} {Kp : World → World → Prop}
    (hro : F.round = none) (h1 : 1 ≤ n) (hg : a.eval g = .func (.func gf) #[] lb) (hFg : F.fn gf) (eg : ∀ args w, (callFunc gf args).run P w = .ok (.enter gf args) w)
    (hT : Tells F (n - 1) P gf lb T Kp w0) (hb0 : Below w0.heap.size w0 w)
    (hKt : ∀ {A B C : World}, Kp A B → Kp B C → Kp A C) (hKb : ∀ (W : World) (l : Nat) (o o' : Obj), w.heap.size ≤ l → W.heap[l]? = some o → o.isCells = false → o.isWalk = false → Kp W (W.putObj l o'))
    (hps : ∀ x, (T.encs x).size = ps.size)
    (I : σ → World → Prop) (Ix : Code → σ → World → Prop) (hI : OwnFrom w.heap.size I) (hIx : ∀ c, OwnFrom w.heap.size (Ix c)) (hs : ∀ s s' W, I s W → T.silent s s' → I s' W) (h0 : I T.start w) (a₁ : α → Act)
    (hassign : ∀ (l : Nat) (x : α) (W : World) (K : Act → World → Prop), K (a₁ x) W →
      assign.wpIn (F.inRound l) (n - 1 - 1) P (Exit.then K (fun _ _ _ => False)) { tmps := (ps.zip (T.encs x)).foldl (fun t (p, v) => t.setIfInBounds p v) a.tmps, defers := [] } W)
    (hbody : ∀ (l : Nat) (s s' : σ) (x : α) (W : World), I s W → T.step s x s' → body.wpIn (F.inRound l) (n - 1 - 1) P (LeavesAt w.heap.size Kp I Ix s' W) (a₁ x) W)
    (hdone : ∀ (D : Nat) (W : World), w.heap.size ≤ D → I T.last W → W.heap[D]? = some (.deferred (some [])) → Q .normal { a with defers := { target := .collected D, args := #[] } :: a.defers } W)
    (hstop : ∀ (D : Nat) (c : Code) (s : σ) (W : World), w.heap.size ≤ D → Ix c s W → W.heap[D]? = some (.deferred (some [])) → c.wpIn F n P Q { a with defers := { target := .collected D, args := #[] } :: a.defers } W) :
    (Code.rangeFunc g ps assign body).wpIn F n P Q a w := by
  refine wpIn_rangeFunc fun fn hfn => ?_
  rw [hro]
  -- the record, with its state and what is pending
  let rec' : LoopState → Option Code → Loop := fun st pe => { state := st, pending := pe, fn, tmps := a.tmps, params := ps, assign, body, defers := w.heap.size }
  obtain ⟨recd, hrecd⟩ : ∃ r, r = rec' := ⟨_, rfl⟩
  have hp : ∀ st pe, (recd st pe).params = ps := fun st pe => by rw [hrecd]
  obtain ⟨M, hM⟩ : ∃ M, M = w.heap.size := ⟨_, rfl⟩
  let Book : LoopState → Option Code → World → Prop := fun st pe W => W.heap[M + 1]? = some (.loop (recd st pe)) ∧ W.heap[M]? = some (.deferred (some []))
  obtain ⟨W1, hW1⟩ : ∃ W1, W1 = (w.alloc (.deferred (some []))).alloc (.loop (recd .ready none)) := ⟨_, rfl⟩
  have hsz : W1.heap.size = M + 2 := by rw [hW1, hM]; simp
  have hbook : Book .ready none W1 := by
    constructor
    · have := World.alloc_heap_new (w.alloc (.deferred (some []))) (.loop (recd .ready none))
      rw [World.size_alloc] at this
      rw [hW1, hM]; exact this
    · rw [hW1, hM]; exact (Below.heap_alloc _ _ _ (by simp)).trans (World.alloc_heap_new w _)
  -- a block of the iterator's own is none of ours
  have ours : ∀ {A B : World} {row : Option Nat}, (∀ r, row = some r → W1.heap.size ≤ r ∧ ∃ o : Obj, A.heap[r]? = some o ∧ o.isWalk = true) → ∀ r, row = some r → w.heap.size ≤ r ∧ ∃ o : Obj, A.heap[r]? = some o ∧ o.isCells = false := fun h r e => by
    obtain ⟨h1, o, ho, hw⟩ := h r e
    exact ⟨by omega, o, ho, Obj.not_cells_of_walk hw⟩
  have book_kept : ∀ {A B : World} {row : Option Nat} {st : LoopState} {pe : Option Code}, Book st pe A → A.grownBy B row → (∀ r, row = some r → W1.heap.size ≤ r ∧ ∃ o : Obj, A.heap[r]? = some o ∧ o.isWalk = true) → Book st pe B := fun h hg hr =>
    ⟨(grownBy_keeps hg (fun r e => (hr r e).2) h.1 rfl).trans h.1, (grownBy_keeps hg (fun r e => (hr r e).2) h.2 rfl).trans h.2⟩
  -- the record turns
  have turn : ∀ {W : World} {st : LoopState} {pe : Option Code} (st' : LoopState) (pe' : Option Code), Book st pe W → Book st' pe' (W.putObj (M + 1) (.loop (recd st' pe'))) := fun st' pe' h =>
    ⟨World.putObj_heap_same (Array.getElem?_eq_some_iff.1 h.1).1, (World.putObj_heap_other (by omega)).trans h.2⟩
  refine ⟨M + 1, [{ target := .collected M, args := #[] }], W1, { target := .fn (.func gf) lb, args := #[.func (.yield (M + 1)) #[] #[]] }, W1, gf, #[.func (.yield (M + 1)) #[] #[]] ++ lb, W1, ?_, ?_, ?_, ?_, fun _ => h1, ?_⟩
  · rw [hW1, hM, hrecd]; exact run_enterLoop_outer _ _ _ _ _
  · simp only [resolve, hg]
    simp [go_sem]
  · intro f' hf'; simp [Target.leads] at hf'; subst hf'; exact hFg
  · simp [invoke, go_sem, eg]
  refine (hT (M + 1) (fun s W => I s W ∧ Book .ready none W) (fun s W => ∃ c, Ix c s W ∧ Book .done (some c) W) W1 ?_ ?_ ?_ ?_ ?_ ⟨?_, hbook⟩).mono ?_
  · rw [hW1]; exact hb0.trans ((((Below.refl _ w).alloc (Nat.le_refl _) _).alloc (by simp) _).mono hb0.size)
  · exact fun s A B row h hg hr => ⟨hI s A B row h.1 hg (ours (B := B) hr), book_kept h.2 hg hr⟩
  · rintro s A B row ⟨c, hc, hb⟩ hg hr
    exact ⟨c, hIx c s A B row hc hg (ours (B := B) hr), book_kept hb hg hr⟩
  · exact fun s s' W h hs' => ⟨hs _ _ _ h.1 hs', h.2⟩
  · rintro s x s' W ⟨hi, hb⟩ hst
    have hy := run_yield (P := P) (args := T.encs x) hb.1 (by rw [hp]; exact hps x)
    rw [hrecd] at hy
    refine ⟨fn, _, assign, body, hy, roundIn_of_wpIn hfn (hassign _ x W _ ⟨_, run_beginRound hb.1 (by rw [hrecd]), ?_⟩)⟩
    have hbusy : { recd .ready none with state := .busy } = recd .busy none := by rw [hrecd]
    rw [hbusy]
    have hb2 := turn .busy none hb
    have hk2 : Kp W (W.putObj (M + 1) (.loop (recd .busy none))) := hKb _ _ _ _ (by omega) hb.1 rfl rfl
    refine wpIn_mono (hbody _ s s' x _ (hI.putObj _ hi (by omega) hb.1 rfl) hst) ?_
    -- the round's end, by whatever jump
    have fin : ∀ (jump : Option Code) (W3 : World), KeepsFrom w.heap.size (W.putObj (M + 1) (.loop (recd .busy none))) W3 →
        (Instr.endRound (M + 1) jump).run P W3 = .ok (.bool jump.isNone) (W3.putObj (M + 1) (.loop (recd (if jump.isNone then .ready else .done) jump))) ∧ Book .busy none W3 := fun jump W3 hk3 => by
      have hb3 : Book .busy none W3 := ⟨hk3.same _ _ (by omega) hb2.1 rfl, hk3.same _ _ (by omega) hb2.2 rfl⟩
      have h := run_endRound (P := P) jump hb3.1
      refine ⟨?_, hb3⟩
      rw [h, hrecd]
    have stop : ∀ (c : Code) (W3 : World), KeepsFrom w.heap.size (W.putObj (M + 1) (.loop (recd .busy none))) W3 → Ix c s' W3 →
        ∃ v w', (Instr.endRound (M + 1) (some c)).run P W3 = .ok v w' ∧ ((Ending.returned v = .returned (.bool true) ∧ (I s' w' ∧ Book .ready none w') ∧ Kp W w') ∨ (Ending.returned v = .returned (.bool false) ∧ ∃ c, Ix c s' w' ∧ Book .done (some c) w')) := fun c W3 hk3 hi3 => by
      obtain ⟨hr, hb3⟩ := fin (some c) W3 hk3
      exact ⟨_, _, hr, .inr ⟨rfl, c, (hIx _).putObj _ hi3 (by omega) hb3.1 rfl, turn _ _ hb3⟩⟩
    rintro e a3 W3 hq
    cases e with
    | normal =>
      obtain ⟨hk3, hkp, hi3⟩ := hq
      obtain ⟨hr, hb3⟩ := fin none W3 hk3
      exact ⟨_, _, hr, .inl ⟨rfl, ⟨hI.putObj _ hi3 (by omega) hb3.1 rfl, turn _ _ hb3⟩, hKt (hKt hk2 hkp) (hKb _ _ _ _ (by omega) hb3.1 rfl rfl)⟩⟩
    | ret => exact stop _ W3 hq.1 hq.2
    | exit id => exact stop _ W3 hq.1 hq.2
    | goto t => exact stop _ W3 hq.1 hq.2
    | panic ch => exact hq.elim
    | outgrown => exact hq.elim
  · rw [hW1]; exact hI.alloc _ (hI.alloc _ h0)
  · rintro e W2 ⟨⟨v, rfl⟩, (⟨hi, hb⟩ | ⟨s, c, hi, hb⟩)⟩
    · refine ⟨none, W2.putObj (M + 1) (.loop (recd .exhausted none)), ?_, ?_⟩
      · have h := run_endLoop (P := P) hb.1 (by rw [hrecd]; simp [rec'])
        rw [hrecd] at h ⊢; exact h
      · have := hdone M (W2.putObj (M + 1) (.loop (recd .exhausted none))) (by omega) (hI.putObj _ hi (by omega) hb.1 rfl) ((World.putObj_heap_other (by omega)).trans hb.2)
        exact this
    · refine ⟨some c, W2.putObj (M + 1) (.loop (recd .exhausted (some c))), ?_, ?_⟩
      · have h := run_endLoop (P := P) hb.1 (by rw [hrecd]; simp [rec'])
        rw [hrecd] at h ⊢; exact h
      · have := hstop M c s (W2.putObj (M + 1) (.loop (recd .exhausted (some c)))) (by omega) ((hIx c).putObj _ hi (by omega) hb.1 rfl) ((World.putObj_heap_other (by omega)).trans hb.2)
        exact this
end

end Go.Proofs.YtajopgffnfahjaaDoor
/-
  Ranges over functions: what is kept but for one block; marks (written by genbwd.py, from CnvI and RcP).
-/
set_option linter.unusedVariables false
set_option linter.unusedSimpArgs false
namespace Go.Proofs.YtajopgffnfahjaaDoor
open Go.RowKit Go.Shelf
attribute [local go_sem] Oper.semAt_some

theorem wide_fn (k : Nat) : Fence.wide.fn k = True := rfl
theorem wide_depth : Fence.wide.depth.isSome = false := rfl
theorem wide_round : Fence.wide.round = none := rfl
theorem wide_fnR (l k : Nat) : (Fence.wide.inRound l).fn k = True := rfl
theorem wide_depthR (l : Nat) : (Fence.wide.inRound l).depth.isSome = false := rfl

/-- Whatever lay below n, but for block B, lies as it lay. -/
structure KeptBut (n B : Nat) (W W' : World) : Prop where
  os : W'.os = W.os
  tape : W'.tape = W.tape
  output : W'.output = W.output
  size : W.heap.size ≤ W'.heap.size
  block : ∀ k, k < n → k ≠ B → W'.heap[k]? = W.heap[k]?
theorem KeptBut.refl (n B : Nat) (W : World) : KeptBut n B W W := ⟨rfl, rfl, rfl, Nat.le_refl _, fun _ _ _ => rfl⟩
theorem KeptBut.trans {n B : Nat} {X Y Z : World} (h : KeptBut n B X Y) (k : KeptBut n B Y Z) : KeptBut n B X Z :=
  ⟨k.os.trans h.os, k.tape.trans h.tape, k.output.trans h.output, Nat.le_trans h.size k.size, fun b h1 h2 => (k.block b h1 h2).trans (h.block b h1 h2)⟩
theorem KeptBut.of_below {n B : Nat} {W W' : World} (h : Below W.heap.size W W') (hn : n ≤ W.heap.size) : KeptBut n B W W' :=
  ⟨h.os, h.tape, h.output, h.size, fun b h1 _ => h.block b (by omega)⟩
theorem KeptBut.cell {n B : Nat} {W W' : World} (h : KeptBut n B W W') {b o : Nat} (h1 : b < n) (h2 : b ≠ B) : W'.cell? ⟨b, o, none⟩ = W.cell? ⟨b, o, none⟩ := by
  simp [World.cell?, h.block b h1 h2]
theorem KeptBut.putObj {n B : Nat} (W : World) (l : Nat) (o : Obj) (h : n ≤ l) : KeptBut n B W (W.putObj l o) :=
  ⟨rfl, rfl, rfl, by simp, fun k hk _ => World.putObj_heap_other (by omega)⟩
theorem grown_of_below {W W' : World} (h : Below W.heap.size W W') : W.grownBy W' none := ⟨h.os, h.tape, h.output, h.size, fun k hk _ => h.block k hk⟩

/-- Marks of ranges over functions: blocks from n on. -/
def Marks (n : Nat) (w : World) (ds : List Deferred) : Prop :=
  ∃ Ds : List Nat, ds = Ds.map (fun D => { target := .collected D, args := #[] }) ∧ Ds.Nodup ∧ ∀ D ∈ Ds, n ≤ D ∧ w.heap[D]? = some (.deferred (some []))
theorem Marks.nil (n : Nat) (w : World) : Marks n w [] := ⟨[], rfl, List.nodup_nil, fun D h => by cases h⟩
theorem Marks.lt {n : Nat} {w : World} {ds : List Deferred} (h : Marks n w ds) : ∃ Ds : List Nat, ds = Ds.map (fun D => { target := .collected D, args := #[] }) ∧ Ds.Nodup ∧ ∀ D ∈ Ds, n ≤ D ∧ D < w.heap.size ∧ w.heap[D]? = some (.deferred (some [])) := by
  obtain ⟨Ds, e, hn, h⟩ := h
  exact ⟨Ds, e, hn, fun D hD => ⟨(h D hD).1, (Array.getElem?_eq_some_iff.1 (h D hD).2).1, (h D hD).2⟩⟩
theorem Marks.cons {n D : Nat} {w W : World} {ds : List Deferred} (h : Marks n w ds) (hk : ∀ (k : Nat) (o : Obj), w.heap[k]? = some o → o.isCells = false → W.heap[k]? = some o) (hD : w.heap.size ≤ D) (hn : n ≤ D) (hb : W.heap[D]? = some (.deferred (some []))) :
    Marks n W ({ target := .collected D, args := #[] } :: ds) := by
  obtain ⟨Ds, e, hnd, h⟩ := h.lt
  refine ⟨D :: Ds, by simp [e], List.nodup_cons.2 ⟨fun hm => by have := (h D hm).2.1; omega, hnd⟩, fun k hk' => ?_⟩
  rcases List.mem_cons.1 hk' with rfl | hk'
  · exact ⟨hn, hb⟩
  · exact ⟨(h k hk').1, hk k _ (h k hk').2.2 rfl⟩
theorem Marks.kept {n : Nat} {w W : World} {ds : List Deferred} (h : Marks n w ds) (hk : ∀ (k : Nat) (o : Obj), w.heap[k]? = some o → o.isCells = false → W.heap[k]? = some o) : Marks n W ds := by
  obtain ⟨Ds, e, hnd, h⟩ := h
  exact ⟨Ds, e, hnd, fun D hD => ⟨(h D hD).1, hk D _ (h D hD).2 rfl⟩⟩

/-- The marks' blocks are shut; all that is cells lies as it lay. -/
structure Shut (n : Nat) (w w' : World) : Prop where
  os : w'.os = w.os
  tape : w'.tape = w.tape
  output : w'.output = w.output
  size : w'.heap.size = w.heap.size
  low : ∀ k, k < n → w'.heap[k]? = w.heap[k]?
  cells : ∀ (k : Nat) (o : Obj), w.heap[k]? = some o → o.isCells = true → w'.heap[k]? = some o
theorem Shut.refl (n : Nat) (w : World) : Shut n w w := ⟨rfl, rfl, rfl, rfl, fun _ _ => rfl, fun _ _ h _ => h⟩
theorem Shut.row {n B e : Nat} {w w' : World} {v : Value} {cs : List Value} (hs : Shut n w w') (h : Row w B e v cs) : Row w' B e v cs := by
  refine ⟨h.1, ?_⟩
  rcases h.2 with hn | ⟨g, cap, cur, rfl, hb, hg, rest⟩
  · exact .inl hn
  · exact .inr ⟨g, cap, cur, rfl, hb, hs.cells g _ hg rfl, rest⟩
theorem Shut.below {n : Nat} {w0 w w' : World} (hs : Shut n w w') (hn : w0.heap.size ≤ n) (h : Below w0.heap.size w0 w) : Below w0.heap.size w0 w' :=
  ⟨hs.os.trans h.os, hs.tape.trans h.tape, hs.output.trans h.output, by rw [hs.size]; exact h.size, fun k hk => (hs.low k (by omega)).trans (h.block k hk)⟩

/-- A function leaves by its marks. -/
theorem leaves_marks {F : Fence} {m n : Nat} {P : Program} {fn : Func} {tmps : Array Value} {R : Ending → World → Prop} (w : World) (ds : List Deferred) (h : Marks n w ds)
    (hR : ∀ w', Shut n w w' → LeavesIn F m P fn tmps R [] .returning w') : LeavesInM F m P fn tmps R ds .returning w := by
  obtain ⟨Ds, rfl, hnd, h⟩ := h
  suffices H : ∀ (Ds : List Nat) (w1 : World), Ds.Nodup → Shut n w w1 → (∀ D ∈ Ds, n ≤ D ∧ w1.heap[D]? = some (.deferred (some []))) → LeavesInM F m P fn tmps R (Ds.map (fun D => { target := .collected D, args := #[] })) .returning w1 from H Ds w hnd (Shut.refl _ _) h
  intro Ds
  induction Ds with
  | nil => exact fun w1 _ hs _ => hR w1 hs
  | cons D Ds ih =>
    intro w1 hnd hs h
    obtain ⟨hD, hnd⟩ := List.nodup_cons.1 hnd
    have hb := (h D (by simp)).2
    refine ⟨by simp, .inl ⟨D, _, rfl, run_takeDeferred hb, ih _ hnd ⟨hs.os, hs.tape, hs.output, by simp; exact hs.size, fun k hk => ?_, fun k o hk hc => ?_⟩ fun D' hD' => ?_⟩⟩
    · rw [World.putObj_heap_other (by have := (h D (by simp)).1; omega)]; exact hs.low k hk
    · have hw := hs.cells k o hk hc
      rw [World.putObj_heap_other (fun e => by subst e; rw [hw] at hb; cases hb; cases hc)]; exact hw
    · have := h D' (by simp [hD'])
      exact ⟨this.1, (World.putObj_heap_other (fun e => hD (by rw [← e]; exact hD'))).trans this.2⟩

theorem Boxed.drewN {W : World} {B : Nat} {t : TypeId} {v : Value} (h : Boxed W B t v) (d : Nat) : Boxed (W.drewN d) B t v := h
theorem KeptBut.drewN {n B : Nat} {X W : World} (h : KeptBut n B X W) (d : Nat) : KeptBut n B X (W.drewN d) := ⟨h.os, h.tape, h.output, h.size, h.block⟩
theorem KeptBut.setCell {n B : Nat} {X W : World} (h : KeptBut n B X W) (b o : Nat) (v : Value) (hb : b = B ∨ n ≤ b) : KeptBut n B X (W.setCell ⟨b, o, none⟩ v) := by
  have hs : (W.setCell ⟨b, o, none⟩ v).heap.size = W.heap.size := by simp
  exact ⟨h.os, h.tape, h.output, by rw [hs]; exact h.size, fun k h1 h2 => (Below.heap_setCell _ _ _ k (by show k ≠ b; rcases hb with rfl | hb <;> omega)).trans (h.block k h1 h2)⟩
theorem KeptBut.grown {n B : Nat} {X W W' : World} {row : Option Nat} (h : KeptBut n B X W) (hg : W.grownBy W' row) (hr : ∀ r, row = some r → n ≤ r) (hn : n ≤ W.heap.size) : KeptBut n B X W' :=
  ⟨hg.os.trans h.os, hg.tape.trans h.tape, hg.output.trans h.output, Nat.le_trans h.size hg.size, fun k h1 h2 => (hg.block k (by omega) (fun e => by have := hr k e.symm; omega)).trans (h.block k h1 h2)⟩
/-- Four blocks that are laid one after the other. -/
theorem laid4 (w : World) (a b c d : Obj) {N : Nat} (hN : w.heap.size = N) {W : World} (hW : (((w.alloc a).alloc b).alloc c).alloc d = W) :
    W.heap.size = N + 4 ∧ W.heap[N]? = some a ∧ W.heap[N + 1]? = some b ∧ W.heap[N + 2]? = some c ∧ W.heap[N + 3]? = some d ∧ Below w.heap.size w W := by
  subst hN; subst hW
  have up : ∀ (W : World) (o : Obj) (k : Nat) (x : Obj), W.heap[k]? = some x → (W.alloc o).heap[k]? = some x := fun W o k x h => (Below.heap_alloc W o k (Array.getElem?_eq_some_iff.1 h).1).trans h
  have n0 := World.alloc_heap_new w a
  have n1 := World.alloc_heap_new (w.alloc a) b
  have n2 := World.alloc_heap_new ((w.alloc a).alloc b) c
  have n3 := World.alloc_heap_new (((w.alloc a).alloc b).alloc c) d
  simp only [World.size_alloc] at n1 n2 n3
  refine ⟨by simp, up _ _ _ _ (up _ _ _ _ (up _ _ _ _ n0)), up _ _ _ _ (up _ _ _ _ n1), up _ _ _ _ n2, n3, (((((Below.refl _ w).alloc (Nat.le_refl _) _).alloc (by simp) _).alloc (by simp; omega) _).alloc (by simp; omega) _)⟩

theorem Row.keptBut {n B e b : Nat} {w w' : World} {v : Value} {cs : List Value} (h : Row w b e v cs) (hk : KeptBut n B w w') (hv : ∀ k, v.ownBlock = some k → k < n ∧ k ≠ B) : Row w' b e v cs := by
  refine ⟨h.1, ?_⟩
  rcases h.2 with hn | ⟨g, cap, cur, rfl, hbb, hgg, rest⟩
  · exact .inl hn
  · refine .inr ⟨g, cap, cur, rfl, hbb, ?_, rest⟩
    obtain ⟨h1, h2⟩ := hv g (by simp [Value.ownBlock])
    rw [hk.block g h1 h2]
    exact hgg


end Go.Proofs.YtajopgffnfahjaaDoor
/-
  asPlan: the iterator's closure, the row of steps (written by genasq.py).
-/
set_option linter.unusedVariables false
set_option linter.unusedSimpArgs false
namespace Go.Proofs.YtajopgffnfahjaaDoor
open Go.RowKit

theorem given_of (S : St) (hk : 1 ≤ S.kind ∧ S.kind ≤ 13) (t : Value) (hl : S.taps.length ≤ 1000) :
    ∃ (T : TypeId) (v : Value) (f : Nat) (rv : Value), ifV S t = .iface T v ∧ (∀ w : World, (method 330 T v "loop.example/g01155/impl.given").run Tryd.prog w = .ok (f, rv) w) ∧
      (∀ args w, (callFunc f args).run Tryd.prog w = .ok (.enter f args) w) ∧
      ∀ w B, Row w B 2 t (ints S.taps) → Calls Tryd.prog f #[rv] w fun e w' => ∃ u tv, e = .returned u ∧ StepO w' w.heap.size u S tv ∧ Below w.heap.size w w' := by
  have hkk := kind_cases hk
  obtain ⟨kd, N, K, taps⟩ := S
  simp only at hkk hl
  rcases hkk with rfl | rfl | rfl | rfl | rfl | rfl | rfl | rfl | rfl | rfl | rfl | rfl | rfl
  · exact ⟨144, .agg #[.int .i64 1, .int .i64 N, .int .i64 K, t], 168, .agg #[.int .i64 1, .int .i64 N, .int .i64 K, t], rfl, fun _ => by kernel_rfl, enters_of Tryd.func168 (by kernel_rfl) rfl, fun w B h => given_any (S := ⟨1, N, K, taps⟩) h hl⟩
  · exact ⟨145, .agg #[.int .i64 2, .int .i64 N, .int .i64 K, t], 168, .agg #[.int .i64 2, .int .i64 N, .int .i64 K, t], rfl, fun _ => by kernel_rfl, enters_of Tryd.func168 (by kernel_rfl) rfl, fun w B h => given_any (S := ⟨2, N, K, taps⟩) h hl⟩
  · exact ⟨146, .agg #[.int .i64 3, .int .i64 N, .int .i64 K, t], 168, .agg #[.int .i64 3, .int .i64 N, .int .i64 K, t], rfl, fun _ => by kernel_rfl, enters_of Tryd.func168 (by kernel_rfl) rfl, fun w B h => given_any (S := ⟨3, N, K, taps⟩) h hl⟩
  · exact ⟨147, .agg #[.int .i64 4, .int .i64 N, .int .i64 K, t], 168, .agg #[.int .i64 4, .int .i64 N, .int .i64 K, t], rfl, fun _ => by kernel_rfl, enters_of Tryd.func168 (by kernel_rfl) rfl, fun w B h => given_any (S := ⟨4, N, K, taps⟩) h hl⟩
  · exact ⟨148, .agg #[.int .i64 5, .int .i64 N, .int .i64 K, t], 168, .agg #[.int .i64 5, .int .i64 N, .int .i64 K, t], rfl, fun _ => by kernel_rfl, enters_of Tryd.func168 (by kernel_rfl) rfl, fun w B h => given_any (S := ⟨5, N, K, taps⟩) h hl⟩
  · exact ⟨149, .agg #[.int .i64 6, .int .i64 N, .int .i64 K, t], 168, .agg #[.int .i64 6, .int .i64 N, .int .i64 K, t], rfl, fun _ => by kernel_rfl, enters_of Tryd.func168 (by kernel_rfl) rfl, fun w B h => given_any (S := ⟨6, N, K, taps⟩) h hl⟩
  · exact ⟨151, .agg #[.int .i64 7, .int .i64 N, .int .i64 K, t], 168, .agg #[.int .i64 7, .int .i64 N, .int .i64 K, t], rfl, fun _ => by kernel_rfl, enters_of Tryd.func168 (by kernel_rfl) rfl, fun w B h => given_any (S := ⟨7, N, K, taps⟩) h hl⟩
  · exact ⟨152, .agg #[.int .i64 8, .int .i64 N, .int .i64 K, t], 168, .agg #[.int .i64 8, .int .i64 N, .int .i64 K, t], rfl, fun _ => by kernel_rfl, enters_of Tryd.func168 (by kernel_rfl) rfl, fun w B h => given_any (S := ⟨8, N, K, taps⟩) h hl⟩
  · exact ⟨153, .agg #[.int .i64 9, .int .i64 N, .int .i64 K, t], 168, .agg #[.int .i64 9, .int .i64 N, .int .i64 K, t], rfl, fun _ => by kernel_rfl, enters_of Tryd.func168 (by kernel_rfl) rfl, fun w B h => given_any (S := ⟨9, N, K, taps⟩) h hl⟩
  · exact ⟨154, .agg #[.int .i64 10, .int .i64 N, .int .i64 K, t], 168, .agg #[.int .i64 10, .int .i64 N, .int .i64 K, t], rfl, fun _ => by kernel_rfl, enters_of Tryd.func168 (by kernel_rfl) rfl, fun w B h => given_any (S := ⟨10, N, K, taps⟩) h hl⟩
  · exact ⟨155, .agg #[.int .i64 11, .int .i64 N, .int .i64 K, t], 168, .agg #[.int .i64 11, .int .i64 N, .int .i64 K, t], rfl, fun _ => by kernel_rfl, enters_of Tryd.func168 (by kernel_rfl) rfl, fun w B h => given_any (S := ⟨11, N, K, taps⟩) h hl⟩
  · exact ⟨156, .agg #[.int .i64 12, .int .i64 N, .int .i64 K, t], 168, .agg #[.int .i64 12, .int .i64 N, .int .i64 K, t], rfl, fun _ => by kernel_rfl, enters_of Tryd.func168 (by kernel_rfl) rfl, fun w B h => given_any (S := ⟨12, N, K, taps⟩) h hl⟩
  · exact ⟨157, .agg #[.int .i64 13, .int .i64 N, .int .i64 K, t], 168, .agg #[.int .i64 13, .int .i64 N, .int .i64 K, t], rfl, fun _ => by kernel_rfl, enters_of Tryd.func168 (by kernel_rfl) rfl, fun w B h => given_any (S := ⟨13, N, K, taps⟩) h hl⟩

theorem enter_as1 (args : Array Value) (w : World) : (callFunc 75 args).run Tryd.prog w = .ok (.enter 75 args) w := by kernel_rfl

set_option maxRecDepth 100000 in
set_option maxHeartbeats 4000000 in
theorem as1_any {w : World} {B B2 b n : Nat} {V : Value} {ss : List St} {tv : Nat → Value} (h : Row w B 66 V (ifVs ss tv n)) (hp : w.cell? ⟨b, 0, none⟩ = some V) (i : Nat) (hi : i < n) (hk : 1 ≤ (ss.getD i default).kind ∧ (ss.getD i default).kind ≤ 13)
    (hr : Row w B2 2 (tv i) (ints (ss.getD i default).taps)) (hl : (ss.getD i default).taps.length ≤ 1000) :
    Calls Tryd.prog 75 #[.int .i64 (i : Int), .pointer (some ⟨b, 0, none⟩)] w fun e w' => ∃ u t, e = .returned u ∧ StepO w' w.heap.size u (ss.getD i default) t ∧ Below w.heap.size w w' := by
  have hsh := h.shape
  rcases hsh with ⟨a, cap, rfl, e⟩ | ⟨g, cap, rfl, h0, _, hg, h1, h2⟩
  · have := congrArg List.length e
    rw [ifVs_length] at this
    simp at this
    omega
  have c0 := h.cellAt (j := i) (by rw [ifVs_length]; exact hi)
  rw [ifVs_getD hi] at c0
  rw [ifVs_length] at h0 h1 hp
  obtain ⟨S, hS⟩ : ∃ S, ss.getD i default = S := ⟨_, rfl⟩
  rw [hS] at hk hr hl c0 ⊢
  have hlt0 : ∀ b, (tv i).ownBlock = some b → b < w.heap.size := fun b e => (hr.lt b e).2
  obtain ⟨T, u, f, rv, hif, hm, hent, hcall⟩ := given_of S hk (tv i) hl
  rw [hif] at c0
  have hb : Below w.heap.size w (w.alloc (.cells #[.int .i64 0, .int .i64 0, .int .i64 0, .slice none 0 0] 39)) := (Below.refl _ _).alloc (Nat.le_refl _) _
  have C := Lib.hid (hcall _ _ (hr.below hb hlt0))
  have HB := Lib.hid hb
  have hmx : (n : Int) ≤ 9223372036854775807 := by unfold maxLen at h2; omega
  have hii : (i : Int) < (n : Int) := by omega
  clear h hr hlt0 hcall hS hif hb
  obtain ⟨W, hW⟩ : ∃ W, W = (w.alloc (.cells #[.int .i64 0, .int .i64 0, .int .i64 0, .slice none 0 0] 39)) := ⟨_, rfl⟩
  have hs : W.heap.size = w.heap.size + 1 := by rw [hW]; simp
  have j0 : W.cell? ⟨w.heap.size, 0, none⟩ = some (.int .i64 0) := by rw [hW]; go_simp
  have j1 : W.cell? ⟨w.heap.size, 1, none⟩ = some (.int .i64 0) := by rw [hW]; go_simp
  have j2 : W.cell? ⟨w.heap.size, 2, none⟩ = some (.int .i64 0) := by rw [hW]; go_simp
  have j3 : W.cell? ⟨w.heap.size, 3, none⟩ = some (.slice none 0 0) := by rw [hW]; go_simp
  have g0 : W.frozen? ⟨w.heap.size, 0, none⟩ = false := by rw [hW]; go_simp
  have g1 : W.frozen? ⟨w.heap.size, 1, none⟩ = false := by rw [hW]; go_simp
  have g2 : W.frozen? ⟨w.heap.size, 2, none⟩ = false := by rw [hW]; go_simp
  have g3 : W.frozen? ⟨w.heap.size, 3, none⟩ = false := by rw [hW]; go_simp
  have hgb : b < w.heap.size := World.block_lt_of_cell? _ _ hp
  have k1 : (w.alloc (.cells #[.int .i64 0, .int .i64 0, .int .i64 0, .slice none 0 0] 39)).cell? ⟨b, 0, none⟩ = some (.slice (some ⟨g, 0, none⟩) n cap) := by rw [HB.out.cell (p := ⟨b, 0, none⟩) hgb]; exact hp
  have k2 : (w.alloc (.cells #[.int .i64 0, .int .i64 0, .int .i64 0, .slice none 0 0] 39)).cell? ⟨g, i, none⟩ = some (.iface T u) := by rw [HB.out.cell (p := ⟨g, i, none⟩) hg]; exact c0
  rw [← hW] at C HB
  have HW := Lib.hid hW.symm
  clear hW hp c0
  go_enter Tryd.func75, Tryd.ntmps75
  go_wp2_with fail
  rw [HW.out]
  clear k1 k2
  go_wp2_with fail
  refine C.out.mono ?_
  rintro e w1 ⟨x, t', rfl, ⟨rfl, hr⟩, hb⟩
  have b1 : w.heap.size < W.heap.size := by omega
  rw [← hb.cell (by exact b1)] at j0 j1 j2 j3
  rw [← hb.frozen (by exact b1)] at g0 g1 g2 g3
  have HR := Lib.hid (hr.base' (B := w.heap.size) (by omega))
  have HB2 := Lib.hid (below_step' HB.out hb HB.out.size)
  have HL : Hid (∀ g, t'.ownBlock = some g → w.heap.size < g) := fun g hg' => by have := (hr.lt g hg').1; omega
  obtain ⟨a', cap', rfl⟩ := hr.form
  clear hr hb C HB b1
  go_wp2
  (try simp only [Exit.inBlock, Exit.then])
  refine bodyPost_ret (res_cell1' rfl _ _ _ rfl (run_loadVar_mid _ _ _ _ [.int .i64 S.kind, .int .i64 S.n, .int .i64 S.k, .slice a' (ints S.taps).length cap'] _ ?_ Tryd.underlying39 rfl infoStep)) rfl ?_
  · intro j v hv
    rcases j with _ | _ | _ | _ | j <;> simp at hv <;> subst hv <;> go_simp
  · refine ⟨_, _, rfl, ⟨rfl, ?_⟩, ?_⟩
    · have hne2 : (Value.slice a' (ints S.taps).length cap').ownBlock ≠ some (w.heap.size) := fun e => by have := HL.out _ e; omega
      exact (((HR.out.other _ hne2).other _ hne2).other _ hne2).other _ hne2
    · refine ((((HB2.out.setCell ?_ _).setCell ?_ _).setCell ?_ _).setCell ?_ _) <;> (simp only []; omega)

set_option maxRecDepth 100000 in
set_option maxHeartbeats 4000000 in
theorem listOf_steps (fn : Nat) (capt : Array Value) (n : Nat) (hn : n ≤ 1000000) (ss : List St) (w : World)
    (hfn : ∀ (args : Array Value) (w : World), (callFunc fn args).run Tryd.prog w = .ok (.enter fn args) w)
    (hcall : ∀ i w1, i < n → Below w.heap.size w w1 → Calls Tryd.prog fn (#[.int .i64 (i : Int)] ++ capt) w1 fun e w2 => ∃ u t, e = .returned u ∧ StepO w2 w1.heap.size u (ss.getD i default) t ∧ Below w1.heap.size w1 w2) :
    Calls Tryd.prog 74 #[.int .i64 n, .func (.func fn) #[] capt] w fun e w' =>
      ∃ V tv, e = .returned V ∧ StepsO w' w.heap.size V n n ss tv ∧ Below w.heap.size w w' := by
  obtain ⟨i0, hi, hz0, hz1, hz2⟩ := info_parts' info_step
  have HF := Lib.hid hcall
  clear hcall
  go_enter Tryd.func74, Tryd.ntmps74
  go_wp2_with (at_make; refine wpList_make_full _ rfl _ _ 26 rfl w.heap.size 39 i0 _ 4 Tryd.underlying26 hi hz0 hz1 .i64 .i64 _ _ n rfl rfl rfl rfl (by rw [hz2]; omega) (by simp only [maxLen]; omega) (Nat.le_refl _) ?_)
  intro w1 hown hg1
  have HO : Hid (StepsO w1 w.heap.size (.slice (some ⟨w.heap.size, 0, none⟩) n n) n 0 ss (fun _ => undef)) := ⟨⟨_, hown, fun j hj => by omega⟩, fun j hj => by omega, fun i j _ hj => by omega⟩
  have HG := Lib.hid (below_new hg1)
  clear hown hg1 hi hz0 hz1 hz2
  go_wp2
  go_loopw [10] (fun i wr => ∃ (k : Nat) (tv : Nat → Value), i = .int .i64 k ∧ k ≤ n ∧ StepsO wr w.heap.size (.slice (some ⟨w.heap.size, 0, none⟩) n n) n k ss tv ∧ Below w.heap.size w wr) (fun i _ => n - (intOf i).toNat)
  case atStart => exact ⟨0, _, rfl, Nat.zero_le _, HO.out, HG.out⟩
  case round =>
    clear HO HG
    obtain ⟨k, tv, rfl, hk, hO, hB⟩ := hrel
    have HO := Lib.hid hO
    have HB := Lib.hid hB
    clear hO hB
    by_cases hlt : k < n
    · have T := HF.out k wr hlt HB.out
      obtain ⟨S, hS⟩ : ∃ S, ss.getD k default = S := ⟨_, rfl⟩
      rw [hS] at T
      have T := Lib.hid T
      have HS := Lib.hid hS
      clear hS
      go_wp2_with fail
      refine T.out.mono ?_
      rintro e w2 ⟨u, t', rfl, ⟨rfl, hr⟩, hb2⟩
      have hO2 := HO.out.below hb2 (Nat.le_refl _)
      have hsz := HB.out.size
      obtain ⟨z0, z1, z2, z3, d0, d1, d2, d3, df⟩ := hO2.place hlt
      have f0 := df (k * 4)
      have f1 := df (k * 4 + 1)
      have f2 := df (k * 4 + 2)
      have f3 := df (k * 4 + 3)
      have hnx := hO2.next hlt HS.out hsz hr (fun i hi a ea => ((HO.out.each i hi).lt a ea).2)
      have HB2 := Lib.hid (below_step' HB.out hb2 hsz)
      obtain ⟨a', cap', rfl⟩ := hr.form
      have HN := Lib.hid hnx.1
      have HGR : Hid (Below w.heap.size w _) := HB2.out.grown hnx.2 (Nat.le_trans hsz hb2.size) (fun b e => by cases e; exact Nat.le_refl _)
      clear hnx hO2 df hr hb2 T HB2
      obtain ⟨l', hl'⟩ : ∃ l, (ints S.taps).length = l := ⟨_, rfl⟩
      rw [hl'] at HN HGR ⊢
      clear hl'
      go_wp2
      go_roundw
      case rel => exact ⟨k + 1, _, by go_num, by omega, HN.out, HGR.out⟩
      case measure => simp [intOf]; omega
    · have e : k = n := by omega
      subst e
      go_wp2
      go_ret
      exact ⟨_, tv, rfl, HO.out, HB.out⟩

end Go.Proofs.YtajopgffnfahjaaDoor
/-
  asPlan.
-/
set_option linter.unusedVariables false
set_option linter.unusedSimpArgs false
namespace Go.Proofs.YtajopgffnfahjaaDoor
open Go.RowKit

set_option maxRecDepth 100000 in
set_option maxHeartbeats 4000000 in
/-- The plan of steps that can be run: steps of its own, with taps of their own. -/
theorem asPlan_any {w : World} {B B2 n : Nat} {V : Value} {ss : List St} {tv : Nat → Value} (h : Row w B 66 V (ifVs ss tv n)) (hn : n ≤ 1000000) (hk : ∀ i, i < n → 1 ≤ (ss.getD i default).kind ∧ (ss.getD i default).kind ≤ 13)
    (hr : ∀ i, i < n → Row w B2 2 (tv i) (ints (ss.getD i default).taps)) (hl : ∀ i, i < n → (ss.getD i default).taps.length ≤ 1000) :
    Calls Tryd.prog 38 #[.agg #[V]] w fun e w' => ∃ V' tv', e = .returned (.agg #[V']) ∧ StepsO w' w.heap.size V' n n ss tv' ∧ Below w.heap.size w w' := by
  have hlt0 : ∀ b, V.ownBlock = some b → b < w.heap.size := fun b e => (h.lt b e).2
  have hfm := h.form
  rw [ifVs_length] at hfm
  obtain ⟨a, cap, rfl⟩ := hfm
  have hb : Below w.heap.size w ((w.alloc (.cells #[.slice a n cap] 61)).alloc (.cells #[.slice none 0 0] 28)) := ((Below.refl _ _).alloc (Nat.le_refl _) _).alloc (by simp) _
  obtain ⟨W, hW⟩ : ∃ W, W = (w.alloc (.cells #[.slice a n cap] 61)).alloc (.cells #[.slice none 0 0] 28) := ⟨_, rfl⟩
  have hs : W.heap.size = w.heap.size + 1 + 1 := by rw [hW]; simp
  have c0 : W.cell? ⟨w.heap.size, 0, none⟩ = some (.slice a n cap) := by rw [hW]; go_simp
  have j0 : W.cell? ⟨w.heap.size + 1, 0, none⟩ = some (.slice none 0 0) := by rw [hW]; go_simp
  have f0 : W.frozen? ⟨w.heap.size + 1, 0, none⟩ = false := by rw [hW]; go_simp
  rw [← hW] at hb
  have LO := listOf_steps 75 #[.pointer (some ⟨w.heap.size, 0, none⟩)] n hn ss W enter_as1 (fun i w1 hi hb1 => by
    have hbw : Below w.heap.size w w1 := below_step' hb hb1 hb.size
    refine as1_any (tv := tv) (h.below hbw hlt0) ?_ i hi (hk i hi) ((hr i hi).below hbw (fun b e => ((hr i hi).lt b e).2)) (hl i hi)
    rw [hb1.cell (p := ⟨w.heap.size, 0, none⟩) (by show w.heap.size < W.heap.size; omega)]
    exact c0)
  have LO := Lib.hid LO
  have HB := Lib.hid hb
  have HW := Lib.hid hW.symm
  have hmx : (n : Int) ≤ 9223372036854775807 := by omega
  clear h hk hr hl hlt0 hb hW c0
  go_enter Tryd.func38, Tryd.ntmps38
  go_wp2_with fail
  rw [HW.out]
  refine LO.out.mono ?_
  rintro e w1 ⟨V', tv', rfl, hO, hb1⟩
  have b1 : w.heap.size + 1 < W.heap.size := by omega
  rw [← hb1.cell (by exact b1)] at j0
  rw [← hb1.frozen (by exact b1)] at f0
  have HB1 := Lib.hid (below_step' HB.out hb1 HB.out.size)
  have HO := Lib.hid hO
  obtain ⟨a', cap', rfl⟩ := hO.form
  clear hO hb1 LO HB b1
  go_wp2
  (try simp only [Exit.inBlock, Exit.then])
  refine bodyPost_ret (res_cell1' rfl _ _ _ rfl (run_loadVar_mid _ _ _ _ [.slice a' n cap'] _ ?_ Tryd.underlying28 rfl infoPlan)) rfl ?_
  · intro j v hv
    rcases j with _ | j <;> simp at hv <;> subst hv <;> go_simp
  · refine ⟨_, _, rfl, (HO.out.other _ (by omega)).base (by omega), HB1.out.setCell (by show w.heap.size ≤ w.heap.size + 1; omega) _⟩

end Go.Proofs.YtajopgffnfahjaaDoor
/-
  Bytes that came in; a2At, a2Long.
-/
set_option linter.unusedVariables false
set_option linter.unusedSimpArgs false
namespace Go.Proofs.YtajopgffnfahjaaDoor
open Go.RowKit

theorem isRow_cell {w0 w : World} {x : Addr} {len cap : Nat} {zs : List Int} (hr : IsRow .u8 w0 (some x) len cap zs) (hb : Below w0.heap.size w0 w) {k : Nat} (hk : k < len) :
    ∃ z : Int, w.cell? (x.add k) = some (.int .u8 z) ∧ 0 ≤ z ∧ z ≤ 255 := by
  rcases hr with ⟨h, -⟩ | ⟨y, h, hl, hm, hz, hc, hw⟩
  · cases h
  · obtain rfl := Option.some.inj h
    have hk' : k < zs.length := by omega
    have c := hc k hk'
    refine ⟨zs.getD k 0, ?_, ?_⟩
    · rw [hb.cell (World.block_lt_of_cell? _ _ c), c]
    · have hmem : zs.getD k 0 ∈ zs := by
        rw [List.getD_eq_getElem?_getD, List.getElem?_eq_getElem hk']
        exact List.getElem_mem hk'
      have := hw _ hmem
      simp only [Lit.wf, decide_eq_true_eq] at this
      have h1 : IntKind.u8.min = 0 := by decide
      have h2 : IntKind.u8.max = 255 := by decide
      rw [h1, h2] at this
      simpa using this

theorem isRow_len {w0 : World} {a : Option Addr} {len cap : Nat} {zs : List Int} (hr : IsRow .u8 w0 a len cap zs) : len ≤ 9223372036854775807 := by
  rcases hr with ⟨-, rfl, -⟩ | ⟨y, h, hl, hm, hz, hc, hw⟩
  · omega
  · unfold maxLen at hm; omega

theorem isRow_below {k : IntKind} {w0 w1 : World} {a : Option Addr} {len cap : Nat} {zs : List Int} (hr : IsRow k w0 a len cap zs) (hb : Below w0.heap.size w0 w1) : IsRow k w1 a len cap zs := by
  rcases hr with h | ⟨x, h, hl, hm, hz, hc, hw⟩
  · exact .inl h
  · exact .inr ⟨x, h, hl, hm, hz, fun i hi => by rw [hb.cell (World.block_lt_of_cell? _ _ (hc i hi)), hc i hi], hw⟩

/-- A number from 0 to n - 1 is returned. -/
def Upto (n : Int) (w : World) (e : Ending) (w' : World) : Prop := ∃ r : Int, 0 ≤ r ∧ r < n ∧ e = .returned (.int .i64 r) ∧ w' = w

end Go.Proofs.YtajopgffnfahjaaDoor
