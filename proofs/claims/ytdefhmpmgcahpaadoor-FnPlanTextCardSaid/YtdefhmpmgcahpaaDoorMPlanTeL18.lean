/-
  Several texts of this claim, one behind the other; each says what it holds.
-/
import Derived.Test.YtdefhmpmgcahpaaDoorMPlanTeL12
import Derived.Test.YtdefhmpmgcahpaaDoorChnPZ
import Derived.Test.YtdefhmpmgcahpaaDoorChnQZ
import Derived.Test.YtdefhmpmgcahpaaDoorChnRZ
import Derived.Test.YtdefhmpmgcahpaaDoorMPlanTeL16
set_option linter.unusedVariables false
set_option linter.unusedSimpArgs false
namespace Go.Proofs.YtdefhmpmgcahpaaDoor
open Go.RowKit

section
variable (n k : Int) (a : Option Addr) (L c : Nat) (w : World)

set_option maxRecDepth 100000 in
set_option maxHeartbeats 4000000 in
theorem stepOf_13 : Calls Tryd.prog 93 #[.agg #[.int .i64 13, .int .i64 n, .int .i64 k, .slice a L c]] w fun e w' => e = .returned (.iface 170 (.agg #[.int .i64 13, .int .i64 n, .int .i64 k, .slice a L c])) ∧ Below w.heap.size w w' := by
  go_enter Tryd.func93, Tryd.ntmps93
  go_wp2
  go_region
  all_goals
    go_wp2
    go_ret
    refine ⟨rfl, ?_⟩
    repeat' (first | exact Below.refl _ _ | refine Below.drew ?_ | refine below_draws ?_ _ | refine Below.alloc ?_ ?_ _)
    all_goals first | omega | (simp; done) | (simp; omega) | (simp [World.drewN]; done) | (simp [World.drewN]; omega) | trace_state

end
end Go.Proofs.YtdefhmpmgcahpaaDoor
/-
  Steps that can be run: stepOf.
-/
set_option linter.unusedVariables false
set_option linter.unusedSimpArgs false
namespace Go.Proofs.YtdefhmpmgcahpaaDoor
open Go.RowKit

theorem kind_cases {kd : Int} (h : 1 ≤ kd ∧ kd ≤ 13) : kd = 1 ∨ kd = 2 ∨ kd = 3 ∨ kd = 4 ∨ kd = 5 ∨ kd = 6 ∨ kd = 7 ∨ kd = 8 ∨ kd = 9 ∨ kd = 10 ∨ kd = 11 ∨ kd = 12 ∨ kd = 13 := by omega

theorem validSt_kind {s : St} (h : validSt s = true) : 1 ≤ s.kind ∧ s.kind ≤ 13 := by
  by_cases hk : 1 ≤ s.kind ∧ s.kind ≤ 13
  · exact hk
  · exfalso
    have e : validSt s = false := by
      simp only [validSt]
      repeat (rw [if_neg (by omega)])
    rw [e] at h
    cases h

theorem stepOf_any (s : St) (hk : 1 ≤ s.kind ∧ s.kind ≤ 13) (a : Option Addr) (L c : Nat) (w : World) :
    Calls Tryd.prog 93 #[.agg #[.int .i64 s.kind, .int .i64 s.n, .int .i64 s.k, .slice a L c]] w fun e w' => e = .returned (ifV s (.slice a L c)) ∧ Below w.heap.size w w' := by
  obtain ⟨kd, n, k, taps⟩ := s
  simp only at hk ⊢
  rcases kind_cases hk with rfl | rfl | rfl | rfl | rfl | rfl | rfl | rfl | rfl | rfl | rfl | rfl | rfl
  · exact stepOf_1 n k a L c w
  · exact stepOf_2 n k a L c w
  · exact stepOf_3 n k a L c w
  · exact stepOf_4 n k a L c w
  · exact stepOf_5 n k a L c w
  · exact stepOf_6 n k a L c w
  · exact stepOf_7 n k a L c w
  · exact stepOf_8 n k a L c w
  · exact stepOf_9 n k a L c w
  · exact stepOf_10 n k a L c w
  · exact stepOf_11 n k a L c w
  · exact stepOf_12 n k a L c w
  · exact stepOf_13 n k a L c w

end Go.Proofs.YtdefhmpmgcahpaaDoor
/-
  planOf: the steps that can be run, in a row.
-/
set_option linter.unusedVariables false
set_option linter.unusedSimpArgs false
namespace Go.Proofs.YtdefhmpmgcahpaaDoor
open Go.RowKit

/-- The values of the steps that can be run. -/
def ifVs (ss : List St) (tv : Nat → Value) (n : Nat) : List Value := (List.range n).map fun j => ifV (ss.getD j default) (tv j)
theorem ifVs_length (ss : List St) (tv : Nat → Value) (n : Nat) : (ifVs ss tv n).length = n := by simp [ifVs]
theorem ifVs_snoc (ss : List St) (tv : Nat → Value) (n : Nat) : ifVs ss tv (n + 1) = ifVs ss tv n ++ [ifV (ss.getD n default) (tv n)] := by simp [ifVs, List.range_succ]
theorem ifVs_getD {ss : List St} {tv : Nat → Value} {n j : Nat} (h : j < n) : (ifVs ss tv n).getD j undef = ifV (ss.getD j default) (tv j) := by simp [ifVs, List.getD, h]

theorem fillW {vs : List Value} {n k : Nat} {z v : Value} (hk : k < n) (hl : vs.length = k) : (vs ++ List.replicate (n - k) z).set k v = (vs ++ [v]) ++ List.replicate (n - (k + 1)) z := by
  rw [List.set_append_right _ _ (by omega), hl, Nat.sub_self]
  obtain ⟨m, hm⟩ : ∃ m, n - k = m + 1 := ⟨n - k - 1, by omega⟩
  rw [hm, List.replicate_succ, List.set_cons_zero, show n - (k + 1) = m by omega, List.append_assoc]
  rfl

theorem info_ifc : (Tryd.prog.info? 125).map (fun i => (i.zero, i.size, i.bytes)) = some (some .nilIface, 1, 16) := by kernel_rfl

set_option maxRecDepth 100000 in
set_option maxHeartbeats 4000000 in
theorem listOf_chain (fn : Nat) (capt : Array Value) (n : Nat) (hn : n ≤ 1000000) (ss : List St) (tv : Nat → Value) (w : World)
    (hfn : ∀ (args : Array Value) (w : World), (callFunc fn args).run Tryd.prog w = .ok (.enter fn args) w)
    (hcall : ∀ i w1, i < n → Below w.heap.size w w1 → Calls Tryd.prog fn (#[.int .i64 (i : Int)] ++ capt) w1 fun e w2 => e = .returned (ifV (ss.getD i default) (tv i)) ∧ Below w1.heap.size w1 w2) :
    Calls Tryd.prog 91 #[.int .i64 n, .func (.func fn) #[] capt] w fun e w' =>
      ∃ V, e = .returned V ∧ Row w' w.heap.size 125 V (ifVs ss tv n) ∧ Below w.heap.size w w' := by
  obtain ⟨j0, hj, hy0, hy1, hy2⟩ := info_parts' info_ifc
  have HF := Lib.hid hcall
  clear hcall
  go_enter Tryd.func91, Tryd.ntmps91
  go_wp2_with (at_make; refine wpList_make_full _ rfl _ _ 94 rfl w.heap.size 125 j0 .nilIface 1 Tryd.underlying94 hj hy0 hy1 .i64 .i64 _ _ n rfl rfl rfl rfl (by rw [hy2]; omega) (by simp only [maxLen]; omega) (Nat.le_refl _) ?_)
  intro w1 hown hg1
  rw [toList_madeCells_one] at hown
  have HO : Hid (Row w1 w.heap.size 125 (.slice (some ⟨w.heap.size, 0, none⟩) n n) (ifVs ss tv 0 ++ List.replicate (n - 0) .nilIface)) := by show w1.ownsRow _ _ _ _ _ _; simpa [ifVs] using hown
  have HK1 := Lib.hid (below_new hg1)
  clear hown hg1 hj hy0 hy1 hy2
  go_wp2
  go_loopw [10] (fun i wr => ∃ (k : Nat), i = .int .i64 k ∧ k ≤ n ∧ Row wr w.heap.size 125 (.slice (some ⟨w.heap.size, 0, none⟩) n n) (ifVs ss tv k ++ List.replicate (n - k) .nilIface) ∧ Below w.heap.size w wr) (fun i _ => n - (intOf i).toNat)
  case atStart => exact ⟨0, rfl, Nat.zero_le _, HO.out, HK1.out⟩
  case round =>
    clear HO HK1
    obtain ⟨k, rfl, hk, hO, hK⟩ := hrel
    have HO := Lib.hid hO
    have HK := Lib.hid hK
    clear hO hK
    by_cases hlt : k < n
    · have S := Lib.hid (HF.out k wr hlt HK.out)
      go_wp2_with fail
      refine S.out.mono ?_
      rintro e w2 ⟨rfl, hk2⟩
      have hO2 := HO.out.below hk2 (fun j e => ((HO.out).lt j e).2)
      have hsz := HK.out.size
      have hS := hO2.set k (ifV (ss.getD k default) (tv k))
      rw [fillW hlt (ifVs_length _ _ _), ← ifVs_snoc] at hS
      have o1 := hO2.cellAt hlt
      have f1 := hO2.frozenAt k
      obtain ⟨u, hu⟩ : ∃ u, (ifVs ss tv k ++ List.replicate (n - k) Value.nilIface).getD k undef = u := ⟨_, rfl⟩
      rw [hu] at o1
      have HNX := Lib.hid hS.1
      have HK2 : Hid (Below w.heap.size w (w2.setCell ⟨w.heap.size, k, none⟩ (ifV (ss.getD k default) (tv k)))) := by
        have h2 := below_step' HK.out hk2 hsz
        exact h2.grown hS.2 h2.size (fun b e => by cases e; exact Nat.le_refl _)
      obtain ⟨z, hz⟩ : ∃ z, ifV (ss.getD k default) (tv k) = z := ⟨_, rfl⟩
      have HZ : Hid (z.oneCell' = true) := by show z.oneCell' = true; rw [← hz]; rfl
      rw [hz] at HNX HK2 ⊢
      have hzf : ∃ t u, z = .iface t u := ⟨_, _, hz.symm⟩
      obtain ⟨zt, zu, rfl⟩ := hzf
      clear hk2 hO2 hS hu S HO HK hz
      go_wp2
      go_roundw
      case rel => exact ⟨k + 1, by go_num, by omega, HNX.out, HK2.out⟩
      case measure => simp [intOf]; omega
    · have e : k = n := by omega
      subst e
      go_wp2
      go_ret
      refine ⟨_, rfl, ?_, HK.out⟩
      have := HO.out
      rwa [Nat.sub_self, List.replicate_zero, List.append_nil] at this

theorem enter_po1 (args : Array Value) (w : World) : (callFunc 92 args).run Tryd.prog w = .ok (.enter 92 args) w := by kernel_rfl

set_option maxRecDepth 100000 in
theorem po1_any {w : World} {B b : Nat} {V : Value} {ss : List St} {tv : Nat → Value} (h : StepsO w B V ss.length ss.length ss tv) (hp : w.cell? ⟨b, 0, none⟩ = some V) (i : Nat) (hi : i < ss.length) (hk : 1 ≤ (ss.getD i default).kind ∧ (ss.getD i default).kind ≤ 13) :
    Calls Tryd.prog 92 #[.int .i64 (i : Int), .pointer (some ⟨b, 0, none⟩)] w fun e w' => e = .returned (ifV (ss.getD i default) (tv i)) ∧ Below w.heap.size w w' := by
  have hmax := h.len
  obtain ⟨g, cp, ta, tc, rfl, -, -, hg, et, c0, c1, c2, c3, -⟩ := h.at hi (Nat.le_refl _)
  have C := Lib.hid (stepOf_any (ss.getD i default) hk ta (ss.getD i default).taps.length tc w)
  rw [← et] at C c3
  obtain ⟨S, hS⟩ : ∃ S, ss.getD i default = S := ⟨_, rfl⟩
  rw [hS] at c0 c1 c2 C ⊢
  obtain ⟨t, ht⟩ : ∃ t, tv i = t := ⟨_, rfl⟩
  rw [ht] at C c3 ⊢
  obtain ⟨L, hL⟩ : ∃ L, ss.length = L := ⟨_, rfl⟩
  rw [hL] at hp hi hmax
  have hi3 : (i : Int) < (L : Int) := by omega
  clear h et hS ht hL
  go_enter Tryd.func92, Tryd.ntmps92
  go_wp2_with fail
  refine C.out.mono ?_
  rintro e w1 ⟨rfl, hb⟩
  have HB := Lib.hid hb
  clear hb
  go_wp2
  go_ret
  exact ⟨rfl, HB.out⟩

theorem res_cell_tmp {fn : Func} {p q : Tmp} {ty : TypeId} (h : fn.results = #[.cell p ty, .tmp q]) (tmps : Array Value) (P : Program) (w : World) {a : Addr} {v : Value} (ha : tmps.getD p undef = .pointer (some a)) (hv : (loadVar ty a).run P w = .ok v w) :
    (results fn tmps).run P w = .ok (.tuple #[v, tmps.getD q undef]) w := by
  have ha' : tmps[p]?.getD undef = .pointer (some a) := by simpa using ha
  simp only [results, h]
  simp [Sem.run_bind, Result.andThen, ha', asAddr, hv]
theorem infoPl : (Tryd.prog.info? 97).map (·.size) = some 1 := by kernel_rfl

/-- What planOf returns. -/
def PlanTo (ss : List St) (tv : Nat → Value) (w : World) (e : Ending) (w' : World) : Prop :=
  ∃ V, e = .returned (.tuple #[.agg #[V], .int .i64 (if validPl ss then 0 else 1)]) ∧ (if validPl ss then Row w' w.heap.size 125 V (ifVs ss tv ss.length) else V = .slice none 0 0) ∧ Below w.heap.size w w'

set_option maxRecDepth 100000 in
set_option maxHeartbeats 4000000 in
theorem planOf_any {w : World} {B : Nat} {V : Value} {ss : List St} {tv : Nat → Value} (h : StepsO w B V ss.length ss.length ss tv) (ht : Tab w) :
    Calls Tryd.prog 60 #[.agg #[V]] w (PlanTo ss tv w) := by
  have hmax := h.len
  obtain ⟨a, cap, rfl⟩ := h.form
  have hb : Below w.heap.size w ((w.alloc (.cells #[.slice a ss.length cap] 26)).alloc (.cells #[.slice none 0 0] 97)) := ((Below.refl _ _).alloc (Nat.le_refl _) _).alloc (by simp) _
  obtain ⟨W, hW⟩ : ∃ W, W = (w.alloc (.cells #[.slice a ss.length cap] 26)).alloc (.cells #[.slice none 0 0] 97) := ⟨_, rfl⟩
  have hs : W.heap.size = w.heap.size + 1 + 1 := by rw [hW]; simp
  have b0 : W.cell? ⟨w.heap.size, 0, none⟩ = some (.slice a ss.length cap) := by rw [hW]; go_simp
  have b1 : W.cell? ⟨w.heap.size + 1, 0, none⟩ = some (.slice none 0 0) := by rw [hW]; go_simp
  have f1 : W.frozen? ⟨w.heap.size + 1, 0, none⟩ = false := by rw [hW]; go_simp
  rw [← hW] at hb
  have VP := Lib.hid (validPlan_impl (h.below hb (Nat.le_refl _)) (ht.below hb))
  have HO := Lib.hid (fun (W' : World) (hb' : Below W.heap.size W W') => h.below (below_step' hb hb' hb.size) (Nat.le_refl _))
  have HB := Lib.hid hb
  have HW := Lib.hid hW.symm
  have HVK : Hid (validPl ss = true → (ss.length ≤ 8 ∧ ∀ i, i < ss.length → 1 ≤ (ss.getD i default).kind ∧ (ss.getD i default).kind ≤ 13)) := fun hv => by
    simp only [validPl, Bool.and_eq_true, decide_eq_true_eq] at hv
    refine ⟨hv.1, fun i hi => ?_⟩
    rw [List.getD_eq_getElem?_getD, List.getElem?_eq_getElem hi]
    exact validSt_kind (List.all_eq_true.1 hv.2 _ (List.getElem_mem _))
  unfold PlanTo
  obtain ⟨A, hA⟩ : ∃ A, validPl ss = A := ⟨_, rfl⟩
  rw [hA] at VP HVK ⊢
  clear h ht hb hW hA
  go_enter Tryd.func60, Tryd.ntmps60
  go_wp2_with fail
  rw [HW.out]
  with_reducible refine VP.out.mono ?_
  rintro e w1 ⟨rfl, hb1⟩
  have k0 : w.heap.size < W.heap.size := by omega
  have k1 : w.heap.size + 1 < W.heap.size := by omega
  rw [← hb1.cell (by exact k0)] at b0
  rw [← hb1.cell (by exact k1)] at b1
  rw [← hb1.frozen (by exact k1)] at f1
  have HB1 := Lib.hid (below_step' HB.out hb1 HB.out.size)
  have HBW := Lib.hid hb1
  clear hb1 VP HW
  cases A
  · go_wp2
    (try simp only [Exit.inBlock, Exit.then])
    refine bodyPost_ret (res_cell_tmp rfl _ _ _ rfl (run_loadVar_mid _ _ _ _ [.slice none 0 0] _ ?_ Tryd.underlying97 rfl infoPl)) rfl ?_
    · intro j v hv
      rcases j with _ | j <;> simp at hv <;> subst hv <;> go_simp
    · refine ⟨_, rfl, rfl, ?_⟩
      refine (HB1.out.setCell ?_ _) <;> (simp only []; omega)
  · obtain ⟨h8, hkk⟩ := HVK.out rfl
    have hP := Lib.hid (HO.out w1 HBW.out)
    have LC := listOf_chain 92 #[.pointer (some ⟨w.heap.size, 0, none⟩)] ss.length (by omega) ss tv w1 enter_po1 (fun i w2 hi hb2 => po1_any (hP.out.below hb2 (Nat.le_refl _)) (by rw [hb2.cell (World.block_lt_of_cell? _ _ b0)]; exact b0) i hi (hkk i hi))
    have LC := Lib.hid LC
    obtain ⟨L, hL⟩ : ∃ L, ss.length = L := ⟨_, rfl⟩
    rw [hL] at LC hmax b0 ⊢
    clear HVK hkk
    go_wp2_with fail
    with_reducible refine LC.out.mono ?_
    rintro e w2 ⟨V', rfl, hR, hb2⟩
    rw [← hb2.cell (World.block_lt_of_cell? _ _ b1)] at b1
    rw [← hb2.frozen (World.block_lt_of_cell? _ _ (by rw [← hb2.cell]; exact b1; exact Nat.lt_of_lt_of_le k1 HBW.out.size))] at f1
    have HR := Lib.hid (hR.base' (B := w.heap.size) HB1.out.size)
    have HRL : Hid (∀ b, V'.ownBlock = some b → w.heap.size + 1 < b) := fun b e => by
      have := (hR.lt b e).1
      have := HBW.out.size
      omega
    have HB2 := Lib.hid (below_step' HB1.out hb2 HB1.out.size)
    obtain ⟨a', cap', rfl⟩ := hR.form
    rw [ifVs_length] at HR HRL ⊢
    clear hR hb2 LC
    go_wp2
    (try simp only [Exit.inBlock, Exit.then])
    refine bodyPost_ret (res_cell_tmp rfl _ _ _ rfl (run_loadVar_mid _ _ _ _ [.slice a' L cap'] _ ?_ Tryd.underlying97 rfl infoPl)) rfl ?_
    · intro j v hv
      rcases j with _ | j <;> simp at hv <;> subst hv <;> go_simp
    · refine ⟨_, rfl, ?_, ?_⟩
      · exact HR.out.other _ (fun e => by have := HRL.out _ e; omega)
      · refine (HB2.out.setCell ?_ _) <;> (simp only []; omega)

end Go.Proofs.YtdefhmpmgcahpaaDoor
/-
  asPlan: the steps of a plan of functions, with taps of their own.
-/
set_option linter.unusedVariables false
set_option linter.unusedSimpArgs false
namespace Go.Proofs.YtdefhmpmgcahpaaDoor
open Go.RowKit

theorem info_i64' : (Tryd.prog.info? 2).map (fun i => (i.zero, i.size, i.bytes)) = some (some (.int .i64 0), 1, 8) := by kernel_rfl

theorem clone_nil (c : Nat) (w : World) :
    Calls Tryd.prog 168 #[.slice none 0 c] w fun e w' => e = .returned (.slice none 0 0) ∧ w' = w := by
  have hq : ∀ w, (binOp .eql 34 (.slice none 0 c) (.slice none 0 0)).run Tryd.prog w = .ok (.bool true) w := fun w => Lib.run_eql_slice_nil w _ _ none 0 c 0 0 Tryd.underlying34
  go_enter Tryd.func168, Tryd.ntmps168
  go_wp2
  go_ret
  exact ⟨rfl, rfl⟩

set_option maxRecDepth 100000 in
set_option maxHeartbeats 4000000 in
theorem clone_some (zs : List Int) (L cap : Nat) (x : Addr) (hx : zs.length = L) (hl : L ≤ 1000) (w : World) (hb : x.block < w.heap.size) (hc : ∀ j, j < L → w.cell? (x.add j) = some (.int .i64 (zs.getD j 0))) :
    Calls Tryd.prog 168 #[.slice (some x) L cap] w fun e w' => ∃ u, e = .returned u ∧ Row w' w.heap.size 2 u (ints zs) ∧ Below w.heap.size w w' := by
  obtain ⟨i0, hi, hz0, hz1, hz2⟩ := info_parts' info_i64'
  have hn : ∀ (j : Nat) (u : Value), (ints zs)[j]? = some u → (w.alloc (.cells #[] 2)).cell? (x.add j) = some u := by
    intro j u hu
    have hj : j < zs.length := by have := (List.getElem?_eq_some_iff.1 hu).1; rwa [ints_length] at this
    have hb' : Below w.heap.size w (w.alloc (.cells #[] 2)) := (Below.refl _ _).alloc (Nat.le_refl _) _
    rw [hb'.cell (p := x.add j) (by rw [addr_block]; exact hb), hc j (by omega), ← ints_getD hj]
    simp [List.getD, hu]
  have hone : ∀ u ∈ ints zs, u.oneCell' = true := by
    intro u hu
    obtain ⟨p, -, rfl⟩ := List.mem_map.1 hu
    rfl
  have hcl : (ints zs).length = L * 1 := by rw [ints_length, Nat.mul_one, hx]
  have HN := Lib.hid hn
  have HON := Lib.hid hone
  have HCL := Lib.hid hcl
  have hmax : (L : Int) ≤ 9223372036854775807 := by omega
  have hq : ∀ w, (binOp .eql 34 (.slice (some x) L cap) (.slice none 0 0)).run Tryd.prog w = .ok (.bool false) w := fun w => Lib.run_eql_slice_nil w _ _ (some x) L cap 0 0 Tryd.underlying34
  clear hn hone hcl hx hb hc
  go_enter Tryd.func168, Tryd.ntmps168
  go_wp2_with (at_builtin; refine wpList_append_own _ rfl _ _ 34 rfl w.heap.size 2 i0 (.int .i64 0) 1 8 Tryd.underlying34 hi hz0 hz1 hz2 rfl (by decide) _ 0 [] rfl (World.ownsRow_lit w #[] 0 (Nat.le_refl _) (by unfold maxLen; omega) rfl) x L cap (ints zs) rfl HCL.out HN.out HON.out (by simp only [maxLen]; omega) (by omega) (by simp) ?_)
  intro v' w1 hown' hgrow _
  have HO : Hid (Row w1 w.heap.size 2 v' (ints zs)) := by
    show w1.ownsRow _ _ _ _ _ _
    rw [HCL.out, Nat.mul_one]
    simpa using hown'
  have HB : Hid (Below w.heap.size w w1) := ((Below.refl w.heap.size w).alloc (Nat.le_refl _) _).grown hgrow (by simp) (fun b e => by simp [Value.ownBlock] at e; omega)
  clear hown' hgrow
  go_wp2
  go_ret
  exact ⟨_, rfl, HO.out, HB.out⟩

/-- A copy of the taps of a step. -/
theorem cloneI_any {w : World} {B : Nat} {v : Value} {zs : List Int} (h : Row w B 2 v (ints zs)) (hl : zs.length ≤ 1000) :
    Calls Tryd.prog 168 #[v] w fun e w' => ∃ u, e = .returned u ∧ Row w' w.heap.size 2 u (ints zs) ∧ Below w.heap.size w w' := by
  rcases h.2 with ⟨rfl, h0⟩ | ⟨g, cap, cur, rfl, hb, hg, -⟩
  · have e : zs = [] := by
      rw [ints_length] at h0
      exact List.length_eq_zero_iff.1 h0
    subst e
    refine (clone_nil 0 w).mono ?_
    rintro e w' ⟨rfl, rfl⟩
    exact ⟨_, rfl, World.ownsRow_nil _ _ _ _, Below.refl _ _⟩
  · have hlt : g < w.heap.size := (Array.getElem?_eq_some_iff.1 hg).1
    have hrd := ints_find h.reads
    obtain ⟨a', c', e, -, hrd⟩ := hrd
    simp only [Value.slice.injEq] at e
    obtain ⟨rfl, e2, rfl⟩ := e
    rw [e2]
    refine clone_some zs zs.length _ _ rfl hl w hlt (fun j hj => ?_)
    obtain ⟨g', e1, e3⟩ := hrd j hj
    simp only [Option.some.injEq, Addr.mk.injEq, and_true] at e1
    subst e1
    rw [show (⟨g, 0, none⟩ : Addr).add j = ⟨g, j, none⟩ by unfold Addr.add; split <;> simp_all]
    exact e3

set_option maxRecDepth 100000 in
set_option maxHeartbeats 4000000 in
/-- What a step that can be run hands back: the step, with taps of its own. -/
theorem given_any {w : World} {B : Nat} {S : St} {t : Value} (h : Row w B 2 t (ints S.taps)) (hl : S.taps.length ≤ 1000) :
    Calls Tryd.prog 167 #[.agg #[.int .i64 S.kind, .int .i64 S.n, .int .i64 S.k, t]] w fun e w' => ∃ u tv, e = .returned u ∧ StepO w' w.heap.size u S tv ∧ Below w.heap.size w w' := by
  obtain ⟨kd, n, k, taps⟩ := S
  simp only at h hl ⊢
  have hlt0 : ∀ b, t.ownBlock = some b → b < w.heap.size := fun b e => (h.lt b e).2
  obtain ⟨a, cap, rfl⟩ := h.form
  rw [ints_length] at h hlt0 ⊢
  obtain ⟨L, hL⟩ : ∃ L, taps.length = L := ⟨_, rfl⟩
  have T := Lib.hid (fun w' (hb : Below w.heap.size w w') => cloneI_any (h.below hb hlt0) hl)
  rw [hL] at T ⊢
  clear h hl hL hlt0
  go_enter Tryd.func167, Tryd.ntmps167
  go_wp2_with fail
  have HW : Hid (∃ W, W = ((w.alloc (.cells #[.int .i64 kd, .int .i64 n, .int .i64 k, .slice a L cap] 152)).alloc (.cells #[.int .i64 0, .int .i64 0, .int .i64 0, .slice none 0 0] 36))) := ⟨_, rfl⟩
  obtain ⟨W, hW⟩ := HW.out
  have hs : W.heap.size = w.heap.size + 1 + 1 := by rw [hW]; simp
  have k0 : W.cell? ⟨w.heap.size, 0, none⟩ = some (.int .i64 kd) := by rw [hW]; go_simp
  have k1 : W.cell? ⟨w.heap.size, 1, none⟩ = some (.int .i64 n) := by rw [hW]; go_simp
  have k2 : W.cell? ⟨w.heap.size, 2, none⟩ = some (.int .i64 k) := by rw [hW]; go_simp
  have k3 : W.cell? ⟨w.heap.size, 3, none⟩ = some (.slice a L cap) := by rw [hW]; go_simp
  have kf : W.frozen? ⟨w.heap.size, 3, none⟩ = false := by rw [hW]; go_simp
  have j0 : W.cell? ⟨w.heap.size + 1, 0, none⟩ = some (.int .i64 0) := by rw [hW]; go_simp
  have j1 : W.cell? ⟨w.heap.size + 1, 1, none⟩ = some (.int .i64 0) := by rw [hW]; go_simp
  have j2 : W.cell? ⟨w.heap.size + 1, 2, none⟩ = some (.int .i64 0) := by rw [hW]; go_simp
  have j3 : W.cell? ⟨w.heap.size + 1, 3, none⟩ = some (.slice none 0 0) := by rw [hW]; go_simp
  have g0 : W.frozen? ⟨w.heap.size + 1, 0, none⟩ = false := by rw [hW]; go_simp
  have g1 : W.frozen? ⟨w.heap.size + 1, 1, none⟩ = false := by rw [hW]; go_simp
  have g2 : W.frozen? ⟨w.heap.size + 1, 2, none⟩ = false := by rw [hW]; go_simp
  have g3 : W.frozen? ⟨w.heap.size + 1, 3, none⟩ = false := by rw [hW]; go_simp
  have HB : Hid (Below w.heap.size w W) := by
    rw [hW]
    exact ((Below.refl w.heap.size w).alloc (Nat.le_refl _) _).alloc (by simp) _
  rw [← hW]
  clear hW HW
  refine (T.out _ HB.out).mono ?_
  rintro e w1 ⟨u, rfl, hr, hb⟩
  have b1 : w.heap.size + 1 < W.heap.size := by omega
  have b2 : w.heap.size < W.heap.size := by omega
  rw [← hb.cell (by exact b2)] at k0 k1 k2 k3
  rw [← hb.cell (by exact b1)] at j0 j1 j2 j3
  rw [← hb.frozen (by exact b2)] at kf
  rw [← hb.frozen (by exact b1)] at g0 g1 g2 g3
  have HR := Lib.hid (hr.base' (B := w.heap.size) (by omega))
  have HB2 := Lib.hid (below_step' HB.out hb HB.out.size)
  have HL : Hid (∀ g, u.ownBlock = some g → w.heap.size + 1 < g) := fun g hg' => by have := (hr.lt g hg').1; omega
  obtain ⟨a', cap', rfl⟩ := hr.form
  clear hr hb T HB b1 b2
  go_wp2
  (try simp only [Exit.inBlock, Exit.then])
  refine bodyPost_ret (res_cell1' rfl _ _ _ rfl (run_loadVar_mid _ _ _ _ [.int .i64 kd, .int .i64 n, .int .i64 k, .slice a' (ints taps).length cap'] _ ?_ Tryd.underlying36 rfl infoStep)) rfl ?_
  · intro j v hv
    rcases j with _ | _ | _ | _ | j <;> simp at hv <;> subst hv <;> go_simp
  · refine ⟨_, _, rfl, ⟨rfl, ?_⟩, ?_⟩
    · have hne1 : (Value.slice a' (ints taps).length cap').ownBlock ≠ some w.heap.size := fun e => by have := HL.out _ e; omega
      have hne2 : (Value.slice a' (ints taps).length cap').ownBlock ≠ some (w.heap.size + 1) := fun e => by have := HL.out _ e; omega
      exact ((((HR.out.other _ hne1).other _ hne2).other _ hne2).other _ hne2).other _ hne2
    · refine (((((HB2.out.setCell ?_ _).setCell ?_ _).setCell ?_ _).setCell ?_ _).setCell ?_ _) <;> (simp only []; omega)

end Go.Proofs.YtdefhmpmgcahpaaDoor
