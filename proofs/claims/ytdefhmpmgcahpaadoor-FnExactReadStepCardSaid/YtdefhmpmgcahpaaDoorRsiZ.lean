import Derived.Test.YtdefhmpmgcahpaaDoorRskZ
import Derived.Test.YtdefhmpmgcahpaaDoorMExactRL6
import Derived.Test.YtdefhmpmgcahpaaDoorShpZ
import Derived.Test.YtdefhmpmgcahpaaDoorApwZ
import Derived.Test.YtdefhmpmgcahpaaDoorMExactRL2
import Derived.Test.YtdefhmpmgcahpaaDoorSt4Z
/-
  ReadStep of the program.
-/
set_option linter.unusedVariables false
set_option linter.unusedSimpArgs false
namespace Go.Proofs.YtdefhmpmgcahpaaDoor
open Go.RowKit

def stR (r : Option St) : St := match r with | some s => s | none => ⟨0, 0, 0, []⟩
def rdC (r : Option St) : Int := match r with | some _ => 0 | none => 5
/-- What is read of a text. -/
def ReadStTo (t : List UInt8) (w : World) (e : Ending) (w' : World) : Prop := ∃ r v tv, ReadsSt t r ∧ e = .returned (.tuple #[v, .int .i64 (rdC r)]) ∧ StepO w' w.heap.size v (stR r) tv ∧ Below w.heap.size w w'

/-- What the library and the program read of their variables. -/
structure GloS (w : World) : Prop where
  env : Env w
  pow : Pow10 w
  tab : Tab w
theorem GloS.below {w w' : World} (h : GloS w) (hb : Below w.heap.size w w') : GloS w' := ⟨h.env.below hb, h.pow.below hb, h.tab.below hb⟩

theorem res_cell_tmpS {fn : Func} {p q : Tmp} {ty : TypeId} (h : fn.results = #[.cell p ty, .tmp q]) (tmps : Array Value) (P : Program) (w : World) {a : Addr} {v : Value} (ha : tmps.getD p undef = .pointer (some a)) (hv : (loadVar ty a).run P w = .ok v w) :
    (results fn tmps).run P w = .ok (.tuple #[v, tmps.getD q undef]) w := by
  have ha' : tmps[p]?.getD undef = .pointer (some a) := by simpa using ha
  simp only [results, h]
  simp [Sem.run_bind, Result.andThen, ha', asAddr, hv]
theorem load4S {w : World} {V : Nat} {a0 a1 a2 a3 : Value} (h0 : w.cell? ⟨V, 0, none⟩ = some a0) (h1 : w.cell? ⟨V, 1, none⟩ = some a1) (h2 : w.cell? ⟨V, 2, none⟩ = some a2) (h3 : w.cell? ⟨V, 3, none⟩ = some a3) :
    (loadVar 36 ⟨V, 0, none⟩).run Tryd.prog w = .ok (.agg #[a0, a1, a2, a3]) w := by
  refine run_loadVar_mid _ _ _ _ [a0, a1, a2, a3] _ ?_ Tryd.underlying36 rfl infoStep
  intro j v hv
  rcases j with _ | _ | _ | _ | j <;> simp at hv <;> subst hv <;> first | exact h0 | exact h1 | exact h2 | exact h3
theorem ints_one (z : Int) : ints [z] = [.int .i64 z] := rfl
theorem ints_take {zs : List Int} {j : Nat} (h : j < zs.length) : ints (zs.take j) ++ ints [zs.getD j 0] = ints (zs.take (j + 1)) := by
  rw [List.take_add_one, List.getD_eq_getElem?_getD, List.getElem?_eq_getElem h]
  show List.map _ _ ++ List.map _ [_] = List.map _ _
  rw [← List.map_append]
  rfl
theorem ints_oneCell (zs : List Int) : ∀ v ∈ ints zs, v.oneCell' = true := fun v hv => by
  obtain ⟨p, -, rfl⟩ := List.mem_map.1 hv
  rfl

set_option maxRecDepth 100000 in
set_option maxHeartbeats 8000000 in
theorem readStep_impl (t : List UInt8) (ht : t.length ≤ 1048576) (w : World) (hG : GloS w) :
    Calls Tryd.prog 15 #[.string (strOf t)] w (ReadStTo t w) := by
  have hb0 : Below w.heap.size w (w.alloc (.cells #[.int .i64 0, .int .i64 0, .int .i64 0, .slice none 0 0] 36)) := (Below.refl _ _).alloc (Nat.le_refl _) _
  obtain ⟨W, hW⟩ : ∃ W, W = w.alloc (.cells #[.int .i64 0, .int .i64 0, .int .i64 0, .slice none 0 0] 36) := ⟨_, rfl⟩
  have hWs : W.heap.size = w.heap.size + 1 := by rw [hW]; simp
  have r0 : W.cell? ⟨w.heap.size, 0, none⟩ = some (.int .i64 0) := by rw [hW]; go_simp
  have r1 : W.cell? ⟨w.heap.size, 1, none⟩ = some (.int .i64 0) := by rw [hW]; go_simp
  have r2 : W.cell? ⟨w.heap.size, 2, none⟩ = some (.int .i64 0) := by rw [hW]; go_simp
  have r3 : W.cell? ⟨w.heap.size, 3, none⟩ = some (.slice none 0 0) := by rw [hW]; go_simp
  have rf : ∀ j, W.frozen? ⟨w.heap.size, j, none⟩ = false := fun j => by rw [hW]; go_simp
  rw [← hW] at hb0
  have hlt : w.heap.size < W.heap.size := by omega
  have HR : Hid (∀ w', Below W.heap.size W w' → (w'.cell? ⟨w.heap.size, 0, none⟩ = some (.int .i64 0) ∧ w'.cell? ⟨w.heap.size, 1, none⟩ = some (.int .i64 0) ∧ w'.cell? ⟨w.heap.size, 2, none⟩ = some (.int .i64 0) ∧ w'.cell? ⟨w.heap.size, 3, none⟩ = some (.slice none 0 0)) ∧ ∀ j, w'.frozen? ⟨w.heap.size, j, none⟩ = false) := fun w' hb => by
    rw [hb.cell hlt, hb.cell hlt, hb.cell hlt, hb.cell hlt]
    exact ⟨⟨r0, r1, r2, r3⟩, fun j => by rw [hb.frozen hlt]; exact rf j⟩
  have HB0 := Lib.hid hb0
  have HW := Lib.hid hW.symm
  have HG := Lib.hid (fun (w' : World) (hb : Below W.heap.size W w') => (hG.below hb0).below hb)
  have SP := Lib.hid (split_any t (by omega) W (hG.below hb0).env)
  have HY := Lib.hid (fun q => @stP_yes t q)
  have HN := Lib.hid (fun q => @stP_no t q)
  have hlen := split_len 32 t
  have hne := List.length_pos_iff.2 (splitL_ne 32 t)
  have hml : ∀ p ∈ splitL 32 t, p.length ≤ 2000000 := fun p hp => by have := split_len_mem 32 hp; omega
  have HST : Hid (∀ q, stP q t = withSt q (((splitL 32 t).tail).map pz)) := fun q => rfl
  obtain ⟨ws, hws⟩ : ∃ ws, splitL 32 t = ws := ⟨_, rfl⟩
  rw [hws] at hlen hne hml HST
  simp only [hws] at SP HN
  obtain ⟨b, hb⟩ : ∃ b, W.heap.size = b := ⟨_, rfl⟩
  obtain ⟨L, hL⟩ : ∃ L, ws.length = L := ⟨_, rfl⟩
  have hLm : (L : Int) ≤ 9223372036854775807 := by omega
  have hL1 : 1 ≤ L := by omega
  have hL2 : L ≤ 1048577 := by omega
  obtain ⟨a', hsl', ha'⟩ := tail_slice b L hL1 hLm
  have HSL := Lib.hid hsl'
  rw [hL] at SP
  simp only [hb] at SP
  clear hW hb0 r0 r1 r2 r3 rf hsl' hG
  go_enter Tryd.func15, Tryd.ntmps15
  go_wp2_with fail
  rw [HW.out]
  refine SP.out.mono ?_
  rintro e w1 ⟨rfl, hw1⟩
  have hw1s : w1.heap.size = b + 1 := by rw [hw1, ← hb]; simp
  have hB1 : Below W.heap.size W w1 := by rw [hw1]; exact (Below.refl _ _).alloc (Nat.le_refl _) _
  have HF : Hid (∀ w', Below w1.heap.size w1 w' → ∀ j, j < L → w'.cell? ⟨b, j, none⟩ = some (.string (strOf (ws.getD j [])))) := fun w' hbw j hj => by
    rw [hbw.cell (show (⟨b, j, none⟩ : Addr).block < w1.heap.size by show b < _; omega), hw1, ← hb, World.cell?_alloc_new]
    simp [strs, hL, hj]
  have HB1 := Lib.hid hB1
  have HMEM : Hid (∀ j, j < L → (ws.getD j []).length ≤ 2000000) := fun j hj => by
    rw [List.getD_eq_getElem?_getD, List.getElem?_eq_getElem (by omega)]
    exact hml _ (List.getElem_mem _)
  have HLL := Lib.hid hL
  obtain ⟨m, hm⟩ : ∃ m, L - 1 = m := ⟨_, rfl⟩
  rw [hm] at HSL
  have HM : Hid (L = m + 1) := by show _ = _; omega
  have hmm : m ≤ 1048576 := by omega
  have hmi : (m : Int) ≤ 9223372036854775807 := by omega
  have HA : Hid (∀ j, j < m → a' = some ⟨b, 1, none⟩) := fun j hj => ha' (by omega)
  obtain ⟨zs, hzs⟩ : ∃ zs, (ws.tail).map pz = zs := ⟨_, rfl⟩
  have HZL : Hid (zs.length = m) := by
    show _ = _
    rw [← hzs, List.length_map, List.length_tail, hL]
    exact hm
  have HZD : Hid (∀ j, j < m → zs.getD j 0 = pz (ws.getD (1 + j) [])) := fun j hj => by
    rw [← hzs, List.getD_eq_getElem?_getD, List.getElem?_map, List.getElem?_tail, List.getD_eq_getElem?_getD, Nat.add_comm 1 j, List.getElem?_eq_getElem (show j + 1 < ws.length by omega)]
    rfl
  rw [hzs] at HST
  obtain ⟨i0, hi, hz0, hz1, hz2⟩ := info_parts' info_i64
  have HI : Hid (Tryd.prog.info? 2 = some i0) := hi
  have HZ0 := Lib.hid (And.intro hz0 (And.intro hz1 hz2))
  clear hw1 hB1 hml hL hzs hne hlen hi hz0 hz1 hz2 ha' SP hws hm hL2
  go_wp2_with (refine wpList_sliceV rfl _ _ _ rfl _ _ rfl rfl _ (HSL.out _) ?_)
  have HR0 : Hid (Row w1 w1.heap.size 2 (.slice none 0 0) (ints (zs.take 0))) := by
    rw [List.take_zero]
    exact ⟨rfl, .inl ⟨rfl, rfl⟩⟩
  have HMI := Lib.hid hmi
  have HW1S := Lib.hid hw1s
  have HBW := Lib.hid hb
  clear hw1s hb hWs

  go_loopw [5, 16] (fun v i wr => ∃ j : Nat, i = .int .i64 j ∧ j ≤ m ∧ Row wr w1.heap.size 2 v (ints (zs.take j)) ∧ Below w1.heap.size w1 wr) (fun _ i _ => m - (intOf i).toNat)
  case atStart => exact ⟨0, rfl, Nat.zero_le _, HR0.out, Below.refl _ _⟩
  case round =>
    obtain ⟨j, rfl, hjle, hR, hB⟩ := hrel
    have HB := Lib.hid hB
    have HRW := Lib.hid hR
    by_cases hjm : j < m
    · have hword := HF.out wr hB (1 + j) (by have := HM.out; omega)
      obtain rfl := HA.out j hjm
      have hji : (j : Int) < (m : Int) := by omega
      have HJ := Lib.hid hjm
      have hb0 := below_step' HB1.out hB HB1.out.size
      have PI := Lib.hid (parseInt_any (ws.getD (1 + j) []) (by have := HMEM.out (1 + j) (by have := HM.out; omega); omega) wr (HG.out _ hb0).env)
      have HZ := HZD.out j hjm
      rw [← HZ] at PI
      have HTK : Hid (ints (zs.take j) ++ ints [zs.getD j 0] = ints (zs.take (j + 1))) := by
        exact ints_take (by have := HZL.out; omega)
      generalize ws.getD (1 + j) [] = tw at hword PI HZ
      generalize zs.getD j 0 = z at PI HTK HZ
      obtain ⟨g, cap, rfl⟩ := hR.form
      clear hB hR hjm hjle hb0 HZ
      go_wp2_with fail
      refine PI.out.mono ?_
      rintro e w2 ⟨ev, rfl, hb2⟩
      have hs2 : w1.heap.size ≤ w2.heap.size := Nat.le_trans HB.out.size hb2.size
      have HRV := Lib.hid ((HRW.out.below hb2 (fun k e => (HRW.out.lt k e).2)).alloc (.cells #[.int .i64 z] 2))
      have HL : Hid (Reads (w2.alloc (.cells #[.int .i64 z] 2)) (.slice (some ⟨w2.heap.size, 0, none⟩) 1 1) (ints [z])) := by
        refine .row _ 1 1 _ rfl (by decide) (by decide) (by unfold maxLen; omega) fun j hj => ?_
        obtain rfl : j = 0 := by omega
        go_simp; try rfl
      have HB2 : Hid (Below w1.heap.size w1 w2) := below_step' HB.out hb2 HB.out.size
      have HLE : Hid ((ints (zs.take j)).length ≤ 1048576) := by
        show _ ≤ _
        rw [ints_length, List.length_take]
        omega
      have HS2 := Lib.hid hs2
      clear hb2 hs2 PI
      go_wp2_with (at_builtin; refine wpList_appR rfl _ _ 34 2 rfl Tryd.underlying34 i0 HI.out HZ0.out.1 HZ0.out.2.1 HZ0.out.2.2 (by decide) rfl w1.heap.size _ _ (ints (zs.take j)) (ints [z]) rfl rfl HRV.out HL.out (ints_oneCell _) (by have := HS2.out; simp; omega) (by have := HLE.out; rw [ints_length [z]]; simp at this ⊢; omega) ?_)
      intro v' w3 hr3 hg3
      rw [HTK.out] at hr3
      have HR3 := Lib.hid hr3
      have HB3 : Hid (Below w1.heap.size w1 w3) := (HB2.out.alloc HS2.out _).grown hg3 (by have := HS2.out; simp; omega) (fun b e => (HRV.out.lt b e).1)
      clear hr3 hg3
      go_wp2
      go_roundw
      case rel => exact ⟨j + 1, by go_num, HJ.out, HR3.out, HB3.out⟩
      case measure => have := HJ.out; simp [intOf]; omega
    · obtain rfl : j = m := by omega
      rw [List.take_of_length_le (by have := HZL.out; omega)] at hR
      clear HRW
      obtain ⟨g, cap, hv⟩ := hR.form
      rw [ints_length] at hv
      subst hv
      have HRW := Lib.hid hR
      have hword := HF.out wr hB 0 (by have := HM.out; omega)
      have hb0 := below_step' HB1.out hB HB1.out.size
      have HB9 := Lib.hid hb0
      have hmc : (0 : Int) < ((j + 1 : Nat) : Int) := by omega
      have KO := Lib.hid (kindOf_any (ws.getD 0 []) wr (HG.out _ hb0).tab)
      have HHD : Hid (ws.headD [] = ws.getD 0 []) := by
        show _ = _
        cases ws <;> rfl
      have HN := Lib.hid (HHD.out ▸ HN.out)
      generalize ws.getD 0 [] = tw at hword KO HN
      clear hR hjm hjle hB hb0
      go_wp2_with fail
      refine KO.out.mono ?_
      rintro e w2 ⟨q, rfl, hq, hb2⟩
      have HQ := Lib.hid hq
      have HB2 : Hid (Below W.heap.size W w2) := below_step' HB9.out hb2 HB9.out.size
      have hR2 := HRW.out.below hb2 (fun k e => (HRW.out.lt k e).2)
      have SW : ∃ (ra : Option Addr) (rc : Nat), Calls Tryd.prog 42 #[.int .i64 q, .slice g zs.length cap] w2 (fun e w' => e = .returned (.agg #[.int .i64 (stP q t).kind, .int .i64 (stP q t).n, .int .i64 (stP q t).k, .slice ra (stP q t).taps.length rc]) ∧ Below w2.heap.size w2 w') ∧
          Row w2 w1.heap.size 2 (.slice ra (stP q t).taps.length rc) (ints (stP q t).taps) := by
        rw [HST.out q]
        by_cases h3 : q = 3
        · subst h3
          exact ⟨g, cap, stepWith_filter _ _ _ _ rfl w2, hR2⟩
        · rw [show withSt q zs = ⟨q, zs.getD 0 0, zs.getD 1 0, []⟩ from if_neg h3]
          exact ⟨none, 0, stepWith_other q (by omega) zs g cap w2 hR2.reads, ⟨rfl, .inl ⟨rfl, rfl⟩⟩⟩
      obtain ⟨ra, rc, SW, hR⟩ := SW
      have HY1 := Lib.hid (HY.out q)
      have HN1 := Lib.hid (HN.out q HQ.out)
      clear hR2 hb2 hq HY HN KO HST HQ
      generalize stP q t = s at SW hR HY1 HN1
      obtain ⟨kd, n, k, taps⟩ := s
      simp only at SW hR
      have SW := Lib.hid SW
      have HRT := Lib.hid hR
      obtain ⟨TL, hTL⟩ : ∃ T, taps.length = T := ⟨_, rfl⟩
      rw [hTL] at SW
      have HTL := Lib.hid hTL
      clear hR hTL
      go_wp2_with fail
      refine SW.out.mono ?_
      rintro e w3 ⟨rfl, hb3⟩
      have HB3 : Hid (Below W.heap.size W w3) := below_step' HB2.out hb3 HB2.out.size
      have hR3 := (HRT.out.below hb3 (fun k e => (HRT.out.lt k e).2)).alloc (.cells #[.int .i64 kd, .int .i64 n, .int .i64 k, .slice ra TL rc] 36)
      have hB4 : Below W.heap.size W (w3.alloc (.cells #[.int .i64 kd, .int .i64 n, .int .i64 k, .slice ra TL rc] 36)) := HB3.out.alloc HB3.out.size _
      have C : ∀ j u, [Value.int .i64 kd, .int .i64 n, .int .i64 k, .slice ra TL rc][j]? = some u → (w3.alloc (.cells #[.int .i64 kd, .int .i64 n, .int .i64 k, .slice ra TL rc] 36)).cell? ⟨w3.heap.size, j, none⟩ = some u := by
        intro j u hu
        rcases j with _ | _ | _ | _ | j <;> simp at hu <;> subst hu <;> go_simp
      have c0 := C 0 _ rfl
      have c1 := C 1 _ rfl
      have c2 := C 2 _ rfl
      have c3 := C 3 _ rfl
      obtain ⟨w4, hw4⟩ : ∃ w4, w4 = w3.alloc (.cells #[.int .i64 kd, .int .i64 n, .int .i64 k, .slice ra TL rc] 36) := ⟨_, rfl⟩
      have hlt4 : w3.heap.size < w4.heap.size := by rw [hw4]; simp
      rw [← hw4] at hR3 hB4 c0 c1 c2 c3
      have V := validStep_impl ⟨kd, n, k, taps⟩ ra rc w4 (HG.out _ hB4).tab hR3.reads
      have TX := fun (W' : World) (hb : Below w4.heap.size w4 W') => stepText_impl ⟨kd, n, k, taps⟩ ra rc W' (HG.out _ (below_step' hB4 hb hB4.size)).tab (HG.out _ (below_step' hB4 hb hB4.size)).pow (hR3.reads.keep hb)
      simp only at V TX
      rw [HTL.out] at V
      simp only [HTL.out] at TX
      obtain ⟨p, hp⟩ : ∃ p, validSt ⟨kd, n, k, taps⟩ = p := ⟨_, rfl⟩
      rw [hp] at V HY1 HN1
      have heq := strOf_beq (stText ⟨kd, n, k, taps⟩) t
      obtain ⟨q2, hq2⟩ : ∃ p, decide (stText ⟨kd, n, k, taps⟩ = t) = p := ⟨_, rfl⟩
      rw [hq2] at heq
      have HQ2 := Lib.hid hq2
      generalize strOf (stText ⟨kd, n, k, taps⟩) = S1 at heq TX
      obtain ⟨S2, hS2⟩ : ∃ x, strOf t = x := ⟨_, rfl⟩
      rw [hS2] at heq ⊢
      have V := Lib.hid V
      have TX := Lib.hid TX
      clear hp hq2 hS2
      have HW4 := Lib.hid hw4.symm
      have HB4 := Lib.hid hB4
      have HR4 := Lib.hid hR3
      have HLT4 := Lib.hid hlt4
      clear hb3 C hw4 hB4 hR3 hlt4 SW HRT HB2 HB3
      go_wp2_with fail
      rw [HW4.out]
      refine V.out.mono ?_
      rintro e w5 ⟨rfl, hb5⟩
      have HLW1 : Hid (w.heap.size < w1.heap.size) := Nat.lt_of_lt_of_le hlt HB1.out.size
      have HB5 : Hid (Below W.heap.size W w5) := below_step' HB4.out hb5 HB4.out.size
      have HRW5 := Lib.hid (HR4.out.below hb5 (fun k e => (HR4.out.lt k e).2))
      have c0 := (hb5.cell HLT4.out).trans c0
      have c1 := (hb5.cell HLT4.out).trans c1
      have c2 := (hb5.cell HLT4.out).trans c2
      have c3 := (hb5.cell HLT4.out).trans c3
      have HL35 : Hid (w3.heap.size < w5.heap.size) := Nat.lt_of_lt_of_le HLT4.out hb5.size
      cases p
      · obtain ⟨⟨x0, x1, x2, x3⟩, xf⟩ := HR.out w5 HB5.out
        have f0 := xf 0
        have f1 := xf 1
        have f2 := xf 2
        have f3 := xf 3
        have hz : Hid (Has4 w5 w.heap.size (.int .i64 0) (.int .i64 0) (.int .i64 0) (.slice none 0 0)) := ⟨x0, x1, x2, x3⟩
        have HB : Hid (Below w.heap.size w w5) := below_step' HB0.out HB5.out HB0.out.size
        have HRN : Hid (ReadsSt t none) := HN1.out (fun h => by cases h.1)
        clear xf hb5
        go_wp2
        (try simp only [Exit.inBlock, Exit.then])
        refine bodyPost_ret (res_cell_tmpS rfl _ _ _ rfl (load4S (hz.out.set _ _ _ _).c0 (hz.out.set _ _ _ _).c1 (hz.out.set _ _ _ _).c2 (hz.out.set _ _ _ _).c3)) rfl ?_
        exact ⟨none, _, _, HRN.out, rfl, ⟨rfl, rfl, .inl ⟨rfl, rfl⟩⟩, st4_below HB.out _ _ _ _⟩
      · have TX5 := Lib.hid (TX.out w5 hb5)
        clear hb5
        go_wp2_with fail
        refine TX5.out.mono ?_
        rintro e w6 ⟨rfl, hb6⟩
        have HB6 : Hid (Below W.heap.size W w6) := below_step' HB5.out hb6 HB5.out.size
        have HRW6 := Lib.hid (HRW5.out.below hb6 (fun k e => (HRW5.out.lt k e).2))
        have c0 := (hb6.cell HL35.out).trans c0
        have c1 := (hb6.cell HL35.out).trans c1
        have c2 := (hb6.cell HL35.out).trans c2
        have c3 := (hb6.cell HL35.out).trans c3
        obtain ⟨⟨x0, x1, x2, x3⟩, xf⟩ := HR.out w6 HB6.out
        have f0 := xf 0
        have f1 := xf 1
        have f2 := xf 2
        have f3 := xf 3
        have hz : Hid (Has4 w6 w.heap.size (.int .i64 0) (.int .i64 0) (.int .i64 0) (.slice none 0 0)) := ⟨x0, x1, x2, x3⟩
        have HB : Hid (Below w.heap.size w w6) := below_step' HB0.out HB6.out HB0.out.size
        clear xf hb6
        cases q2
        · have HRN : Hid (ReadsSt t none) := HN1.out (fun h => absurd h.2 (of_decide_eq_false HQ2.out))
          go_wp2
          (try simp only [Exit.inBlock, Exit.then])
          refine bodyPost_ret (res_cell_tmpS rfl _ _ _ rfl (load4S (hz.out.set _ _ _ _).c0 (hz.out.set _ _ _ _).c1 (hz.out.set _ _ _ _).c2 (hz.out.set _ _ _ _).c3)) rfl ?_
          exact ⟨none, _, _, HRN.out, rfl, ⟨rfl, rfl, .inl ⟨rfl, rfl⟩⟩, st4_below HB.out _ _ _ _⟩
        · have HRS : Hid (ReadsSt t (some ⟨kd, n, k, taps⟩)) := HY1.out trivial (of_decide_eq_true HQ2.out)
          have HRX : Hid (Row (st4 w6 w.heap.size (.int .i64 kd) (.int .i64 n) (.int .i64 k) (.slice ra TL rc)) w.heap.size 2 (.slice ra TL rc) (ints taps)) := by
            have h := HRW6.out
            rw [HTL.out] at h
            have hne : (Value.slice ra TL rc).ownBlock ≠ some w.heap.size := fun e => by
              have := (h.lt _ e).1
              have := HLW1.out
              omega
            exact ((((h.base' (Nat.le_of_lt HLW1.out)).other _ hne).other _ hne).other _ hne).other _ hne
          go_wp2
          (try simp only [Exit.inBlock, Exit.then])
          refine bodyPost_ret (res_cell_tmpS rfl _ _ _ rfl (load4S (hz.out.set _ _ _ _).c0 (hz.out.set _ _ _ _).c1 (hz.out.set _ _ _ _).c2 (hz.out.set _ _ _ _).c3)) rfl ?_
          exact ⟨some ⟨kd, n, k, taps⟩, _, _, HRS.out, rfl, ⟨rfl, HRX.out⟩, st4_below HB.out _ _ _ _⟩

end Go.Proofs.YtdefhmpmgcahpaaDoor
