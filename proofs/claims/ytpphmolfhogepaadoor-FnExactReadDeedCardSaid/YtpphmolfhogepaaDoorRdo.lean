import Derived.Test.YtpphmolfhogepaaDoorRds
import Derived.Test.YtpphmolfhogepaaDoorRdp
import Derived.Test.YtpphmolfhogepaaDoorSt4
import Derived.Deep.RegionLaw
/-
  ReadDeed of the model.
-/
set_option linter.unusedVariables false
set_option linter.unusedSimpArgs false
namespace Go.Proofs.YtpphmolfhogepaaDoor
open Go.RowKit

theorem res_cell_tmp9 {fn : Func} {p q : Tmp} {ty : TypeId} (h : fn.results = #[.cell p ty, .tmp q]) (tmps : Array Value) (P : Program) (w : World) {a : Addr} {v : Value} (ha : tmps.getD p undef = .pointer (some a)) (hv : (loadVar ty a).run P w = .ok v w) :
    (results fn tmps).run P w = .ok (.tuple #[v, tmps.getD q undef]) w := by
  have ha' : tmps[p]?.getD undef = .pointer (some a) := by simpa using ha
  simp only [results, h]
  simp [Sem.run_bind, Result.andThen, ha', asAddr, hv]

/-- What is read of a text. -/
def ReadTo (t : List UInt8) (w : World) (e : Ending) (w' : World) : Prop := ∃ r, ReadsDd t r ∧ e = .returned (.tuple #[rV r, .int .i64 (rC r)]) ∧ Below w.heap.size w w'

theorem load4 {w : World} {V : Nat} {a0 a1 a2 a3 : Value} (h0 : w.cell? ⟨V, 0, none⟩ = some a0) (h1 : w.cell? ⟨V, 1, none⟩ = some a1) (h2 : w.cell? ⟨V, 2, none⟩ = some a2) (h3 : w.cell? ⟨V, 3, none⟩ = some a3) :
    (loadVar 25 ⟨V, 0, none⟩).run Tryd.prog w = .ok (.agg #[a0, a1, a2, a3]) w := by
  refine run_loadVar_mid _ _ _ _ [a0, a1, a2, a3] _ ?_ Tryd.underlying25 rfl infoDeed'
  intro j v hv
  rcases j with _ | _ | _ | _ | j <;> simp at hv <;> subst hv <;> first | exact h0 | exact h1 | exact h2 | exact h3

/-- A row of strings is read. -/
theorem strs_find {w : World} {B : Nat} {u : Value} {ts : List (List UInt8)} (h : Row w B 9 u (strs ts)) : ∃ a cap, u = .slice a ts.length cap ∧ ∀ j, j < ts.length → ∃ g, a = some ⟨g, 0, none⟩ ∧ g < w.heap.size ∧ w.cell? ⟨g, j, none⟩ = some (.string (strOf (ts.getD j []))) := by
  have hl := strs_len ts
  have hr := h.reads
  generalize hcs : strs ts = cs at hr hl
  cases hr with
  | none a cap =>
    have : ts.length = 0 := by rw [← hl]; rfl
    exact ⟨a, cap, by rw [this], fun j hj => by omega⟩
  | row g cap L cs hL h0 hc hm hcell =>
    refine ⟨_, cap, by rw [← hl, hL], fun j hj => ⟨g, rfl, World.block_lt_of_cell? _ _ (hcell 0 (by omega)), ?_⟩⟩
    rw [hcell j (by omega), ← hcs]
    unfold strs
    rw [List.getD_eq_getElem?_getD, List.getElem?_map, List.getElem?_eq_getElem hj, List.getD_eq_getElem?_getD, List.getElem?_eq_getElem hj]
    rfl

set_option maxRecDepth 100000 in
set_option maxHeartbeats 8000000 in
theorem readDeed_spec (t : List UInt8) (ht : t.length ≤ 1048576) (w : World) :
    Calls Tryd.prog 11 #[.string (strOf t)] w (ReadTo t w) := by
  have hlen : (strOf t).size = t.length := rfl
  by_cases h40 : 40 < t.length
  · have HN := Lib.hid (long_no h40)
    have g1 : decide ((40 : Int) < (t.length : Int)) = true := decide_eq_true (by omega)
    have g1' : decide (40 < t.length) = true := decide_eq_true h40
    clear h40 ht
    go_enter Tryd.func11, Tryd.ntmps11
    go_wp2
    (try simp only [Exit.inBlock, Exit.then])
    refine bodyPost_ret (res_cell_tmp9 rfl _ _ _ rfl (load4 (a0 := .int .i64 0) (a1 := .int .i64 0) (a2 := .int .i64 0) (a3 := .int .i64 0) (by go_simp) (by go_simp) (by go_simp) (by go_simp))) rfl ?_
    exact ⟨none, HN.out, rfl, by first | exact (Below.refl _ _).alloc (Nat.le_refl _) _ | (trace_state; fail)⟩
  have g1 : decide ((40 : Int) < (t.length : Int)) = false := decide_eq_false (by omega)
  have g1' : decide (40 < t.length) = false := decide_eq_false h40
  have hb0 : Below w.heap.size w (w.alloc (.cells #[.int .i64 0, .int .i64 0, .int .i64 0, .int .i64 0] 25)) := (Below.refl _ _).alloc (Nat.le_refl _) _
  obtain ⟨W, hW⟩ : ∃ W, W = w.alloc (.cells #[.int .i64 0, .int .i64 0, .int .i64 0, .int .i64 0] 25) := ⟨_, rfl⟩
  have r0 : W.cell? ⟨w.heap.size, 0, none⟩ = some (.int .i64 0) := by rw [hW]; go_simp
  have r1 : W.cell? ⟨w.heap.size, 1, none⟩ = some (.int .i64 0) := by rw [hW]; go_simp
  have r2 : W.cell? ⟨w.heap.size, 2, none⟩ = some (.int .i64 0) := by rw [hW]; go_simp
  have r3 : W.cell? ⟨w.heap.size, 3, none⟩ = some (.int .i64 0) := by rw [hW]; go_simp
  have rf : ∀ j, W.frozen? ⟨w.heap.size, j, none⟩ = false := fun j => by rw [hW]; go_simp
  rw [← hW] at hb0
  have hlt : w.heap.size < W.heap.size := by rw [hW]; simp
  have HR : Hid (∀ w', Below W.heap.size W w' → (w'.cell? ⟨w.heap.size, 0, none⟩ = some (.int .i64 0) ∧ w'.cell? ⟨w.heap.size, 1, none⟩ = some (.int .i64 0) ∧ w'.cell? ⟨w.heap.size, 2, none⟩ = some (.int .i64 0) ∧ w'.cell? ⟨w.heap.size, 3, none⟩ = some (.int .i64 0)) ∧ ∀ j, w'.frozen? ⟨w.heap.size, j, none⟩ = false) := fun w' hb => by
    rw [hb.cell hlt, hb.cell hlt, hb.cell hlt, hb.cell hlt]
    exact ⟨⟨r0, r1, r2, r3⟩, fun j => by rw [hb.frozen hlt]; exact rf j⟩
  have HB0 := Lib.hid hb0
  have HW := Lib.hid hW.symm
  have SP := Lib.hid (splitM_any t ht W)
  obtain ⟨i0, hi, hz0, hz1, hz2⟩ := info_parts infoStr
  have hl3 := wsM_len t
  have hlw : (wsM t).length ≤ 50 := by
    unfold wsM
    have := split_len 32 t
    simp
    omega
  have HWS : Hid (strs (splitL 32 t) ++ strs [[], []] = strs (wsM t)) := by
    show _ = _
    rw [← strs_app]; rfl
  have HWL : Hid ((strs (splitL 32 t)).length ≤ 50) := by
    have h : (wsM t).length = (splitL 32 t).length + 2 := by unfold wsM; simp
    show _ ≤ _
    rw [strs_len]
    omega
  have HY := Lib.hid (fun k => @condM_yes t k)
  have HNO := Lib.hid (@condM_no t)
  generalize hws : splitL 32 t = sp at SP HWS HWL
  clear hws hb0 hW r0 r1 r2 r3 rf h40
  go_enter Tryd.func11, Tryd.ntmps11
  go_wp2_with fail
  rw [HW.out]
  go_wp2_with fail
  refine SP.out.mono ?_
  rintro e w1 ⟨u, rfl, hr1, hb1⟩
  have hs1 := hb1.size
  have HR1 := Lib.hid (hr1.alloc (.cells #[.string ⟨#[]⟩, .string ⟨#[]⟩] 9))
  have HL2 : Hid (Reads (w1.alloc (.cells #[.string ⟨#[]⟩, .string ⟨#[]⟩] 9)) (.slice (some ⟨w1.heap.size, 0, none⟩) 2 2) (strs [[], []])) := by
    refine .row _ 2 2 _ rfl (by decide) (by decide) (by unfold maxLen; omega) fun j hj => ?_
    have : j = 0 ∨ j = 1 := by omega
    rcases this with rfl | rfl <;> (go_simp; try rfl)
  have HS1 := Lib.hid hs1
  have HB1 := Lib.hid hb1
  clear hr1 hb1 hs1
  go_wp2_with (at_builtin; refine wpList_appR rfl _ _ 40 9 rfl Tryd.underlying40 i0 hi hz0 hz1 hz2 (by decide) rfl W.heap.size _ _ (strs sp) (strs [[], []]) rfl rfl HR1.out HL2.out (strs_one _) (by have := HS1.out; simp; omega) (by have := HWL.out; rw [strs_len [[], []]]; simp; omega) ?_)
  intro v' w2 hr2 hg2
  rw [HWS.out] at hr2
  have hb2 : Below W.heap.size W w2 := (HB1.out.alloc HS1.out _).grown hg2 (by have := HS1.out; simp; omega) (fun b e => (HR1.out.lt b e).1)
  obtain ⟨a, cap, rfl, hfind⟩ := strs_find hr2
  obtain ⟨g, rfl, hgw, c0⟩ := hfind 0 (by omega)
  have HF : Hid (∀ w', Below w2.heap.size w2 w' → ∀ j, j < (wsM t).length → w'.cell? ⟨g, j, none⟩ = some (.string (strOf ((wsM t).getD j [])))) := fun w' hb j hj => by
    obtain ⟨g', e, -, hc⟩ := hfind j hj
    simp only [Option.some.injEq, Addr.mk.injEq, and_true] at e
    subst e
    rw [hb.cell (show (⟨g, j, none⟩ : Addr).block < w2.heap.size from hgw)]
    exact hc
  have HB2 := Lib.hid hb2
  clear hr2 hg2 hb2 hfind c0 hgw HR1 HL2 SP hi hz0 hz1 hz2 HB1 HS1
  obtain ⟨n, hn⟩ : ∃ n, (wsM t).length = n := ⟨_, rfl⟩
  have HN := Lib.hid hn
  rw [hn] at hl3 hlw HF ⊢
  have hn1 : (1 : Int) < (n : Int) := by omega
  have hn2 : (2 : Int) < (n : Int) := by omega
  have hn0 : (0 : Int) < (n : Int) := by omega
  have hnm : (n : Int) ≤ 9223372036854775807 := by omega
  go_wp2_with fail
  refine (l09Names_any _).mono ?_
  rintro e w3 ⟨v, rfl, hv, hvl, hb3⟩
  have HB3 := Lib.hid (HB2.out.trans (hb3.mono HB2.out.size))
  have HV : Hid (∀ w', Below w3.heap.size w3 w' → ∀ j, j < 9 → w'.cell? ⟨v, j, none⟩ = some (.string (ddWord j))) := fun w' hb j hj => by
    rw [hb.cell (show (⟨v, j, none⟩ : Addr).block < w3.heap.size from hvl)]
    exact hv j hj
  have HF3 : Hid (∀ w', Below w3.heap.size w3 w' → ∀ j, j < n → w'.cell? ⟨g, j, none⟩ = some (.string (strOf ((wsM t).getD j [])))) := fun w' hb j hj => HF.out w' (hb3.trans (hb.mono hb3.size)) j hj
  have HR3 : Hid (∀ w', Below w3.heap.size w3 w' → (w'.cell? ⟨w.heap.size, 0, none⟩ = some (.int .i64 0) ∧ w'.cell? ⟨w.heap.size, 1, none⟩ = some (.int .i64 0) ∧ w'.cell? ⟨w.heap.size, 2, none⟩ = some (.int .i64 0) ∧ w'.cell? ⟨w.heap.size, 3, none⟩ = some (.int .i64 0)) ∧ ∀ j, w'.frozen? ⟨w.heap.size, j, none⟩ = false) := fun w' hb => HR.out w' (HB3.out.trans (hb.mono HB3.out.size))
  have HLT : Hid (w.heap.size < w3.heap.size) := Nat.lt_of_lt_of_le hlt HB3.out.size
  clear hv hvl hb3 HF HR HB2 hlt
  go_wp2_with fail
  go_loopw [6] (fun i wr => ∃ k : Nat, i = .int .i64 k ∧ 1 ≤ k ∧ k ≤ 9 ∧ (∀ j, 1 ≤ j → j < k → ¬ condM t j) ∧ Below w3.heap.size w3 wr) (fun i _ => 9 - (intOf i).toNat)
  case atStart => exact ⟨1, rfl, by decide, by decide, fun j h1 h2 => by omega, Below.refl _ _⟩
  case round =>
    obtain ⟨k, rfl, hk1, hk9, hno, hB⟩ := hrel
    have HNK := Lib.hid hno
    have HB := Lib.hid hB
    clear hno hB
    by_cases hk : k ≤ 8
    · have HK : Hid (1 ≤ k ∧ k ≤ 8) := ⟨hk1, hk⟩
      have hk8 : (k : Int) ≤ 8 := by omega
      have hk9' : (k : Int) < 9 := by omega
      have hf0 := HF3.out wr HB.out 0 (by omega)
      have hf1 := HF3.out wr HB.out 1 (by omega)
      have hf2 := HF3.out wr HB.out 2 (by omega)
      have hf3 := fun h => HF3.out wr HB.out 3 h
      have hvk := HV.out wr HB.out k (by omega)
      have SM1 := l09Small_any ((wsM t).getD 1 []) (Nat.le_trans (wsM_mem t 1) ht)
      have SM2 := l09Small_any ((wsM t).getD 2 []) (Nat.le_trans (wsM_mem t 2) ht)
      have SM3 := l09Small_any ((wsM t).getD 3 []) (Nat.le_trans (wsM_mem t 3) ht)
      have N1 := Lib.hid (l09Numbers_any k hk1 hk)
      have hd0 : dM t k = ⟨k, smZ ((wsM t).getD 1 []), if 1 < ddCnt k then smZ ((wsM t).getD 2 []) else 0, if 2 < ddCnt k ∧ 3 < n then smZ ((wsM t).getD 3 []) else 0⟩ := by unfold dM; rw [hn]
      have e0 := strOf_beq ((wsM t).getD 0 []) (ddWord k).data.toList
      rw [strOf_self] at e0
      have HW0 : Hid (condM t k ↔ (wsM t).getD 0 [] = (ddWord k).data.toList ∧ ddText (dM t k) = t) := by
        show _ ↔ _
        unfold condM
        exact ⟨fun h => ⟨h.1.symm, h.2⟩, fun h => ⟨h.1.symm, h.2⟩⟩
      have HYK := Lib.hid (HY.out k hk1 hk)
      have DT := deedText_spec (dM t k)
      have e1 := strOf_beq (ddText (dM t k)) t
      obtain ⟨m, hm⟩ : ∃ m, ddCnt k = m := ⟨_, rfl⟩
      rw [hm] at hd0 N1
      have hmm : m = 1 ∨ m = 2 ∨ m = 3 := by have := ddCnt_in hk1 hk; omega
      obtain ⟨p0, hp0⟩ : ∃ p, decide ((wsM t).getD 0 [] = (ddWord k).data.toList) = p := ⟨_, rfl⟩
      obtain ⟨p1, hp1⟩ : ∃ p, decide (ddText (dM t k) = t) = p := ⟨_, rfl⟩
      rw [hp0] at e0
      rw [hp1] at e1
      have HC : Hid (condM t k ↔ p0 = true ∧ p1 = true) := by
        show _ ↔ _
        refine ⟨fun h => ?_, fun h => HW0.out.2 ⟨of_decide_eq_true (hp0.trans h.1), of_decide_eq_true (hp1.trans h.2)⟩⟩
        have := HW0.out.1 h
        exact ⟨by rw [← hp0]; exact decide_eq_true this.1, by rw [← hp1]; exact decide_eq_true this.2⟩
      clear HW0 hp0 hp1 hm
      generalize smZ ((wsM t).getD 1 []) = A1 at hd0 SM1
      generalize smZ ((wsM t).getD 2 []) = B1 at hd0 SM2
      generalize smZ ((wsM t).getD 3 []) = C1 at hd0 SM3
      generalize strOf ((wsM t).getD 0 []) = S0 at hf0 e0
      generalize strOf ((wsM t).getD 1 []) = S1 at hf1 SM1
      generalize strOf ((wsM t).getD 2 []) = S2 at hf2 SM2
      generalize strOf ((wsM t).getD 3 []) = S3 at hf3 SM3
      generalize ddWord k = WD at hvk e0
      generalize dM t k = dd at hd0 DT e1 HYK
      have SM1 := Lib.hid SM1
      have SM2 := Lib.hid SM2
      have SM3 := Lib.hid SM3
      have lg : g < wr.heap.size := World.block_lt_of_cell? _ _ hf0
      have lv : v < wr.heap.size := World.block_lt_of_cell? _ _ hvk
      have al : ∀ (p : Addr) (z : Value), p.block < wr.heap.size → wr.cell? p = some z → ∀ x : Obj, (wr.alloc x).cell? p = some z := fun p z hp hz x => (World.cell?_alloc_old _ _ _ (Nat.ne_of_lt hp)).trans hz
      have kf0 := al ⟨g, 0, none⟩ _ lg hf0
      have kf2 := al ⟨g, 2, none⟩ _ lg hf2
      have kf3 := fun h => al ⟨g, 3, none⟩ _ lg (hf3 h)
      have kvk := al ⟨v, k, none⟩ _ lv hvk
      have HBX : Hid (∀ x : Obj, Below w3.heap.size w3 (wr.alloc x) ∧ wr.heap.size < (wr.alloc x).heap.size ∧ Below w.heap.size w (wr.alloc x)) := fun x =>
        ⟨HB.out.alloc HB.out.size x, by simp, (below_step' HB0.out ((HB3.out.trans (HB.out.mono HB3.out.size))) HB0.out.size).alloc (Nat.le_trans (Nat.le_of_lt HLT.out) HB.out.size) x⟩
      have hn1i : decide ((1 : Int) < (m : Int)) = decide (1 < m) := by rw [decide_eq_decide]; omega
      have hn2i : decide ((2 : Int) < (m : Int)) = decide (2 < m) := by rw [decide_eq_decide]; omega
      have hn3i : decide ((3 : Int) < (n : Int)) = decide (3 < n) := by rw [decide_eq_decide]; omega
      obtain ⟨u1, hu1⟩ : ∃ p, decide (1 < m) = p := ⟨_, rfl⟩
      obtain ⟨u2, hu2⟩ : ∃ p, decide (2 < m) = p := ⟨_, rfl⟩
      obtain ⟨u3, hu3⟩ : ∃ p, decide (3 < n) = p := ⟨_, rfl⟩
      rw [hu1] at hn1i
      rw [hu2] at hn2i
      rw [hu3] at hn3i
      have hd1 : dd = ⟨k, A1, if u1 then B1 else 0, if u2 && u3 then C1 else 0⟩ := by
        rw [hd0, ← hu1, ← hu2, ← hu3]
        congr 1
        · by_cases h : 1 < m <;> simp [h]
        · by_cases h : 2 < m <;> by_cases h' : 3 < n <;> simp [h, h']
      have kf3' : u3 = true → ∀ x : Obj, (wr.alloc x).cell? ⟨g, 3, none⟩ = some (.string S3) := fun h => kf3 (of_decide_eq_true (hu3.trans h))
      have kn3' : u3 = true → (3 : Int) < (n : Int) := fun h => by have := of_decide_eq_true (hu3.trans h); omega
      clear hd0 hf2 hf3 kf3 al lg lv hmm hn hk9
      have hcs : (u1 = false ∧ u2 = false) ∨ (u1 = true ∧ u2 = false) ∨ (u1 = true ∧ u2 = true ∧ u3 = false) ∨ (u1 = true ∧ u2 = true ∧ u3 = true) := by
        have h12 : u2 = true → u1 = true := fun h => by
          rw [← hu1]
          have := of_decide_eq_true (hu2.trans h)
          exact decide_eq_true (by omega)
        cases u1 <;> cases u2 <;> cases u3 <;> simp at h12 ⊢
      clear hu1 hu2 hu3
      rcases hcs with ⟨rfl, rfl⟩ | ⟨rfl, rfl⟩ | ⟨rfl, rfl, rfl⟩ | ⟨rfl, rfl, rfl⟩
      all_goals
        try have kf3'' := kf3' rfl
        try have kn3'' := kn3' rfl
        clear kf3' kn3'
        simp only [Bool.false_and, Bool.true_and, Bool.false_eq_true, if_false, if_true] at hd1
        rw [hd1] at DT e1 HYK
        unfold ddV at DT
        simp only at DT
        have DT := Lib.hid DT
        go_wp2_with (first
          | (go_at_call 21; with_reducible refine (SM1.out _).mono ?_; rintro e w4 ⟨rfl, rfl⟩)
          | (go_at_call 21; with_reducible refine (SM2.out _).mono ?_; rintro e w4 ⟨rfl, rfl⟩)
          | (go_at_call 21; with_reducible refine (SM3.out _).mono ?_; rintro e w4 ⟨rfl, rfl⟩)
          | (go_at_call 15; with_reducible refine (N1.out _).mono ?_; rintro e w4 ⟨rfl, rfl⟩)
          | fail)
        cases p0
        · have hnc : ¬ condM t k := by have h := HC.out; simpa using h
          have HNC : Hid (∀ j, 1 ≤ j → j < k + 1 → ¬ condM t j) := fun j h1 h2 hc => by
            by_cases e : j = k
            · subst e; exact hnc hc
            · exact HNK.out j h1 (by omega) hc
          clear hnc
          go_quiet (fail)
          go_wp2
          refine ⟨⟨k + 1, by go_num, by omega, by have := HK.out; omega, HNC, below_draws (HBX.out _).1 _⟩, ?_⟩
          have := HK.out
          simp [intOf]
          omega
        · have HDX : Hid (∀ x : Obj, Below w3.heap.size w3 (w4.alloc x).drew ∧ w4.heap.size < (w4.alloc x).drew.heap.size ∧ Below w.heap.size w (w4.alloc x).drew) := fun x => ⟨(HBX.out x).1.drew, (HBX.out x).2.1, (HBX.out x).2.2.drew⟩
          go_region_with (first
            | (go_at_call 9; (with_reducible refine (DT.out _).mono ?_); rintro e w6 ⟨rfl, hb6⟩
               have z0 : w6.cell? ⟨w4.heap.size, 0, none⟩ = some (.int .i64 k) := by rw [hb6.cell (by simp)]; go_simp
               have z1 : w6.cell? ⟨w4.heap.size, 1, none⟩ = some (.int .i64 A1) := by rw [hb6.cell (by simp)]; go_simp
               first
                 | have z2 : w6.cell? ⟨w4.heap.size, 2, none⟩ = some (.int .i64 B1) := by rw [hb6.cell (by simp)]; go_simp; done
                 | have z2 : w6.cell? ⟨w4.heap.size, 2, none⟩ = some (.int .i64 0) := by rw [hb6.cell (by simp)]; go_simp; done
               first
                 | have z3 : w6.cell? ⟨w4.heap.size, 3, none⟩ = some (.int .i64 C1) := by rw [hb6.cell (by simp)]; go_simp; done
                 | have z3 : w6.cell? ⟨w4.heap.size, 3, none⟩ = some (.int .i64 0) := by rw [hb6.cell (by simp)]; go_simp; done
               have HB6 : Hid (Below w3.heap.size w3 w6) := by first | exact (HBX.out _).1.trans (hb6.mono (HBX.out _).1.size) | exact (HDX.out _).1.trans (hb6.mono (HDX.out _).1.size)
               clear hb6)
            | fail)
          all_goals
            obtain ⟨⟨x0, x1, x2, x3⟩, xf⟩ := HR3.out w6 HB6.out
            have f0 := xf 0
            have f1 := xf 1
            have f2 := xf 2
            have f3 := xf 3
            have hz : Hid (Has4 w6 w.heap.size (.int .i64 0) (.int .i64 0) (.int .i64 0) (.int .i64 0)) := ⟨x0, x1, x2, x3⟩
            have HBZ : Hid (Below w.heap.size w w6) := below_step' HB0.out ((HB3.out.trans (HB6.out.mono HB3.out.size))) HB0.out.size
            cases p1
            · have hnc : ¬ condM t k := by have h := HC.out; simpa using h
              have HNC : Hid (∀ j, 1 ≤ j → j < k + 1 → ¬ condM t j) := fun j h1 h2 hc => by
                by_cases e : j = k
                · subst e; exact hnc hc
                · exact HNK.out j h1 (by omega) hc
              clear hnc x0 x1 x2 x3 f0 f1 f2 f3 xf
              go_wp2
              refine ⟨⟨k + 1, by go_num, by omega, by have := HK.out; omega, HNC, HB6.out⟩, ?_⟩
              have := HK.out
              simp [intOf]
              omega
            · have hrd := HYK.out (by have h := HC.out; simpa using h)
              have HRD := Lib.hid hrd
              clear hrd
              go_wp2
              (try simp only [Exit.inBlock, Exit.then])
              refine bodyPost_ret (res_cell_tmp9 rfl _ _ _ rfl (load4 (hz.out.set _ _ _ _).c0 (hz.out.set _ _ _ _).c1 (hz.out.set _ _ _ _).c2 (hz.out.set _ _ _ _).c3)) rfl ?_
              exact ⟨some _, HRD.out, rfl, st4_below HBZ.out _ _ _ _⟩
    · obtain rfl : k = 9 := by omega
      have hr := HNO.out (fun j h1 h8 => HNK.out j h1 (by omega))
      obtain ⟨⟨x0, x1, x2, x3⟩, xf⟩ := HR3.out wr HB.out
      have f0 := xf 0
      have f1 := xf 1
      have f2 := xf 2
      have f3 := xf 3
      have hz : Has4 wr w.heap.size (.int .i64 0) (.int .i64 0) (.int .i64 0) (.int .i64 0) := ⟨x0, x1, x2, x3⟩
      have HBZ : Hid (Below w.heap.size w wr) := below_step' HB0.out ((HB3.out.trans (HB.out.mono HB3.out.size))) HB0.out.size
      have HH := Lib.hid (And.intro hr hz)
      clear hr hz hk hk9 hk1
      go_wp2
      (try simp only [Exit.inBlock, Exit.then])
      refine bodyPost_ret (res_cell_tmp9 rfl _ _ _ rfl (load4 (a0 := .int .i64 0) (a1 := .int .i64 0) (a2 := .int .i64 0) (a3 := .int .i64 0) (HH.out.2.set _ _ _ _).c0 (HH.out.2.set _ _ _ _).c1 (HH.out.2.set _ _ _ _).c2 (HH.out.2.set _ _ _ _).c3)) rfl ?_
      exact ⟨none, HH.out.1, rfl, st4_below HBZ.out _ _ _ _⟩

end Go.Proofs.YtpphmolfhogepaaDoor
