import Derived.Test.YtpphmolfhogepaaDoorSck
/-
  A deed is scanned.
-/
set_option linter.unusedVariables false
set_option linter.unusedSimpArgs false
namespace Go.Proofs.YtpphmolfhogepaaDoor
open Go.RowKit

theorem ddWord_inj {p q : Nat} (p1 : 1 ≤ p) (p8 : p ≤ 8) (q1 : 1 ≤ q) (q8 : q ≤ 8) (h : (ddWord p).data.toList = (ddWord q).data.toList) : p = q := by
  rcases kinds8 p1 p8 with rfl | rfl | rfl | rfl | rfl | rfl | rfl | rfl <;> rcases kinds8 q1 q8 with rfl | rfl | rfl | rfl | rfl | rfl | rfl | rfl <;> first | rfl | (exfalso; revert h; decide)
theorem dd_kind {d : Dd} (h : validDd d = true) : ∃ q : Nat, d.kind = q ∧ 1 ≤ q ∧ q ≤ 8 := by
  obtain ⟨⟨k1, k2⟩, -⟩ := valid_dd h
  exact ⟨d.kind.toNat, by omega, by omega, by omega⟩
theorem ddNums_len {d : Dd} (h : validDd d = true) : (ddNums d).length = ddCnt d.kind.toNat := by
  obtain ⟨q, e, q1, q8⟩ := dd_kind h
  unfold ddNums
  rw [e, Int.toNat_natCast, List.length_take]
  have := ddCnt_in q1 q8
  simp
  omega
theorem ddNums_in {d : Dd} (h : validDd d = true) : ∀ z ∈ ddNums d, 0 ≤ z ∧ z ≤ 999 := fun z hz => by
  obtain ⟨-, ha, hb, hc⟩ := valid_dd h
  have := List.mem_of_mem_take hz
  simp at this
  omega
theorem idxB_itoa {z : Int} (h : 0 ≤ z ∧ z ≤ 999) : idxB (Lib.itoa z) = true := by
  unfold idxB
  rw [pz_itoa (by omega) (by omega), inZ_t h]
  simp
theorem idxB_some {t : List UInt8} (h : idxB t = true) : (0 ≤ pz t ∧ pz t ≤ 999) ∧ Lib.itoa (pz t) = t := by
  unfold idxB at h
  simp only [Bool.and_eq_true, decide_eq_true_eq] at h
  exact ⟨inZ_iff.1 h.1, h.2⟩

/-- The deed of a kind with such numbers. -/
def ddOf (q : Nat) (zs : List Int) : Dd := ⟨q, zs.getD 0 0, zs.getD 1 0, zs.getD 2 0⟩
theorem ddOf_valid {q : Nat} (h1 : 1 ≤ q) (h8 : q ≤ 8) {zs : List Int} (hl : zs.length = ddCnt q) (hz : ∀ z ∈ zs, 0 ≤ z ∧ z ≤ 999) : validDd (ddOf q zs) = true ∧ ddNums (ddOf q zs) = zs := by
  have hm := ddCnt_in h1 h8
  unfold ddOf
  rw [validDd_split h1 h8]
  unfold ddNums
  simp only [Int.toNat_natCast]
  generalize ddCnt q = m at hl hm
  rcases hm with rfl | rfl | rfl
  · match zs, hl with
    | [x], _ =>
      have hx := hz x (by simp)
      simp [dOk, inZ_t hx, inZ]
      try exact hx
  · match zs, hl with
    | [x, y], _ =>
      have hx := hz x (by simp)
      have hy := hz y (by simp)
      simp [dOk, inZ_t hx, inZ_t hy, inZ]
      try exact ⟨hx, hy⟩
  · match zs, hl with
    | [x, y, u], _ =>
      have hx := hz x (by simp)
      have hy := hz y (by simp)
      have hu := hz u (by simp)
      simp [dOk, inZ_t hx, inZ_t hy, inZ_t hu]

/-- The numbers behind the first word. -/
def ixs (ws : List (List UInt8)) (m : Nat) : List Int := (List.range m).map fun i => pz (ws.getD (1 + i) [])
theorem ixs_len (ws : List (List UInt8)) (m : Nat) : (ixs ws m).length = m := by simp [ixs]
theorem ixs_getD (ws : List (List UInt8)) (m i : Nat) : (ixs ws m).getD i 0 = if i < m then pz (ws.getD (1 + i) []) else 0 := by
  unfold ixs
  rw [List.getD_eq_getElem?_getD, List.getElem?_map]
  by_cases h : i < m
  · rw [if_pos h, List.getElem?_eq_getElem (by simpa using h)]
    simp
  · rw [if_neg h, List.getElem?_eq_none (by simp; omega)]
    rfl
theorem words_take {ws : List (List UInt8)} {q m : Nat} (h0 : (ddWord q).data.toList = ws.getD 0 []) (hl : 1 + m ≤ ws.length) (hi : ∀ i, i < m → idxB (ws.getD (1 + i) []) = true) :
    ws.take (1 + m) = (ddWord q).data.toList :: (ixs ws m).map Lib.itoa := by
  apply List.ext_getElem
  · rw [List.length_take, List.length_cons, List.length_map, ixs_len]; omega
  · intro i h1 h2
    rw [List.getElem_take]
    have hil : i < ws.length := by rw [List.length_take] at h1; omega
    cases i with
    | zero => rw [List.getElem_cons_zero, h0, List.getD_eq_getElem?_getD, List.getElem?_eq_getElem hil]; rfl
    | succ i =>
      have him : i < m := by rw [List.length_take] at h1; omega
      rw [List.getElem_cons_succ, List.getElem_map]
      have e := (idxB_some (hi i him)).2
      have e2 : (ixs ws m)[i]'(by rw [ixs_len]; exact him) = pz (ws.getD (1 + i) []) := by simp [ixs]
      rw [e2, e, List.getD_eq_getElem?_getD, Nat.add_comm 1 i, List.getElem?_eq_getElem hil]
      rfl
theorem words_no {ws : List (List UInt8)} {q : Nat} (q1 : 1 ≤ q) (q8 : q ≤ 8) (h0 : (ddWord q).data.toList = ws.getD 0 []) {d : Dd} (hd : validDd d = true) (h : ws = ddWords d) : d.kind.toNat = q ∧ ws.length = 1 + ddCnt q ∧ ∀ i, i < ddCnt q → idxB (ws.getD (1 + i) []) = true := by
  obtain ⟨p, e, p1, p8⟩ := dd_kind hd
  have hp : d.kind.toNat = p := by rw [e]; rfl
  have hw : ws.getD 0 [] = (ddWord p).data.toList := by rw [h, ddWords, hp]; rfl
  obtain rfl : q = p := ddWord_inj q1 q8 p1 p8 (h0.trans hw)
  have hln := ddNums_len hd
  rw [hp] at hln
  refine ⟨hp, by rw [h, ddWords, List.length_cons, List.length_map, hln]; omega, fun i hi => ?_⟩
  have hz := ddNums_in hd
  have : ws.getD (1 + i) [] = Lib.itoa ((ddNums d)[i]'(by omega)) := by
    rw [h, ddWords, List.getD_eq_getElem?_getD, Nat.add_comm 1 i, List.getElem?_cons_succ, List.getElem?_map, List.getElem?_eq_getElem (by omega)]
    rfl
  rw [this]
  exact idxB_itoa (hz _ (List.getElem_mem _))
theorem dwords_none {ws : List (List UInt8)} (h : ∀ j, 1 ≤ j → j ≤ 8 → (ddWord j).data.toList ≠ ws.getD 0 []) {d : Dd} (hd : validDd d = true) : ws ≠ ddWords d := fun e => by
  obtain ⟨p, e', p1, p8⟩ := dd_kind hd
  have hp : d.kind.toNat = p := by rw [e']; rfl
  exact h p p1 p8 (by rw [e, ddWords, hp]; rfl)

theorem KeptBut.frozen {n B : Nat} {W W' : World} (h : KeptBut n B W W') {b o : Nat} (h1 : b < n) (h2 : b ≠ B) : W'.frozen? ⟨b, o, none⟩ = W.frozen? ⟨b, o, none⟩ := World.frozen?_of_block (w := W) (h.block b h1 h2)
theorem Scan.other {W0 : World} {g b : Nat} {ws : List (List UInt8)} {k : Nat} {w : World} (h : Scan W0 g b ws k w) {A : Nat} (hA : W0.heap.size ≤ A) (j : Nat) (v : Value) : Scan W0 g b ws k (w.setCell ⟨A, j, none⟩ v) := by
  obtain ⟨a, hc, hk⟩ := h.cell
  have hg := h.hg
  have hne : A ≠ g := by omega
  refine ⟨h.kept.setCell A j v (.inr hA), h.hg, h.hb, h.ne, h.len, h.hk, h.words, ⟨a, ?_, hk⟩, ?_, h.glo, h.low⟩
  · rw [World.cell?_setCell_far _ _ _ _ hne]; exact hc
  · rw [World.frozen?_setCell]; exact h.free

/-- What is scanned of words. -/
def DeedTo (W0 : World) (g b : Nat) (ws : List (List UInt8)) (e : Ending) (w' : World) : Prop :=
  (∃ d k, e = .returned (ddV d) ∧ validDd d = true ∧ k = 1 + ddCnt d.kind.toNat ∧ k ≤ ws.length ∧ ws.take k = ddWords d ∧ Scan W0 g b ws k w') ∨
  (Pan e ∧ (∃ k, Scan W0 g b ws k w') ∧ ∀ d, validDd d = true → ws ≠ ddWords d)

theorem infoDeed' : (Tryd.prog.info? 25).map (·.size) = some 4 := by kernel_rfl

set_option maxRecDepth 100000 in
set_option maxHeartbeats 4000000 in
theorem deed_any {W0 : World} {g b : Nat} {ws : List (List UInt8)} {w : World} (h : Scan W0 g b ws 0 w) (h0 : 0 < ws.length) (hw : ∀ t ∈ ws, t.length ≤ 2000000) :
    Calls Tryd.prog 23 #[.pointer (some ⟨g, 0, none⟩)] w (DeedTo W0 g b ws) := by
  have hB : Below w.heap.size w (w.alloc (.cells #[.int .i64 0, .int .i64 0, .int .i64 0, .int .i64 0] 25)) := (Below.refl _ _).alloc (Nat.le_refl _) _
  have hs1 := h.below hB
  have WD := Lib.hid (word_any hs1 h0)
  have KD := Lib.hid (fun (W : World) (hW : Scan W0 g b ws 1 W) => deedKindOf_any (ws.getD 0 []) W hW.glos.tab)
  have ET := Lib.hid expect_t
  have EF := Lib.hid expect_f
  have hsz : W0.heap.size ≤ w.heap.size := h.kept.size
  have HW := Lib.hid hw
  obtain ⟨W, hWe⟩ : ∃ W, W = w.alloc (.cells #[.int .i64 0, .int .i64 0, .int .i64 0, .int .i64 0] 25) := ⟨_, rfl⟩
  have r0 : W.cell? ⟨w.heap.size, 0, none⟩ = some (.int .i64 0) := by rw [hWe]; go_simp
  have r1 : W.cell? ⟨w.heap.size, 1, none⟩ = some (.int .i64 0) := by rw [hWe]; go_simp
  have r2 : W.cell? ⟨w.heap.size, 2, none⟩ = some (.int .i64 0) := by rw [hWe]; go_simp
  have r3 : W.cell? ⟨w.heap.size, 3, none⟩ = some (.int .i64 0) := by rw [hWe]; go_simp
  rw [← hWe] at hB hs1 WD
  have HWE := Lib.hid hWe.symm
  generalize strOf (ws.getD 0 []) = S at WD KD
  clear hWe h hw
  go_enter Tryd.func23, Tryd.ntmps23
  go_wp2_with fail
  rw [HWE.out]
  refine WD.out.mono ?_
  rintro e w1 ⟨rfl, hs1, hk1⟩
  go_wp2_with fail
  refine (KD.out _ hs1).mono ?_
  rintro e w2 ⟨q, rfl, hq, hb2⟩
  have hs2 := hs1.below hb2
  have hk2 := hk1.trans (KeptBut.of_below hb2 hk1.size)
  have HS2 := Lib.hid hs2
  have HK2 := Lib.hid hk2
  have hgW : g < W0.heap.size := hs2.hg
  have hRW : w.heap.size < W.heap.size := World.block_lt_of_cell? _ _ r0
  have hRg : w.heap.size ≠ g := by omega
  clear hs1 hk1 hb2
  by_cases hq0 : q = 0
  · subst hq0
    have hno : ∀ j, 1 ≤ j → j ≤ 8 → (ddWord j).data.toList ≠ ws.getD 0 [] := by
      rcases hq with ⟨-, h⟩ | ⟨h, -⟩
      · exact h
      · omega
    have HNO := Lib.hid hno
    clear hq hno hs2 hk2 r0 r1 r2 r3
    go_wp2_with (go_at_call 27; refine (EF.out _).mono ?_; rintro e w3 ⟨⟨u, pv, rfl⟩, rfl⟩)
    exact ⟨rfl, .inr ⟨⟨_, _, rfl⟩, ⟨_, HS2.out⟩, fun d hd => dwords_none HNO.out hd⟩⟩
  obtain ⟨q1, q8, hqw⟩ : 1 ≤ q ∧ q ≤ 8 ∧ (ddWord q).data.toList = ws.getD 0 [] := by
    rcases hq with ⟨h, -⟩ | h
    · exact absurd h hq0
    · exact h
  have HQ := Lib.hid (And.intro q1 (And.intro q8 hqw))
  have hq9 : (q : Int) < 9 := by omega
  have hqz : ((q : Int) == 0) = false := by simp; omega
  have hqz' : ((q : Int) != 0) = true := by simp; omega
  have t1 := hs2.glos.tab.cnt q (by omega)
  have hm3 := ddCnt_in q1 q8
  have WN := Lib.hid (fun (d : Dd) (hd : validDd d = true) (e : ws = ddWords d) => words_no q1 q8 hqw hd e)
  have WT := Lib.hid (fun (m : Nat) (hm : m = ddCnt q) => @words_take ws q m hqw)
  obtain ⟨m, hm⟩ : ∃ m, ddCnt q = m := ⟨_, rfl⟩
  have HM := Lib.hid hm
  rw [hm] at t1 hm3
  have HM3 := Lib.hid hm3
  have hmi : (m : Int) ≤ 3 := by omega
  have hgA : 0 < w2.heap.size := World.block_lt_of_cell? _ _ t1
  have k1 : ∀ x : Obj, (w2.alloc x).cell? ⟨0, q * 2 + 1, none⟩ = some (.int .i64 m) := fun x => (World.cell?_alloc_old _ _ _ (Nat.ne_of_lt hgA)).trans t1
  have hsz2 : W.heap.size ≤ w2.heap.size := hk2.size
  have HR : Hid (∀ wr, KeptBut W.heap.size g W wr → (∀ j, j < 4 → wr.cell? ⟨w.heap.size, j, none⟩ = some (.int .i64 0)) ∧ ∀ j, wr.frozen? ⟨w.heap.size, j, none⟩ = false) := fun wr hk => by
    refine ⟨fun j hj => ?_, fun j => ?_⟩
    · rw [hk.cell hRW hRg]
      have : j = 0 ∨ j = 1 ∨ j = 2 ∨ j = 3 := by omega
      rcases this with rfl | rfl | rfl | rfl
      · exact r0
      · exact r1
      · exact r2
      · exact r3
    · rw [hk.frozen hRW hRg, ← HWE.out]
      go_simp
  have HAW : Hid (W0.heap.size ≤ w2.heap.size ∧ W.heap.size ≤ w2.heap.size ∧ w2.heap.size ≠ g) := ⟨by omega, hsz2, by omega⟩
  clear hq hq0 q1 q8 hqw hs2 hk2 r0 r1 r2 r3 hm hm3 t1 hgA
  go_wp2_with (go_at_call 27; refine (ET.out _).mono ?_; rintro e w3 ⟨rfl, rfl⟩)
  have HA0 : Hid (∀ i, i < 3 → (w3.alloc (.cells #[.int .i64 0, .int .i64 0, .int .i64 0] 35)).cell? ⟨w3.heap.size, i, none⟩ = some (.int .i64 (if i < 0 then pz (ws.getD (1 + i) []) else 0))) := fun i hi => by
    have : i = 0 ∨ i = 1 ∨ i = 2 := by omega
    rcases this with rfl | rfl | rfl <;> (rw [if_neg (by omega)]; go_simp)
  have HAF : Hid (∀ i, (w3.alloc (.cells #[.int .i64 0, .int .i64 0, .int .i64 0] 35)).frozen? ⟨w3.heap.size, i, none⟩ = false) := fun i => by go_simp
  have HBA : Hid (Below w3.heap.size w3 (w3.alloc (.cells #[.int .i64 0, .int .i64 0, .int .i64 0] 35))) := (Below.refl _ _).alloc (Nat.le_refl _) _
  have HLA : Hid (w3.heap.size < (w3.alloc (.cells #[.int .i64 0, .int .i64 0, .int .i64 0] 35)).heap.size) := by
    show _ < _
    simp
  generalize w3.alloc (.cells #[.int .i64 0, .int .i64 0, .int .i64 0] 35) = w4 at HA0 HAF HBA HLA ⊢
  obtain ⟨A, hA⟩ : ∃ A, w3.heap.size = A := ⟨_, rfl⟩
  have HS4 := Lib.hid (HS2.out.below HBA.out)
  have HK4 := Lib.hid (HK2.out.trans (KeptBut.of_below HBA.out HAW.out.2.1))
  rw [hA] at HA0 HAF HLA HAW ⊢
  clear k1 hA HBA HS2 HK2
  go_loopw [16] (fun i wr => ∃ j : Nat, i = .int .i64 j ∧ j ≤ m ∧ Scan W0 g b ws (1 + j) wr ∧ KeptBut W.heap.size g W wr ∧ A < wr.heap.size ∧ (∀ i, i < j → idxB (ws.getD (1 + i) []) = true) ∧ (∀ i, i < 3 → wr.cell? ⟨A, i, none⟩ = some (.int .i64 (if i < j then pz (ws.getD (1 + i) []) else 0))) ∧ ∀ i, wr.frozen? ⟨A, i, none⟩ = false) (fun i _ => m - (intOf i).toNat)
  case atStart => exact ⟨0, rfl, Nat.zero_le _, HS4.out, HK4.out, HLA.out, fun i hi => by omega, HA0.out, HAF.out⟩
  case round =>
    obtain ⟨j, rfl, hjm, hsj, hkj, hAj, hij, hcj, hfj⟩ := hrel
    have HSJ := Lib.hid hsj
    have HKJ := Lib.hid hkj
    have HAJ := Lib.hid hAj
    have HIJ := Lib.hid hij
    have HCJ := Lib.hid hcj
    have HFJ := Lib.hid hfj
    by_cases hj : j < m
    · have hj' : (j : Int) < (m : Int) := by omega
      have hj3 : (j : Int) < 3 := by omega
      have HJ : Hid (j < m) := hj
      by_cases hlen : 1 + j < ws.length
      · have hwj : (ws.getD (1 + j) []).length ≤ 2000000 := HW.out _ (by
          rw [List.getD_eq_getElem?_getD, List.getElem?_eq_getElem hlen]
          exact List.getElem_mem _)
        have IA := Lib.hid (index_any hsj hlen hwj)
        obtain ⟨ix, hix⟩ : ∃ x, idxB (ws.getD (1 + j) []) = x := ⟨_, rfl⟩
        have HIX := Lib.hid hix
        rw [hix] at IA
        clear hsj hkj hAj hij hcj hfj hwj hix hjm hlen
        cases ix
        · go_wp2_with fail
          refine IA.out.mono ?_
          rintro e w5 ⟨hs5, -, -, hp⟩
          obtain ⟨u, pv, rfl⟩ := hp trivial
          exact ⟨rfl, .inr ⟨⟨_, _, rfl⟩, ⟨_, hs5⟩, fun d hd e => by
            have h := (WN.out d hd e).2.2 j (by rw [HM.out]; exact HJ.out)
            rw [HIX.out] at h
            cases h⟩⟩
        · go_wp2_with fail
          refine IA.out.mono ?_
          rintro e w5 ⟨hs5, hk5, hp, -⟩
          obtain rfl := hp trivial
          have HC5 : Hid (∀ i, i < 3 → w5.cell? ⟨A, i, none⟩ = some (.int .i64 (if i < j then pz (ws.getD (1 + i) []) else 0))) := fun i hi => by
            rw [hk5.cell HAJ.out HAW.out.2.2]
            exact HCJ.out i hi
          have hc5 : w5.cell? ⟨A, j, none⟩ = some (.int .i64 0) := by
            have h := HC5.out j (by have := HM3.out; have := HJ.out; omega)
            rw [if_neg (by omega)] at h
            exact h
          have HF5 : Hid (∀ i, w5.frozen? ⟨A, i, none⟩ = false) := fun i => by
            rw [hk5.frozen HAJ.out HAW.out.2.2]
            exact HFJ.out i
          have hf5 := HF5.out j
          have HS6 : Hid (∀ v, Scan W0 g b ws (1 + j + 1) (w5.setCell ⟨A, j, none⟩ v)) := fun v => hs5.other HAW.out.1 j v
          have HK6 : Hid (∀ v, KeptBut W.heap.size g W (w5.setCell ⟨A, j, none⟩ v)) := fun v => (HKJ.out.trans ⟨hk5.os, hk5.tape, hk5.output, hk5.size, fun k hk hne => hk5.block k (Nat.lt_of_lt_of_le hk HKJ.out.size) hne⟩).setCell A j v (.inr HAW.out.2.1)
          have HA6 : Hid (A < w5.heap.size) := Nat.lt_of_lt_of_le HAJ.out hk5.size
          generalize hz : pz (ws.getD (1 + j) []) = z
          have HZ := Lib.hid hz
          clear hs5 hk5 hz hp
          go_wp2
          go_roundw
          case rel =>
            refine ⟨j + 1, by go_num, HJ.out, by rw [← Nat.add_assoc]; exact HS6.out _, HK6.out _, by simpa using HA6.out, fun i hi => ?_, fun i hi => ?_, fun i => by rw [World.frozen?_setCell]; exact HF5.out i⟩
            · by_cases e : i = j
              · subst e; exact HIX.out
              · exact HIJ.out i (by omega)
            · by_cases e : i = j
              · subst e
                rw [if_pos (by omega), HZ.out]
                exact World.cell?_setCell_same _ _ _ hc5
              · have h := HC5.out i hi
                rw [World.cell?_setCell_other _ _ _ _ (fun e2 => e (by have := congrArg Addr.off e2; simpa using this.symm)), h]
                by_cases h1 : i < j
                · rw [if_pos h1, if_pos (by omega)]
                · rw [if_neg h1, if_neg (by omega)]
          case measure => have := HJ.out; simp [intOf]; omega
      · have he : 1 + j = ws.length := by have := hsj.hk; omega
        rw [he] at hsj
        have IE := Lib.hid (index_end hsj)
        have HE := Lib.hid he
        clear hsj hkj hAj hij hcj hfj hjm hlen he
        go_wp2_with fail
        refine IE.out.mono ?_
        rintro e w5 ⟨⟨u, pv, rfl⟩, hs5⟩
        exact ⟨rfl, .inr ⟨⟨_, _, rfl⟩, ⟨_, hs5⟩, fun d hd e => by
          have h := (WN.out d hd e).2.1
          rw [HM.out] at h
          have := HE.out
          have := HJ.out
          omega⟩⟩
    · obtain rfl : j = m := by omega
      obtain ⟨rc, rf⟩ := HR.out _ hkj
      have a0 := hcj 0 (by decide)
      have a1 := hcj 1 (by decide)
      have a2 := hcj 2 (by decide)
      have b0 := rc 0 (by decide)
      have b1 := rc 1 (by decide)
      have b2 := rc 2 (by decide)
      have b3 := rc 3 (by decide)
      have f0 := rf 0
      have f1 := rf 1
      have f2 := rf 2
      have f3 := rf 3
      rw [← ixs_getD] at a0 a1 a2
      have HLEN : Hid (1 + j ≤ ws.length) := hsj.hk
      have HZS := Lib.hid (ixs_len ws j)
      have HZI : Hid (∀ z ∈ ixs ws j, 0 ≤ z ∧ z ≤ 999) := fun z hz => by
        obtain ⟨i, hi, rfl⟩ := List.getElem_of_mem hz
        have hij' : i < j := by rw [ixs_len] at hi; exact hi
        have e2 : (ixs ws j)[i] = pz (ws.getD (1 + i) []) := by simp [ixs]
        rw [e2]
        exact (idxB_some (HIJ.out i hij')).1
      obtain ⟨z0, hz0⟩ : ∃ z, (ixs ws j).getD 0 0 = z := ⟨_, rfl⟩
      obtain ⟨z1, hz1⟩ : ∃ z, (ixs ws j).getD 1 0 = z := ⟨_, rfl⟩
      obtain ⟨z2, hz2⟩ : ∃ z, (ixs ws j).getD 2 0 = z := ⟨_, rfl⟩
      rw [hz0] at a0
      rw [hz1] at a1
      rw [hz2] at a2
      have HD : Hid (ddOf q (ixs ws j) = ⟨q, z0, z1, z2⟩) := by
        show _ = _
        unfold ddOf
        rw [hz0, hz1, hz2]
      have hRA : w.heap.size ≠ A := by
        have := HAW.out
        intro e
        have hR : w.heap.size < W.heap.size := by
          have := World.block_lt_of_cell? _ _ ((HR.out W (KeptBut.refl _ _ _)).1 0 (by decide))
          exact this
        omega
      have HST : Hid (∀ v0 v1 v2 v3, Scan W0 g b ws (1 + j) ((((wr.setCell ⟨w.heap.size, 0, none⟩ v0).setCell ⟨w.heap.size, 1, none⟩ v1).setCell ⟨w.heap.size, 2, none⟩ v2).setCell ⟨w.heap.size, 3, none⟩ v3)) := fun v0 v1 v2 v3 => (((hsj.other hsz 0 v0).other hsz 1 v1).other hsz 2 v2).other hsz 3 v3
      clear hsj hkj hAj hij hcj hfj hjm hj hz0 hz1 hz2 rc rf
      go_wp2
      (try simp only [Exit.inBlock, Exit.then])
      refine bodyPost_ret (res_cell1' rfl _ _ _ rfl (run_loadVar_mid _ _ _ _ [.int .i64 q, .int .i64 z0, .int .i64 z1, .int .i64 z2] _ ?_ Tryd.underlying25 rfl infoDeed')) rfl ?_
      · intro i v hv
        rcases i with _ | _ | _ | _ | i <;> simp at hv <;> subst hv <;> go_simp
      · have hov := ddOf_valid HQ.out.1 HQ.out.2.1 (HZS.out.trans HM.out.symm) HZI.out
        rw [HD.out] at hov
        refine .inl ⟨⟨q, z0, z1, z2⟩, 1 + j, rfl, hov.1, by rw [show (⟨q, z0, z1, z2⟩ : Dd).kind.toNat = q from rfl, HM.out], HLEN.out, ?_, HST.out _ _ _ _⟩
        rw [WT.out j HM.out.symm HLEN.out HIJ.out, ddWords, hov.2]
        rfl

end Go.Proofs.YtpphmolfhogepaaDoor
