import Derived.Test.YtdefhmpmgcahpaaDoorMPlanTeL19
import Derived.Test.YtdefhmpmgcahpaaDoorRdqZ
import Derived.Test.YtdefhmpmgcahpaaDoorMPlanTeL10
import Derived.Test.YtdefhmpmgcahpaaDoorSt4
import Derived.Test.YtdefhmpmgcahpaaDoorMPlanTeL6
/-
  ReadStep of the model.
-/
set_option linter.unusedVariables false
set_option linter.unusedSimpArgs false
namespace Go.Proofs.YtdefhmpmgcahpaaDoor
open Go.RowKit

/-- The kind that was found among the first words. -/
def KT (t : List UInt8) (q k : Nat) : Prop := (q = 0 ∧ ∀ j, 1 ≤ j → j < k → (wordOf j).data.toList ≠ t) ∨ (1 ≤ q ∧ q < k ∧ (wordOf q).data.toList = t)
theorem KT.hit {t : List UInt8} {k : Nat} (h1 : 1 ≤ k) (e : (wordOf k).data.toList = t) : KT t k (k + 1) := .inr ⟨h1, by omega, e⟩
theorem KT.pass {t : List UInt8} {q k : Nat} (h : KT t q k) (e : (wordOf k).data.toList ≠ t) : KT t q (k + 1) := by
  rcases h with ⟨h0, h⟩ | ⟨h1, h2, h⟩
  · refine .inl ⟨h0, fun j j1 j2 => ?_⟩
    by_cases e' : j = k
    · subst e'; exact e
    · exact h j j1 (by omega)
  · exact .inr ⟨h1, by omega, h⟩
theorem KT.done {t : List UInt8} {q : Nat} (h : KT t q 14) : KindSt t q := by
  rcases h with ⟨h0, h⟩ | ⟨h1, h2, h⟩
  · exact .inl ⟨h0, fun j j1 j2 => h j j1 (by omega)⟩
  · exact .inr ⟨h1, by omega, h⟩

set_option maxRecDepth 100000 in
set_option maxHeartbeats 4000000 in
theorem readStep_spec (t : List UInt8) (ht : t.length ≤ 1048576) (w : World) :
    Calls Tryd.prog 17 #[.string (strOf t)] w (ReadStTo t w) := by
  have hb0 : Below w.heap.size w (w.alloc (.cells #[.int .i64 0, .int .i64 0, .int .i64 0, .slice none 0 0] 36)) := (Below.refl _ _).alloc (Nat.le_refl _) _
  obtain ⟨W, hW⟩ : ∃ W, W = w.alloc (.cells #[.int .i64 0, .int .i64 0, .int .i64 0, .slice none 0 0] 36) := ⟨_, rfl⟩
  have hWs : W.heap.size = w.heap.size + 1 := by rw [hW]; simp
  have r0 : W.cell? ⟨w.heap.size, 0, none⟩ = some (.int .i64 0) := by rw [hW]; go_simp
  have r1 : W.cell? ⟨w.heap.size, 1, none⟩ = some (.int .i64 0) := by rw [hW]; go_simp
  have r2 : W.cell? ⟨w.heap.size, 2, none⟩ = some (.int .i64 0) := by rw [hW]; go_simp
  have r3 : W.cell? ⟨w.heap.size, 3, none⟩ = some (.slice none 0 0) := by rw [hW]; go_simp
  have rf : ∀ j, W.frozen? ⟨w.heap.size, j, none⟩ = false := fun j => by rw [hW]; go_simp
  rw [← hW] at hb0
  have hlt : w.heap.size < W.heap.size := by omega
  have HR : Hid (∀ w', Below W.heap.size W w' → (w'.cell? ⟨w.heap.size, 0, none⟩ = some (.int .i64 0) ∧ w'.cell? ⟨w.heap.size, 1, none⟩ = some (.int .i64 0) ∧ w'.cell? ⟨w.heap.size, 2, none⟩ = some (.int .i64 0) ∧ w'.cell? ⟨w.heap.size, 3, none⟩ = some (.slice none 0 0)) ∧ ∀ j, w'.frozen? ⟨w.heap.size, j, none⟩ = false) := fun w' hb => by
    rw [hb.cell hlt, hb.cell hlt, hb.cell hlt, hb.cell hlt]
    exact ⟨⟨r0, r1, r2, r3⟩, fun j => by rw [hb.frozen hlt]; exact rf j⟩
  have HB0 := Lib.hid hb0
  have HW := Lib.hid hW.symm
  have SP := Lib.hid (splitM_any t ht W)
  have HLT := Lib.hid hlt
  have hlen := split_len 32 t
  have hne := List.length_pos_iff.2 (splitL_ne 32 t)
  have HMEM : Hid (∀ j, ((splitL 32 t).getD j []).length ≤ 1048576) := fun j => by
    by_cases hj : j < (splitL 32 t).length
    · rw [List.getD_eq_getElem?_getD, List.getElem?_eq_getElem hj]
      have := split_len_mem 32 (List.getElem_mem hj)
      simp
      omega
    · rw [List.getD_eq_getElem?_getD, List.getElem?_eq_none (by omega)]
      simp
  have RZ := Lib.hid (@reads_zero t)
  have RW := Lib.hid (fun q j => @reads_word t q j)
  have RT := Lib.hid (fun zs q => @reads_told t zs q)
  have RB := Lib.hid (fun zs q => @reads_bad t zs q)
  have RG := Lib.hid (fun zs q => @reads_good t zs q)
  have NO := Lib.hid (fun zs => @nums_of t zs)
  have HHD : Hid ((splitL 32 t).headD [] = (splitL 32 t).getD 0 []) := by
    show _ = _
    cases splitL 32 t <;> rfl
  obtain ⟨ws, hws⟩ : ∃ ws, splitL 32 t = ws := ⟨_, rfl⟩
  rw [hws] at SP hlen hne HMEM HHD
  simp only [hws] at RZ RW RT RB RG NO
  obtain ⟨L, hL⟩ : ∃ L, ws.length = L := ⟨_, rfl⟩
  have HLL := Lib.hid hL
  rw [hL] at hlen hne
  have hLm : (L : Int) ≤ 9223372036854775807 := by omega
  have hL0 : (0 : Int) < (L : Int) := by omega
  have HL1 : Hid (1 ≤ L ∧ L ≤ 1048577) := ⟨by omega, by omega⟩
  clear hW hWs hb0 r0 r1 r2 r3 rf hlt ht hws hL
  go_enter Tryd.func17, Tryd.ntmps17
  go_wp2_with fail
  rw [HW.out]
  go_wp2_with fail
  refine SP.out.mono ?_
  rintro e w1 ⟨u, rfl, hr1, hb1⟩
  obtain ⟨a, cap, rfl, hfind⟩ := strs_find hr1
  rw [HLL.out] at hfind
  obtain ⟨g, rfl, hgw, c0⟩ := hfind 0 (by omega)
  have HF : Hid (∀ w', Below w1.heap.size w1 w' → ∀ j, j < L → w'.cell? ⟨g, j, none⟩ = some (.string (strOf (ws.getD j [])))) := fun w' hb j hj => by
    obtain ⟨g', e, -, hc⟩ := hfind j hj
    simp only [Option.some.injEq, Addr.mk.injEq, and_true] at e
    subst e
    rw [hb.cell (show (⟨g, j, none⟩ : Addr).block < w1.heap.size from hgw)]
    exact hc
  rw [HLL.out]
  have HB1 := Lib.hid hb1
  clear hr1 hb1 hfind c0 hgw SP
  go_wp2_with fail
  refine (words2_any _).mono ?_
  rintro e w2 ⟨v, b, rfl, hv, hbt, hb2⟩
  have HB2 : Hid (Below W.heap.size W w2) := below_step' HB1.out hb2 HB1.out.size
  have HF2 : Hid (∀ w', Below w2.heap.size w2 w' → ∀ j, j < L → w'.cell? ⟨g, j, none⟩ = some (.string (strOf (ws.getD j [])))) := fun w' hb => HF.out w' (hb2.trans (hb.mono hb2.size))
  have HV : Hid (∀ w', Below w2.heap.size w2 w' → ∀ j, j < 14 → w'.cell? ⟨v, j, none⟩ = some (.string (wordOf j))) := fun w' hb j hj => by
    rw [hb.cell (show (⟨v, j, none⟩ : Addr).block < w2.heap.size from World.block_lt_of_cell? _ _ (hv j hj))]
    exact hv j hj
  have HT : Hid (∀ w', Below w2.heap.size w2 w' → ∀ j, j < 14 → w'.cell? ⟨b, j, none⟩ = some (.int .i64 (toldL.getD j 0))) := fun w' hb j hj => by
    rw [hb.cell (show (⟨b, j, none⟩ : Addr).block < w2.heap.size from World.block_lt_of_cell? _ _ (hbt j hj))]
    exact hbt j hj
  clear hv hbt hb2 HF HB1
  go_wp2_with fail
  go_loopw [8] (fun i wr => ∃ k q : Nat, i = .int .i64 k ∧ 1 ≤ k ∧ k ≤ 14 ∧ KT (ws.getD 0 []) q k ∧ Has4 wr w2.heap.size (.int .i64 q) (.int .i64 0) (.int .i64 0) (.slice none 0 0) ∧ (∀ j, wr.frozen? ⟨w2.heap.size, j, none⟩ = false) ∧ Below w2.heap.size w2 wr) (fun i _ => 14 - (intOf i).toNat)
  case atStart => exact ⟨1, 0, rfl, by decide, by decide, .inl ⟨rfl, fun j h1 h2 => by omega⟩, ⟨by go_simp, by go_simp, by go_simp, by go_simp⟩, fun j => by go_simp, (Below.refl _ _).alloc (Nat.le_refl _) _⟩
  case round =>
    obtain ⟨k, q, rfl, hk1, hk14, hkt, hz, hfr, hB⟩ := hrel
    have HKT := Lib.hid hkt
    have HZ := Lib.hid hz
    have HFR := Lib.hid hfr
    have HB := Lib.hid hB
    by_cases hk : k < 14
    · have HK : Hid (1 ≤ k ∧ k < 14) := ⟨hk1, hk⟩
      have hk' : (k : Int) < 14 := by omega
      have hw0 := HF2.out wr hB 0 (by omega)
      have hwk := HV.out wr hB k hk
      have f0 := hfr 0
      have hc0 := hz.c0
      have heq := strOf_beq (wordOf k).data.toList (ws.getD 0 [])
      rw [strOf_self] at heq
      obtain ⟨p, hp⟩ : ∃ p, decide ((wordOf k).data.toList = ws.getD 0 []) = p := ⟨_, rfl⟩
      rw [hp] at heq
      have HP := Lib.hid hp
      generalize strOf (ws.getD 0 []) = S0 at hw0 heq
      generalize wordOf k = S1 at hwk heq
      clear hkt hz hfr hB hk hk1 hk14 hp
      cases p
      · go_wp2_with fail
        go_quiet (fail)
        go_wp2
        refine ⟨⟨k + 1, q, by go_num, by omega, by have := HK.out; omega, HKT.out.pass (of_decide_eq_false HP.out), ⟨HZ.out.c0, HZ.out.c1, HZ.out.c2, HZ.out.c3⟩, HFR.out, below_draws HB.out _⟩, ?_⟩
        have := HK.out
        simp [intOf]
        omega
      · go_wp2_with fail
        go_quiet (fail)
        go_wp2
        have d1 := HZ.out.c1
        have d2 := HZ.out.c2
        have d3 := HZ.out.c3
        refine ⟨⟨k + 1, k, by go_num, by omega, by have := HK.out; omega, KT.hit HK.out.1 (of_decide_eq_true HP.out), ⟨by go_simp, by go_simp, by go_simp, by go_simp⟩, fun j => by have := HFR.out j; go_simp, (below_draws HB.out _).setCell (Nat.le_refl _) _⟩, ?_⟩
        have := HK.out
        simp [intOf]
        omega
    · obtain rfl : k = 14 := by omega
      have HKD := Lib.hid (HHD.out ▸ hkt.done)
      obtain ⟨i0, hi, hzz0, hzz1, hzz2⟩ := info_parts' info_i64
      have HI : Hid (Tryd.prog.info? 2 = some i0) := hi
      have HZ0 := Lib.hid (And.intro hzz0 (And.intro hzz1 hzz2))
      have HSL : Hid (w2.heap.size < wr.heap.size) := World.block_lt_of_cell? _ _ hz.c0
      have HR0 : Hid (Row (wr.alloc (.cells #[] 2)) (w2.heap.size + 1) 2 (.slice (some ⟨wr.heap.size, 0, none⟩) 0 0) (ints [])) := by
        have h : Row (wr.alloc (.cells #[] 2)) wr.heap.size 2 (.slice (some ⟨wr.heap.size, 0, none⟩) 0 0) [] := World.ownsRow_lit wr #[] 0 (Nat.le_refl _) (by unfold maxLen; omega) rfl
        exact h.base' HSL.out
      have HZA : Hid (Has4 (wr.alloc (.cells #[] 2)) w2.heap.size (.int .i64 q) (.int .i64 0) (.int .i64 0) (.slice none 0 0)) := by
        have hne := Nat.ne_of_lt HSL.out
        exact ⟨(World.cell?_alloc_old _ _ _ hne).trans hz.c0, (World.cell?_alloc_old _ _ _ hne).trans hz.c1, (World.cell?_alloc_old _ _ _ hne).trans hz.c2, (World.cell?_alloc_old _ _ _ hne).trans hz.c3⟩
      have HFA : Hid (∀ j, (wr.alloc (.cells #[] 2)).frozen? ⟨w2.heap.size, j, none⟩ = false) := fun j => by
        exact (((Below.refl wr.heap.size wr).alloc (Nat.le_refl _) _).frozen (p := ⟨w2.heap.size, j, none⟩) HSL.out).trans (hfr j)
      have HBA : Hid (Below w2.heap.size w2 (wr.alloc (.cells #[] 2))) := hB.alloc (Nat.le_of_lt HSL.out) _
      clear hkt hz hfr hB hk hk1 hk14 hi hzz0 hzz1 hzz2
      go_wp2_with fail
      go_loopw [9, 10] (fun V i wr => ∃ (k : Nat) (zs : List Int), i = .int .i64 k ∧ 1 + zs.length = k ∧ k ≤ L ∧ (∀ j, j < zs.length → rdZ (ws.getD (1 + j) []) = some (zs.getD j 0)) ∧ Row wr (w2.heap.size + 1) 2 V (ints zs) ∧ Has4 wr w2.heap.size (.int .i64 q) (.int .i64 0) (.int .i64 0) (.slice none 0 0) ∧ (∀ j, wr.frozen? ⟨w2.heap.size, j, none⟩ = false) ∧ Below w2.heap.size w2 wr) (fun _ i _ => L - (intOf i).toNat)
      case atStart => exact ⟨1, [], rfl, rfl, HL1.out.1, fun j h => by simp at h, HR0.out, HZA.out, HFA.out, HBA.out⟩
      case round =>
        obtain ⟨k, zs, rfl, hzk, hkL, hrd, hR, hz, hfr, hB⟩ := hrel
        have HRD := Lib.hid hrd
        have HRW := Lib.hid hR
        have HZB := Lib.hid hz
        have HFB := Lib.hid hfr
        have HBB := Lib.hid hB
        have HZK := Lib.hid hzk
        by_cases hk : k < L
        · have hki : (k : Int) < (L : Int) := by omega
          have HK := Lib.hid hk
          have hwk := HF2.out _ hB k hk
          have RDX := fun W => l07Read_any (ws.getD k []) (HMEM.out k) W
          obtain ⟨r, hr⟩ : ∃ r, rdZ (ws.getD k []) = r := ⟨_, rfl⟩
          simp only [hr] at RDX
          have HRR := Lib.hid hr
          generalize strOf (ws.getD k []) = S0 at hwk RDX
          have RDX := Lib.hid RDX
          cases r with
          | none =>
            have HRN : Hid (ReadsSt t none) := RW.out q zs.length HKD.out (by have := HLL.out; omega) (by have := HZK.out; rw [this]; exact hr)
            have HBX : Hid (Below W.heap.size W _) := below_step' HB2.out hB HB2.out.size
            obtain ⟨⟨x0, x1, x2, x3⟩, xf⟩ := HR.out _ HBX.out
            have f0 := xf 0
            have f1 := xf 1
            have f2 := xf 2
            have f3 := xf 3
            have hzz : Hid (Has4 _ w.heap.size (.int .i64 0) (.int .i64 0) (.int .i64 0) (.slice none 0 0)) := ⟨x0, x1, x2, x3⟩
            have HBY : Hid (Below w.heap.size w _) := below_step' HB0.out HBX.out HB0.out.size
            clear xf hrd hR hz hfr hB hzk hr hk hkL
            go_wp2_with fail
            refine (RDX.out _).mono ?_
            rintro e w4 ⟨rfl, rfl⟩
            rw [show zV none = .tuple #[.int .i64 0, .bool false] from rfl]
            go_wp2
            (try simp only [Exit.inBlock, Exit.then])
            refine bodyPost_ret (res_cell_tmpS rfl _ _ _ rfl (load4S (hzz.out.set _ _ _ _).c0 (hzz.out.set _ _ _ _).c1 (hzz.out.set _ _ _ _).c2 (hzz.out.set _ _ _ _).c3)) rfl ?_
            exact ⟨none, _, _, HRN.out, rfl, ⟨rfl, rfl, .inl ⟨rfl, rfl⟩⟩, st4_below HBY.out _ _ _ _⟩
          | some z =>
            have HTK : Hid (∀ j, j < (zs ++ [z]).length → rdZ (ws.getD (1 + j) []) = some ((zs ++ [z]).getD j 0)) := fun j hj => by
              have hzl := HZK.out
              rw [List.length_append] at hj
              simp at hj
              by_cases e : j < zs.length
              · rw [hrd j e, List.getD_eq_getElem?_getD, List.getD_eq_getElem?_getD, List.getElem?_append_left e]
              · obtain rfl : j = zs.length := by omega
                rw [hzl, hr]
                simp
            obtain ⟨Va, Vc, hVf⟩ := hR.form
            subst hVf
            clear hrd hR hz hfr hB hzk hr hk hkL
            go_wp2_with fail
            refine (RDX.out _).mono ?_
            rintro e w4 ⟨rfl, rfl⟩
            rw [show zV (some z) = .tuple #[.int .i64 z, .bool true] from rfl]
            have hs2 := Nat.lt_of_lt_of_le (Nat.lt_succ_self w2.heap.size) (show w2.heap.size + 1 ≤ w4.heap.size from World.block_lt_of_cell? _ _ HZB.out.c0)
            have HS2 := Lib.hid hs2
            have HRV := Lib.hid (HRW.out.alloc (.cells #[.int .i64 z] 2))
            have HL : Hid (Reads (w4.alloc (.cells #[.int .i64 z] 2)) (.slice (some ⟨w4.heap.size, 0, none⟩) 1 1) (ints [z])) := by
              refine .row _ 1 1 _ rfl (by decide) (by decide) (by unfold maxLen; omega) fun j hj => ?_
              obtain rfl : j = 0 := by omega
              go_simp; try rfl
            clear hs2
            go_wp2_with (at_builtin; refine wpList_appR rfl _ _ 34 2 rfl Tryd.underlying34 i0 HI.out HZ0.out.1 HZ0.out.2.1 HZ0.out.2.2 (by decide) rfl (w2.heap.size + 1) _ _ (ints zs) (ints [z]) rfl rfl HRV.out HL.out (ints_oneCell _) (by have := HS2.out; simp; omega) (by have h1 := HL1.out.2; have h2 := HZK.out; have h3 := HK.out; rw [ints_length [z], ints_length]; simp; omega) ?_)
            intro v' w3 hr3 hg3
            rw [show ints zs ++ ints [z] = ints (zs ++ [z]) from (List.map_append).symm] at hr3
            have HR3 := Lib.hid hr3
            have hbo : Below (w2.heap.size + 1) w4 w3 := ((Below.refl _ _).alloc HS2.out _).grown hg3 (by have := HS2.out; simp; omega) (fun b e => (HRV.out.lt b e).1)
            have hS := Nat.lt_succ_self w2.heap.size
            have HZ3 : Hid (Has4 w3 w2.heap.size (.int .i64 q) (.int .i64 0) (.int .i64 0) (.slice none 0 0)) := ⟨(hbo.cell hS).trans HZB.out.c0, (hbo.cell hS).trans HZB.out.c1, (hbo.cell hS).trans HZB.out.c2, (hbo.cell hS).trans HZB.out.c3⟩
            have HF3 : Hid (∀ j, w3.frozen? ⟨w2.heap.size, j, none⟩ = false) := fun j => (hbo.frozen (p := ⟨w2.heap.size, j, none⟩) hS).trans (HFB.out j)
            have HB3 : Hid (Below w2.heap.size w2 w3) := HBB.out.trans (hbo.mono (Nat.le_succ _))
            clear hr3 hg3 hbo hS
            go_wp2
            go_roundw
            case rel => (repeat apply Exists.intro); refine ⟨?_, rfl⟩; exact ⟨k + 1, zs ++ [z], by go_num, by have := HZK.out; simp; omega, HK.out, HTK.out, HR3.out, HZ3.out, HF3.out, HB3.out⟩
            case measure => have := HK.out; simp [intOf]; omega
        · have hkl : k = L := by omega
          have HN : Hid (NumsT t zs) := NO.out zs (by have := HLL.out; omega) hrd
          have HRB : Hid (∀ z ∈ zs, ∃ u, rdZ (Lib.itoa z) = some u ∧ u = z) := fun z hz => by
            obtain ⟨j, hj, rfl⟩ := List.getElem_of_mem hz
            have h := hrd j hj
            rw [show zs.getD j 0 = zs[j] by rw [List.getD_eq_getElem?_getD, List.getElem?_eq_getElem hj]; rfl] at h
            exact rd_back h
          subst hkl
          have HBX : Hid (Below W.heap.size W _) := below_step' HB2.out hB HB2.out.size
          obtain ⟨⟨x0, x1, x2, x3⟩, xf⟩ := HR.out _ HBX.out
          have f0 := xf 0
          have f1 := xf 1
          have f2 := xf 2
          have f3 := xf 3
          have hzz : Hid (Has4 _ w.heap.size (.int .i64 0) (.int .i64 0) (.int .i64 0) (.slice none 0 0)) := ⟨x0, x1, x2, x3⟩
          have HBY : Hid (Below w.heap.size w _) := below_step' HB0.out HBX.out HB0.out.size
          obtain ⟨Va, Vc, hVf⟩ := hR.form
          rw [ints_length] at hVf
          subst hVf
          have s0 := hz.c0
          have s1 := hz.c1
          have s2 := hz.c2
          have s3 := hz.c3
          by_cases hq0 : q = 0
          · subst hq0
            have HRN : Hid (ReadsSt t none) := RZ.out HKD.out
            clear hrd hR hz hfr hB hzk hk hkL xf
            go_wp2
            (try simp only [Exit.inBlock, Exit.then])
            refine bodyPost_ret (res_cell_tmpS rfl _ _ _ rfl (load4S (hzz.out.set _ _ _ _).c0 (hzz.out.set _ _ _ _).c1 (hzz.out.set _ _ _ _).c2 (hzz.out.set _ _ _ _).c3)) rfl ?_
            exact ⟨none, _, _, HRN.out, rfl, ⟨rfl, rfl, .inl ⟨rfl, rfl⟩⟩, st4_below HBY.out _ _ _ _⟩
          · have hq13 : 1 ≤ q ∧ q ≤ 13 := by
              rcases HKD.out with ⟨h, -⟩ | ⟨h1, h2, -⟩
              · exact absurd h hq0
              · exact ⟨h1, h2⟩
            have hto := HT.out _ hB q (by omega)
            have hqi : ¬ (q : Int) = 0 := by omega
            have hqa : (0 : Int) ≤ (q : Int) := by omega
            have hqb : (q : Int) < 14 := by omega
            by_cases h3 : q = 3
            · subst h3
              rw [show toldL.getD 3 0 = -1 from rfl] at hto
              have HRG := Lib.hid (RG.out zs 3 HN.out HKD.out (by decide) (.inl rfl))
              have HRBD := Lib.hid (RB.out zs 3 HN.out HRB.out HKD.out)
              rw [show withSt 3 zs = ⟨3, 0, 0, zs⟩ from rfl] at HRG HRBD
              have g3 := hfr 3
              have HRW2 := Lib.hid (hR.other (b := w2.heap.size) (j := 3) (.slice Va zs.length Vc) (fun e => by have := (hR.lt _ e).1; omega))
              clear hrd hR hfr hB hzk hk hkL xf hq0 hq13 hqi hqa hqb x0 x1 x2 x3 f0 f1 f2 f3
              go_wp2_with fail
              have c0 : (wr.setCell ⟨w2.heap.size, 3, none⟩ (.slice Va zs.length Vc)).cell? ⟨w2.heap.size, 0, none⟩ = some (.int .i64 3) := by go_simp
              have c1 : (wr.setCell ⟨w2.heap.size, 3, none⟩ (.slice Va zs.length Vc)).cell? ⟨w2.heap.size, 1, none⟩ = some (.int .i64 0) := by go_simp
              have c2 : (wr.setCell ⟨w2.heap.size, 3, none⟩ (.slice Va zs.length Vc)).cell? ⟨w2.heap.size, 2, none⟩ = some (.int .i64 0) := by go_simp
              have c3 : (wr.setCell ⟨w2.heap.size, 3, none⟩ (.slice Va zs.length Vc)).cell? ⟨w2.heap.size, 3, none⟩ = some (.slice Va zs.length Vc) := by go_simp
              have HB4 : Hid (Below W.heap.size W (wr.setCell ⟨w2.heap.size, 3, none⟩ (.slice Va zs.length Vc))) := HBX.out.setCell HB2.out.size _
              generalize wr.setCell ⟨w2.heap.size, 3, none⟩ (.slice Va zs.length Vc) = w4 at c0 c1 c2 c3 HB4 HRW2 ⊢
              clear g3 s0 s1 s2 s3 hz hto hzz HBX HBY
              have HL31 : Hid (W.heap.size ≤ w2.heap.size) := HB2.out.size
              have HLS : Hid (w2.heap.size < w4.heap.size) := World.block_lt_of_cell? _ _ c0
              have HST := Lib.hid (l07Step_any 3 0 0 zs Va Vc w2.heap.size 0 (by have h1 := HL1.out.2; have h2 := HZK.out; first | (simp; done) | (simp; omega)) w4 ⟨c0, c1, c2, c3⟩ (fun w1 hb1 => HRW2.out.reads.keep hb1))
              obtain ⟨p, hp⟩ : ∃ p, validSt ⟨3, 0, 0, zs⟩ = p := ⟨_, rfl⟩
              rw [hp] at HST HRG HRBD
              clear hp
              refine HST.out.mono ?_
              rintro e w5 ⟨rfl, hb5⟩
              have d0 := (hb5.cell HLS.out).trans c0
              have d1 := (hb5.cell HLS.out).trans c1
              have d2 := (hb5.cell HLS.out).trans c2
              have d3 := (hb5.cell HLS.out).trans c3
              have HRX := Lib.hid (HRW2.out.below hb5 (fun k e => (HRW2.out.lt k e).2))
              have HB5 : Hid (Below W.heap.size W w5) := below_step' HB4.out hb5 HB4.out.size
              obtain ⟨⟨x0, x1, x2, x3⟩, xf⟩ := HR.out _ HB5.out
              have f0 := xf 0
              have f1 := xf 1
              have f2 := xf 2
              have f3 := xf 3
              have hzz : Hid (Has4 w5 w.heap.size (.int .i64 0) (.int .i64 0) (.int .i64 0) (.slice none 0 0)) := ⟨x0, x1, x2, x3⟩
              have HBY : Hid (Below w.heap.size w w5) := below_step' HB0.out HB5.out HB0.out.size
              clear xf hb5 c0 c1 c2 c3
              cases p
              · have HRN : Hid (ReadsSt t none) := HRBD.out rfl
                go_wp2
                (try simp only [Exit.inBlock, Exit.then])
                refine bodyPost_ret (res_cell_tmpS rfl _ _ _ rfl (load4S (hzz.out.set _ _ _ _).c0 (hzz.out.set _ _ _ _).c1 (hzz.out.set _ _ _ _).c2 (hzz.out.set _ _ _ _).c3)) rfl ?_
                exact ⟨none, _, _, HRN.out, rfl, ⟨rfl, rfl, .inl ⟨rfl, rfl⟩⟩, st4_below HBY.out _ _ _ _⟩
              · have HRS : Hid (ReadsSt t (some ⟨3, 0, 0, zs⟩)) := HRG.out rfl
                have HRY : Hid (Row (st4 w5 w.heap.size (.int .i64 (3)) (.int .i64 (0)) (.int .i64 (0)) (.slice Va zs.length Vc)) w.heap.size 2 (.slice Va zs.length Vc) (ints zs)) := by
                  have h := HRX.out
                  have hlo := HLT.out
                  have hl2 := HL31.out
                  have hne : (Value.slice Va zs.length Vc).ownBlock ≠ some w.heap.size := fun e => by
                    have := (h.lt _ e).1
                    omega
                  exact ((((h.base' (by omega)).other _ hne).other _ hne).other _ hne).other _ hne
                go_wp2
                (try simp only [Exit.inBlock, Exit.then])
                refine bodyPost_ret (res_cell_tmpS rfl _ _ _ rfl (load4S (hzz.out.set _ _ _ _).c0 (hzz.out.set _ _ _ _).c1 (hzz.out.set _ _ _ _).c2 (hzz.out.set _ _ _ _).c3)) rfl ?_
                exact ⟨some ⟨3, 0, 0, zs⟩, _, _, HRS.out, rfl, ⟨rfl, HRY.out⟩, st4_below HBY.out _ _ _ _⟩
            · rw [told_cnt hq13.1 hq13.2 h3] at hto
              have HQ := Lib.hid hq13
              have H3 : Hid (q ≠ 3) := h3
              by_cases hc : zs.length = cntOf q
              · have HRG := Lib.hid (RG.out zs q HN.out HKD.out hq13.1 (.inr hc))
                have HRBD := Lib.hid (RB.out zs q HN.out HRB.out HKD.out)
                rw [show withSt q zs = ⟨q, zs.getD 0 0, zs.getD 1 0, []⟩ from if_neg h3] at HRG HRBD
                have hge : (0 : Int) ≤ (cntOf q : Int) := by omega
                have hnl : ¬ ((cntOf q : Int) < 0) := by omega
                have hcz : (zs.length : Int) = (cntOf q : Int) := by omega
                have hb1 : ((zs.length : Int) != (cntOf q : Int)) = false := by simpa using hcz
                have HAB : Hid ((ints (zs ++ [0, 0])).getD 0 undef = .int .i64 (zs.getD 0 0) ∧ (ints (zs ++ [0, 0])).getD 1 undef = .int .i64 (zs.getD 1 0)) := by
                  match zs with
                  | [] => exact ⟨rfl, rfl⟩
                  | [a] => exact ⟨rfl, rfl⟩
                  | a :: b :: r => exact ⟨rfl, rfl⟩
                have HCS : Hid (Has4 wr w2.heap.size (.int .i64 q) (.int .i64 0) (.int .i64 0) (.slice none 0 0)) := hz
                have HRW2 := Lib.hid (hR.alloc (.cells #[.int .i64 0, .int .i64 0] 2))
                have hSL2 : w2.heap.size < wr.heap.size := World.block_lt_of_cell? _ _ hz.c0
                have HSX := Lib.hid hSL2
                have HLY : Hid (Reads (wr.alloc (.cells #[.int .i64 0, .int .i64 0] 2)) (.slice (some ⟨wr.heap.size, 0, none⟩) 2 2) (ints [0, 0])) := by
                  refine .row _ 2 2 _ rfl (by decide) (by decide) (by unfold maxLen; omega) fun j hj => ?_
                  have : j = 0 ∨ j = 1 := by omega
                  rcases this with rfl | rfl <;> (go_simp; try rfl)
                clear hrd hR hB hzk hk hkL xf hq0 hq13 x0 x1 x2 x3 f0 f1 f2 f3 hc h3 hz s1 s2 s3 hSL2
                generalize (cntOf q : Int) = C at hto hge hnl hcz hb1
                go_wp2_with (at_builtin; refine wpList_appR rfl _ _ 34 2 rfl Tryd.underlying34 i0 HI.out HZ0.out.1 HZ0.out.2.1 HZ0.out.2.2 (by decide) rfl (w2.heap.size + 1) _ _ (ints zs) (ints [0, 0]) rfl rfl HRW2.out HLY.out (ints_oneCell _) (by have := HSX.out; simp; omega) (by have h1 := HL1.out.2; have h2 := HZK.out; rw [ints_length [0, 0], ints_length]; simp; omega) ?_)
                intro v' w3 hr3 hg3
                rw [show ints zs ++ ints [0, 0] = ints (zs ++ [0, 0]) from (List.map_append).symm] at hr3
                have hbo : Below (w2.heap.size + 1) wr w3 := ((Below.refl _ _).alloc HSX.out _).grown hg3 (by have := HSX.out; simp; omega) (fun b e => (HRW2.out.lt b e).1)
                have hS := Nat.lt_succ_self w2.heap.size
                have s0 := (hbo.cell (p := ⟨w2.heap.size, 0, none⟩) hS).trans HCS.out.c0
                have s1 := (hbo.cell (p := ⟨w2.heap.size, 1, none⟩) hS).trans HCS.out.c1
                have s2 := (hbo.cell (p := ⟨w2.heap.size, 2, none⟩) hS).trans HCS.out.c2
                have s3 := (hbo.cell (p := ⟨w2.heap.size, 3, none⟩) hS).trans HCS.out.c3
                have g1 := (hbo.frozen (p := ⟨w2.heap.size, 1, none⟩) hS).trans (hfr 1)
                have g2 := (hbo.frozen (p := ⟨w2.heap.size, 2, none⟩) hS).trans (hfr 2)
                have HBW : Hid (Below W.heap.size W w3) := HBX.out.trans (hbo.mono (Nat.le_trans HB2.out.size (Nat.le_succ _)))
                have hM : 2 ≤ (ints (zs ++ [0, 0])).length := by rw [ints_length]; simp
                obtain ⟨aa, cc, hvf⟩ := hr3.form
                subst hvf
                have hy : ∃ h, aa = some ⟨h, 0, none⟩ ∧ h ≠ w2.heap.size := by
                  rcases hr3.2 with ⟨e, e'⟩ | ⟨h, c', cur, e, hb, -⟩
                  · omega
                  · simp only [Value.slice.injEq] at e
                    exact ⟨h, e.1, by omega⟩
                obtain ⟨h, rfl, hhs⟩ := hy
                have y0 := hr3.cellAt (j := 0) (by omega)
                have y1 := hr3.cellAt (j := 1) (by omega)
                rw [HAB.out.1] at y0
                rw [HAB.out.2] at y1
                generalize zs.getD 0 0 = ZA at y0 HRG HRBD
                generalize zs.getD 1 0 = ZB at y1 HRG HRBD
                generalize (ints (zs ++ [0, 0])).length = M at hM ⊢
                have hM0 : (0 : Int) < (M : Int) := by omega
                have hM1 : (1 : Int) < (M : Int) := by omega
                clear hr3 hg3 hbo hS hfr hcz hb1 hM
                go_wp2_with fail
                have c0 : ((w3.setCell ⟨w2.heap.size, 1, none⟩ (.int .i64 ZA)).setCell ⟨w2.heap.size, 2, none⟩ (.int .i64 ZB)).cell? ⟨w2.heap.size, 0, none⟩ = some (.int .i64 q) := by go_simp
                have c1 : ((w3.setCell ⟨w2.heap.size, 1, none⟩ (.int .i64 ZA)).setCell ⟨w2.heap.size, 2, none⟩ (.int .i64 ZB)).cell? ⟨w2.heap.size, 1, none⟩ = some (.int .i64 ZA) := by go_simp
                have c2 : ((w3.setCell ⟨w2.heap.size, 1, none⟩ (.int .i64 ZA)).setCell ⟨w2.heap.size, 2, none⟩ (.int .i64 ZB)).cell? ⟨w2.heap.size, 2, none⟩ = some (.int .i64 ZB) := by go_simp
                have c3 : ((w3.setCell ⟨w2.heap.size, 1, none⟩ (.int .i64 ZA)).setCell ⟨w2.heap.size, 2, none⟩ (.int .i64 ZB)).cell? ⟨w2.heap.size, 3, none⟩ = some (.slice none 0 0) := by go_simp
                have HB4 : Hid (Below W.heap.size W ((w3.setCell ⟨w2.heap.size, 1, none⟩ (.int .i64 ZA)).setCell ⟨w2.heap.size, 2, none⟩ (.int .i64 ZB))) := (HBW.out.setCell HB2.out.size _).setCell HB2.out.size _
                have HRE : Hid (Row ((w3.setCell ⟨w2.heap.size, 1, none⟩ (.int .i64 ZA)).setCell ⟨w2.heap.size, 2, none⟩ (.int .i64 ZB)) (w2.heap.size + 1) 2 (.slice none 0 0) (ints [])) := ⟨rfl, .inl ⟨rfl, rfl⟩⟩
                generalize hw4 : ((w3.setCell ⟨w2.heap.size, 1, none⟩ (.int .i64 ZA)).setCell ⟨w2.heap.size, 2, none⟩ (.int .i64 ZB)) = w4 at c0 c1 c2 c3 HB4 HRE ⊢
                clear hw4 g1 g2 s0 s1 s2 s3 hto hzz HBX HBY y0 y1
                have HL31 : Hid (W.heap.size ≤ w2.heap.size) := HB2.out.size
                have HLS : Hid (w2.heap.size < w4.heap.size) := World.block_lt_of_cell? _ _ c0
                have HST := Lib.hid (l07Step_any q ZA ZB ([] : List Int) none 0 w2.heap.size 0 (by have h1 := HL1.out.2; have h2 := HZK.out; first | (simp; done) | (simp; omega)) w4 ⟨c0, c1, c2, c3⟩ (fun w1 hb1 => HRE.out.reads.keep hb1))
                obtain ⟨p, hp⟩ : ∃ p, validSt ⟨q, ZA, ZB, ([] : List Int)⟩ = p := ⟨_, rfl⟩
                rw [hp] at HST HRG HRBD
                clear hp
                refine HST.out.mono ?_
                rintro e w5 ⟨rfl, hb5⟩
                have d0 := (hb5.cell HLS.out).trans c0
                have d1 := (hb5.cell HLS.out).trans c1
                have d2 := (hb5.cell HLS.out).trans c2
                have d3 := (hb5.cell HLS.out).trans c3
                have HRX := Lib.hid (HRE.out.below hb5 (fun k e => (HRE.out.lt k e).2))
                have HB5 : Hid (Below W.heap.size W w5) := below_step' HB4.out hb5 HB4.out.size
                obtain ⟨⟨x0, x1, x2, x3⟩, xf⟩ := HR.out _ HB5.out
                have f0 := xf 0
                have f1 := xf 1
                have f2 := xf 2
                have f3 := xf 3
                have hzz : Hid (Has4 w5 w.heap.size (.int .i64 0) (.int .i64 0) (.int .i64 0) (.slice none 0 0)) := ⟨x0, x1, x2, x3⟩
                have HBY : Hid (Below w.heap.size w w5) := below_step' HB0.out HB5.out HB0.out.size
                clear xf hb5 c0 c1 c2 c3
                cases p
                · have HRN : Hid (ReadsSt t none) := HRBD.out rfl
                  go_wp2
                  (try simp only [Exit.inBlock, Exit.then])
                  refine bodyPost_ret (res_cell_tmpS rfl _ _ _ rfl (load4S (hzz.out.set _ _ _ _).c0 (hzz.out.set _ _ _ _).c1 (hzz.out.set _ _ _ _).c2 (hzz.out.set _ _ _ _).c3)) rfl ?_
                  exact ⟨none, _, _, HRN.out, rfl, ⟨rfl, rfl, .inl ⟨rfl, rfl⟩⟩, st4_below HBY.out _ _ _ _⟩
                · have HRS : Hid (ReadsSt t (some ⟨q, ZA, ZB, ([] : List Int)⟩)) := HRG.out rfl
                  have HRY : Hid (Row (st4 w5 w.heap.size (.int .i64 (q)) (.int .i64 (ZA)) (.int .i64 (ZB)) (.slice none 0 0)) w.heap.size 2 (.slice none 0 0) (ints ([] : List Int))) := by
                    have h := HRX.out
                    have hlo := HLT.out
                    have hl2 := HL31.out
                    have hne : (Value.slice none 0 0).ownBlock ≠ some w.heap.size := fun e => by
                      have := (h.lt _ e).1
                      omega
                    exact ((((h.base' (by omega)).other _ hne).other _ hne).other _ hne).other _ hne
                  go_wp2
                  (try simp only [Exit.inBlock, Exit.then])
                  refine bodyPost_ret (res_cell_tmpS rfl _ _ _ rfl (load4S (hzz.out.set _ _ _ _).c0 (hzz.out.set _ _ _ _).c1 (hzz.out.set _ _ _ _).c2 (hzz.out.set _ _ _ _).c3)) rfl ?_
                  exact ⟨some ⟨q, ZA, ZB, ([] : List Int)⟩, _, _, HRS.out, rfl, ⟨rfl, HRY.out⟩, st4_below HBY.out _ _ _ _⟩
              · have HRN : Hid (ReadsSt t none) := RT.out zs q HN.out HRB.out HKD.out h3 hc
                have hci : ¬ (zs.length : Int) = (cntOf q : Int) := by omega
                have hge : (0 : Int) ≤ (cntOf q : Int) := by omega
                have hb1 : ((zs.length : Int) != (cntOf q : Int)) = true := by simpa using hci
                have hb2 : decide ((zs.length : Int) = (cntOf q : Int)) = false := decide_eq_false hci
                clear hrd hR hz hfr hB hzk hk hkL xf hc h3 hq0 hq13
                generalize (cntOf q : Int) = C at hto hci hge hb1 hb2
                go_wp2
                (try simp only [Exit.inBlock, Exit.then])
                refine bodyPost_ret (res_cell_tmpS rfl _ _ _ rfl (load4S (hzz.out.set _ _ _ _).c0 (hzz.out.set _ _ _ _).c1 (hzz.out.set _ _ _ _).c2 (hzz.out.set _ _ _ _).c3)) rfl ?_
                exact ⟨none, _, _, HRN.out, rfl, ⟨rfl, rfl, .inl ⟨rfl, rfl⟩⟩, st4_below HBY.out _ _ _ _⟩

end Go.Proofs.YtdefhmpmgcahpaaDoor
