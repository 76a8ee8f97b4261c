import Derived.Test.YtpphmolfhogepaaDoorDtS
import Derived.Laws.CopyOwn
/-
  DeedText of the program.
-/
set_option linter.unusedVariables false
set_option linter.unusedSimpArgs false
namespace Go.Proofs.YtpphmolfhogepaaDoor
open Go.RowKit

theorem decP_any (z : Int) (h : 0 ≤ z ∧ z ≤ 999) (w : World) (hp : Pow10 w) :
    Calls Tryd.prog 19 #[.int .i64 z] w fun e w' => e = .returned (.string (strOf (Lib.itoa z))) ∧ Below w.heap.size w w' := by
  have SG := formatInt_any z (by omega) (by omega) w hp
  rw [show (⟨(Lib.itoa z).toArray⟩ : ByteArray) = strOf (Lib.itoa z) from rfl] at SG
  have SG := Lib.hid SG
  generalize strOf (Lib.itoa z) = T at SG
  clear hp h
  go_enter Tryd.func19, Tryd.ntmps19
  go_wp2_with fail
  with_reducible refine SG.out.mono ?_
  rintro e w5 ⟨rfl, dk, dos, rfl⟩
  have hb5 := below_grow w dk dos
  generalize Sort.grow (w.drewN dk) dos = w5 at hb5 ⊢
  go_wp2
  go_ret
  exact ⟨rfl, hb5⟩

set_option maxRecDepth 100000 in
set_option maxHeartbeats 8000000 in
theorem deedText_impl (d : Dd) (w : World) (ht : Tab9 w) (hp : Pow10 w) :
    Calls Tryd.prog 10 #[ddV d] w fun e w' => e = .returned (.string (strOf (ddText d))) ∧ Below w.heap.size w w' := by
  obtain ⟨p, hv⟩ : ∃ p, validDd d = p := ⟨_, rfl⟩
  have VS := fun (W : World) (hb : Below w.heap.size w W) => validDeed_impl d W (ht.below hb)
  rw [hv] at VS
  cases p
  · have e : ddText d = [] := by unfold ddText; rw [hv]; rfl
    rw [e]
    obtain ⟨kd, a, b, c⟩ := d
    unfold ddV at VS ⊢
    simp only at VS ⊢
    have VS := Lib.hid VS
    clear hv e ht hp
    go_enter Tryd.func10, Tryd.ntmps10
    go_wp2_with fail
    with_reducible refine (VS.out _ ((Below.refl _ _).alloc (Nat.le_refl _) _)).mono ?_
    rintro e w1 ⟨rfl, hb1⟩
    have HB1 := Lib.hid hb1
    clear hb1
    go_wp2
    go_ret
    exact ⟨rfl, below_step' ((Below.refl _ _).alloc (Nat.le_refl _) _) HB1.out (by simp)⟩
  obtain ⟨⟨k1, k2⟩, ha, hb, hc⟩ := valid_dd hv
  have e : ddText d = txGo (ddWord d.kind.toNat).data.toList (ddNums d) := by unfold ddText; rw [hv]; rfl
  rw [e]
  have hz : ∀ z ∈ ddNums d, 0 ≤ z ∧ z ≤ 999 := fun z hz => by
    have := List.mem_of_mem_take hz
    simp at this
    omega
  obtain ⟨kd, a, b, c⟩ := d
  simp only at k1 k2 ha hb hc
  obtain ⟨q, rfl⟩ : ∃ q : Nat, kd = q := ⟨kd.toNat, by omega⟩
  have h1 : 1 ≤ q := by omega
  have h8 : q ≤ 8 := by omega
  have hq9 : (q : Int) < 9 := by omega
  unfold ddNums at hz ⊢
  simp only [Int.toNat_natCast] at hz ⊢
  have hwl := ddWord_len (show q < 9 by omega)
  have hm := ddCnt_in h1 h8
  have hlen := tx_len hwl (fun z hzz => by have := hz z hzz; omega : ∀ z ∈ [a, b, c].take (ddCnt q), -1024 ≤ z ∧ z ≤ 1024)
  have TB := Lib.hid (fun (W : World) (hb : Below w.heap.size w W) => And.intro ((ht.below hb).word q (by omega)) ((ht.below hb).cnt q (by omega)))
  have TP := Lib.hid (fun (W : World) (hb : Below w.heap.size w W) => hp.below hb)
  obtain ⟨m, hmm⟩ : ∃ m, ddCnt q = m := ⟨_, rfl⟩
  obtain ⟨wd, hwd⟩ : ∃ wd, ddWord q = wd := ⟨_, rfl⟩
  rw [hmm] at hz hm hlen TB ⊢
  rw [hwd] at hlen TB ⊢
  have hzl : ([a, b, c].take m).length = m := by rw [List.length_take]; simp; omega
  have HZ3 : Hid (∀ j, j < m → ([a, b, c].take m).getD j 0 = [a, b, c].getD j 0) := fun j hj => by
    rw [List.getD_eq_getElem?_getD, List.getD_eq_getElem?_getD, List.getElem?_take, if_pos hj]
  obtain ⟨zs, hzs⟩ : ∃ zs, [a, b, c].take m = zs := ⟨_, rfl⟩
  rw [hzs] at hz hlen hzl HZ3 ⊢
  have HLEN := Lib.hid hlen
  have HZ := Lib.hid hz
  have HZL := Lib.hid hzl
  have HM := Lib.hid hm
  have hm3 : (m : Int) ≤ 3 := by omega
  unfold ddV at VS ⊢
  simp only at VS ⊢
  have VS := Lib.hid VS
  have hb0 : Below w.heap.size w (w.alloc (.cells #[.int .i64 q, .int .i64 a, .int .i64 b, .int .i64 c] 25)) := (Below.refl _ _).alloc (Nat.le_refl _) _
  obtain ⟨W, hW⟩ : ∃ W, W = w.alloc (.cells #[.int .i64 q, .int .i64 a, .int .i64 b, .int .i64 c] 25) := ⟨_, rfl⟩
  have hlt : w.heap.size < W.heap.size := by rw [hW]; simp
  have c0 : W.cell? ⟨w.heap.size, 0, none⟩ = some (.int .i64 q) := by rw [hW]; go_simp
  have c1 : W.cell? ⟨w.heap.size, 1, none⟩ = some (.int .i64 a) := by rw [hW]; go_simp
  have c2 : W.cell? ⟨w.heap.size, 2, none⟩ = some (.int .i64 b) := by rw [hW]; go_simp
  have c3 : W.cell? ⟨w.heap.size, 3, none⟩ = some (.int .i64 c) := by rw [hW]; go_simp
  rw [← hW] at hb0
  have HC : Hid (∀ w', Below W.heap.size W w' → w'.cell? ⟨w.heap.size, 0, none⟩ = some (.int .i64 q) ∧ w'.cell? ⟨w.heap.size, 1, none⟩ = some (.int .i64 a) ∧ w'.cell? ⟨w.heap.size, 2, none⟩ = some (.int .i64 b) ∧ w'.cell? ⟨w.heap.size, 3, none⟩ = some (.int .i64 c)) := fun w' hb => by
    rw [hb.cell hlt, hb.cell hlt, hb.cell hlt, hb.cell hlt]
    exact ⟨c0, c1, c2, c3⟩
  have HW := Lib.hid hW.symm
  have HB0 := Lib.hid hb0
  clear ht hp hv ha hb hc e hW hmm hwd hwl hlen hz hzl hm hzs h1 h8 k1 k2 hb0
  go_enter Tryd.func10, Tryd.ntmps10
  go_wp2_with fail
  rw [HW.out]
  go_wp2_with fail
  with_reducible refine (VS.out _ HB0.out).mono ?_
  rintro e w1 ⟨rfl, hb1⟩
  have HB1 := Lib.hid hb1
  obtain ⟨d0, d1, d2, d3⟩ := HC.out w1 hb1
  obtain ⟨t0, t1⟩ := TB.out w1 (below_step' HB0.out hb1 HB0.out.size)
  clear hb1 c0 c1 c2 c3 VS
  have hl1 : w.heap.size < w1.heap.size := World.block_lt_of_cell? _ _ d0
  have hg1 : 0 < w1.heap.size := World.block_lt_of_cell? _ _ t0
  have k0 : ∀ x : Obj, (w1.alloc x).cell? ⟨w.heap.size, 0, none⟩ = some (.int .i64 q) := fun x => (World.cell?_alloc_old _ _ _ (Nat.ne_of_lt hl1)).trans d0
  have k1 : ∀ x : Obj, (w1.alloc x).cell? ⟨0, q * 2, none⟩ = some (.string wd) := fun x => (World.cell?_alloc_old _ _ _ (Nat.ne_of_lt hg1)).trans t0
  have k2 : ∀ x : Obj, (w1.alloc x).cell? ⟨0, q * 2 + 1, none⟩ = some (.int .i64 m) := fun x => (World.cell?_alloc_old _ _ _ (Nat.ne_of_lt hg1)).trans t1
  have HRD : Hid (∀ wr, Below (w1.heap.size + 1) (w1.alloc (.cells #[.int .i64 a, .int .i64 b, .int .i64 c] 35)) wr → ∀ j, j < m → wr.cell? ⟨w1.heap.size, j, none⟩ = some (.int .i64 (zs.getD j 0))) := fun wr hb j hj => by
    have hj3 : j < 3 := by omega
    rw [hb.cell (by simp), HZ3.out j hj]
    have : j = 0 ∨ j = 1 ∨ j = 2 := by omega
    rcases this with rfl | rfl | rfl <;> (go_simp; try rfl)
  have HST : Hid (Value.string wd = .string (strOf (txGo wd.data.toList (zs.take 0)))) := by
    rw [List.take_zero]
    rfl
  have HEND : Hid (txGo wd.data.toList (zs.take m) = txGo wd.data.toList zs) := by
    show _ = _
    rw [← HZL.out, List.take_length]
  have HB2 : Hid (Below W.heap.size W (w1.alloc (.cells #[.int .i64 a, .int .i64 b, .int .i64 c] 35))) := HB1.out.alloc HB1.out.size _
  clear hl1 hg1
  go_wp2_with fail
  go_loopw [4, 29] (fun y i wr => ∃ (j : Nat), i = .int .i64 j ∧ y = .string (strOf (txGo wd.data.toList (zs.take j))) ∧ j ≤ m ∧ Below (w1.heap.size + 1) (w1.alloc (.cells #[.int .i64 a, .int .i64 b, .int .i64 c] 35)) wr) (fun _ i _ => m - (intOf i).toNat)
  case atStart => exact ⟨0, rfl, HST.out, Nat.zero_le _, Below.refl _ _⟩
  case round =>
    obtain ⟨j, rfl, rfl, hj, hB⟩ := hrel
    have HB := Lib.hid hB
    have HBZ := Lib.hid (below_step' HB2.out (hB.mono (by simp)) HB2.out.size)
    by_cases hlt : j < m
    · have cj := HRD.out wr hB j hlt
      obtain ⟨z, hz⟩ : ∃ z, zs.getD j 0 = z := ⟨_, rfl⟩
      rw [hz] at cj
      have hzb : 0 ≤ z ∧ z ≤ 999 := HZ.out z (by
        rw [← hz, List.getD_eq_getElem?_getD, List.getElem?_eq_getElem (by rw [HZL.out]; exact hlt)]
        exact List.getElem_mem _)
      have SG := decP_any z hzb wr (TP.out wr (below_step' HB0.out HBZ.out HB0.out.size))
      have htl := HLEN.out j (by rw [HZL.out]; exact hj)
      have hil := itoa_len z (by omega) (by omega)
      have htk : txGo wd.data.toList (zs.take (j + 1)) = txGo wd.data.toList (zs.take j) ++ (32 :: Lib.itoa z) := by rw [tx_take (by rw [HZL.out]; exact hlt), hz]
      obtain ⟨tt, htt⟩ : ∃ tt, txGo wd.data.toList (zs.take j) = tt := ⟨_, rfl⟩
      obtain ⟨it, hit⟩ : ∃ it, Lib.itoa z = it := ⟨_, rfl⟩
      rw [htt] at htl htk ⊢
      rw [hit] at SG hil htk
      have hm3' : j ≤ 3 := by omega
      have a1 := fun w => str_add [32] it (by rw [List.length_singleton]; omega) w
      have a2 := fun w => str_add tt (32 :: it) (by rw [List.length_cons]; omega) w
      have HNEXT : Hid (strOf (txGo wd.data.toList (zs.take (j + 1))) = strOf (tt ++ (32 :: it))) := congrArg strOf htk
      obtain ⟨E1, hE1⟩ : ∃ E, strOf (32 :: it) = E := ⟨_, rfl⟩
      obtain ⟨E2, hE2⟩ : ∃ E, strOf (tt ++ (32 :: it)) = E := ⟨_, rfl⟩
      obtain ⟨T1, hT1⟩ : ∃ E, strOf tt = E := ⟨_, rfl⟩
      obtain ⟨S1, hS1⟩ : ∃ E, strOf it = E := ⟨_, rfl⟩
      rw [hE2] at HNEXT
      rw [hS1] at SG
      rw [hT1]
      have b1 : ∀ w : World, (Op.stringOp .add ⟨#[32]⟩ S1).run Tryd.prog w = .ok (.string E1) w := fun w => by rw [← hS1, ← hE1]; exact a1 w
      have b2 : ∀ w : World, (Op.stringOp .add T1 E1).run Tryd.prog w = .ok (.string E2) w := fun w => by rw [← hT1, ← hE1, ← hE2]; exact a2 w
      have SG := Lib.hid SG
      have HJL := Lib.hid hlt
      clear hB hz hzb htl hil htk htt hit a1 a2 hE1 hE2 hT1 hS1 hj hm3' k0 k1 k2
      go_wp2_with fail
      with_reducible refine SG.out.mono ?_
      rintro e w5 ⟨rfl, hb5⟩
      have HB5 := Lib.hid (HB.out.trans (hb5.mono (by have := HB.out.size; simpa using this)))
      clear hb5
      go_wp2
      go_roundw
      case rel => exact ⟨j + 1, by go_num, by rw [HNEXT.out], HJL.out, HB5.out⟩
      case measure => have := HJL.out; simp [intOf]; omega
    · obtain rfl : j = m := by omega
      rw [HEND.out]
      clear hB k0 k1 k2
      go_wp2
      go_ret
      exact ⟨rfl, below_step' HB0.out HBZ.out HB0.out.size⟩

end Go.Proofs.YtpphmolfhogepaaDoor
