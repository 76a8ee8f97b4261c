import Derived.Test.YtfdmohnmilecnaaDoorTxS
/-
  StepText of the model.
-/
set_option linter.unusedVariables false
set_option linter.unusedSimpArgs false
namespace Go.Proofs.YtfdmohnmilecnaaDoor
open Go.RowKit

/-- A text as a string. -/
def strOf (t : List UInt8) : ByteArray := ⟨t.toArray⟩
theorem str_add (a b : List UInt8) (h : a.length + b.length ≤ 9223372036854775807) (w : World) : (Op.stringOp .add (strOf a) (strOf b)).run Tryd.prog w = .ok (.string (strOf (a ++ b))) w := by
  rw [run_string_add_sum w _ _ (by simp [strOf, ByteArray.size]; omega)]
  congr 2

set_option maxRecDepth 100000 in
set_option maxHeartbeats 8000000 in
theorem stepText_spec {w : World} {B : Nat} {v tv : Value} {s : St} (h : StepO w B v s tv) :
    Calls Tryd.prog 19 #[v] w fun e w' => e = .returned (.string (strOf (stText s))) ∧ Below w.heap.size w w' := by
  obtain ⟨kd, n, k, taps⟩ := s
  obtain ⟨rfl, hr⟩ := h
  simp only at hr ⊢
  have hlen := hr.len_le
  obtain ⟨a, c, rfl⟩ := hr.form
  rw [ints_length] at hr ⊢
  have hb : Below w.heap.size w (w.alloc (.cells #[.int .i64 kd, .int .i64 n, .int .i64 k, .slice a taps.length c] 27)) := (Below.refl _ _).alloc (Nat.le_refl _) _
  obtain ⟨W, hW⟩ : ∃ W, W = w.alloc (.cells #[.int .i64 kd, .int .i64 n, .int .i64 k, .slice a taps.length c] 27) := ⟨_, rfl⟩
  have hlt : w.heap.size < W.heap.size := by rw [hW]; simp
  have hat : StepAt W w.heap.size 0 kd n k a taps.length c := by rw [hW]; exact ⟨by go_simp, by go_simp, by go_simp, by go_simp⟩
  rw [← hW] at hb
  have hrd : Hid (∀ w1, Below W.heap.size W w1 → Reads w1 (.slice a taps.length c) (ints taps)) := fun w1 hb1 => (hr.reads.keep hb).keep hb1
  have C := l07Step_any kd n k taps a c w.heap.size 0 hlen W hat hrd.out
  obtain ⟨T, hT⟩ : ∃ T, stText ⟨kd, n, k, taps⟩ = T := ⟨_, rfl⟩
  rw [hT]
  unfold stText at hT
  simp only at hT
  have HV := Lib.hid (fun (hv : validSt ⟨kd, n, k, taps⟩ = true) => And.intro (valid_kind hv) (valid_nums hv))
  obtain ⟨b, hbv⟩ : ∃ b, validSt ⟨kd, n, k, taps⟩ = b := ⟨_, rfl⟩
  rw [hbv] at C hT HV
  have C := Lib.hid C
  have HT := Lib.hid hT
  have HB0 := Lib.hid hb
  have HAT := Lib.hid hat
  have HW := Lib.hid hW.symm
  clear hT hb hat hW hr hlen hbv
  go_enter Tryd.func19, Tryd.ntmps19
  go_wp2_with fail
  rw [HW.out]
  with_reducible refine C.out.mono ?_
  rintro e w1 ⟨rfl, hb1⟩
  have HB1 := Lib.hid hb1
  clear hb1 C
  cases b
  · have e : T = [] := by rw [← HT.out]; rfl
    subst e
    go_wp2
    go_ret
    exact ⟨rfl, below_step' HB0.out HB1.out HB0.out.size⟩
  obtain ⟨⟨k1, k2⟩, n8, nz⟩ := HV.out rfl
  obtain ⟨q, rfl⟩ : ∃ q : Nat, kd = q := ⟨kd.toNat, by omega⟩
  have hT : txGo (wordOf q).data.toList (numsOf q n k taps) = T := HT.out
  simp only [Int.toNat_natCast] at n8 nz
  have hq1 : 1 ≤ q := by omega
  have hq13 : q ≤ 13 := by omega
  have HQ : Hid (1 ≤ q ∧ q ≤ 13) := ⟨hq1, hq13⟩
  have hqi : (q : Int) < 14 := by omega
  have hlen := tx_len (word_len (show q < 14 by omega)) nz
  obtain ⟨c0, c1, c2, c3⟩ := HAT.out.below HB1.out
  have HLEN := Lib.hid hlen
  have HTT := Lib.hid hT
  have HN8 := Lib.hid n8
  have NZ := Lib.hid nz
  clear HT HV hT hlen nz k1 k2 n8 hq1 hq13
  go_wp2_with (go_at_call 54; refine (words2_any _).mono ?_; rintro e w2 ⟨vv, vb, rfl, hvv, hvb, hb2⟩; have HVV := Lib.hid hvv; have HVB := Lib.hid hvb; have HB2 := Lib.hid (below_step' HB1.out hb2 HB1.out.size); clear hvv hvb hb2; refine Hid.out ?_)
  refine Lib.hid ?_
  clear c0 c1 c2 c3
  obtain ⟨c0, c1, c2, c3⟩ := HAT.out.below HB2.out
  have t0 := HVB.out q (by have := HQ.out; omega)
  have t1 := HVV.out q (by have := HQ.out; omega)
  have hgb : vb < w2.heap.size := World.block_lt_of_cell? _ _ t0
  have hgv : vv < w2.heap.size := World.block_lt_of_cell? _ _ t1
  have hgw : w.heap.size < w2.heap.size := World.block_lt_of_cell? _ _ c0
  obtain ⟨zs, hzs⟩ : ∃ zs, numsOf q n k taps = zs := ⟨_, rfl⟩
  have HZS := Lib.hid hzs
  rw [hzs] at HLEN HTT HN8 NZ
  by_cases h3 : q = 3
  · subst h3
    replace t0 : w2.cell? ⟨vb, 3, none⟩ = some (.int .i64 (-1)) := t0
    replace c0 : w2.cell? ⟨w.heap.size, 0, none⟩ = some (.int .i64 3) := c0
    rw [show ((3 : Nat) : Int) = 3 from rfl]
    have e : taps = zs := hzs
    obtain ⟨L, hL⟩ : ∃ L, taps.length = L := ⟨_, rfl⟩
    have hLz : zs.length = L := by rw [← e, hL]
    have HRD : Hid (∀ wr, Below W.heap.size W wr → ∀ j, j < L → ∃ g, a = some ⟨g, 0, none⟩ ∧ wr.cell? ⟨g, j, none⟩ = some (.int .i64 (zs.getD j 0))) := fun wr hb j hj => by
      obtain ⟨a', c', e', -, hrd'⟩ := ints_find (hrd.out wr hb)
      simp only [Value.slice.injEq] at e'
      obtain ⟨rfl, -, -⟩ := e'
      obtain ⟨g, e1, e2⟩ := hrd' j (by omega)
      exact ⟨g, e1, by rw [e2, e]⟩
    have HRDX : Hid (∀ wr, Below w2.heap.size w2 wr → ∀ j, j < L → ∃ g, a = some ⟨g, 0, none⟩ ∧ wr.cell? ⟨g, j, none⟩ = some (.int .i64 (zs.getD j 0))) := fun wr hb j hj => HRD.out wr (below_step' HB2.out hb HB2.out.size) j hj
    obtain ⟨wd, hwd⟩ : ∃ wd, wordOf 3 = wd := ⟨_, rfl⟩
    rw [hwd] at t1 HLEN HTT
    rw [hL] at c3 ⊢
    have HLZ := Lib.hid hLz
    clear hzs e hLz hL hwd
    have HBX := HB2
    clear HRD
    go_wp2
    have HST : Hid (Value.string wd = .string (strOf (txGo wd.data.toList (zs.take 0)))) := by
      rw [List.take_zero]
      rfl
    have HEND : Hid (txGo wd.data.toList (zs.take L) = T) := by
      rw [← HLZ.out, List.take_length]
      exact HTT.out
    have hL8 : L ≤ 8 := by rw [← HLZ.out]; exact HN8.out
    clear t0 t1 c0 c1 c2 c3 hgb hgv hgw
    go_loopw [6, 7] (fun y i wr => ∃ (j : Nat), i = .int .i64 j ∧ y = .string (strOf (txGo wd.data.toList (zs.take j))) ∧ j ≤ L ∧ Below w2.heap.size w2 wr) (fun _ i _ => L - (intOf i).toNat)
    case atStart => exact ⟨0, rfl, HST.out, Nat.zero_le _, Below.refl _ _⟩
    case round =>
      obtain ⟨j, rfl, rfl, hj, hB⟩ := hrel
      have HB := Lib.hid hB
      by_cases hlt : j < L
      · obtain ⟨g, eg, cj⟩ := HRDX.out wr hB j hlt
        first
          | (subst eg)
          | (simp only [Option.some.injEq, Addr.mk.injEq, and_true] at eg; subst eg)
        obtain ⟨z, hz⟩ : ∃ z, zs.getD j 0 = z := ⟨_, rfl⟩
        rw [hz] at cj
        have hzb : -1024 ≤ z ∧ z ≤ 1024 := NZ.out z (by
          rw [← hz, List.getD_eq_getElem?_getD, List.getElem?_eq_getElem (by rw [HLZ.out]; exact hlt)]
          exact List.getElem_mem _)
        have SG := signed_any z (by omega) (by omega) wr
        have htl := HLEN.out j (by rw [HLZ.out]; exact hj)
        have hil := itoa_len z (by omega) (by omega)
        have htk : txGo wd.data.toList (zs.take (j + 1)) = txGo wd.data.toList (zs.take j) ++ (32 :: Lib.itoa z) := by rw [tx_take (by rw [HLZ.out]; exact hlt), hz]
        have hn8 := HN8.out
        have hlz := HLZ.out
        obtain ⟨tt, htt⟩ : ∃ tt, txGo wd.data.toList (zs.take j) = tt := ⟨_, rfl⟩
        obtain ⟨it, hit⟩ : ∃ it, Lib.itoa z = it := ⟨_, rfl⟩
        rw [htt] at htl htk ⊢
        rw [hit] at SG hil htk
        have a1 := fun w => str_add [32] it (by rw [List.length_singleton]; omega) w
        have a2 := fun w => str_add tt (32 :: it) (by rw [List.length_cons]; omega) w
        rw [show (⟨it.toArray⟩ : ByteArray) = strOf it from rfl] at SG
        have HNEXT : Hid (strOf (txGo wd.data.toList (zs.take (j + 1))) = strOf (tt ++ (32 :: it))) := congrArg strOf htk
        obtain ⟨E1, hE1⟩ : ∃ E, strOf (32 :: it) = E := ⟨_, rfl⟩
        obtain ⟨E2, hE2⟩ : ∃ E, strOf (tt ++ (32 :: it)) = E := ⟨_, rfl⟩
        obtain ⟨T1, hT1⟩ : ∃ E, strOf tt = E := ⟨_, rfl⟩
        obtain ⟨S1, hS1⟩ : ∃ E, strOf it = E := ⟨_, rfl⟩
        rw [hE2] at HNEXT
        rw [hS1] at SG
        rw [hT1]
        have b1 : ∀ w : World, (Op.stringOp .add ⟨#[32]⟩ S1).run Tryd.prog w = .ok (.string E1) w := fun w => by rw [← hS1, ← hE1]; exact a1 w
        have b2 : ∀ w : World, (Op.stringOp .add T1 E1).run Tryd.prog w = .ok (.string E2) w := fun w => by rw [← hT1, ← hE1, ← hE2]; exact a2 w
        have SG := Lib.hid SG
        have HJL := Lib.hid hlt
        clear hB hz hzb htl hil htk hn8 hlz htt hit a1 a2 hE1 hE2 hT1 hS1
        go_wp2_with fail
        with_reducible refine SG.out.mono ?_
        rintro e w5 ⟨rfl, hb5⟩
        have HB5 := Lib.hid (below_step' HB.out hb5 HB.out.size)
        clear hb5
        go_wp2
        go_roundw
        case rel => exact ⟨j + 1, by go_num, by rw [HNEXT.out], HJL.out, HB5.out⟩
        case measure => have := HJL.out; simp [intOf]; omega
      · obtain rfl : j = L := by omega
        rw [HEND.out]
        clear hB
        go_wp2
        go_ret
        exact ⟨rfl, below_step' HB0.out (below_step' HBX.out HB.out HBX.out.size) HB0.out.size⟩
  · have ec := told_cnt HQ.out.1 HQ.out.2 h3
    have hc2 := cntOf_le h3
    have enum : zs = [n, k].take (cntOf q) := hzs.symm.trans (if_neg h3)
    rw [ec] at t0
    obtain ⟨L, hm⟩ : ∃ m, cntOf q = m := ⟨_, rfl⟩
    rw [hm] at hc2 t0 enum
    have hc' : (L : Int) ≤ 2 := by omega
    have hLz : zs.length = L := by rw [enum, List.length_take]; simp; omega
    obtain ⟨WX, hWX⟩ : ∃ WX, WX = (w2.alloc (.cells #[.int .i64 n, .int .i64 k] 2)).drew := ⟨_, rfl⟩
    have x0 : WX.cell? ⟨w2.heap.size, 0, none⟩ = some (.int .i64 n) := by rw [hWX]; go_simp
    have x1 : WX.cell? ⟨w2.heap.size, 1, none⟩ = some (.int .i64 k) := by rw [hWX]; go_simp
    have hgx : w2.heap.size < WX.heap.size := World.block_lt_of_cell? _ _ x0
    have HRDX : Hid (∀ wr, Below WX.heap.size WX wr → ∀ j, j < L → ∃ g, some (⟨w2.heap.size, 0, none⟩ : Addr) = some ⟨g, 0, none⟩ ∧ wr.cell? ⟨g, j, none⟩ = some (.int .i64 (zs.getD j 0))) := fun wr hb j hj => by
      refine ⟨_, rfl, ?_⟩
      rw [enum, hb.cell (p := ⟨w2.heap.size, j, none⟩) hgx]
      rcases L with _ | _ | _ | L
      · omega
      · obtain rfl : j = 0 := by omega
        exact x0
      · rcases j with _ | _ | j
        · exact x0
        · exact x1
        · omega
      · omega
    have HBX : Hid (Below W.heap.size W WX) := by rw [hWX]; exact below_draws (HB2.out.alloc HB2.out.size _) 1
    have HWX := Lib.hid hWX.symm
    clear x0 x1 hgx hWX
    obtain ⟨wd, hwd⟩ : ∃ wd, wordOf q = wd := ⟨_, rfl⟩
    rw [hwd] at t1 HLEN HTT
    have HLZ := Lib.hid hLz
    clear h3 ec enum hm hzs hLz hwd
    go_wp2
    go_region
    go_wp2
    rw [HWX.out]
    have HST : Hid (Value.string wd = .string (strOf (txGo wd.data.toList (zs.take 0)))) := by
      rw [List.take_zero]
      rfl
    have HEND : Hid (txGo wd.data.toList (zs.take L) = T) := by
      rw [← HLZ.out, List.take_length]
      exact HTT.out
    have hL8 : L ≤ 8 := by rw [← HLZ.out]; exact HN8.out
    clear t0 t1 c0 c1 c2 c3 hgb hgv hgw
    go_loopw [6, 7] (fun y i wr => ∃ (j : Nat), i = .int .i64 j ∧ y = .string (strOf (txGo wd.data.toList (zs.take j))) ∧ j ≤ L ∧ Below WX.heap.size WX wr) (fun _ i _ => L - (intOf i).toNat)
    case atStart => exact ⟨0, rfl, HST.out, Nat.zero_le _, Below.refl _ _⟩
    case round =>
      obtain ⟨j, rfl, rfl, hj, hB⟩ := hrel
      have HB := Lib.hid hB
      by_cases hlt : j < L
      · obtain ⟨g, eg, cj⟩ := HRDX.out wr hB j hlt
        first
          | (subst eg)
          | (simp only [Option.some.injEq, Addr.mk.injEq, and_true] at eg; subst eg)
        obtain ⟨z, hz⟩ : ∃ z, zs.getD j 0 = z := ⟨_, rfl⟩
        rw [hz] at cj
        have hzb : -1024 ≤ z ∧ z ≤ 1024 := NZ.out z (by
          rw [← hz, List.getD_eq_getElem?_getD, List.getElem?_eq_getElem (by rw [HLZ.out]; exact hlt)]
          exact List.getElem_mem _)
        have SG := signed_any z (by omega) (by omega) wr
        have htl := HLEN.out j (by rw [HLZ.out]; exact hj)
        have hil := itoa_len z (by omega) (by omega)
        have htk : txGo wd.data.toList (zs.take (j + 1)) = txGo wd.data.toList (zs.take j) ++ (32 :: Lib.itoa z) := by rw [tx_take (by rw [HLZ.out]; exact hlt), hz]
        have hn8 := HN8.out
        have hlz := HLZ.out
        obtain ⟨tt, htt⟩ : ∃ tt, txGo wd.data.toList (zs.take j) = tt := ⟨_, rfl⟩
        obtain ⟨it, hit⟩ : ∃ it, Lib.itoa z = it := ⟨_, rfl⟩
        rw [htt] at htl htk ⊢
        rw [hit] at SG hil htk
        have a1 := fun w => str_add [32] it (by rw [List.length_singleton]; omega) w
        have a2 := fun w => str_add tt (32 :: it) (by rw [List.length_cons]; omega) w
        rw [show (⟨it.toArray⟩ : ByteArray) = strOf it from rfl] at SG
        have HNEXT : Hid (strOf (txGo wd.data.toList (zs.take (j + 1))) = strOf (tt ++ (32 :: it))) := congrArg strOf htk
        obtain ⟨E1, hE1⟩ : ∃ E, strOf (32 :: it) = E := ⟨_, rfl⟩
        obtain ⟨E2, hE2⟩ : ∃ E, strOf (tt ++ (32 :: it)) = E := ⟨_, rfl⟩
        obtain ⟨T1, hT1⟩ : ∃ E, strOf tt = E := ⟨_, rfl⟩
        obtain ⟨S1, hS1⟩ : ∃ E, strOf it = E := ⟨_, rfl⟩
        rw [hE2] at HNEXT
        rw [hS1] at SG
        rw [hT1]
        have b1 : ∀ w : World, (Op.stringOp .add ⟨#[32]⟩ S1).run Tryd.prog w = .ok (.string E1) w := fun w => by rw [← hS1, ← hE1]; exact a1 w
        have b2 : ∀ w : World, (Op.stringOp .add T1 E1).run Tryd.prog w = .ok (.string E2) w := fun w => by rw [← hT1, ← hE1, ← hE2]; exact a2 w
        have SG := Lib.hid SG
        have HJL := Lib.hid hlt
        clear hB hz hzb htl hil htk hn8 hlz htt hit a1 a2 hE1 hE2 hT1 hS1
        go_wp2_with fail
        with_reducible refine SG.out.mono ?_
        rintro e w5 ⟨rfl, hb5⟩
        have HB5 := Lib.hid (below_step' HB.out hb5 HB.out.size)
        clear hb5
        go_wp2
        go_roundw
        case rel => exact ⟨j + 1, by go_num, by rw [HNEXT.out], HJL.out, HB5.out⟩
        case measure => have := HJL.out; simp [intOf]; omega
      · obtain rfl : j = L := by omega
        rw [HEND.out]
        clear hB
        go_wp2
        go_ret
        exact ⟨rfl, below_step' HB0.out (below_step' HBX.out HB.out HBX.out.size) HB0.out.size⟩

end Go.Proofs.YtfdmohnmilecnaaDoor
