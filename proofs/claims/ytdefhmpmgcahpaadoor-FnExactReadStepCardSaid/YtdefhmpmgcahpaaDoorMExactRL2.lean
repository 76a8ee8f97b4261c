/-
  Several texts of this claim, one behind the other; each says what it holds.
-/
import Derived.Test.YtdefhmpmgcahpaaDoorTxSZ
import Derived.WalkSmall
/-
  StepText of the model.
-/
set_option linter.unusedVariables false
set_option linter.unusedSimpArgs false
namespace Go.Proofs.YtdefhmpmgcahpaaDoor
open Go.RowKit

end Go.Proofs.YtdefhmpmgcahpaaDoor
/-
  StepText of the program.
-/
set_option linter.unusedVariables false
set_option linter.unusedSimpArgs false
namespace Go.Proofs.YtdefhmpmgcahpaaDoor
open Go.RowKit

set_option maxRecDepth 100000 in
set_option maxHeartbeats 8000000 in
theorem stepText_impl (s : St) (a : Option Addr) (c : Nat) (w : World) (ht : Tab w) (hp : Pow10 w) (hs : Reads w (.slice a s.taps.length c) (ints s.taps)) :
    Calls Tryd.prog 14 #[.agg #[.int .i64 s.kind, .int .i64 s.n, .int .i64 s.k, .slice a s.taps.length c]] w fun e w' => e = .returned (.string (strOf (stText s))) ∧ Below w.heap.size w w' := by
  obtain ⟨W, hW⟩ : ∃ W, W = w.alloc (.cells #[.int .i64 s.kind, .int .i64 s.n, .int .i64 s.k, .slice a s.taps.length c] 36) := ⟨_, rfl⟩
  have hlt : w.heap.size < W.heap.size := by rw [hW]; simp
  have hb0 : Below w.heap.size w W := by rw [hW]; exact (Below.refl _ _).alloc (Nat.le_refl _) _
  have C := validStep_impl s a c W (ht.below hb0) (hs.keep hb0)
  have HV := Lib.hid (fun (hv : validSt s = true) => And.intro (valid_kind hv) (valid_nums hv))
  obtain ⟨T, hT⟩ : ∃ T, stText s = T := ⟨_, rfl⟩
  rw [hT]
  unfold stText at hT
  obtain ⟨kd, n, k, taps⟩ := s
  simp only at hs hW C HV hT ⊢
  have hat : StepAt W w.heap.size 0 kd n k a taps.length c := by rw [hW]; exact ⟨by go_simp, by go_simp, by go_simp, by go_simp⟩
  obtain ⟨b, hbv⟩ : ∃ b, validSt ⟨kd, n, k, taps⟩ = b := ⟨_, rfl⟩
  rw [hbv] at C hT HV
  have C := Lib.hid C
  have HT := Lib.hid hT
  have HB0 := Lib.hid hb0
  have HAT := Lib.hid hat
  have HW := Lib.hid hW.symm
  have TB := Lib.hid (fun (W' : World) (hb : Below W.heap.size W W') => And.intro ((ht.below hb0).below hb) ((hp.below hb0).below hb))
  have RD := Lib.hid (fun (W' : World) (hb : Below W.heap.size W W') => (hs.keep hb0).keep hb)
  clear hT hb0 hat hs ht hp hbv
  clear hW
  obtain ⟨c0, c1, c2, c3⟩ := HAT.out
  go_enter Tryd.func14, Tryd.ntmps14
  go_wp2_with fail
  rw [HW.out]
  with_reducible refine C.out.mono ?_
  rintro e w1 ⟨rfl, hb1⟩
  have HB1 := Lib.hid hb1
  clear hb1 C c0 c1 c2 c3 HW
  obtain ⟨c0, c1, c2, c3⟩ := HAT.out.below HB1.out
  cases b
  · have e : T = [] := by rw [← HT.out]; rfl
    subst e
    go_wp2
    go_ret
    exact ⟨rfl, below_step' HB0.out HB1.out HB0.out.size⟩
  obtain ⟨⟨k1, k2⟩, n8, nz⟩ := HV.out rfl
  obtain ⟨q, rfl⟩ : ∃ q : Nat, kd = q := ⟨kd.toNat, by omega⟩
  have hT : txGo (wordOf q).data.toList (numsOf q n k taps) = T := HT.out
  simp only [Int.toNat_natCast] at n8 nz
  have hq14 : q < 14 := by omega
  have hqi : (q : Int) < 14 := by omega
  have hlen := tx_len (word_len hq14) nz
  obtain ⟨tb, hp1⟩ := TB.out w1 HB1.out
  have t1 := tb.word q hq14
  have NB := Lib.hid (numbersOf_any q hq14 n k taps a c w1 tb (RD.out w1 HB1.out) (fun w' hb => RD.out w' (below_step' HB1.out hb HB1.out.size)))
  obtain ⟨zs, hzs⟩ : ∃ zs, numsOf q n k taps = zs := ⟨_, rfl⟩
  obtain ⟨wd, hwd⟩ : ∃ wd, wordOf q = wd := ⟨_, rfl⟩
  rw [hzs] at NB hlen hT n8 nz
  rw [hwd] at t1 hlen hT
  have HLEN := Lib.hid hlen
  have HTT := Lib.hid hT
  have HN8 := Lib.hid n8
  have NZ := Lib.hid nz
  clear HT HV hT hlen nz k1 k2 n8 tb hp1 hzs hwd
  go_wp2_with fail
  with_reducible refine NB.out.mono ?_
  rintro e w2 ⟨a2, c2', rfl, hr2, hb2⟩
  have HB2 := Lib.hid (below_step' HB1.out hb2 HB1.out.size)
  have HR2 := Lib.hid hr2
  clear hb2 hr2 NB
  obtain ⟨L, hL⟩ : ∃ L, zs.length = L := ⟨_, rfl⟩
  have HLZ := Lib.hid hL
  have HRDX : Hid (∀ wr, Below w2.heap.size w2 wr → ∀ j, j < L → ∃ g, a2 = some ⟨g, 0, none⟩ ∧ wr.cell? ⟨g, j, none⟩ = some (.int .i64 (zs.getD j 0))) := fun wr hb j hj => by
    obtain ⟨a', c', e', -, hrd'⟩ := ints_find (HR2.out.keep hb)
    simp only [Value.slice.injEq] at e'
    obtain ⟨rfl, -, -⟩ := e'
    exact hrd' j (by omega)
  have HBX := HB2
  rw [hL]
  clear hL
  go_wp2
  have HST : Hid (Value.string wd = .string (strOf (txGo wd.data.toList (zs.take 0)))) := by
    rw [List.take_zero]
    rfl
  have HEND : Hid (txGo wd.data.toList (zs.take L) = T) := by
    rw [← HLZ.out, List.take_length]
    exact HTT.out
  have hL8 : L ≤ 8 := by rw [← HLZ.out]; exact HN8.out
  clear t1 c0 c1 c2 c3
  go_loopw [3, 17] (fun y i wr => ∃ (j : Nat), i = .int .i64 j ∧ y = .string (strOf (txGo wd.data.toList (zs.take j))) ∧ j ≤ L ∧ Below w2.heap.size w2 wr) (fun _ i _ => L - (intOf i).toNat)
  case atStart => exact ⟨0, rfl, HST.out, Nat.zero_le _, Below.refl _ _⟩
  case round =>
    obtain ⟨j, rfl, rfl, hj, hB⟩ := hrel
    have HB := Lib.hid hB
    by_cases hlt : j < L
    · obtain ⟨g, eg, cj⟩ := HRDX.out wr hB j hlt
      first
        | (subst eg)
        | (simp only [Option.some.injEq, Addr.mk.injEq, and_true] at eg; subst eg)
      obtain ⟨z, hz⟩ : ∃ z, zs.getD j 0 = z := ⟨_, rfl⟩
      rw [hz] at cj
      have hzb : -1024 ≤ z ∧ z ≤ 1024 := NZ.out z (by
        rw [← hz, List.getD_eq_getElem?_getD, List.getElem?_eq_getElem (by rw [HLZ.out]; exact hlt)]
        exact List.getElem_mem _)
      obtain ⟨-, hp⟩ := TB.out wr (below_step' HB2.out hB HB2.out.size)
      have SG := formatInt_any z (by omega) (by omega) wr hp
      have htl := HLEN.out j (by rw [HLZ.out]; exact hj)
      have hil := itoa_len z (by omega) (by omega)
      have htk : txGo wd.data.toList (zs.take (j + 1)) = txGo wd.data.toList (zs.take j) ++ (32 :: Lib.itoa z) := by rw [tx_take (by rw [HLZ.out]; exact hlt), hz]
      have hn8 := HN8.out
      have hlz := HLZ.out
      obtain ⟨tt, htt⟩ : ∃ tt, txGo wd.data.toList (zs.take j) = tt := ⟨_, rfl⟩
      obtain ⟨it, hit⟩ : ∃ it, Lib.itoa z = it := ⟨_, rfl⟩
      rw [htt] at htl htk ⊢
      rw [hit] at SG hil htk
      have a1 := fun w => str_add [32] it (by rw [List.length_singleton]; omega) w
      have a2 := fun w => str_add tt (32 :: it) (by rw [List.length_cons]; omega) w
      rw [show (⟨it.toArray⟩ : ByteArray) = strOf it from rfl] at SG
      have HNEXT : Hid (strOf (txGo wd.data.toList (zs.take (j + 1))) = strOf (tt ++ (32 :: it))) := congrArg strOf htk
      obtain ⟨E1, hE1⟩ : ∃ E, strOf (32 :: it) = E := ⟨_, rfl⟩
      obtain ⟨E2, hE2⟩ : ∃ E, strOf (tt ++ (32 :: it)) = E := ⟨_, rfl⟩
      obtain ⟨T1, hT1⟩ : ∃ E, strOf tt = E := ⟨_, rfl⟩
      obtain ⟨S1, hS1⟩ : ∃ E, strOf it = E := ⟨_, rfl⟩
      rw [hE2] at HNEXT
      rw [hS1] at SG
      rw [hT1]
      have b1 : ∀ w : World, (Op.stringOp .add ⟨#[32]⟩ S1).run Tryd.prog w = .ok (.string E1) w := fun w => by rw [← hS1, ← hE1]; exact a1 w
      have b2 : ∀ w : World, (Op.stringOp .add T1 E1).run Tryd.prog w = .ok (.string E2) w := fun w => by rw [← hT1, ← hE1, ← hE2]; exact a2 w
      have SG := Lib.hid SG
      have HJL := Lib.hid hlt
      clear hp hB hz hzb htl hil htk hn8 hlz htt hit a1 a2 hE1 hE2 hT1 hS1
      go_wp2_with fail
      with_reducible refine SG.out.mono ?_
      rintro e w5 ⟨rfl, dk, dos, rfl⟩
      have hb5 := below_grow wr dk dos
      generalize Sort.grow (wr.drewN dk) dos = w5 at hb5 ⊢
      have HB5 := Lib.hid (below_step' HB.out hb5 HB.out.size)
      clear hb5
      go_wp2
      go_roundw
      case rel => exact ⟨j + 1, by go_num, by rw [HNEXT.out], HJL.out, HB5.out⟩
      case measure => have := HJL.out; simp [intOf]; omega
    · obtain rfl : j = L := by omega
      rw [HEND.out]
      clear hB
      go_wp2
      go_ret
      exact ⟨rfl, below_step' HB0.out (below_step' HBX.out HB.out HBX.out.size) HB0.out.size⟩

end Go.Proofs.YtdefhmpmgcahpaaDoor
