/-
  Several texts of this claim, one behind the other; each says what it holds.
-/
import Derived.Test.YtdefhmpmgcahpaaDoorStr
import Derived.Shelf.Small.Strs
import Derived.Test.YtdefhmpmgcahpaaDoorMPlanTeL23
import Derived.Test.YtdefhmpmgcahpaaDoorBwkZ
import Derived.Test.YtdefhmpmgcahpaaDoorMPlanTeL21
import Derived.BigRegionIn
/-
  strings.IndexByte at this program (the numbers are this seat's: lay-shelf.mjs and lay-plain.mjs wrote the rows).
-/
set_option maxRecDepth 100000
namespace Go.Proofs
open Go.Shelf
def Tryd.lays137_ren : Go.Shelf.Ren := ⟨fun | 137 => 68 | 217 => 98 | 266 => 119 | n => n, fun | 9 => 9 | 5 => 5 | 3 => 3 | n => n, fun | n => n⟩
theorem Tryd.lays137 : Go.Proofs.Lays.n137 Tryd.prog Tryd.lays137_ren := {
  mixed := by kernel_rfl
  f137 := Tryd.func68.trans (congrArg some (by kernel_rfl))
  f217 := Tryd.func98.trans (congrArg some (by kernel_rfl))
  f266 := Tryd.func119.trans (congrArg some (by kernel_rfl))
  t3 := Tryd.underlying3
  a3 := Tryd.isAgg3
  z3 := Tryd.sizeOf3
  v3 := Tryd.zeroValue3
  t5 := Tryd.underlying5
  a5 := Tryd.isAgg5
  z5 := Tryd.sizeOf5
  v5 := Tryd.zeroValue5
  t9 := Tryd.underlying9
  a9 := Tryd.isAgg9
  z9 := Tryd.sizeOf9
  v9 := Tryd.zeroValue9 }
end Go.Proofs
namespace Go.Proofs.YtdefhmpmgcahpaaDoor
open Go.RowKit

theorem indexByte_any (t : List UInt8) (c : Int) (w : World) :
    Calls Tryd.prog 68 #[.string (strOf t), .int .u8 c] w fun e w' => e = .returned (.int .i64 (Lib.indexByte t c.toNat.toUInt8)) ∧ w' = w :=
  Any.strings_IndexByte Tryd.lays137 (strOf t) c w

end Go.Proofs.YtdefhmpmgcahpaaDoor
/-
  The iterator over the lines of a text: what it tells.
-/
set_option linter.unusedVariables false
set_option linter.unusedSimpArgs false
namespace Go.Proofs.YtdefhmpmgcahpaaDoor
open Go.RowKit Go.Shelf
attribute [local go_sem] Oper.semAt_some wide_fn wide_depth wide_fnR wide_depthR

/-- The lines in their order: the state is how many have come. -/
def lnTold (ws : List (List UInt8)) : Told Nat ByteArray where
  encs := fun p => #[.string p]
  step := fun s p s' => s' = s + 1 ∧ s < cntL ws ∧ p = strOf (lineL ws s)
  silent := fun _ _ => False
  start := 0
  last := cntL ws

/-- The iterator's own place gets another text. -/
def MvAt (Bp : Nat) (A B : World) : Prop := ∃ v, B = A.setCell ⟨Bp, 0, none⟩ v
def KpAt (Bp : Nat) (A B : World) : Prop := B.heap[Bp]? = A.heap[Bp]?

theorem ln_round {t : List UInt8} {k : Nat} (hk : k < cntL (splitL 10 t)) :
    1 ≤ (restL (splitL 10 t) k).length ∧ (restL (splitL 10 t) k).length ≤ t.length ∧ (restL (splitL 10 t) (k + 1)).length < (restL (splitL 10 t) k).length ∧
    ((∃ m : Nat, Lib.indexByte (restL (splitL 10 t) k) 10 = m ∧ m + 1 ≤ (restL (splitL 10 t) k).length ∧ (strOf (restL (splitL 10 t) k)).extract 0 (m + 1) = strOf (lineL (splitL 10 t) k) ∧ (strOf (restL (splitL 10 t) k)).extract (m + 1) (restL (splitL 10 t) k).length = strOf (restL (splitL 10 t) (k + 1))) ∨
      (Lib.indexByte (restL (splitL 10 t) k) 10 = -1 ∧ restL (splitL 10 t) k = lineL (splitL 10 t) k ∧ restL (splitL 10 t) (k + 1) = [])) := by
  have hl := rest_len (ws := splitL 10 t) k (by omega)
  rw [rest_zero] at hl
  have hr := line_rest hk
  have hi := rest_idx hk
  have hn := List.length_pos_iff.2 (rest_ne hk)
  have hc := cnt_le (splitL 10 t)
  by_cases e : k + 1 < (splitL 10 t).length
  · rw [if_pos e] at hi
    have hll : (lineL (splitL 10 t) k).length = ((splitL 10 t).getD k []).length + 1 := by
      unfold lineL
      rw [if_pos e, List.length_append]
      rfl
    have hx := ext_app (lineL (splitL 10 t) k) (restL (splitL 10 t) (k + 1))
    rw [← hr, hll] at hx
    have hlen := congrArg List.length hr
    rw [List.length_append, hll] at hlen
    exact ⟨by omega, hl, by omega, .inl ⟨_, hi, by omega, hx.1, hx.2⟩⟩
  · rw [if_neg e] at hi
    have hz := (rest_last (show k + 1 = (splitL 10 t).length by omega)).2
    rw [hz, List.append_nil] at hr
    rw [hz]
    exact ⟨by omega, hl, by simpa using hn, .inr ⟨hi, hr, rfl⟩⟩

def strSize (w : World) (Bp : Nat) : Nat := match w.cell? ⟨Bp, 0, none⟩ with | some (.string s) => s.size | _ => 0

set_option maxRecDepth 100000 in
set_option maxHeartbeats 8000000 in
theorem lines_tells (n Bp : Nat) (t : List UInt8) (ht : t.length ≤ 4000000) (w : World) (hBp : Bp < w.heap.size) (hp : Boxed w Bp 9 (.string (strOf t))) :
    TellsM Fence.wide n Tryd.prog 67 #[.pointer (some ⟨Bp, 0, none⟩)] (lnTold (splitL 10 t)) (MvAt Bp) (KpAt Bp) w := by
  intro l J Jx W hW hJ hJx hM hY h0
  have hp0 : Boxed W Bp 9 (.string (strOf (restL (splitL 10 t) 0))) := by rw [rest_zero]; exact (hW.block Bp hBp).trans hp
  have HE := Lib.hid (rest_end (splitL_ne 10 t))
  have HR := Lib.hid (fun k => @ln_round t k)
  have HT := Lib.hid ht
  obtain ⟨ws, hws⟩ : ∃ ws, splitL 10 t = ws := ⟨_, rfl⟩
  rw [hws] at hY h0 hp0 HE
  simp only [hws] at HR
  rw [hws]
  have HM := Lib.hid hM
  have HY := Lib.hid hY
  have H0 := Lib.hid h0
  have HP0 := Lib.hid hp0
  have HJA : Hid (∀ (s : Nat) (A : World), J s A → J s A.drew) := fun s A h => hJ s A A.drew none h ⟨rfl, rfl, rfl, Nat.le_refl _, fun _ _ _ => rfl⟩ (fun r e => by cases e)
  clear hM hY h0 hp0 hJ hJx hW hp hws hBp
  refine callsIn_of_wp Tryd.func67 rfl trivial ?_ rfl
  simp only [Tryd.ntmps67, List.size_toArray, List.length_cons, List.length_nil, Nat.reduceAdd, Nat.reduceSub, Array.replicate_succ, Array.replicate_zero, List.push_toArray, List.append_toArray, List.nil_append, List.cons_append]
  gi_wp2
  gi_loopw [3] (fun y wr => ∃ (k : Nat), k ≤ cntL ws ∧ J k wr ∧ Boxed wr Bp 9 (.string (strOf (restL ws k))))
    (fun _ wr => strSize wr Bp)
  case atStart => exact ⟨0, Nat.zero_le _, H0.out, HP0.out⟩
  case round =>
    obtain ⟨k, hk, hJk, hbk⟩ := hrel
    have d0 := hbk.cell
    have f0 := hbk.frozen
    have HJ := Lib.hid hJk
    have HBX := Lib.hid hbk
    by_cases hlt : k < cntL ws
    · obtain ⟨l1, l2, l3, hcase⟩ := HR.out k hlt
      have hs : (strOf (restL ws k)).size = (restL ws k).length := rfl
      have ID := Lib.hid (fun (W : World) => indexByte_any (restL ws k) 10 W)
      have HMS : Hid (strSize wr Bp = (restL ws k).length) := by
        show strSize wr Bp = _
        unfold strSize
        rw [d0]
        rfl
      have HMN : Hid (∀ W', Boxed W' Bp 9 (.string (strOf (restL ws (k + 1)))) → strSize W' Bp = (restL ws (k + 1)).length) := fun W' hb => by
        unfold strSize
        rw [hb.cell]
        rfl
      have HL3 := Lib.hid l3
      obtain ⟨L, hL⟩ : ∃ L, (restL ws k).length = L := ⟨_, rfl⟩
      rw [hL] at l1 l2 hs hcase HMS HL3
      have hL4 : L ≤ 4000000 := Nat.le_trans l2 HT.out
      obtain ⟨ix, hix⟩ : ∃ ix, Lib.indexByte (restL ws k) 10 = ix := ⟨_, rfl⟩
      rw [hix] at hcase
      have ID := Lib.hid (fun (W : World) => (show Calls _ _ _ W (fun e w' => e = .returned (.int .i64 ix) ∧ w' = W) from hix ▸ ID.out W))
      have HYL := Lib.hid (fun (W1 : World) (hj : J k W1) => HY.out k (strOf (lineL ws k)) (k + 1) W1 hj ⟨rfl, hlt, rfl⟩)
      have HK1 : Hid (k + 1 ≤ cntL ws) := hlt
      have HNX : Hid (∀ u, (Boxed (wr.setCell ⟨Bp, 0, none⟩ u) Bp 9 u ∧ J k (wr.setCell ⟨Bp, 0, none⟩ u)) ∧ Boxed (wr.setCell ⟨Bp, 0, none⟩ u).drew Bp 9 u ∧ J k (wr.setCell ⟨Bp, 0, none⟩ u).drew) := fun u => ⟨⟨hbk.set u, HM.out k wr _ hJk ⟨u, rfl⟩⟩, hbk.set u, HJA.out k _ (HM.out k wr _ hJk ⟨u, rfl⟩)⟩
      obtain ⟨l, hl⟩ : ∃ l, strOf (lineL ws k) = l := ⟨_, rfl⟩
      obtain ⟨r, hr⟩ : ∃ r, strOf (restL ws (k + 1)) = r := ⟨_, rfl⟩
      simp only [hl] at HYL
      have HRR := Lib.hid hr
      have g1 : decide ((0 : Int) < (L : Int)) = true := decide_eq_true (by omega)
      have g2 : decide (0 < L) = true := decide_eq_true (by omega)
      rcases hcase with ⟨m, rfl, hmL, hx1, hx2⟩ | ⟨rfl, hx1, hx2⟩
      · rw [hl] at hx1
        rw [hr] at hx2
        generalize strOf (restL ws k) = T at d0 hs hx1 hx2 ID
        obtain ⟨q, hq⟩ : ∃ q, m + 1 = q := ⟨_, rfl⟩
        rw [hq] at hmL hx1 hx2
        have e1 : IntKind.i64.wrap ((m : Int) + 1) = (q : Int) := by rw [IntWalk.i64_in _ (by omega)]; omega
        have hq0 : (0 : Int) ≤ (q : Int) := by omega
        have hqL : (q : Int) ≤ (L : Int) := by omega
        have gm : decide ((0 : Int) ≤ (m : Int)) = true := decide_eq_true (by omega)
        clear hJk hbk H0 HP0 l1 l2 l3 hL hL4 hl hr hix hlt hk HT HM HR hq HY
        gi_wp2_with (gi_at_call 68; refine (callsIn_wide.2 (ID.out _)).mono ?_; rintro e w1 ⟨rfl, rfl⟩)
        gi_region
        obtain ⟨hb2, hj2⟩ := (HNX.out (.string r)).2
        obtain ⟨W2, hW2⟩ : ∃ W2, (w1.setCell ⟨Bp, 0, none⟩ (.string r)).drew = W2 := ⟨_, rfl⟩
        rw [hW2] at hb2 hj2 ⊢
        clear hW2
        obtain ⟨fn, tmps, assign, body, hy, hR⟩ := HYL.out W2 hj2
        dsimp only [lnTold] at hy
        have HB2 := Lib.hid hb2
        clear hb2 hj2 ID d0 f0 HYL HNX
        gi_wp2
        refine hR.mono ?_
        rintro e W3 (⟨rfl, hJ3, hk3⟩ | ⟨rfl, hJx3⟩)
        · have HJ3 := Lib.hid hJ3
          have HB3 : Hid (Boxed W3 Bp 9 (.string r)) := hk3.trans HB2.out
          have HMS3 := Lib.hid (HMN.out W3 (HRR.out ▸ HB3.out))
          clear hJ3 hk3 hy hR
          gi_wp2
          go_roundw
          case rel => exact ⟨k + 1, HK1.out, HJ3.out, HRR.out ▸ HB3.out⟩
          case measure => rw [HMS3.out, HMS.out]; exact HL3.out
        · have HJ3 := Lib.hid hJx3
          clear hJx3 hy hR
          gi_wp2
          refine bodyPost_ret (results_none rfl _ _ _) rfl ?_
          exact ⟨⟨_, rfl⟩, .inr ⟨_, HJ3.out⟩⟩
      · have hTl : strOf (restL ws k) = l := by rw [← hl, hx1]
        have hr0 : r = ⟨#[]⟩ := by rw [← hr, hx2]; rfl
        rw [hTl] at d0 hs
        rw [hTl] at ID
        have HR0 := Lib.hid hr0
        clear hJk hbk H0 HP0 l1 l2 l3 hL hL4 hl hr hix hlt hk HT HM HR HY hx1 hx2 hTl hr0
        obtain ⟨hb2, hj2⟩ := (HNX.out (.string ⟨#[]⟩)).1
        obtain ⟨fn, tmps, assign, body, hy, hR⟩ := HYL.out _ hj2
        dsimp only [lnTold] at hy
        have HB2 := Lib.hid hb2
        clear hb2 hj2 HYL HNX
        gi_wp2_with (gi_at_call 68; refine (callsIn_wide.2 (ID.out _)).mono ?_; rintro e w1 ⟨rfl, rfl⟩)
        refine hR.mono ?_
        rintro e W3 (⟨rfl, hJ3, hk3⟩ | ⟨rfl, hJx3⟩)
        · have HJ3 := Lib.hid hJ3
          have HB3 : Hid (Boxed W3 Bp 9 (.string r)) := by rw [HR0.out]; exact hk3.trans HB2.out
          have HMS3 := Lib.hid (HMN.out W3 (HRR.out ▸ HB3.out))
          clear hJ3 hk3 hy hR
          gi_wp2
          go_roundw
          case rel => exact ⟨k + 1, HK1.out, HJ3.out, HRR.out ▸ HB3.out⟩
          case measure => rw [HMS3.out, HMS.out]; exact HL3.out
        · have HJ3 := Lib.hid hJx3
          clear hJx3 hy hR
          gi_wp2
          refine bodyPost_ret (results_none rfl _ _ _) rfl ?_
          exact ⟨⟨_, rfl⟩, .inr ⟨_, HJ3.out⟩⟩
    · obtain rfl : k = cntL ws := by omega
      rw [HE.out] at d0
      clear hJk hbk H0 HP0
      gi_wp2
      go_end0
      exact ⟨⟨_, rfl⟩, .inl HJ.out⟩

end Go.Proofs.YtdefhmpmgcahpaaDoor
