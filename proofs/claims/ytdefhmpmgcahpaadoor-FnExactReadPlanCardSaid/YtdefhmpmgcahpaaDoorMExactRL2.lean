/-
  Several texts of this claim, one behind the other; each says what it holds.
-/
import Derived.Test.YtdefhmpmgcahpaaDoorMExactRL15
/-
  Marks on steps: markStepS, heldStepS, markPlan, heldPlan.
-/
set_option linter.unusedVariables false
set_option linter.unusedSimpArgs false
namespace Go.Proofs.YtdefhmpmgcahpaaDoor
open Go.RowKit

/-- A marked step, from m on. -/
def mkS (s : St) (m : Nat) : St := ⟨m, (m + 1 : Nat), (m + 2 : Nat), marks (m + 3) s.taps.length⟩
/-- The next mark behind steps. -/
def mkN : List St → Nat → Nat
  | [], m => m
  | s :: ss, m => mkN ss (m + 3 + s.taps.length)
theorem mkN_append : ∀ (a b : List St) (m : Nat), mkN (a ++ b) m = mkN b (mkN a m)
  | [], b, m => rfl
  | s :: a, b, m => by simp only [List.cons_append, mkN]; exact mkN_append a b _
theorem mkN_ge : ∀ (a : List St) (m : Nat), m ≤ mkN a m
  | [], m => Nat.le_refl _
  | s :: a, m => by have := mkN_ge a (m + 3 + s.taps.length); simp only [mkN]; omega
theorem mkN_take {ss : List St} {k m : Nat} (h : k < ss.length) : mkN (ss.take (k + 1)) m = mkN (ss.take k) m + 3 + (ss.getD k default).taps.length := by
  rw [List.take_add_one, List.getElem?_eq_getElem h, mkN_append, List.getD_eq_getElem?_getD, List.getElem?_eq_getElem h]
  rfl
theorem mkN_le {ss : List St} (k m : Nat) : mkN (ss.take k) m ≤ mkN ss m := by
  have h : mkN ss m = mkN (ss.drop k) (mkN (ss.take k) m) := by rw [← mkN_append, List.take_append_drop]
  rw [h]
  exact mkN_ge _ _

theorem getD_set {ss : List St} {j i : Nat} {s : St} (hj : j < ss.length) : (ss.set j s).getD i default = if i = j then s else ss.getD i default := by
  rw [List.getD_eq_getElem?_getD, List.getElem?_set]
  by_cases e : j = i
  · subst e
    rw [if_pos rfl, if_pos rfl, if_pos hj]
    rfl
  · rw [if_neg e, if_neg (fun h => e h.symm), List.getD_eq_getElem?_getD]

/-- Three numbers of a step are overwritten. -/
theorem StepsO.mark3 {w : World} {B g n cap : Nat} {ss : List St} {tv : Nat → Value} (h : StepsO w B (.slice (some ⟨g, 0, none⟩) n cap) n n ss tv) (hn : ss.length = n) {j : Nat} (hj : j < n) (a0 a1 a2 : Int) :
    StepsO (((w.setCell ⟨g, j * 4, none⟩ (.int .i64 a0)).setCell ⟨g, j * 4 + 1, none⟩ (.int .i64 a1)).setCell ⟨g, j * 4 + 2, none⟩ (.int .i64 a2)) B (.slice (some ⟨g, 0, none⟩) n cap) n n (ss.set j ⟨a0, a1, a2, (ss.getD j default).taps⟩) tv ∧
    w.grownBy (((w.setCell ⟨g, j * 4, none⟩ (.int .i64 a0)).setCell ⟨g, j * 4 + 1, none⟩ (.int .i64 a1)).setCell ⟨g, j * 4 + 2, none⟩ (.int .i64 a2)) (some g) := by
  obtain ⟨⟨cs, h1, h2⟩, h3, h4⟩ := h
  have hl : cs.length = n * 4 := h1.1
  obtain ⟨s1, g1⟩ := World.ownsRow.stored h1 (j * 4) (.int .i64 a0)
  obtain ⟨s2, g2⟩ := World.ownsRow.stored s1 (j * 4 + 1) (.int .i64 a1)
  obtain ⟨s3, g3⟩ := World.ownsRow.stored s2 (j * 4 + 2) (.int .i64 a2)
  have gg := (g1.trans g2).trans g3
  have ht : ∀ i, ((ss.set j ⟨a0, a1, a2, (ss.getD j default).taps⟩).getD i default).taps = (ss.getD i default).taps := fun i => by
    rw [getD_set (by omega)]
    by_cases e : i = j
    · rw [if_pos e, e]
    · rw [if_neg e]
  refine ⟨⟨⟨_, s3, fun i hi => ?_⟩, fun i hi => ?_, h4⟩, gg⟩
  · rw [getD_set (by omega)]
    obtain ⟨q0, q1, q2, q3⟩ := h2 i hi
    by_cases e : i = j
    · subst e
      rw [if_pos rfl]
      refine ⟨?_, ?_, ?_, ?_⟩
      · rw [List.getElem?_set_ne (by omega), List.getElem?_set_ne (by omega), List.getElem?_set_self (by omega)]
      · rw [List.getElem?_set_ne (by omega), List.getElem?_set_self (by simp; omega)]
      · rw [List.getElem?_set_self (by simp; omega)]
      · rw [List.getElem?_set_ne (by omega), List.getElem?_set_ne (by omega), List.getElem?_set_ne (by omega)]
        exact q3
    · rw [if_neg e]
      have key : ∀ t, t < 4 → (((cs.set (j * 4) (.int .i64 a0)).set (j * 4 + 1) (.int .i64 a1)).set (j * 4 + 2) (.int .i64 a2))[i * 4 + t]? = cs[i * 4 + t]? := fun t ht => by
        rw [List.getElem?_set_ne (by omega), List.getElem?_set_ne (by omega), List.getElem?_set_ne (by omega)]
      exact ⟨(key 0 (by omega)).trans q0, (key 1 (by omega)).trans q1, (key 2 (by omega)).trans q2, (key 3 (by omega)).trans q3⟩
  · rw [ht i]
    exact (h3 i hi).kept gg (ownsRow_apart (h3 i hi) h1 (Ne.symm step_ne_int))

/-- The taps of a step are overwritten. -/
theorem StepsO.markT {w w' : World} {B n : Nat} {V : Value} {ss : List St} {tv : Nat → Value} (h : StepsO w B V n n ss tv) (hn : ss.length = n) {j : Nat} (hj : j < n) {zs : List Int} {a0 a1 a2 : Int}
    (e0 : (ss.getD j default).kind = a0) (e1 : (ss.getD j default).n = a1) (e2 : (ss.getD j default).k = a2) (hr : Row w' B 2 (tv j) (ints zs)) (hg : w.grownBy w' (tv j).ownBlock) :
    StepsO w' B V n n (ss.set j ⟨a0, a1, a2, zs⟩) tv := by
  obtain ⟨⟨cs, h1, h2⟩, h3, h4⟩ := h
  refine ⟨⟨cs, World.ownsRow.kept h1 hg (ownsRow_apart h1 (h3 j hj) step_ne_int), fun i hi => ?_⟩, fun i hi => ?_, h4⟩
  · rw [getD_set (by omega)]
    by_cases e : i = j
    · subst e
      rw [if_pos rfl]
      obtain ⟨q0, q1, q2, q3⟩ := h2 i hi
      rw [e0] at q0
      rw [e1] at q1
      rw [e2] at q2
      exact ⟨q0, q1, q2, q3⟩
    · rw [if_neg e]
      exact h2 i hi
  · rw [getD_set (by omega)]
    by_cases e : i = j
    · subst e
      rw [if_pos rfl]
      exact hr
    · rw [if_neg e]
      refine (h3 i hi).kept hg ?_
      cases hb : (tv i).ownBlock with
      | none => exact .inl rfl
      | some b =>
        refine .inr fun he => ?_
        rcases Nat.lt_or_gt_of_ne e with hlt | hlt
        · exact absurd rfl (h4 i j hlt hj b b hb he.symm)
        · exact absurd rfl (h4 j i hlt hi b b he.symm hb)

/-- Whatever is not these steps' own lies as it lay. -/
structure Only (V : Value) (tv : Nat → Value) (n : Nat) (w w' : World) : Prop where
  os : w'.os = w.os
  tape : w'.tape = w.tape
  output : w'.output = w.output
  size : w.heap.size ≤ w'.heap.size
  block : ∀ b, b < w.heap.size → V.ownBlock ≠ some b → (∀ j, j < n → (tv j).ownBlock ≠ some b) → w'.heap[b]? = w.heap[b]?
theorem Only.refl (V : Value) (tv : Nat → Value) (n : Nat) (w : World) : Only V tv n w w := ⟨rfl, rfl, rfl, Nat.le_refl _, fun _ _ _ _ => rfl⟩
theorem Only.trans {V : Value} {tv : Nat → Value} {n : Nat} {X Y Z : World} (h : Only V tv n X Y) (k : Only V tv n Y Z) : Only V tv n X Z :=
  ⟨k.os.trans h.os, k.tape.trans h.tape, k.output.trans h.output, Nat.le_trans h.size k.size, fun b hb h1 h2 => (k.block b (Nat.lt_of_lt_of_le hb h.size) h1 h2).trans (h.block b hb h1 h2)⟩
theorem Only.row {V : Value} {tv : Nat → Value} {n : Nat} {w w' : World} (hg : w.grownBy w' V.ownBlock) : Only V tv n w w' := ⟨hg.os, hg.tape, hg.output, hg.size, fun b hb h1 _ => hg.block b hb (fun e => h1 e.symm)⟩
theorem Only.tap {V : Value} {tv : Nat → Value} {n j : Nat} {w w' : World} (hj : j < n) (hg : w.grownBy w' (tv j).ownBlock) : Only V tv n w w' := ⟨hg.os, hg.tape, hg.output, hg.size, fun b hb _ h2 => hg.block b hb (fun e => h2 j hj e.symm)⟩
theorem Only.below {B : Nat} {V : Value} {tv : Nat → Value} {n : Nat} {ss : List St} {w w' : World} (h : Only V tv n w w') (hs : StepsO w B V n n ss tv) (hB : B ≤ w.heap.size) : Below B w w' :=
  ⟨h.os, h.tape, h.output, h.size, fun b hb => h.block b (Nat.lt_of_lt_of_le hb hB) (fun e => by have := (hs.lt b e).1; omega) (fun j hj e => by have := ((hs.each j hj).lt b e).1; omega)⟩

/-- Marked steps, as far as the first k. -/
structure Mkd (ss : List St) (m k : Nat) (ss' : List St) : Prop where
  len : ss'.length = ss.length
  done : ∀ i, i < k → ss'.getD i default = mkS (ss.getD i default) (mkN (ss.take i) m)
  rest : ∀ i, k ≤ i → ss'.getD i default = ss.getD i default

set_option maxRecDepth 100000 in
set_option maxHeartbeats 4000000 in
theorem markStepS_any {w : World} {B : Nat} {V : Value} {ss : List St} {tv : Nat → Value} (h : StepsO w B V ss.length ss.length ss tv) {m : Nat} (hm : mkN ss m ≤ 10000000000000) :
    Calls Tryd.prog 54 #[V, .int .i64 m] w fun e w' => e = .returned (.int .i64 (mkN ss m)) ∧ (∃ ss', Mkd ss m ss.length ss' ∧ StepsO w' B V ss.length ss.length ss' tv) ∧ Only V tv ss.length w w' := by
  obtain ⟨L, hL⟩ : ∃ L, ss.length = L := ⟨_, rfl⟩
  obtain ⟨a, cap, rfl⟩ := h.form
  have hgn : L = 0 ∨ ∃ g, a = some ⟨g, 0, none⟩ := by
    by_cases h0 : L = 0
    · exact .inl h0
    · obtain ⟨g, cp, _, _, e, _⟩ := h.at (j := 0) (by omega) (Nat.le_refl _)
      simp only [Value.slice.injEq] at e
      exact .inr ⟨g, e.1⟩
  have hmax : (L : Int) ≤ 9223372036854775807 := by
    by_cases h0 : L = 0
    · omega
    · obtain ⟨g, cp, aa, cc, e, hc, hm, _⟩ := h.at (j := 0) (by omega) (Nat.le_refl _)
      unfold maxLen at hm
      omega
  have HM := Lib.hid hm
  have HO := Lib.hid h
  have HL := Lib.hid hL
  rw [hL] at HO ⊢
  clear h hL hm
  go_enter Tryd.func54, Tryd.ntmps54
  go_wp2
  go_loopw [1, 5] (fun y i wr => ∃ (k : Nat) (ss' : List St), i = .int .i64 k ∧ y = .int .i64 (mkN (ss.take k) m : Nat) ∧ k ≤ L ∧ Mkd ss m k ss' ∧ StepsO wr B (.slice a L cap) L L ss' tv ∧ Only (.slice a L cap) tv L w wr) (fun _ i _ => L - (intOf i).toNat)
  case atStart => exact ⟨0, ss, rfl, rfl, Nat.zero_le _, ⟨rfl, fun i hi => by omega, fun i _ => rfl⟩, HO.out, Only.refl _ _ _ _⟩
  case round =>
    obtain ⟨k, ss', rfl, rfl, hk, hmk, hO, hOn⟩ := hrel
    by_cases hlt : k < L
    · obtain ⟨g, rfl⟩ : ∃ g, a = some ⟨g, 0, none⟩ := by
        rcases hgn with h0 | h0
        · omega
        · exact h0
      have hl' : ss'.length = L := by rw [hmk.len]; exact HL.out
      obtain ⟨z0, z1, z2, z3, -, -, -, -, df⟩ := hO.place hlt
      have f0 := df (k * 4)
      have f1 := df (k * 4 + 1)
      have f2 := df (k * 4 + 2)
      have htk : mkN (ss.take (k + 1)) m = mkN (ss.take k) m + 3 + (ss.getD k default).taps.length := mkN_take (by rw [HL.out]; exact hlt)
      have hle := mkN_le (ss := ss) (k + 1) m
      have hM := HM.out
      obtain ⟨p, hp⟩ : ∃ p, mkN (ss.take k) m = p := ⟨_, rfl⟩
      have HPK := Lib.hid hp
      rw [hp] at htk ⊢
      have hsk : ss'.getD k default = ss.getD k default := hmk.rest k (Nat.le_refl _)
      obtain ⟨p1, hp1⟩ : ∃ p1 : Int, (p : Int) + 1 = p1 := ⟨_, rfl⟩
      obtain ⟨p2, hp2⟩ : ∃ p2 : Int, p1 + 1 = p2 := ⟨_, rfl⟩
      obtain ⟨p3, hp3⟩ : ∃ p3 : Int, p2 + 1 = p3 := ⟨_, rfl⟩
      obtain ⟨g', cp, ta, tc, e, -, -, -, etv, d0, d1, d2, d3, -⟩ := hO.at hlt (Nat.le_refl _)
      simp only [Value.slice.injEq, Option.some.injEq, Addr.mk.injEq, and_true, true_and] at e
      obtain ⟨rfl, -⟩ := e
      obtain ⟨hO3, hg3⟩ := hO.mark3 hl' hlt (p : Int) p1 p2
      rw [hsk] at hO3 etv d0 d1 d2 d3
      obtain ⟨S, hS⟩ : ∃ S, ss.getD k default = S := ⟨_, rfl⟩
      have HSK := Lib.hid hS
      rw [hS] at hO3 htk etv d0 d1 d2 d3
      have hl3 : (ss'.set k ⟨(p : Int), p1, p2, S.taps⟩).length = L := by rw [List.length_set]; exact hl'
      have hgk : (ss'.set k ⟨(p : Int), p1, p2, S.taps⟩).getD k default = ⟨(p : Int), p1, p2, S.taps⟩ := by rw [getD_set (by omega), if_pos rfl]
      have hrow := hO3.each k hlt
      rw [hgk] at hrow
      simp only at hrow
      have MK := markInt64_any (m := p + 3) hrow (by omega) (by rw [ints_length]; omega)
      rw [show ((p + 3 : Nat) : Int) = p3 by omega, ints_length, show p + 3 + S.taps.length = mkN (ss.take (k + 1)) m by omega] at MK
      have HNX : Hid (∀ w', Row w' B 2 (tv k) (ints (marks (p + 3) S.taps.length)) →
          (((wr.setCell ⟨g, k * 4, none⟩ (.int .i64 p)).setCell ⟨g, k * 4 + 1, none⟩ (.int .i64 p1)).setCell ⟨g, k * 4 + 2, none⟩ (.int .i64 p2)).grownBy w' (tv k).ownBlock →
          ∃ ss'', Mkd ss m (k + 1) ss'' ∧ StepsO w' B (.slice (some ⟨g, 0, none⟩) L cap) L L ss'' tv ∧ Only (.slice (some ⟨g, 0, none⟩) L cap) tv L w w') := fun w' hr hg => by
        refine ⟨_, ⟨?_, fun i hi => ?_, fun i hi => ?_⟩, hO3.markT hl3 hlt (by rw [hgk]) (by rw [hgk]) (by rw [hgk]) hr hg, (hOn.trans (Only.row hg3)).trans (Only.tap hlt hg)⟩
        · rw [List.length_set, List.length_set]
          exact hmk.len
        · rw [getD_set (by omega)]
          by_cases e : i = k
          · subst e
            rw [if_pos rfl, HPK.out, HSK.out]
            unfold mkS
            rw [show ((p + 1 : Nat) : Int) = p1 by omega, show ((p + 2 : Nat) : Int) = p2 by omega]
          · rw [if_neg e, getD_set (by omega), if_neg e]
            exact hmk.done i (by omega)
        · rw [getD_set (by omega), if_neg (by omega), getD_set (by omega), if_neg (by omega)]
          exact hmk.rest i (by omega)
      obtain ⟨q, hq⟩ : ∃ q, mkN (ss.take (k + 1)) m = q := ⟨_, rfl⟩
      have HQ := Lib.hid hq
      rw [hq] at MK
      have e1 : IntKind.i64.wrap ((p : Int) + 1) = p1 := by rw [hp1]; exact IntWalk.i64_in _ (by omega)
      have e2 : IntKind.i64.wrap (p1 + 1) = p2 := by rw [hp2]; exact IntWalk.i64_in _ (by omega)
      have e3 : IntKind.i64.wrap (p2 + 1) = p3 := by rw [hp3]; exact IntWalk.i64_in _ (by omega)
      have MK := Lib.hid (MK.mono fun e w' he => And.intro he.1 (HNX.out w' he.2.1 he.2.2))
      rw [etv] at MK
      have HLT := Lib.hid hlt
      clear hO3 hg3 hrow hgk hl3 HNX hS htk hle hM hp hp1 hp2 hp3 hq hsk hl' hmk hO hOn df etv
      go_wp2_with fail
      with_reducible refine MK.out.mono ?_
      rintro e w5 ⟨rfl, ss'', hmk, hO, hOn⟩
      have HMK := Lib.hid hmk
      have HO2 := Lib.hid hO
      have HON := Lib.hid hOn
      clear hmk hO hOn MK d0 d1 d2 d3 f0 f1 f2
      go_wp2
      go_roundw
      case rel => exact ⟨k + 1, ss'', by go_num, by rw [HQ.out], HLT.out, HMK.out, HO2.out, HON.out⟩
      case measure => have := HLT.out; simp [intOf]; omega
    · have e : k = L := by omega
      subst e
      have HR : Hid (mkN (ss.take k) m = mkN ss m) := by show mkN (ss.take k) m = mkN ss m; rw [← HL.out, List.take_length]
      have HMK := Lib.hid hmk
      have HO2 := Lib.hid hO
      have HON := Lib.hid hOn
      rw [HR.out]
      clear hmk hO hOn
      go_wp2
      go_ret
      exact ⟨rfl, ⟨ss', HMK.out, HO2.out⟩, HON.out⟩

end Go.Proofs.YtdefhmpmgcahpaaDoor
/-
  Marks on steps that are found again: heldStepS; markPlan, heldPlan.
-/
set_option linter.unusedVariables false
set_option linter.unusedSimpArgs false
namespace Go.Proofs.YtdefhmpmgcahpaaDoor
open Go.RowKit

set_option maxRecDepth 100000 in
set_option maxHeartbeats 4000000 in
theorem heldStepS_any {w : World} {B : Nat} {V : Value} {ss ss' : List St} {tv : Nat → Value} (h : StepsO w B V ss.length ss.length ss' tv) {m : Nat} (hk : Mkd ss m ss.length ss') (hm : mkN ss m ≤ 10000000000000) :
    Calls Tryd.prog 55 #[V, .int .i64 m] w fun e w' => e = .returned (.int .i64 (mkN ss m)) ∧ w' = w := by
  obtain ⟨L, hL⟩ : ∃ L, ss.length = L := ⟨_, rfl⟩
  obtain ⟨a, cap, rfl⟩ := h.form
  have hmax : (L : Int) ≤ 9223372036854775807 := by
    by_cases h0 : L = 0
    · omega
    · obtain ⟨g, cp, aa, cc, e, hc, hm, _⟩ := h.at (j := 0) (by omega) (Nat.le_refl _)
      unfold maxLen at hm
      omega
  have HM := Lib.hid hm
  have HL := Lib.hid hL
  rw [hL] at h hk ⊢
  have HO := Lib.hid h
  have HMK := Lib.hid hk
  clear h hL hm hk
  go_enter Tryd.func55, Tryd.ntmps55
  go_wp2
  go_loopw [1, 5] (fun y i wr => ∃ (k : Nat), i = .int .i64 k ∧ y = .int .i64 (mkN (ss.take k) m : Nat) ∧ k ≤ L ∧ wr = w) (fun _ i _ => L - (intOf i).toNat)
  case atStart => exact ⟨0, rfl, rfl, Nat.zero_le _, rfl⟩
  case round =>
    obtain ⟨k, rfl, rfl, hk, rfl⟩ := hrel
    by_cases hlt : k < L
    · have htk : mkN (ss.take (k + 1)) m = mkN (ss.take k) m + 3 + (ss.getD k default).taps.length := mkN_take (by rw [HL.out]; exact hlt)
      have hle := mkN_le (ss := ss) (k + 1) m
      have hM := HM.out
      obtain ⟨p, hp⟩ : ∃ p, mkN (ss.take k) m = p := ⟨_, rfl⟩
      have hsk := HMK.out.done k hlt
      rw [hp] at htk hsk ⊢
      obtain ⟨p1, hp1⟩ : ∃ p1 : Int, (p : Int) + 1 = p1 := ⟨_, rfl⟩
      obtain ⟨p2, hp2⟩ : ∃ p2 : Int, p1 + 1 = p2 := ⟨_, rfl⟩
      obtain ⟨p3, hp3⟩ : ∃ p3 : Int, p2 + 1 = p3 := ⟨_, rfl⟩
      obtain ⟨g, cp, ta, tc, e, -, -, -, -, d0, d1, d2, d3, hr⟩ := HO.out.at hlt (Nat.le_refl _)
      simp only [Value.slice.injEq] at e
      obtain ⟨rfl, -, rfl⟩ := e
      rw [hsk] at d0 d1 d2 d3 hr
      simp only [mkS, marks_length] at d0 d1 d2 d3 hr
      obtain ⟨T, hT⟩ : ∃ T, (ss.getD k default).taps.length = T := ⟨_, rfl⟩
      rw [hT] at htk d3 hr
      rw [show ((p + 1 : Nat) : Int) = p1 by omega] at d1
      rw [show ((p + 2 : Nat) : Int) = p2 by omega] at d2
      have MK := heldInt64_any (m := p + 3) hr.reads (by omega) (by omega)
      rw [show ((p + 3 : Nat) : Int) = p3 by omega, show p + 3 + T = mkN (ss.take (k + 1)) m by omega] at MK
      obtain ⟨q, hq⟩ : ∃ q, mkN (ss.take (k + 1)) m = q := ⟨_, rfl⟩
      have HQ := Lib.hid hq
      rw [hq] at MK
      have e1 : IntKind.i64.wrap ((p : Int) + 1) = p1 := by rw [hp1]; exact IntWalk.i64_in _ (by omega)
      have e2 : IntKind.i64.wrap (p1 + 1) = p2 := by rw [hp2]; exact IntWalk.i64_in _ (by omega)
      have e3 : IntKind.i64.wrap (p2 + 1) = p3 := by rw [hp3]; exact IntWalk.i64_in _ (by omega)
      have MK := Lib.hid MK
      have HLT := Lib.hid hlt
      have gq : decide ((q : Int) < 0) = false := decide_eq_false (by omega)
      clear hr hT htk hle hM hp hp1 hp2 hp3 hq hsk
      go_wp2_with fail
      with_reducible refine MK.out.mono ?_
      rintro e w5 ⟨rfl, rfl⟩
      clear MK d0 d1 d2 d3
      go_wp2
      go_roundw
      case rel => exact ⟨k + 1, by go_num, by rw [HQ.out], HLT.out, (by first | rfl | trivial)⟩
      case measure => have := HLT.out; simp [intOf]; omega
    · have e : k = L := by omega
      subst e
      have HR : Hid (mkN (ss.take k) m = mkN ss m) := by show mkN (ss.take k) m = mkN ss m; rw [← HL.out, List.take_length]
      rw [HR.out]
      go_wp2
      go_ret
      exact ⟨rfl, rfl⟩

set_option maxRecDepth 100000 in
theorem markPlan_any {w : World} {B : Nat} {V : Value} {ss : List St} {tv : Nat → Value} (h : StepsO w B V ss.length ss.length ss tv) {m : Nat} (hm : mkN ss m ≤ 10000000000000) :
    Calls Tryd.prog 23 #[.agg #[V], .int .i64 m] w fun e w' => e = .returned (.int .i64 (mkN ss m)) ∧ (∃ ss', Mkd ss m ss.length ss' ∧ StepsO w' B V ss.length ss.length ss' tv) ∧ Only V tv ss.length w w' := by
  obtain ⟨a, cap, rfl⟩ := h.form
  have hb : Below w.heap.size w (w.alloc (.cells #[.slice a ss.length cap] 26)) := (Below.refl _ _).alloc (Nat.le_refl _) _
  have MS := markStepS_any (h.below hb (Nat.le_refl _)) hm
  have HOn : Hid (Only (.slice a ss.length cap) tv ss.length w (w.alloc (.cells #[.slice a ss.length cap] 26))) := ⟨hb.os, hb.tape, hb.output, hb.size, fun b hb1 _ _ => hb.block b hb1⟩
  have MS := Lib.hid MS
  obtain ⟨N, hN⟩ : ∃ N, mkN ss m = N := ⟨_, rfl⟩
  rw [hN] at MS ⊢
  clear h hb hN hm
  go_enter Tryd.func23, Tryd.ntmps23
  go_wp2_with fail
  with_reducible refine MS.out.mono ?_
  rintro e w5 ⟨rfl, hm, hO⟩
  have HM := Lib.hid hm
  have HO := Lib.hid (HOn.out.trans hO)
  clear hm hO
  go_wp2
  go_ret
  exact ⟨rfl, HM.out, HO.out⟩

set_option maxRecDepth 100000 in
theorem heldPlan_any {w : World} {B : Nat} {V : Value} {ss ss' : List St} {tv : Nat → Value} (h : StepsO w B V ss.length ss.length ss' tv) {m : Nat} (hk : Mkd ss m ss.length ss') (hm : mkN ss m ≤ 10000000000000) :
    Calls Tryd.prog 24 #[.agg #[V], .int .i64 m] w fun e w' => e = .returned (.int .i64 (mkN ss m)) ∧ Below w.heap.size w w' := by
  obtain ⟨a, cap, rfl⟩ := h.form
  have hb : Below w.heap.size w (w.alloc (.cells #[.slice a ss.length cap] 26)) := (Below.refl _ _).alloc (Nat.le_refl _) _
  have MS := Lib.hid (heldStepS_any (h.below hb (Nat.le_refl _)) hk hm)
  have HB := Lib.hid hb
  obtain ⟨N, hN⟩ : ∃ N, mkN ss m = N := ⟨_, rfl⟩
  rw [hN] at MS ⊢
  have gN : decide ((N : Int) < 0) = false := decide_eq_false (by omega)
  clear h hb hN hm hk
  go_enter Tryd.func24, Tryd.ntmps24
  go_wp2_with fail
  with_reducible refine MS.out.mono ?_
  rintro e w5 ⟨rfl, rfl⟩
  go_wp2
  go_ret
  exact ⟨rfl, HB.out⟩

end Go.Proofs.YtdefhmpmgcahpaaDoor
