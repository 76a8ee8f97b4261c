/-
  Several texts of this claim, one behind the other; each says what it holds.
-/
import Derived.Test.YtdefhmpmgcahpaaDoorMPlanTeL2
import Derived.Test.YtdefhmpmgcahpaaDoorMPlanTeL9
import Derived.Test.YtdefhmpmgcahpaaDoorApw
import Derived.Laws.AppendOwn
/-
  Rows that are appended, whatever their elements; slices.Concat of two rows of steps (written by genapr.py, from Cat and AppW).
-/
set_option linter.unusedVariables false
set_option linter.unusedSimpArgs false
namespace Go.Proofs.YtdefhmpmgcahpaaDoor
open Go.RowKit

set_option maxRecDepth 100000 in
set_option maxHeartbeats 4000000 in
/-- A copy of numbers, as the model makes it. -/
theorem ownI_any {w : World} {v : Value} {zs : List Int} (h : ∀ w', Below w.heap.size w w' → Reads w' v (ints zs)) (hl : zs.length ≤ 1000) :
    Calls Tryd.prog 84 #[v] w fun e w' => ∃ u, e = .returned u ∧ Row w' w.heap.size 2 u (ints zs) ∧ Below w.heap.size w w' := by
  obtain ⟨i0, hi, hz0, hz1, hz2⟩ := info_parts' info_i64'
  have hone : ∀ u ∈ ints zs, u.oneCell' = true := by
    intro u hu
    obtain ⟨p, -, rfl⟩ := List.mem_map.1 hu
    rfl
  have hlen : (ints zs).length ≤ 1000 := by rw [ints_length]; exact hl
  have HON := Lib.hid hone
  have HR := Lib.hid (h _ ((Below.refl _ _).alloc (Nat.le_refl _) (.cells #[] 2)))
  have HR0 : Hid (Row (w.alloc (.cells #[] 2)) w.heap.size 2 (.slice (some ⟨w.heap.size, 0, none⟩) 0 0) []) := World.ownsRow_lit w #[] 0 (Nat.le_refl _) (by unfold maxLen; omega) rfl
  obtain ⟨ys, hys⟩ : ∃ ys, ints zs = ys := ⟨_, rfl⟩
  rw [hys] at HON HR hlen ⊢
  clear h hone hl hys
  go_enter Tryd.func84, Tryd.ntmps84
  go_wp2_with (at_builtin; refine wpList_appR rfl _ _ _ 2 rfl Tryd.underlying34 i0 hi hz0 hz1 hz2 (by decide) rfl w.heap.size _ _ [] ys rfl rfl HR0.out HR.out HON.out (by simp) (by simp; omega) ?_)
  intro v' w1 hr1 hg1
  have HO : Hid (Row w1 w.heap.size 2 v' ys) := by
    show Row w1 w.heap.size 2 v' ys
    simpa using hr1
  have HB : Hid (Below w.heap.size w w1) := ((Below.refl w.heap.size w).alloc (Nat.le_refl _) _).grown hg1 (by simp) (fun b e => by simp [Value.ownBlock] at e; omega)
  clear hr1 hg1
  go_wp2
  go_ret
  exact ⟨_, rfl, HO.out, HB.out⟩


end Go.Proofs.YtdefhmpmgcahpaaDoor
/-
  Steps that are copied, as the model does it: l07Own.
-/
set_option linter.unusedVariables false
set_option linter.unusedSimpArgs false
namespace Go.Proofs.YtdefhmpmgcahpaaDoor
open Go.RowKit

/-- One step more is appended. -/
theorem StepsO.push {w w' : World} {B k b0 : Nat} {V V' : Value} {ss : List St} {tv : Nat → Value} {cs : List Value} (h1 : w.ownsRow B 36 4 V k cs) (h2 : Four cs k ss tv) (h3 : ∀ j, j < k → Row w B 2 (tv j) (ints (ss.getD j default).taps))
    (h4 : ∀ i j, i < j → j < k → ∀ a b, (tv i).ownBlock = some a → (tv j).ownBlock = some b → a ≠ b) {S : St} {t : Value} (hS : ss.getD k default = S)
    (hown : w'.ownsRow B 36 4 V' (k + 1) (cs ++ [.int .i64 S.kind, .int .i64 S.n, .int .i64 S.k, t])) (hg : w.grownBy w' V.ownBlock) (ht : Row w b0 2 t (ints S.taps)) (hB : B ≤ b0) (hlt : ∀ i, i < k → ∀ a, (tv i).ownBlock = some a → a < b0) :
    StepsO w' B V' (k + 1) (k + 1) ss (fun i => if i = k then t else tv i) := by
  have hl : cs.length = k * 4 := h1.1
  refine ⟨⟨_, hown, fun j hj => ?_⟩, fun j hj => ?_, fun i j hij hj a b ea eb => ?_⟩
  · try dsimp only
    by_cases e : j = k
    · subst e
      rw [if_pos rfl, hS]
      refine ⟨?_, ?_, ?_, ?_⟩
      · rw [List.getElem?_append_right (by omega), show j * 4 - cs.length = 0 by omega]; rfl
      · rw [List.getElem?_append_right (by omega), show j * 4 + 1 - cs.length = 1 by omega]; rfl
      · rw [List.getElem?_append_right (by omega), show j * 4 + 2 - cs.length = 2 by omega]; rfl
      · rw [List.getElem?_append_right (by omega), show j * 4 + 3 - cs.length = 3 by omega]; rfl
    · rw [if_neg e]
      obtain ⟨q0, q1, q2, q3⟩ := h2 j (by omega)
      exact ⟨(List.getElem?_append_left (by omega)).trans q0, (List.getElem?_append_left (by omega)).trans q1, (List.getElem?_append_left (by omega)).trans q2, (List.getElem?_append_left (by omega)).trans q3⟩
  · try dsimp only
    by_cases e : j = k
    · subst e
      rw [if_pos rfl, hS]
      exact (ht.base' hB).kept hg (ownsRow_apart ht h1 (Ne.symm step_ne_int))
    · rw [if_neg e]
      have := h3 j (by omega)
      exact this.kept hg (ownsRow_apart this h1 (Ne.symm step_ne_int))
  · have hik : i ≠ k := by omega
    simp only [if_neg hik] at ea
    by_cases e : j = k
    · subst e
      simp only [if_true] at eb
      have := hlt i hij a ea
      have := (ht.lt b eb).1
      omega
    · simp only [if_neg e] at eb
      exact h4 i j hij (by omega) a b ea eb

set_option maxRecDepth 100000 in
set_option maxHeartbeats 8000000 in
theorem ownS_any {w : World} {B0 : Nat} {V : Value} {ss : List St} {tv : Nat → Value} (h : StepsO w B0 V ss.length ss.length ss tv) (hn : ss.length ≤ 1000) (ht : ∀ j, j < ss.length → (ss.getD j default).taps.length ≤ 1000) :
    Calls Tryd.prog 57 #[V] w fun e w' => ∃ V' tv', e = .returned V' ∧ StepsO w' w.heap.size V' ss.length ss.length ss tv' ∧ Below w.heap.size w w' := by
  obtain ⟨i0, hi, hz0, hz1, hz2⟩ := info_parts' info_step
  have HA := Lib.hid (fun j (hj : j < ss.length) => h.at hj (Nat.le_refl _))
  obtain ⟨a, cap, rfl⟩ := h.form
  obtain ⟨L, hL⟩ : ∃ L, ss.length = L := ⟨_, rfl⟩
  rw [hL] at HA hn ht ⊢
  have HT := Lib.hid ht
  have HO : Hid (StepsO (w.alloc (.cells #[] 36)) w.heap.size (.slice (some ⟨w.heap.size, 0, none⟩) 0 0) 0 0 ss (fun _ => undef)) := ⟨⟨[], World.ownsRow_lit w #[] 0 (Nat.le_refl _) (by unfold maxLen; omega) rfl, fun j hj => by omega⟩, fun j hj => by omega, fun i j _ hj => by omega⟩
  have HG : Hid (Below w.heap.size w (w.alloc (.cells #[] 36))) := (Below.refl _ _).alloc (Nat.le_refl _) _
  clear h hL ht
  go_enter Tryd.func57, Tryd.ntmps57
  go_wp2
  go_loopw [3, 4] (fun v i wr => ∃ (k : Nat) (tv : Nat → Value), i = .int .i64 k ∧ k ≤ L ∧ StepsO wr w.heap.size v k k ss tv ∧ Below w.heap.size w wr) (fun _ i _ => L - (intOf i).toNat)
  case atStart => exact ⟨0, _, rfl, Nat.zero_le _, HO.out, HG.out⟩
  case round =>
    clear HO HG
    obtain ⟨k, tv', rfl, hk, hO, hB⟩ := hrel
    have HO := Lib.hid hO
    have HB := Lib.hid hB
    obtain ⟨av, cv, rfl⟩ := hO.form
    clear hO hB
    by_cases hlt : k < L
    · obtain ⟨g, cp, ta, tc, e, -, -, hgw, -, c0, c1, c2, c3, hr⟩ := HA.out k hlt
      simp only [Value.slice.injEq] at e
      obtain ⟨rfl, -, rfl⟩ := e
      have hlen := HT.out k hlt
      obtain ⟨S, hS⟩ : ∃ S, ss.getD k default = S := ⟨_, rfl⟩
      have HS := Lib.hid hS
      rw [hS] at c0 c1 c2 c3 hr hlen
      have hgr := HB.out
      rw [← hgr.cell (by exact hgw)] at c0 c1 c2 c3
      have hba : Below wr.heap.size wr (wr.alloc (.cells #[.int .i64 S.kind, .int .i64 S.n, .int .i64 S.k, .slice ta S.taps.length tc] 36)) := (Below.refl _ _).alloc (Nat.le_refl _) _
      have OW := Lib.hid (ownI_any (w := wr.alloc (.cells #[.int .i64 S.kind, .int .i64 S.n, .int .i64 S.k, .slice ta S.taps.length tc] 36)) (v := .slice ta S.taps.length tc) (zs := S.taps) (fun w' hb => hr.reads.keep (below_step' HB.out (below_step' hba hb hba.size) HB.out.size)) hlen)
      obtain ⟨T, hT⟩ : ∃ T, S.taps.length = T := ⟨_, rfl⟩
      rw [hT] at OW c3
      have HLT := Lib.hid hlt
      clear hS hr hlen hgr hba hT
      go_wp2_with fail
      with_reducible refine OW.out.mono ?_
      rintro e w2 ⟨u, rfl, hu, hb2⟩
      have hba : Below wr.heap.size wr (wr.alloc (.cells #[.int .i64 S.kind, .int .i64 S.n, .int .i64 S.k, .slice ta T tc] 36)) := (Below.refl _ _).alloc (Nat.le_refl _) _
      have hsa : (wr.alloc (.cells #[.int .i64 S.kind, .int .i64 S.n, .int .i64 S.k, .slice ta T tc] 36)).heap.size = wr.heap.size + 1 := by simp
      have hb12 : Below wr.heap.size wr w2 := below_step' hba hb2 hba.size
      have hne : u.ownBlock ≠ some wr.heap.size := fun e => by have := (hu.lt _ e).1; omega
      obtain ⟨ua, uc, rfl⟩ := hu.form
      have d0 : w2.cell? ⟨wr.heap.size, 0, none⟩ = some (.int .i64 S.kind) := by rw [hb2.cell (p := ⟨wr.heap.size, 0, none⟩) (by simp)]; go_simp
      have d1 : w2.cell? ⟨wr.heap.size, 1, none⟩ = some (.int .i64 S.n) := by rw [hb2.cell (p := ⟨wr.heap.size, 1, none⟩) (by simp)]; go_simp
      have d2 : w2.cell? ⟨wr.heap.size, 2, none⟩ = some (.int .i64 S.k) := by rw [hb2.cell (p := ⟨wr.heap.size, 2, none⟩) (by simp)]; go_simp
      have d3 : w2.cell? ⟨wr.heap.size, 3, none⟩ = some (.slice ta T tc) := by rw [hb2.cell (p := ⟨wr.heap.size, 3, none⟩) (by simp)]; go_simp
      have d4 : w2.frozen? ⟨wr.heap.size, 3, none⟩ = false := by rw [hb2.frozen (p := ⟨wr.heap.size, 3, none⟩) (by simp)]; go_simp
      have hbb := (hb12.setCell (p := ⟨wr.heap.size, 3, none⟩) (Nat.le_refl _) (.slice ua (ints S.taps).length uc)).alloc (by simp; exact hb12.size) (.cells #[.int .i64 S.kind, .int .i64 S.n, .int .i64 S.k, .slice ua (ints S.taps).length uc] 36)
      have O3 := HO.out.below hbb (Nat.le_refl _)
      have hrow := (hu.other (b := wr.heap.size) (j := 3) (.slice ua (ints S.taps).length uc) hne).alloc (.cells #[.int .i64 S.kind, .int .i64 S.n, .int .i64 S.k, .slice ua (ints S.taps).length uc] 36)
      obtain ⟨⟨cs, h1, h2⟩, h3, h4⟩ := O3
      have x0 : ∀ (j : Nat) (x : Value), ([.int .i64 S.kind, .int .i64 S.n, .int .i64 S.k, .slice ua (ints S.taps).length uc] : List Value)[j]? = some x → ((w2.setCell ⟨wr.heap.size, 3, none⟩ (.slice ua (ints S.taps).length uc)).alloc (.cells #[.int .i64 S.kind, .int .i64 S.n, .int .i64 S.k, .slice ua (ints S.taps).length uc] 36)).cell? ((⟨w2.heap.size, 0, none⟩ : Addr).add j) = some x := fun j x hx => by
        rw [show (⟨w2.heap.size, 0, none⟩ : Addr).add j = ⟨w2.heap.size, j, none⟩ by unfold Addr.add; split <;> simp_all]
        rcases j with _ | _ | _ | _ | j <;> simp at hx <;> subst hx <;> go_simp
      obtain ⟨WB, hWB⟩ : ∃ WB, (w2.setCell ⟨wr.heap.size, 3, none⟩ (.slice ua (ints S.taps).length uc)).alloc (.cells #[.int .i64 S.kind, .int .i64 S.n, .int .i64 S.k, .slice ua (ints S.taps).length uc] 36) = WB := ⟨_, rfl⟩
      rw [hWB] at hbb hrow h1 h3
      simp only [hWB] at x0
      have HX0 := Lib.hid x0
      have H1 := Lib.hid h1
      have hszB := hbb.size
      have HPUSH : Hid (∀ v' w3, w3.ownsRow w.heap.size 36 4 v' (k + 1) (cs ++ [.int .i64 S.kind, .int .i64 S.n, .int .i64 S.k, .slice ua (ints S.taps).length uc]) → WB.grownBy w3 (Value.slice av k cv).ownBlock →
          ∃ tv2, StepsO w3 w.heap.size v' (k + 1) (k + 1) ss tv2 ∧ Below w.heap.size w w3) := fun v' w3 ho hg => by
        refine ⟨_, StepsO.push h1 h2 h3 h4 HS.out ho hg hrow (by have := HB.out.size; omega) (fun i hi a ea => ?_), ?_⟩
        · have := ((HO.out.each i hi).lt a ea).2
          omega
        · exact (below_step' HB.out hbb HB.out.size).grown hg (Nat.le_trans HB.out.size hszB) (fun b e => (HO.out.lt b e).1)
      have HWB := Lib.hid hWB
      clear hba hsa hb12 hne hu hb2 hbb hrow h1 h2 h3 h4 x0 hWB
      have hone : ∀ x ∈ ([.int .i64 S.kind, .int .i64 S.n, .int .i64 S.k, .slice ua (ints S.taps).length uc] : List Value), x.oneCell' = true := by
        intro x hx
        simp only [List.mem_cons, List.mem_nil_iff, or_false] at hx
        rcases hx with rfl | rfl | rfl | rfl <;> rfl
      have HONE := Lib.hid hone
      have hk16 : k ≤ 1000 := by omega
      have hsw := HB.out.size
      clear hone
      go_wp2_with (at_builtin; rw [HWB.out]; refine wpList_append_own _ rfl _ _ 24 rfl w.heap.size 36 i0 _ 4 48 Tryd.underlying24 hi hz0 hz1 hz2 rfl (by decide) _ k cs rfl H1.out ⟨w2.heap.size, 0, none⟩ 1 1 [.int .i64 S.kind, .int .i64 S.n, .int .i64 S.k, .slice ua (ints S.taps).length uc] rfl rfl HX0.out HONE.out (by simp only [maxLen]; omega) (by omega) (by omega) ?_; intro v' w3 hown' hgrow _; obtain ⟨g', cap', rfl⟩ := ownsRow_succ hown'; obtain ⟨tv2, hO2, hB2⟩ := HPUSH.out _ _ hown' hgrow; have HO2 := Lib.hid hO2; have HB2 := Lib.hid hB2; clear hown' hgrow hO2 hB2)
      go_roundw
      case rel => exact ⟨k + 1, tv2, by go_num, HLT.out, HO2.out, HB2.out⟩
      case measure => have := HLT.out; simp [intOf]; omega
    · have e : k = L := by omega
      subst e
      go_wp2
      go_ret
      exact ⟨_, tv', rfl, HO.out, HB.out⟩

end Go.Proofs.YtdefhmpmgcahpaaDoor
