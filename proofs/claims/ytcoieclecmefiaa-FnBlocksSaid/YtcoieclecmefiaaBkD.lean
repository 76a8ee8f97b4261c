import Derived.Test.YtcoieclecmefiaaBkC
/-
  listOf over rows that are made anew.
-/
set_option linter.unusedVariables false
set_option linter.unusedSimpArgs false
namespace Go.Proofs.Ytcoieclecmefiaa
open Go.RowKit Flt Fast

/-- The list of rows as far as it is filled. -/
structure RowsM (wr : World) (B n k m : Nat) (q : Nat → Nat → Z) (vs : List Value) (ys : Nat → List C) : Prop where
  len : vs.length = k
  row : Row wr B 24 (.slice (some ⟨B, 0, none⟩) n n) (vs ++ List.replicate (n - k) (.slice none 0 0))
  each : ∀ i, i < k → Row wr B 26 (vs.getD i undef) (cvals (ys i)) ∧ (ys i).length = m ∧ ∀ j, j < m → IsC ((ys i).getD j (0, 0)) (q i j)

theorem RowsM.below {wr wq : World} {B n k m : Nat} {q : Nat → Nat → Z} {vs : List Value} {ys : Nat → List C} (h : RowsM wr B n k m q vs ys) (hb : Below wr.heap.size wr wq) : RowsM wq B n k m q vs ys :=
  ⟨h.len, h.row.below hb (fun j e => (h.row.lt j e).2), fun i hi => ⟨(h.each i hi).1.below hb (fun j e => ((h.each i hi).1.lt j e).2), (h.each i hi).2⟩⟩

theorem RowsM.next {wr : World} {B n k m : Nat} {q : Nat → Nat → Z} {vs : List Value} {ys : Nat → List C} {v : Value} {y : List C} (h : RowsM wr B n k m q vs ys) (hk : k < n) (hv : Row wr B 26 v (cvals y)) (hl : y.length = m) (hq : ∀ j, j < m → IsC (y.getD j (0, 0)) (q k j)) :
    RowsM (wr.setCell ⟨B, k, none⟩ v) B n (k + 1) m q (vs ++ [v]) (fun i => if i = k then y else ys i) := by
  have ne : (26 : TypeId) ≠ 24 := by decide
  have hS := h.row.set k v
  rw [fillV hk h.len] at hS
  refine ⟨by simp [h.len], hS.1, fun i hi => ?_⟩
  by_cases hik : i = k
  · subst hik
    rw [if_pos rfl, show (vs ++ [v]).getD i undef = v by simp [List.getD, ← h.len]]
    exact ⟨hv.kept hS.2 (row_apart hv h.row ne), hl, hq⟩
  · rw [if_neg hik, show (vs ++ [v]).getD i undef = vs.getD i undef by simp [List.getD, List.getElem?_append_left, h.len, show i < k by omega]]
    obtain ⟨a, r⟩ := h.each i (by omega)
    exact ⟨a.kept hS.2 (row_apart a h.row ne), r⟩

theorem RowsM.made {wr : World} {B n m : Nat} {q : Nat → Nat → Z} {vs : List Value} {ys : Nat → List C} (h : RowsM wr B n n m q vs ys) : Made wr B m (.slice (some ⟨B, 0, none⟩) n n) vs ys q :=
  ⟨by have := h.row; rwa [Nat.sub_self, List.replicate_zero, List.append_nil] at this, fun b hb => h.each b (by rw [← h.len]; exact hb)⟩

set_option maxRecDepth 100000 in
set_option maxHeartbeats 4000000 in
theorem listOf_rowsM (fn : Nat) (capt : Array Value) (n m : Nat) (hn : n ≤ 1000000) (q : Nat → Nat → Z) (w : World)
    (hfn : ∀ (args : Array Value) (w : World), (callFunc fn args).run Try.prog w = .ok (.enter fn args) w)
    (hcall : ∀ i w1, i < n → Below w.heap.size w w1 → Calls Try.prog fn (#[.int .i64 (i : Int)] ++ capt) w1 fun e w2 => ∃ v y, e = .returned v ∧ Row w2 w1.heap.size 26 v (cvals y) ∧ y.length = m ∧ (∀ j, j < m → IsC (y.getD j (0, 0)) (q i j)) ∧ Below w1.heap.size w1 w2) :
    Calls Try.prog 81 #[.int .i64 n, .func (.func fn) #[] capt] w fun e w' =>
      ∃ V vs ys, e = .returned V ∧ Made w' w.heap.size m V vs ys q ∧ vs.length = n ∧ Below w.heap.size w w' := by
  obtain ⟨j0, hj, hy0, hy1, hy2⟩ := info_parts info_rws
  have HF := Lib.hid hcall
  clear hcall
  go_enter Try.func81, Try.ntmps81
  go_wp2_with (at_make; refine wpList_make_full _ rfl _ _ 59 rfl w.heap.size 24 j0 (.slice none 0 0) 1 Try.underlying59 hj hy0 hy1 .i64 .i64 _ _ n rfl rfl rfl rfl (by rw [hy2]; omega) (by simp only [maxLen]; omega) (Nat.le_refl _) ?_)
  intro w1 hown hg1
  rw [toList_madeCells_one] at hown
  have hb1 : Below w.heap.size w w1 := (Below.refl _ _).grown hg1 (Nat.le_refl _) (fun b e => by cases e)
  have HO : Hid (RowsM w1 w.heap.size n 0 m q [] (fun _ => [])) := ⟨rfl, by show w1.ownsRow _ _ _ _ _ _; simpa using hown, fun i hi => by omega⟩
  have HK1 := Lib.hid hb1
  clear hown hg1 hb1 hj hy0 hy1 hy2
  go_wp2
  go_loopw [10] (fun i wr => ∃ (k : Nat) (vs : List Value) (ys : Nat → List Go.Proofs.Ytcoieclecmefiaa.C), i = .int .i64 k ∧ k ≤ n ∧ RowsM wr w.heap.size n k m q vs ys ∧ Below w.heap.size w wr) (fun i _ => n - (intOf i).toNat)
  case atStart => exact ⟨0, _, _, rfl, Nat.zero_le _, HO.out, HK1.out⟩
  case round =>
    clear HO HK1
    obtain ⟨k, vs, ys, rfl, hk, hO, hK⟩ := hrel
    have HO := Lib.hid hO
    have HK := Lib.hid hK
    clear hO hK
    by_cases hlt : k < n
    · have S := Lib.hid (HF.out k wr hlt HK.out)
      go_wp2_with fail
      refine S.out.mono ?_
      rintro e w2 ⟨v, y, rfl, hv, hyl, hq, hk2⟩
      have hsz := HK.out.size
      have hO2 := HO.out.below hk2
      obtain ⟨a, cap, rfl⟩ := cform hv.reads
      have hnx := hO2.next hlt (hv.base hsz) hyl hq
      have o1 := hO2.row.cellAt hlt
      have f1 := hO2.row.frozenAt k
      obtain ⟨u, hu⟩ : ∃ u, (vs ++ List.replicate (n - k) (Value.slice none 0 0)).getD k undef = u := ⟨_, rfl⟩
      rw [hu] at o1
      have HNX := Lib.hid hnx
      have hK2 : Below w.heap.size w (w2.setCell ⟨w.heap.size, k, none⟩ (.slice a (cvals y).length cap)) := by
        have h2 := below_step HK.out hk2 hsz
        have hS := (hO2.row.set k (.slice a (cvals y).length cap)).2
        exact h2.grown hS h2.size (fun b e => by cases e; exact Nat.le_refl _)
      have HK2 := Lib.hid hK2
      obtain ⟨ly, hly⟩ : ∃ l, (cvals y).length = l := ⟨_, rfl⟩
      rw [hly] at HNX HK2 ⊢
      clear hv hyl hq hk2 hO2 hnx hu S HO HK hK2 hly
      go_wp2
      go_roundw
      case rel => first | exact ⟨k + 1, _, _, by go_num, by omega, HNX.out, HK2.out⟩ | ((repeat apply Exists.intro); refine ⟨?_, rfl⟩; exact ⟨k + 1, _, _, by go_num, by omega, HNX.out, HK2.out⟩)
      case measure => simp [intOf]; omega
    · have e : k = n := by omega
      subst e
      go_wp2
      go_ret
      exact ⟨_, vs, ys, rfl, HO.out.made, HO.out.len, HK.out⟩

/-- Blocks and a code are returned. -/
def BlkTo (n : Nat) (q : Nat → Nat → Z) (c : Int) (w : World) (e : Ending) (w' : World) : Prop :=
  ∃ V vs bs, e = .returned (.tuple #[V, .int .i64 0]) ∧ Made w' w.heap.size n V vs bs q ∧ (vs.length : Int) = c ∧ Below w.heap.size w w'

set_option maxRecDepth 100000 in
set_option maxHeartbeats 4000000 in
theorem blocksOf_spec (xs : List C) (hw : WfC xs) (n h : Nat) (hh : 1 ≤ h ∧ h ≤ n) (hn : n ≤ 256) (hL : xs.length ≤ 64) (v : Value) (w : World) (hv : Reads w v (cvals xs)) :
    Calls Try.prog 37 #[v, .int .i64 n, .int .i64 h] w (BlkTo n (blkQ xs h) (cntR xs.length n h) w) := by
  have D := Lib.hid (fun w' (hb : w' = w) => blocks_spec xs hw n h hh hn hL v w' (hb ▸ hv))
  have CT := Lib.hid (fun w => count_spec xs.length n h (by omega) (by omega) (by omega) w)
  have I1 := Lib.hid (fun w => in_t n 1 256 (by omega) w)
  have I2 := Lib.hid (fun w => in_t h 1 n (by omega) w)
  obtain ⟨c, hc, hcl, hcL⟩ := cnt_facts xs.length n h hh
  rw [hc] at D CT ⊢
  have hc64 : c ≤ 64 := by omega
  obtain ⟨a, cap, rfl⟩ := cform hv
  rw [cvals_length] at *
  obtain ⟨L, hLL⟩ : ∃ L, xs.length = L := ⟨_, rfl⟩
  rw [hLL] at D CT hcL hL ⊢
  have CC : Hid (∀ w, Calls Try.prog 83 #[.slice a L cap, .int .i64 n, .int .i64 h] w fun e w' => e = .returned (.int .i64 0) ∧ w' = w) := fun w => by
    clear hv D hcl hc hLL
    go_enter Try.func83, Try.ntmps83
    go_wp2_with fail
    refine (I1.out _).mono ?_
    rintro e w' ⟨rfl, rfl⟩
    go_wp2_with fail
    refine (I2.out _).mono ?_
    rintro e w' ⟨rfl, rfl⟩
    go_wp2_with fail
    refine (CT.out _).mono ?_
    rintro e w' ⟨rfl, rfl⟩
    go_wp2
    go_ret
    exact ⟨rfl, rfl⟩
  clear hv hcl hc hLL hw I1 I2 CT
  go_enter Try.func37, Try.ntmps37
  go_wp2_with fail
  refine (CC.out _).mono ?_
  rintro e w' ⟨rfl, rfl⟩
  go_wp2_with fail
  refine (D.out _ rfl).mono ?_
  rintro e w2 ⟨V, vs, bs, rfl, hx⟩
  have HX := Lib.hid hx
  clear hx
  go_wp2
  go_ret2
  exact ⟨V, vs, bs, rfl, HX.out⟩

end Go.Proofs.Ytcoieclecmefiaa
