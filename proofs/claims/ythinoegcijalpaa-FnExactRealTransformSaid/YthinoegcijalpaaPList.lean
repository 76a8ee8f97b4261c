import Derived.Test.YthinoegcijalpaaPJoin
/-
  The program's fast transform: listOf over slices, the closures, the whole.
-/
set_option linter.unusedVariables false
set_option linter.unusedSimpArgs false
namespace Go.Proofs.Ythinoegcijalpaa
open Go.RowKit Flt Turn Fast

/-- The list of rows as far as it is filled. -/
structure RowsJ (wr : World) (B : Nat) (n k : Nat) (Q : Nat → List C → Prop) (vs : List Value) (ys : Nat → List C) : Prop where
  len : vs.length = k
  row : Row wr B 23 (.slice (some ⟨B, 0, none⟩) n n) (vs ++ List.replicate (n - k) (.slice none 0 0))
  each : ∀ i, i < k → Row wr B 34 (vs.getD i undef) (cvals (ys i)) ∧ WfC (ys i) ∧ Q i (ys i)

theorem RowsJ.keeps {wr wq : World} {B n k b c : Nat} {Q : Nat → List C → Prop} {vs : List Value} {ys : Nat → List C} (h : RowsJ wr B n k Q vs ys) (hk : Keeps wr.heap.size b wr wq) (hc : Cache wr b c) : RowsJ wq B n k Q vs ys :=
  ⟨h.len, h.row.keeps hk (fun j e => (h.row.lt j e).2) (h.row.notCache hc), fun i hi => ⟨(h.each i hi).1.keeps hk (fun j e => ((h.each i hi).1.lt j e).2) ((h.each i hi).1.notCache hc), (h.each i hi).2⟩⟩

theorem RowsJ.next {wr : World} {B n k : Nat} {Q : Nat → List C → Prop} {vs : List Value} {ys : Nat → List C} {v : Value} {y : List C} (h : RowsJ wr B n k Q vs ys) (hk : k < n) (hv : Row wr B 34 v (cvals y)) (hw : WfC y) (hq : Q k y) :
    RowsJ (wr.setCell ⟨B, k, none⟩ v) B n (k + 1) Q (vs ++ [v]) (fun i => if i = k then y else ys i) := by
  have ne : (34 : TypeId) ≠ 23 := by decide
  have hS := h.row.set k v
  rw [fillV hk h.len] at hS
  refine ⟨by simp [h.len], hS.1, fun i hi => ?_⟩
  by_cases hik : i = k
  · subst hik
    rw [if_pos rfl, show (vs ++ [v]).getD i undef = v by simp [List.getD, ← h.len]]
    exact ⟨hv.kept hS.2 (hv.apart h.row ne), hw, hq⟩
  · rw [if_neg hik, show (vs ++ [v]).getD i undef = vs.getD i undef by simp [List.getD, List.getElem?_append_left, h.len, show i < k by omega]]
    obtain ⟨a, r⟩ := h.each i (by omega)
    exact ⟨a.kept hS.2 (a.apart h.row ne), r⟩

set_option maxRecDepth 100000 in
set_option maxHeartbeats 4000000 in
theorem listOf_rows (fn : Nat) (capt : Array Value) (n : Nat) (hn : n ≤ 1000000) (b c0 K : Nat) (Q : Nat → List C → Prop) (w : World)
    (hfn : ∀ (args : Array Value) (w : World), (callFunc fn args).run Try.prog w = .ok (.enter fn args) w) (hc : Cache w b c0)
    (hcall : ∀ i w1, i < n → Keeps w.heap.size b w w1 → Cache w1 b (c0 + i * K) → Calls Try.prog fn (#[.int .i64 (i : Int)] ++ capt) w1 fun e w2 => ∃ v y, e = .returned v ∧ Row w2 w1.heap.size 34 v (cvals y) ∧ WfC y ∧ Q i y ∧ Cache w2 b (c0 + (i + 1) * K) ∧ Keeps w1.heap.size b w1 w2) :
    Calls Try.prog 32 #[.int .i64 n, .func (.func fn) #[] capt] w fun e w' =>
      ∃ vs ys, e = .returned (.slice (some ⟨w.heap.size, 0, none⟩) n n) ∧ RowsJ w' w.heap.size n n Q vs ys ∧ Cache w' b (c0 + n * K) ∧ Keeps w.heap.size b w w' := by
  obtain ⟨j0, hj, hy0, hy1, hy2⟩ := info_parts info_rows
  have HF := Lib.hid hcall
  have HC := Lib.hid hc
  have hbw := hc.lt
  clear hcall hc
  go_enter Try.func32, Try.ntmps32
  go_wp2_with (at_make; refine wpList_make_full _ rfl _ _ 44 rfl w.heap.size 23 j0 (.slice none 0 0) 1 Try.underlying44 hj hy0 hy1 .i64 .i64 _ _ n rfl rfl rfl rfl (by rw [hy2]; omega) (by simp only [maxLen]; omega) (Nat.le_refl _) ?_)
  intro w1 hown hg1
  rw [toList_madeCells_one] at hown
  have hb1 : Below w.heap.size w w1 := (Below.refl _ _).grown hg1 (Nat.le_refl _) (fun b e => by cases e)
  have HO : Hid (RowsJ w1 w.heap.size n 0 Q [] (fun _ => [])) := ⟨rfl, by show w1.ownsRow _ _ _ _ _ _; simpa using hown, fun i hi => by omega⟩
  have HC1 : Hid (Cache w1 b (c0 + 0 * K)) := (HC.out.below hb1).mono (Nat.le_add_right _ _)
  have HK1 : Hid (Keeps w.heap.size b w w1) := Keeps.of_below hb1
  clear hown hg1 hb1 hj hy0 hy1 hy2
  go_wp2
  go_loopw [10] (fun i wr => ∃ (k : Nat) (vs : List Value) (ys : Nat → List C), i = .int .i64 k ∧ k ≤ n ∧ RowsJ wr w.heap.size n k Q vs ys ∧ Cache wr b (c0 + k * K) ∧ Keeps w.heap.size b w wr) (fun i _ => n - (intOf i).toNat)
  case atStart => exact ⟨0, _, _, rfl, Nat.zero_le _, HO.out, HC1.out, HK1.out⟩
  case round =>
    clear HO HC1 HK1
    obtain ⟨k, vs, ys, rfl, hk, hO, hC, hK⟩ := hrel
    have HO := Lib.hid hO
    have HC1 := Lib.hid hC
    have HK := Lib.hid hK
    clear hO hC hK
    by_cases hlt : k < n
    · have S := Lib.hid (HF.out k wr hlt HK.out HC1.out)
      go_wp2_with fail
      refine S.out.mono ?_
      rintro e w2 ⟨v, y, rfl, hv, hyw, hq, hc2, hk2⟩
      have hsz := HK.out.size
      have hO2 := HO.out.keeps hk2 HC1.out
      obtain ⟨a, cap, rfl⟩ := hv.reads.form'
      have hnx := hO2.next hlt (hv.base hsz) hyw hq
      have o1 := hO2.row.cellAt hlt
      have f1 := hO2.row.frozenAt k
      obtain ⟨u, hu⟩ : ∃ u, (vs ++ List.replicate (n - k) (Value.slice none 0 0)).getD k undef = u := ⟨_, rfl⟩
      rw [hu] at o1
      have HNX := Lib.hid hnx
      have HC2 : Hid (Cache (w2.setCell ⟨w.heap.size, k, none⟩ (.slice a (cvals y).length cap)) b (c0 + (k + 1) * K)) := hc2.setCell (a := ⟨w.heap.size, k, none⟩) (by show b ≠ w.heap.size; omega) _
      have HK2 : Hid (Keeps w.heap.size b w (w2.setCell ⟨w.heap.size, k, none⟩ (.slice a (cvals y).length cap))) := (HK.out.keeps hk2 hsz).setCell (p := ⟨w.heap.size, k, none⟩) (Nat.le_refl _) _
      clear hv hyw hq hc2 hk2 hO2 hnx hu S HO HC1 HK
      go_wp2
      go_roundw
      case rel => first | exact ⟨k + 1, _, _, by go_num, by omega, HNX.out, HC2.out, HK2.out⟩ | ((repeat apply Exists.intro); refine ⟨?_, rfl⟩; exact ⟨k + 1, _, _, by go_num, by omega, HNX.out, HC2.out, HK2.out⟩)
      case measure => simp [intOf]; omega
    · have e : k = n := by omega
      subst e
      go_wp2
      go_ret
      exact ⟨vs, ys, rfl, HO.out, HC1.out, HK.out⟩

end Go.Proofs.Ythinoegcijalpaa
