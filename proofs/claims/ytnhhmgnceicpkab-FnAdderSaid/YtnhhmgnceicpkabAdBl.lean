import Derived.Test.YtnhhmgnceicpkabAdCl
import Derived.Test.YtnhhmgnceicpkabAddP
/-
  AddBlock and FinishAdder of the program, ValidAdder of the model.
-/
set_option linter.unusedVariables false
set_option linter.unusedSimpArgs false
namespace Go.Proofs.Ytnhhmgnceicpkab
open Go.RowKit Flt Fast

/-- A part of a row, read in the worlds that come. -/
theorem part_reads {w : World} {B g n cap : Nat} {fs : List C} (h : Row w B 45 (.slice (some ⟨g, 0, none⟩) n cap) (cvals fs)) (hc : cap ≤ maxLen) (hnc : n ≤ cap) (hn : fs.length = n) (i : Nat) (hi : i ≤ n) :
    (∀ a, (a = some ⟨g, 0, none⟩ ∨ a = some ⟨g, i, none⟩) → (i < n → a = some ⟨g, i, none⟩) → RdC w (.slice a (n - i) (cap - i)) (fs.drop i)) ∧ RdC w (.slice (some ⟨g, 0, none⟩) i cap) (fs.take i) := by
  have hg : ∀ j, j < n → g < w.heap.size := fun j hj => World.block_lt_of_cell? _ _ (h.cellAt hj)
  refine ⟨fun a ha hai => ⟨a, cap - i, by rw [List.length_drop, hn], by rw [List.length_drop, hn]; omega, by omega, fun j hj => ?_⟩, ⟨_, cap, by rw [List.length_take, hn, Nat.min_eq_left hi], by rw [List.length_take, hn]; omega, hc, fun j hj => ?_⟩⟩
  · rw [List.length_drop, hn] at hj
    refine ⟨g, i, hai (by omega), hg (i + j) (by omega), ?_⟩
    rw [h.cellAt (by omega), cvals_getD (by omega)]
    simp [List.getD, List.getElem?_drop]
  · rw [List.length_take, hn] at hj
    refine ⟨g, 0, rfl, hg j (by omega), ?_⟩
    rw [Nat.zero_add, h.cellAt (by omega), cvals_getD (by omega)]
    have h1 : j < i := by omega
    simp [List.getD, List.getElem?_take, h1]

/-- What 'with' gives. -/
def WithTo (n h : Nat) (T : List Z) (q : Nat → Z) (w : World) (e : Ending) (w' : World) : Prop :=
  ∃ a2 c2 told fs, e = .returned (.tuple #[.agg #[.int .i64 n, .int .i64 h, .slice a2 (n - h) c2], told]) ∧ fs.length = n ∧ FitsC fs (stepL T q n) ∧ RdC w' (.slice a2 (n - h) c2) (fs.drop h) ∧ (∀ x, a2 = some x → w.heap.size ≤ x.block) ∧
    Row w' w.heap.size 45 told (cvals (fs.take h)) ∧ Below w.heap.size w w'

set_option maxRecDepth 100000 in
set_option maxHeartbeats 8000000 in
theorem with_any (n h : Nat) (h1 : 1 ≤ h) (hh : h ≤ n) (hn : n ≤ 256) (T : List Z) (q : Nat → Z) (a : Option Addr) (cap : Nat) (ts bs : List C) (vb : Value) (w : World)
    (hr : RdC w (.slice a ts.length cap) ts) (hT : FitsC ts T) (htn : ts.length ≤ n) (hb : RdC w vb bs) (hbn : bs.length = n) (hq : ∀ i, i < n → IsC (bs.getD i (0, 0)) (q i)) :
    Calls Try.prog 79 #[.agg #[.int .i64 n, .int .i64 h, .slice a ts.length cap], vb] w (WithTo n h T q w) := by
  obtain ⟨ab, cb, rfl, hb1, hb2, hb3⟩ := hb
  have HBR : Hid (RdC w (.slice ab bs.length cb) bs) := ⟨ab, cb, rfl, hb1, hb2, hb3⟩
  have HTR := Lib.hid hr
  have HQ := Lib.hid hq
  have HT := Lib.hid hT
  have hTl : ts.length = T.length := hT.len
  have S := Lib.hid (fun (w3 : World) (g : Nat) (hbw : Below w.heap.size w w3) (c0 : w3.cell? ⟨g, 0, none⟩ = some (.slice a ts.length cap)) (c1 : w3.cell? ⟨g, 1, none⟩ = some (.slice ab bs.length cb)) =>
    sumsAt_c128 (w := w3) (V := .slice (some ⟨g, 0, none⟩) 2 2) (vs := [.slice a ts.length cap, .slice ab bs.length cb]) (.row g 2 2 _ rfl (by omega) (Nat.le_refl _) (by unfold maxLen; omega) (fun j hj => by
      match j, hj with
      | 0, _ => exact c0
      | 1, _ => exact c1)) (fun b => if b = 0 then ts else bs) (fun b i => if b = 0 then T.getD i z0 else q i) (fun b => if b = 0 then T.length else n) 0
      (fun b hb => by
        match b, hb with
        | 0, _ => exact ⟨hr.below hbw, hTl, fun i hi => hT.good i (by rw [hTl]; exact hi)⟩
        | 1, _ => exact ⟨HBR.out.below hbw, hbn, hq⟩)
      (fun b => by show (if b = 0 then T.length else n) ≤ 256; split <;> omega) (by simp) (by omega))
  have TS := Lib.hid (two_sums T q n)
  have SL := Lib.hid (show (stepL T q n).length = n by rw [stepL_len]; omega)
  obtain ⟨t, ht⟩ : ∃ t, ts.length = t := ⟨_, rfl⟩
  rw [ht] at S HTR htn ⊢
  rw [hbn] at S HBR ⊢
  have hlt : ∀ (x : Nat), x = n → True := fun _ _ => trivial
  have hb0 : Below w.heap.size w (((w.alloc (.cells #[.int .i64 n, .int .i64 h, .slice a t cap] 99)).alloc (.cells #[.int .i64 0, .int .i64 0, .slice none 0 0] 99)).alloc (.cells #[.slice a t cap, .slice ab n cb] 36)) := (((Below.refl _ _).alloc (Nat.le_refl _) _).alloc (by simp) _).alloc (by simp; omega) _
  have HB0 := Lib.hid hb0
  clear hr hT hb1 hb2 hb3 hq hTl ht hb0 hlt
  go_enter Try.func79, Try.ntmps79
  go_wp2_with fail
  refine (S.out _ (w.heap.size + 2) HB0.out (by go_simp) (by go_simp)).mono ?_
  rintro e w3 ⟨u, fs, rfl, hS⟩
  rw [show ([Value.slice a t cap, Value.slice ab n cb] : List Value).length = 2 from rfl, TS.out] at hS
  have hfl : fs.length = n := by rw [hS.fits.len]; exact SL.out
  rcases hS.row.shape with ⟨a5, cap5, rfl, h0⟩ | ⟨g5, cap5, e5, h0, hB5, hlt5, hc5, hm5⟩
  · have := congrArg List.length h0
    rw [cvals_length, List.length_nil] at this
    omega
  · rw [cvals_length, hfl] at e5
    rw [cvals_length, hfl] at hc5
    subst e5
    have hrow := hS.row
    have hbs : Below w.heap.size w w3 := below_step HB0.out hS.below HB0.out.size
    have hsz3 : w.heap.size + 3 ≤ w3.heap.size := by have := hS.below.size; simp at this; omega
    have c00 : w3.cell? ⟨w.heap.size, 0, none⟩ = some (.int .i64 n) := by rw [hS.below.cell (by simp; omega)]; go_simp
    have c01 : w3.cell? ⟨w.heap.size, 1, none⟩ = some (.int .i64 h) := by rw [hS.below.cell (by simp; omega)]; go_simp
    have r0 : w3.cell? ⟨w.heap.size + 1, 0, none⟩ = some (.int .i64 0) := by rw [hS.below.cell (by simp)]; go_simp
    have r1 : w3.cell? ⟨w.heap.size + 1, 1, none⟩ = some (.int .i64 0) := by rw [hS.below.cell (by simp)]; go_simp
    have r2 : w3.cell? ⟨w.heap.size + 1, 2, none⟩ = some (.slice none 0 0) := by rw [hS.below.cell (by simp)]; go_simp
    have q0 : w3.frozen? ⟨w.heap.size + 1, 0, none⟩ = false := by rw [hS.below.frozen (by simp)]; go_simp
    have q1 : w3.frozen? ⟨w.heap.size + 1, 1, none⟩ = false := by rw [hS.below.frozen (by simp)]; go_simp
    have q2 : w3.frozen? ⟨w.heap.size + 1, 2, none⟩ = false := by rw [hS.below.frozen (by simp)]; go_simp
    have hp := part_reads hrow hm5 hc5 hfl h hh
    have HP := Lib.hid hp
    have HCL := Lib.hid (fun (nn : Nat) => clone_any (w := w3.drewN nn) (v := .slice (some ⟨g5, 0, none⟩) h cap5) (xs := fs.take h) hp.2 (by rw [List.length_take]; omega))
    have HF := Lib.hid hS.fits
    have HBW := Lib.hid hbs
    have HFL := Lib.hid hfl
    have hg5 : w.heap.size + 3 ≤ g5 := by simp at hB5; omega
    have HCELL : Hid (∀ nn w4, Below (w3.drewN nn).heap.size (w3.drewN nn) w4 → w4.cell? ⟨w.heap.size, 0, none⟩ = some (.int .i64 n) ∧ w4.cell? ⟨w.heap.size, 1, none⟩ = some (.int .i64 h) ∧
        w4.cell? ⟨w.heap.size + 1, 0, none⟩ = some (.int .i64 0) ∧ w4.cell? ⟨w.heap.size + 1, 1, none⟩ = some (.int .i64 0) ∧ w4.cell? ⟨w.heap.size + 1, 2, none⟩ = some (.slice none 0 0) ∧
        w4.frozen? ⟨w.heap.size + 1, 0, none⟩ = false ∧ w4.frozen? ⟨w.heap.size + 1, 1, none⟩ = false ∧ w4.frozen? ⟨w.heap.size + 1, 2, none⟩ = false) := fun nn w4 hb4 =>
      ⟨by rw [hb4.cell (by show w.heap.size < w3.heap.size; omega)]; exact c00, by rw [hb4.cell (by show w.heap.size < w3.heap.size; omega)]; exact c01,
       by rw [hb4.cell (by show w.heap.size + 1 < w3.heap.size; omega)]; exact r0, by rw [hb4.cell (by show w.heap.size + 1 < w3.heap.size; omega)]; exact r1, by rw [hb4.cell (by show w.heap.size + 1 < w3.heap.size; omega)]; exact r2,
       by rw [hb4.frozen (by show w.heap.size + 1 < w3.heap.size; omega)]; exact q0, by rw [hb4.frozen (by show w.heap.size + 1 < w3.heap.size; omega)]; exact q1, by rw [hb4.frozen (by show w.heap.size + 1 < w3.heap.size; omega)]; exact q2⟩
    clear hp hS hrow hbs S TS SL HTR HBR HQ HT hbn hfl h0 hB5 hlt5
    have FIN : Hid (∀ w4 told a2, Row w4 w3.heap.size 45 told (cvals (fs.take h)) → Below w3.heap.size w3 w4 → (a2 = some ⟨g5, 0, none⟩ ∨ a2 = some ⟨g5, h, none⟩) → (h < n → a2 = some ⟨g5, h, none⟩) →
        WithTo n h T q w (.returned (.tuple #[.agg #[.int .i64 n, .int .i64 h, .slice a2 (n - h) (cap5 - h)], told])) (((w4.setCell ⟨w.heap.size + 1, 0, none⟩ (.int .i64 n)).setCell ⟨w.heap.size + 1, 1, none⟩ (.int .i64 h)).setCell ⟨w.heap.size + 1, 2, none⟩ (.slice a2 (n - h) (cap5 - h)))) := fun w4 told a2 hr4 hb4 ha hai => by
      have hb5 : Below w.heap.size w w4 := below_step HBW.out hb4 (by show w.heap.size ≤ w3.heap.size; omega)
      have hr3 : RdC w4 (.slice a2 (n - h) (cap5 - h)) (fs.drop h) := (HP.out.1 a2 ha hai).below hb4
      refine ⟨a2, cap5 - h, told, fs, rfl, HFL.out, HF.out, ?_, fun x hx => ?_, ?_, ((hb5.setCell (p := ⟨w.heap.size + 1, 0, none⟩) (by show w.heap.size ≤ w.heap.size + 1; omega) _).setCell (p := ⟨w.heap.size + 1, 1, none⟩) (by show w.heap.size ≤ w.heap.size + 1; omega) _).setCell (p := ⟨w.heap.size + 1, 2, none⟩) (by show w.heap.size ≤ w.heap.size + 1; omega) _⟩
      · obtain ⟨a', c', e1, k1, k2, k3⟩ := hr3
        refine ⟨a', c', e1, k1, k2, fun j hj => ?_⟩
        obtain ⟨g, o, e2, hg, hc⟩ := k3 j hj
        have hgg : g = g5 := by
          simp only [Value.slice.injEq] at e1
          rw [e2] at e1
          rcases ha with ha | ha <;> rw [ha] at e1 <;> simp at e1 <;> exact e1.1.1.symm
        subst hgg
        have hne : ¬ w.heap.size + 1 = g := by omega
        refine ⟨g, o, e2, by simp [World.setCell]; exact hg, ?_⟩
        have hx : ∀ k, ¬ (⟨w.heap.size + 1, k, none⟩ : Addr) = ⟨g, o + j, none⟩ := fun k e => hne (by simpa using congrArg Addr.block e)
        rw [World.cell?_setCell_other (h := by (first | (simp; done) | (simp; omega) | omega)), World.cell?_setCell_other (h := by (first | (simp; done) | (simp; omega) | omega)), World.cell?_setCell_other (h := by (first | (simp; done) | (simp; omega) | omega))]
        exact hc
      · rcases ha with ha | ha <;> rw [ha] at hx <;> cases hx <;> show w.heap.size ≤ g5 <;> omega
      · have hk : ∀ (W : World) (k : Nat) (x : Value), Row W w3.heap.size 45 told (cvals (fs.take h)) → Row (W.setCell ⟨w.heap.size + 1, k, none⟩ x) w3.heap.size 45 told (cvals (fs.take h)) := fun W k x hr => by
          refine hr.kept (row := some (w.heap.size + 1)) ⟨rfl, rfl, rfl, by simp [World.setCell], fun j hj hne => Below.heap_setCell _ _ _ _ (fun e => hne (by rw [e]))⟩ (.inr fun e => ?_)
          have := (hr.lt _ e).1
          omega
        exact (hk _ _ _ (hk _ _ _ (hk _ _ _ hr4))).base (by show w.heap.size ≤ w3.heap.size; omega)
    have hhc : h ≤ cap5 := by omega
    by_cases hch : cap5 = h
    · obtain rfl : n = h := by omega
      subst hch
      go_wp2
      go_region_law (first
        | (go_simp; go_at_call 82; refine (HCL.out _).mono ?_; rintro e w4 ⟨told, rfl, hr4, hb4⟩; obtain ⟨c00, c01, r0, r1, r2, q0, q1, q2⟩ := HCELL.out _ w4 hb4; have HR4 := Lib.hid hr4; have HB4 := Lib.hid hb4; clear hr4 hb4)
        | (trace_state; fail))
      all_goals
        have hfin := FIN.out w4 told (some ⟨g5, 0, none⟩) HR4.out ⟨HB4.out.os, HB4.out.tape, HB4.out.output, HB4.out.size, HB4.out.block⟩ (.inl rfl) (fun k => by omega)
        simp only [Nat.sub_self] at hfin
        have HFIN := Lib.hid hfin
        clear hfin
        go_wp2
        exact bodyPost_ret (v := .tuple #[.agg #[.int .i64 cap5, .int .i64 cap5, .slice (some ⟨g5, 0, none⟩) 0 0], told]) (by simp [results, Try.results79, go_sem, r0, r1, r2]) rfl HFIN.out
    · go_wp2
      go_region_law (first
        | (go_simp; go_at_call 82; refine (HCL.out _).mono ?_; rintro e w4 ⟨told, rfl, hr4, hb4⟩; obtain ⟨c00, c01, r0, r1, r2, q0, q1, q2⟩ := HCELL.out _ w4 hb4; have HR4 := Lib.hid hr4; have HB4 := Lib.hid hb4; clear hr4 hb4)
        | (trace_state; fail))
      all_goals
        have HFIN := Lib.hid (FIN.out w4 told (some ⟨g5, h, none⟩) HR4.out ⟨HB4.out.os, HB4.out.tape, HB4.out.output, HB4.out.size, HB4.out.block⟩ (.inr rfl) (fun k => rfl))
        go_wp2
        exact bodyPost_ret (v := .tuple #[.agg #[.int .i64 n, .int .i64 h, .slice (some ⟨g5, h, none⟩) (n - h) (cap5 - h)], told]) (by simp [results, Try.results79, go_sem, r0, r1, r2]) rfl HFIN.out

end Go.Proofs.Ytnhhmgnceicpkab
