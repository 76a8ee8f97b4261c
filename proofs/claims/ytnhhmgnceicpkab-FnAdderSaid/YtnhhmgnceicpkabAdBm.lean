import Derived.Test.YtnhhmgnceicpkabAdBl
/-
  AddBlock and FinishAdder of the program, ValidAdder of the model.
-/
set_option linter.unusedVariables false
set_option linter.unusedSimpArgs false
namespace Go.Proofs.Ytnhhmgnceicpkab
open Go.RowKit Flt Fast

theorem adder_any (s h : Int) (a : Option Addr) (t cap : Nat) (w : World) :
    Calls Try.prog 80 #[.agg #[.int .i64 s, .int .i64 h, .slice a t cap]] w fun e w' => e = .returned (.agg #[.int .i64 s, .int .i64 h, .slice a t cap]) ∧ Below w.heap.size w w' := by
  go_enter Try.func80, Try.ntmps80
  go_wp2
  exact bodyPost_ret (v := .agg #[.int .i64 s, .int .i64 h, .slice a t cap]) (by simp [results, Try.results80, go_sem]) rfl ⟨rfl, ((Below.refl _ _).alloc (Nat.le_refl _) _).alloc (by simp) _⟩

/-- What AddBlock gives. -/
def AddTo (n h : Nat) (T : List Z) (q : Nat → Z) (w : World) (e : Ending) (w' : World) : Prop :=
  ∃ a2 c2 told fs, e = .returned (.tuple #[.agg #[.int .i64 n, .int .i64 h, .slice a2 (n - h) c2], told, .int .i64 0]) ∧ fs.length = n ∧ FitsC fs (stepL T q n) ∧ RdC w' (.slice a2 (n - h) c2) (fs.drop h) ∧ (∀ x, a2 = some x → w.heap.size ≤ x.block) ∧
    Row w' w.heap.size 45 told (cvals (fs.take h)) ∧ Below w.heap.size w w'

theorem RdC.set {W : World} {a : Option Addr} {n cap : Nat} {xs : List C} (h : RdC W (.slice a n cap) xs) (b k : Nat) (u : Value) (hx : ∀ y, a = some y → b ≠ y.block) : RdC (W.setCell ⟨b, k, none⟩ u) (.slice a n cap) xs := by
  obtain ⟨a', cap', e, h1, h2, h3⟩ := h
  refine ⟨a', cap', e, h1, h2, fun j hj => ?_⟩
  simp only [Value.slice.injEq] at e
  obtain ⟨g, o, e2, hg, hc⟩ := h3 j hj
  have hne : ¬ b = g := hx ⟨g, o, none⟩ (by rw [e.1, e2])
  refine ⟨g, o, e2, by simp [World.setCell]; exact hg, ?_⟩
  have hx : ∀ k, ¬ (⟨b, k, none⟩ : Addr) = ⟨g, o + j, none⟩ := fun k e => hne (by simpa using congrArg Addr.block e)
  rw [World.cell?_setCell_other (h := hx k)]
  exact hc
theorem row_set {W : World} {B : Nat} {e : TypeId} {v : Value} {cs : List Value} (h : Row W B e v cs) (b k : Nat) (u : Value) (hb : b < B) : Row (W.setCell ⟨b, k, none⟩ u) B e v cs := by
  refine h.kept (row := some b) ⟨rfl, rfl, rfl, by simp [World.setCell], fun j hj hne => Below.heap_setCell _ _ _ _ (fun e => hne (by rw [e]))⟩ (.inr fun e => ?_)
  have := (h.lt _ e).1
  omega

set_option maxRecDepth 100000 in
set_option maxHeartbeats 8000000 in
theorem addBlock_any (n h : Nat) (h1 : 1 ≤ h) (hh : h ≤ n) (hn : n ≤ 256) (T : List Z) (q : Nat → Z) (a : Option Addr) (cap : Nat) (ts bs : List C) (vb : Value) (w : World)
    (hr : RdC w (.slice a ts.length cap) ts) (hT : FitsC ts T) (htn : ts.length = 0 ∨ ts.length = n - h) (hb : RdC w vb bs) (hbn : bs.length = n) (hq : ∀ i, i < n → IsC (bs.getD i (0, 0)) (q i)) :
    Calls Try.prog 31 #[.agg #[.int .i64 n, .int .i64 h, .slice a ts.length cap], vb] w (AddTo n h T q w) := by
  have hcapI : (ts.length : Int) ≤ 9223372036854775807 := by omega
  have V := Lib.hid (valid_impl n h a ts.length cap hcapI)
  rw [addB_t (s := n) (h := h) (t := ts.length) ⟨by omega, by omega, by omega⟩] at V
  have A1 := Lib.hid (addingOf_any n h undef a ts.length cap)
  have W := Lib.hid (fun (w1 : World) (hbw : Below w.heap.size w w1) => with_any n h h1 hh hn T q a cap ts bs vb w1 (hr.below hbw) hT (by omega) (hb.below hbw) hbn hq)
  have AD := Lib.hid (fun a2 c2 => adder_any n h a2 (n - h) c2)
  obtain ⟨ab, cb, rfl, hb1, hb2, -⟩ := hb
  obtain ⟨t, ht⟩ : ∃ t, ts.length = t := ⟨_, rfl⟩
  rw [ht] at V A1 W hcapI ⊢
  rw [hbn] at W ⊢
  have hb0 : Below w.heap.size w ((w.alloc (.cells #[.int .i64 n, .int .i64 h, .slice a t cap] 52)).alloc (.cells #[.int .i64 0, .int .i64 0, .slice none 0 0] 52)) := ((Below.refl _ _).alloc (Nat.le_refl _) _).alloc (by simp) _
  have HB0 := Lib.hid hb0
  have CF : Hid (∀ w2, Below ((w.alloc (.cells #[.int .i64 n, .int .i64 h, .slice a t cap] 52)).alloc (.cells #[.int .i64 0, .int .i64 0, .slice none 0 0] 52)).heap.size ((w.alloc (.cells #[.int .i64 n, .int .i64 h, .slice a t cap] 52)).alloc (.cells #[.int .i64 0, .int .i64 0, .slice none 0 0] 52)) w2 →
      w2.cell? ⟨w.heap.size, 0, none⟩ = some (.int .i64 n) ∧ w2.cell? ⟨w.heap.size, 1, none⟩ = some (.int .i64 h) ∧ w2.cell? ⟨w.heap.size, 2, none⟩ = some (.slice a t cap) ∧
      w2.cell? ⟨w.heap.size + 1, 0, none⟩ = some (.int .i64 0) ∧ w2.cell? ⟨w.heap.size + 1, 1, none⟩ = some (.int .i64 0) ∧ w2.cell? ⟨w.heap.size + 1, 2, none⟩ = some (.slice none 0 0) ∧
      w2.frozen? ⟨w.heap.size + 1, 0, none⟩ = false ∧ w2.frozen? ⟨w.heap.size + 1, 1, none⟩ = false ∧ w2.frozen? ⟨w.heap.size + 1, 2, none⟩ = false) := fun w2 hb =>
    ⟨by rw [hb.cell (by simp; omega)]; go_simp, by rw [hb.cell (by simp; omega)]; go_simp, by rw [hb.cell (by simp; omega)]; go_simp, by rw [hb.cell (by simp)]; go_simp, by rw [hb.cell (by simp)]; go_simp, by rw [hb.cell (by simp)]; go_simp, by rw [hb.frozen (by simp)]; go_simp, by rw [hb.frozen (by simp)]; go_simp, by rw [hb.frozen (by simp)]; go_simp⟩
  clear hr hT htn hq hbn hb0 ht
  go_enter Try.func31, Try.ntmps31
  go_wp2_with fail
  with_reducible refine (V.out _).mono ?_
  rintro e w2 ⟨rfl, hb2'⟩
  obtain ⟨d0, d1, d2, e0, e1, e2, f0, f1, f2⟩ := CF.out w2 hb2'
  have HB2 := Lib.hid hb2'
  clear hb2'
  go_wp2_with fail
  with_reducible refine (A1.out _).mono ?_
  rintro e w3 ⟨rfl, hb3⟩
  have HB3 := Lib.hid (below_step HB2.out hb3 HB2.out.size)
  clear hb3 d0 d1 d2 e0 e1 e2 f0 f1 f2
  obtain ⟨d0, d1, d2, e0, e1, e2, f0, f1, f2⟩ := CF.out w3 HB3.out
  have HBW3 := Lib.hid (below_step HB0.out HB3.out HB0.out.size)
  go_wp2_with fail
  with_reducible refine (W.out _ HBW3.out).mono ?_
  rintro e w4 ⟨a2, c2, told, fs, rfl, hfl, hff, hrd, hax, htold, hb4⟩
  have HB4 := Lib.hid (below_step HB3.out hb4 HB3.out.size)
  clear d0 d1 d2 e0 e1 e2 f0 f1 f2
  obtain ⟨d0, d1, d2, e0, e1, e2, f0, f1, f2⟩ := CF.out w4 HB4.out
  have hz34 : w3.heap.size ≤ w4.heap.size := hb4.size
  have hw3 : w.heap.size + 2 ≤ w3.heap.size := by have := HB3.out.size; simp at this; omega
  have hba : Below w4.heap.size w4 (w4.alloc (.cells #[.int .i64 n, .int .i64 h, .slice a2 (n - h) c2] 99)) := (Below.refl _ _).alloc (Nat.le_refl _) _
  have HRD := Lib.hid (hrd.below hba)
  have HTO := Lib.hid (htold.below hba (fun k e => (htold.lt k e).2))
  have HBA := Lib.hid (below_step HB4.out hba HB4.out.size)
  have HFL := Lib.hid hfl
  have HFF := Lib.hid hff
  have HAX : Hid (∀ x, a2 = some x → w.heap.size + 2 ≤ x.block) := fun x hx => by have := hax x hx; omega
  obtain ⟨at', ct, rfl⟩ := cform htold.reads
  have hz5 : (w4.alloc (.cells #[.int .i64 n, .int .i64 h, .slice a2 (n - h) c2] 99)).heap.size = w4.heap.size + 1 := by simp
  clear hfl hff hrd hax htold hb4 hba d0 d1 d2 e0 e1 e2 f0 f1 f2
  go_wp2_with fail
  refine (AD.out a2 c2 _).mono ?_
  rintro e w6 ⟨rfl, hb6⟩
  have HB6 := Lib.hid (below_step HBA.out hb6 HBA.out.size)
  obtain ⟨d0, d1, d2, e0, e1, e2, f0, f1, f2⟩ := CF.out w6 HB6.out
  have HRD6 := Lib.hid (HRD.out.below hb6)
  have HTO6 := Lib.hid (HTO.out.below hb6 (fun k e => (HTO.out.lt k e).2))
  have hz6 : w4.heap.size + 1 ≤ w6.heap.size := by have := hb6.size; omega
  clear hb6 d0 d1 d2
  have hbw6 : Below w.heap.size w w6 := below_step HB0.out HB6.out HB0.out.size
  have HFIN : Hid (AddTo n h T q w (.returned (.tuple #[.agg #[.int .i64 n, .int .i64 h, .slice a2 (n - h) c2], .slice at' (cvals (fs.take h)).length ct, .int .i64 0])) (((w6.setCell ⟨w.heap.size + 1, 0, none⟩ (.int .i64 n)).setCell ⟨w.heap.size + 1, 1, none⟩ (.int .i64 h)).setCell ⟨w.heap.size + 1, 2, none⟩ (.slice a2 (n - h) c2))) :=
    ⟨a2, c2, _, fs, rfl, HFL.out, HFF.out, ((HRD6.out.set _ _ _ (fun y hy => by have := HAX.out y hy; omega)).set _ _ _ (fun y hy => by have := HAX.out y hy; omega)).set _ _ _ (fun y hy => by have := HAX.out y hy; omega), fun x hx => by have := HAX.out x hx; omega,
     (row_set (row_set (row_set HTO6.out _ _ _ (by omega)) _ _ _ (by omega)) _ _ _ (by omega)).base (by omega),
     ((hbw6.setCell (p := ⟨w.heap.size + 1, 0, none⟩) (by show w.heap.size ≤ w.heap.size + 1; omega) _).setCell (p := ⟨w.heap.size + 1, 1, none⟩) (by show w.heap.size ≤ w.heap.size + 1; omega) _).setCell (p := ⟨w.heap.size + 1, 2, none⟩) (by show w.heap.size ≤ w.heap.size + 1; omega) _⟩
  obtain ⟨lt, hlt⟩ : ∃ lt, (cvals (fs.take h)).length = lt := ⟨_, rfl⟩
  rw [hlt] at HFIN ⊢
  clear hbw6 hlt
  go_wp2
  exact bodyPost_ret (v := .tuple #[.agg #[.int .i64 n, .int .i64 h, .slice a2 (n - h) c2], .slice at' lt ct, .int .i64 0]) (by simp [results, Try.results31, go_sem, e0, e1, e2]) rfl HFIN.out

set_option maxRecDepth 100000 in
theorem validS_any (s h : Int) (a : Option Addr) (t cap : Nat) (ht : (t : Int) ≤ 9223372036854775807) (w : World) :
    Calls Try.prog 32 #[.agg #[.int .i64 s, .int .i64 h, .slice a t cap]] w fun e w' => e = .returned (.bool (addB s h t)) ∧ Below w.heap.size w w' := by
  have O := Lib.hid (ok_spec s h a t cap w.heap.size ht (w.alloc (.cells #[.int .i64 s, .int .i64 h, .slice a t cap] 52)) (by go_simp) (by go_simp) (by go_simp))
  obtain ⟨b, hb⟩ : ∃ b, addB s h t = b := ⟨_, rfl⟩
  rw [hb] at O ⊢
  clear hb ht
  go_enter Try.func32, Try.ntmps32
  go_wp2_with fail
  refine O.out.mono ?_
  rintro e w2 ⟨rfl, n, rfl⟩
  go_wp2
  go_ret
  exact ⟨rfl, below_draws ((Below.refl _ _).alloc (Nat.le_refl _) _) n⟩

set_option maxRecDepth 100000 in
set_option maxHeartbeats 4000000 in
theorem finish_any (n h : Nat) (h1 : 1 ≤ h) (hh : h ≤ n) (hn : n ≤ 256) (a : Option Addr) (cap : Nat) (ts : List C) (w : World) (hr : RdC w (.slice a ts.length cap) ts) (htn : ts.length = 0 ∨ ts.length = n - h) :
    Calls Try.prog 33 #[.agg #[.int .i64 n, .int .i64 h, .slice a ts.length cap]] w fun e w' => ∃ u, e = .returned (.tuple #[u, .int .i64 0]) ∧ Row w' w.heap.size 45 u (cvals ts) ∧ Below w.heap.size w w' := by
  have hcapI : (ts.length : Int) ≤ 9223372036854775807 := by omega
  have V := Lib.hid (valid_impl n h a ts.length cap hcapI)
  rw [addB_t (s := n) (h := h) (t := ts.length) ⟨by omega, by omega, by omega⟩] at V
  have CL := Lib.hid (fun w1 (hb : Below w.heap.size w w1) => clone_any (hr.below hb) (by omega))
  obtain ⟨t, ht⟩ : ∃ t, ts.length = t := ⟨_, rfl⟩
  rw [ht] at V CL hcapI ⊢
  have hb0 : Below w.heap.size w (w.alloc (.cells #[.int .i64 n, .int .i64 h, .slice a t cap] 52)) := (Below.refl _ _).alloc (Nat.le_refl _) _
  have HB0 := Lib.hid hb0
  have CF : Hid (∀ w2, Below (w.alloc (.cells #[.int .i64 n, .int .i64 h, .slice a t cap] 52)).heap.size (w.alloc (.cells #[.int .i64 n, .int .i64 h, .slice a t cap] 52)) w2 → w2.cell? ⟨w.heap.size, 2, none⟩ = some (.slice a t cap)) := fun w2 hb => by rw [hb.cell (by simp)]; go_simp
  clear hr htn hb0 ht
  go_enter Try.func33, Try.ntmps33
  go_wp2_with fail
  with_reducible refine (V.out _).mono ?_
  rintro e w2 ⟨rfl, hb2⟩
  have d2 := CF.out w2 hb2
  have HB2 := Lib.hid (below_step HB0.out hb2 HB0.out.size)
  clear hb2
  go_wp2_with fail
  with_reducible refine (CL.out _ HB2.out).mono ?_
  rintro e w3 ⟨u, rfl, hu, hb3⟩
  have HU := Lib.hid (hu.base HB2.out.size)
  have HB3 := Lib.hid (below_step HB2.out hb3 HB2.out.size)
  clear hu hb3
  go_wp2
  go_ret2
  exact ⟨u, rfl, HU.out, HB3.out⟩

end Go.Proofs.Ytnhhmgnceicpkab
