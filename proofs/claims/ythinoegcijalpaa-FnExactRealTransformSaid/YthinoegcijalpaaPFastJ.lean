import Derived.Test.YthinoegcijalpaaPFastI
/-
  The program's fast transform: the whole.
-/
set_option linter.unusedVariables false
set_option linter.unusedSimpArgs false
namespace Go.Proofs.Ythinoegcijalpaa
open Go.RowKit Flt Turn Fast

theorem RowsJ.parts {w : World} {B p m : Nat} {Q : Nat → List C → Prop} {vs : List Value} {ys : Nat → List C} (h : RowsJ w B p p Q vs ys) (hm : ∀ i, i < p → (ys i).length = m) : PartsJ w w.heap.size p m (.slice (some ⟨B, 0, none⟩) p p) vs ys := by
  have hr := h.row
  rw [Nat.sub_self, List.replicate_zero, List.append_nil] at hr
  exact ⟨h.len, ⟨⟨_, hr⟩, fun k e => (hr.lt k e).2⟩, fun i hi => ⟨⟨⟨_, (h.each i hi).1⟩, fun k e => ((h.each i hi).1.lt k e).2⟩, (h.each i hi).2.1, hm i hi⟩⟩

set_option maxRecDepth 100000 in
set_option maxHeartbeats 8000000 in
theorem fastI_step (N : Nat) (ih : FastIOK N) (xs : List C) (v : Value) (B b c K0 T0 : Nat) (w : World) (hN : xs.length < N + 1) (h1 : 1 < xs.length) (h2 : xs.length ≤ 1024) (hw : WfC xs) (h : Row w B 34 v (cvals xs)) (he : Env w b c K0 T0) (hcf : c + costT xs.length ≤ 1000000000000000000) :
    Calls Try.prog 28 #[v, .pointer (some ⟨K0, 0, none⟩), .pointer (some ⟨T0, 0, none⟩)] w (FastIR xs b c w) := by
  obtain ⟨a, cap, rfl⟩ := h.reads.form'
  have hcl : (cvals xs).length = xs.length := cvals_length xs
  rw [hcl] at h ⊢
  obtain ⟨n, hn⟩ : ∃ n, xs.length = n := ⟨_, rfl⟩
  rw [hn] at h h1 h2 hN hcf ⊢
  obtain ⟨W1, hW1⟩ : ∃ x, w.alloc (.cells #[.slice a n cap] 23) = x := ⟨_, rfl⟩
  have hb1 : Below w.heap.size w W1 := by rw [← hW1]; exact (Below.refl _ _).alloc (Nat.le_refl _) _
  have hs1 : W1.heap.size = w.heap.size + 1 := by rw [← hW1]; simp
  have x1 : W1.cell? ⟨w.heap.size, 0, none⟩ = some (.slice a n cap) := by rw [← hW1]; simp
  have r1 : Row W1 B 34 (.slice a n cap) (cvals xs) := h.below hb1 (fun k e => (h.lt k e).2)
  have e1 := he.below hb1
  have HB1 := Lib.hid hb1
  have HX1 := Lib.hid x1
  have HR1 := Lib.hid r1
  have HE1 := Lib.hid e1
  have HS1 := Lib.hid hs1
  have HXL := Lib.hid hn
  have k1 := e1.known
  have HW := Lib.hid hw
  clear hb1 r1 e1 h he hn hcl hw hs1
  go_enter Try.func28, Try.ntmps28
  go_wp2_with fail
  refine (least_impl n h1 h2 _).mono ?_
  rintro e W1' ⟨p, rfl, hp, rfl⟩
  clear hW1
  have hp2 := hp.two
  have hpn := hp.le h1
  obtain ⟨m, hm⟩ : ∃ m, n / p = m := ⟨_, rfl⟩
  have hpm : n = p * m := by rw [← hm, Nat.mul_comm]; exact (Nat.div_mul_cancel (Nat.dvd_of_mod_eq_zero hp.dvd)).symm
  have hm1 : 1 ≤ m := by rw [← hm]; exact (Nat.le_div_iff_mul_le (by omega)).2 (by omega)
  have hmn : m < n := by
    have : 2 * m ≤ p * m := Nat.mul_le_mul_right _ hp2
    omega
  obtain ⟨W2, hW2⟩ : ∃ x, W1'.alloc (.cells #[.int .i64 (p : Int)] 2) = x := ⟨_, rfl⟩
  have hb2 : Below W1'.heap.size W1' W2 := by rw [← hW2]; exact (Below.refl _ _).alloc (Nat.le_refl _) _
  have hs2 : W2.heap.size = W1'.heap.size + 1 := by rw [← hW2]; simp
  have p2 : W2.cell? ⟨W1'.heap.size, 0, none⟩ = some (.int .i64 (p : Int)) := by rw [← hW2]; simp
  have x2 : W2.cell? ⟨w.heap.size, 0, none⟩ = some (.slice a n cap) := by rw [hb2.cell (by show w.heap.size < _; have := HS1.out; omega)]; exact HX1.out
  have r2 : Row W2 B 34 (.slice a n cap) (cvals xs) := HR1.out.below hb2 (fun k e => (HR1.out.lt k e).2)
  have e2 := HE1.out.below hb2
  have hcs := costT_step hp2 hm1
  rw [← hpm] at hcs
  have hcm := costT_le (n := m) (by omega)
  have hpcm : ∀ i, i ≤ p → i * costT m ≤ 1024 * 20000000 := fun i hi => Nat.mul_le_mul (by omega) hcm
  have L : ∀ nn, Calls Try.prog 32 #[.int .i64 p, .func (.func 33) #[] #[.pointer (some ⟨T0, 0, none⟩), .pointer (some ⟨w.heap.size, 0, none⟩), .pointer (some ⟨W1'.heap.size, 0, none⟩)]] (W2.drewN nn) fun e w' =>
      ∃ vs ys, e = .returned (.slice (some ⟨(W2.drewN nn).heap.size, 0, none⟩) p p) ∧ RowsJ w' (W2.drewN nn).heap.size p p (fun i y => Fast (every (zsOf xs) i p) (zsOf y) ∧ y.length = m) vs ys ∧ Cache w' b (c + p * costT m) ∧ Keeps (W2.drewN nn).heap.size b (W2.drewN nn) w' := fun nn =>
    listOf_rows 33 _ p (by omega) b c (costT m) _ (W2.drewN nn) (fun _ _ => rfl) (e2.cache.drewN nn) (fun i w1 hi hk hc => by
      have hk' : Keeps W2.heap.size b W2 w1 := ((Keeps.refl _ _ _).draws nn).trans hk
      have := inner_any N ih xs p m i a n cap B b (c + i * costT m) K0 T0 w.heap.size W1'.heap.size w1 HXL.out hpm hi (by omega) h2 (by omega) HW.out (r2.keeps hk' (fun k e => (r2.lt k e).2) (r2.notCache e2.cache)) (e2.keeps hk' hc)
        (by rw [hk'.cell (World.block_lt_of_cell? _ _ x2) (cell_notCache x2 e2.cache)]; exact x2) (by rw [hk'.cell (World.block_lt_of_cell? _ _ p2) (cell_notCache p2 e2.cache)]; exact p2) (by have h9 : (i + 1) * costT m ≤ p * costT m := Nat.mul_le_mul_right _ hi; rw [Nat.add_mul, Nat.one_mul] at h9; omega)
      refine Calls.mono this ?_
      rintro e w2 ⟨v, y, h1, h2, h3, h4, h5, h6⟩
      exact ⟨v, y, h1, h2, h3, h4, by rw [show c + (i + 1) * costT m = c + i * costT m + costT m by rw [Nat.add_mul, Nat.one_mul]; omega]; exact h5, h6⟩)
  have k2 := e2.known
  have bK := World.block_lt_of_cell? _ _ k2
  have nK := cell_notCache k2 e2.cache
  have J : ∀ (w3 : World) vs ys, RowsJ w3 W2.heap.size p p (fun i y => Fast (every (zsOf xs) i p) (zsOf y) ∧ y.length = m) vs ys → Cache w3 b (c + p * costT m) → Keeps W2.heap.size b W2 w3 →
      Calls Try.prog 31 #[.map (some b), .slice (some ⟨W2.heap.size, 0, none⟩) p p] w3 (FastIR xs b c w) := fun w3 vs ys hr hc hk => by
    refine Calls.mono (joinParts_any (hr.parts (fun i hi => (hr.each i hi).2.2.2)) hc hp2 hm1 (by rw [← hpm]; exact h2) (by have := hpcm p (Nat.le_refl _); omega)) ?_
    rintro e w4 ⟨v', os, rfl, hro, hwo, hz, hc4, hk4⟩
    have hsz : w.heap.size ≤ w3.heap.size := by have := hk.size; have := HS1.out; omega
    have hst : Fast (zsOf xs) (joinP n p (fun i => zsOf (ys i))) := by
      have := Fast.step (xs := zsOf xs) (p := p) (ys := fun i => zsOf (ys i)) (by rw [zsOf_length, HXL.out]; exact h1) (by rw [zsOf_length, HXL.out]; exact hp) (fun i hi => (hr.each i hi).2.2.1)
      rwa [zsOf_length, HXL.out] at this
    refine ⟨v', os, rfl, hro.base hsz, hwo, by rw [hz, ← hpm]; exact hst, hc4.mono (by rw [HXL.out, ← hpm]; omega), ?_⟩
    have hk2 : Keeps w.heap.size b w W2 := (Keeps.of_below HB1.out).trans (.of_below (hb2.mono (by have := HS1.out; omega)))
    exact (hk2.trans (hk.mono (by have := HS1.out; omega))).keeps hk4 hsz
  have HL := Lib.hid L
  have HJ := Lib.hid J
  clear L J hp hpm hm hcs hpcm hcm r2 e2 hb2 x2 hs2 HR1 HE1 HX1 HB1
  go_wp2
  clear hW2
  go_region_with (first
    | (go_at_call 32; refine (HL.out _).mono ?_; rintro e w3 ⟨vs, ys, rfl, hr, hc, hk⟩; have hk0 : Keeps W2.heap.size b W2 w3 := ((Keeps.refl _ _ _).draws _).trans hk; have k3 : w3.cell? ⟨K0, 0, none⟩ = some (.map (some b)) := (hk0.cell bK nK).trans k2; have JJ := Lib.hid (HJ.out w3 vs ys hr hc hk0); clear hr hc hk hk0)
    | (go_at_call 31; refine JJ.out.mono ?_; rintro e w4 ⟨v4, y4, rfl, hr4, hw4, hf4, hc4, hk4⟩; have H4 : Hid (FastIR xs b c w (.returned v4) w4) := ⟨v4, y4, rfl, hr4, hw4, hf4, hc4, hk4⟩; clear hr4 hw4 hf4 hc4 hk4))
  all_goals
    go_wp2
    go_ret
    exact H4.out

theorem fastI_all : ∀ N, FastIOK N
  | 0 => fun xs v B b c K0 T0 w h => absurd h (Nat.not_lt_zero _)
  | N + 1 => fun xs v B b c K0 T0 w h h2 hw hr he hc => by
    by_cases h1 : xs.length ≤ 1
    · exact fastI_small xs v B b c K0 T0 w h1 hw hr he
    · exact fastI_step N (fastI_all N) xs v B b c K0 T0 w h (by omega) h2 hw hr he hc

end Go.Proofs.Ythinoegcijalpaa
