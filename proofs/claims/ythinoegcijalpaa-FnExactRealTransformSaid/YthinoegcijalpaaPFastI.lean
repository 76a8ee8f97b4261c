import Derived.Test.YthinoegcijalpaaPList
/-
  The program's fast transform: its closures by induction on the length, and the whole.
-/
set_option linter.unusedVariables false
set_option linter.unusedSimpArgs false
namespace Go.Proofs.Ythinoegcijalpaa
open Go.RowKit Flt Turn Fast

def costT (n : Nat) : Nat := if n ≤ 1 then 0 else 16 * n * n
theorem costT_le {n : Nat} (h : n ≤ 1024) : costT n ≤ 20000000 := by
  unfold costT
  split
  · omega
  · exact Nat.le_trans (Nat.mul_le_mul (by omega : 16 * n ≤ 16384) h) (by decide)
theorem costT_step {p m : Nat} (hp : 2 ≤ p) (hm : 1 ≤ m) : p * costT m + 16 * (p * m) * p ≤ costT (p * m) := by
  have hn : ¬ p * m ≤ 1 := by
    have : 2 * 1 ≤ p * m := Nat.mul_le_mul hp hm
    omega
  unfold costT
  rw [if_neg hn]
  by_cases h : m ≤ 1
  · rw [if_pos h]
    obtain rfl : m = 1 := by omega
    rw [Nat.mul_one]; omega
  · rw [if_neg h]
    have e1 : p * (16 * m * m) = 16 * (p * m) * m := by simp [Nat.mul_comm, Nat.mul_left_comm, Nat.mul_assoc]
    rw [e1, ← Nat.mul_add]
    apply Nat.mul_le_mul_left
    obtain ⟨a, rfl⟩ : ∃ a, p = a + 2 := ⟨p - 2, by omega⟩
    obtain ⟨d, rfl⟩ : ∃ d, m = d + 2 := ⟨m - 2, by omega⟩
    have : (a + 2) * (d + 2) = a * d + 2 * a + 2 * d + 4 := by rw [Nat.add_mul, Nat.mul_add, Nat.mul_add]; omega
    omega

/-- What the closures read. -/
structure Env (w : World) (b c K0 T0 : Nat) : Prop where
  known : w.cell? ⟨K0, 0, none⟩ = some (.map (some b))
  func : w.cell? ⟨T0, 0, none⟩ = some (.func (.func 28) #[] #[.pointer (some ⟨K0, 0, none⟩), .pointer (some ⟨T0, 0, none⟩)])
  cache : Cache w b c
section
variable {w w' : World} {b c K0 T0 : Nat}
theorem Env.below (h : Env w b c K0 T0) (hb : Below w.heap.size w w') : Env w' b c K0 T0 :=
  ⟨by rw [hb.cell (World.block_lt_of_cell? _ _ h.known)]; exact h.known, by rw [hb.cell (World.block_lt_of_cell? _ _ h.func)]; exact h.func, h.cache.below hb⟩
theorem Env.keeps {c' : Nat} (h : Env w b c K0 T0) (hk : Keeps w.heap.size b w w') (hc : Cache w' b c') : Env w' b c' K0 T0 :=
  ⟨by rw [hk.cell (World.block_lt_of_cell? _ _ h.known) (cell_notCache h.known h.cache)]; exact h.known, by rw [hk.cell (World.block_lt_of_cell? _ _ h.func) (cell_notCache h.func h.cache)]; exact h.func, hc⟩
end

/-- What the program's fast transform returns. -/
def FastIR (xs : List C) (b c : Nat) (w : World) (e : Ending) (w' : World) : Prop :=
  ∃ v ys, e = .returned v ∧ Row w' w.heap.size 34 v (cvals ys) ∧ WfC ys ∧ Fast (zsOf xs) (zsOf ys) ∧ Cache w' b (c + costT xs.length) ∧ Keeps w.heap.size b w w'

def FastIOK (N : Nat) : Prop := ∀ (xs : List C) (v : Value) (B b c K0 T0 : Nat) (w : World), xs.length < N → xs.length ≤ 1024 → WfC xs → Row w B 34 v (cvals xs) → Env w b c K0 T0 → c + costT xs.length ≤ 1000000000000000000 →
  Calls Try.prog 28 #[v, .pointer (some ⟨K0, 0, none⟩), .pointer (some ⟨T0, 0, none⟩)] w (FastIR xs b c w)

set_option maxRecDepth 100000 in
set_option maxHeartbeats 4000000 in
theorem fastI_small (xs : List C) (v : Value) (B b c K0 T0 : Nat) (w : World) (hl : xs.length ≤ 1) (hw : WfC xs) (h : Row w B 34 v (cvals xs)) (he : Env w b c K0 T0) :
    Calls Try.prog 28 #[v, .pointer (some ⟨K0, 0, none⟩), .pointer (some ⟨T0, 0, none⟩)] w (FastIR xs b c w) := by
  obtain ⟨a, cap, rfl⟩ := h.reads.form'
  obtain ⟨n, hn⟩ : ∃ n, xs.length = n := ⟨_, rfl⟩
  have hb1 : Below w.heap.size w (w.alloc (.cells #[.slice a (cvals xs).length cap] 23)) := (Below.refl _ _).alloc (Nat.le_refl _) _
  have E := Lib.hid (everyOf_any (h.below hb1 (fun k e => (h.lt k e).2)).reads 1 n 0 (by rw [hn, Nat.one_mul]) (by omega) (by omega) (by omega))
  have hpo : partN xs 0 1 n = xs := by rw [← hn]; exact partN_one xs
  have HB := Lib.hid hb1
  have HE := Lib.hid he
  have HW := Lib.hid hw
  have HN := Lib.hid hn
  rw [hpo] at E
  have hl1 : n ≤ 1 := by omega
  have hcl : (cvals xs).length = n := by rw [cvals_length, hn]
  rw [hcl] at E HB ⊢
  clear h he hw hb1 hn hpo hl hcl
  go_enter Try.func28, Try.ntmps28
  go_wp2_with fail
  refine E.out.mono ?_
  rintro e w1 ⟨v', rfl, hr, hb⟩
  have hsz : w.heap.size ≤ (w.alloc (.cells #[.slice a n cap] 23)).heap.size := HB.out.size
  have HR := Lib.hid (hr.base hsz)
  have hbb := HB.out.trans (hb.mono hsz)
  have HBB := Lib.hid hbb
  clear hr hb E
  go_wp2
  go_ret
  exact ⟨_, xs, rfl, HR.out, HW.out, .small (by rw [zsOf_length, HN.out]; exact hl1), (HE.out.cache.below HBB.out).mono (Nat.le_add_right _ _), Keeps.of_below HBB.out⟩

set_option maxRecDepth 100000 in
set_option maxHeartbeats 4000000 in
theorem inner_any (N : Nat) (ih : FastIOK N) (xs : List C) (p m r : Nat) (a : Option Addr) (n cap B b c K0 T0 X0 P0 : Nat) (w : World) (hn : xs.length = n) (hpm : n = p * m) (hr : r < p) (hp : p ≤ 1024) (hl : n ≤ 1024) (hm : m < N) (hw : WfC xs) (hrow : Row w B 34 (.slice a n cap) (cvals xs)) (he : Env w b c K0 T0)
    (hX : w.cell? ⟨X0, 0, none⟩ = some (.slice a n cap)) (hP : w.cell? ⟨P0, 0, none⟩ = some (.int .i64 (p : Int))) (hcf : c + costT m ≤ 1000000000000000000) :
    Calls Try.prog 33 #[.int .i64 r, .pointer (some ⟨T0, 0, none⟩), .pointer (some ⟨X0, 0, none⟩), .pointer (some ⟨P0, 0, none⟩)] w fun e w2 => ∃ v y, e = .returned v ∧ Row w2 w.heap.size 34 v (cvals y) ∧ WfC y ∧ (Fast (every (zsOf xs) r p) (zsOf y) ∧ y.length = m) ∧ Cache w2 b (c + costT m) ∧ Keeps w.heap.size b w w2 := by
  have hmn : m ≤ n := by
    rw [hpm]; exact Nat.le_mul_of_pos_left _ (by omega)
  have E := Lib.hid (fun nn => everyOf_any (w := w.drewN nn) (hrow.drewN nn).reads p m r (by omega) hr hp (by omega))
  have hpl : (partN xs r p m).length = m := partN_length xs r p m
  have hpw : WfC (partN xs r p m) := partN_wf hw (by rw [hn]; exact hpm) hr (Nat.le_refl m)
  have hev : zsOf (partN xs r p m) = every (zsOf xs) r p := part_every (by omega) (by rw [hn]; exact hpm) hr
  have REC := Lib.hid (fun (w2 : World) (v' : Value) (hr2 : Row w2 w.heap.size 34 v' (cvals (partN xs r p m))) (he2 : Env w2 b c K0 T0) => ih (partN xs r p m) v' w.heap.size b c K0 T0 w2 (by rw [hpl]; exact hm) (by rw [hpl]; omega) hpw hr2 he2 (by rw [hpl]; exact hcf))
  have HFAST : Hid (∀ y : List C, Fast (zsOf (partN xs r p m)) (zsOf y) → Fast (every (zsOf xs) r p) (zsOf y) ∧ y.length = m) := fun y hy => by
    refine ⟨hev ▸ hy, ?_⟩
    have := hy.length
    rw [zsOf_length, zsOf_length, hpl] at this
    exact this
  have HPL := Lib.hid hpl
  have HE := Lib.hid he
  have t0 := he.func
  have bT := World.block_lt_of_cell? _ _ he.func
  have bX := World.block_lt_of_cell? _ _ hX
  have bP := World.block_lt_of_cell? _ _ hP
  clear hpw hev hrow hw he hpl hpm hn ih
  go_enter Try.func33, Try.ntmps33
  go_wp2
  go_region_with (first
    | (go_at_call 29; refine (E.out _).mono ?_; rintro e w2 ⟨v', rfl, hr2, hb2⟩; have t2 := (hb2.cell (p := ⟨T0, 0, none⟩) bT).trans t0; have HR2 : Hid (Row w2 w.heap.size 34 v' (cvals (partN xs r p m))) := hr2; have HB2 : Hid (Below w.heap.size w w2) := (below_draws (Below.refl _ _) _).trans hb2; clear hr2 hb2)
    | (go_at_call 28; refine (REC.out w2 v' HR2.out (HE.out.below HB2.out)).mono ?_; rintro e w3 ⟨v3, y, rfl, hr3, hw3, hf3, hc3, hk3⟩; have H3 : Hid (Row w3 w.heap.size 34 v3 (cvals y) ∧ WfC y ∧ (Fast (every (zsOf xs) r p) (zsOf y) ∧ y.length = m) ∧ Cache w3 b (c + costT m) ∧ Keeps w.heap.size b w w3) := ⟨hr3.base HB2.out.size, hw3, HFAST.out y hf3, by rw [HPL.out] at hc3; exact hc3, (Keeps.of_below HB2.out).keeps hk3 HB2.out.size⟩; clear hr3 hw3 hf3 hc3 hk3))
  all_goals
    go_wp2
    go_ret
    exact ⟨v3, y, rfl, H3.out⟩

end Go.Proofs.Ythinoegcijalpaa
