import Derived.Test.YtpobbicbfnglaaaNumC
import Derived.Deep.RegionWith
/-
  mapSignal, whatever function is taken (written by genmap.py).
-/
set_option linter.unusedVariables false
set_option linter.unusedSimpArgs false
namespace Go.Proofs.Ytpobbicbfnglaaa
open Go.RowKit Flt Fast

/-- Narrow complex numbers as values. -/
def nval (p : C) : Value := .complex .f32 p.1 p.2
def nvals (xs : List C) : List Value := xs.map nval
theorem nvals_length (xs : List C) : (nvals xs).length = xs.length := by simp [nvals]
theorem nvals_getD {xs : List C} {j : Nat} (h : j < xs.length) : (nvals xs).getD j undef = .complex .f32 (xs.getD j (0, 0)).1 (xs.getD j (0, 0)).2 := getD_map _ xs (0, 0) h
def fval (x : Nat) : Value := .float .f64 x
def fvals (xs : List Nat) : List Value := xs.map fval
theorem fvals_length (xs : List Nat) : (fvals xs).length = xs.length := by simp [fvals]
theorem fvals_getD {xs : List Nat} {j : Nat} (h : j < xs.length) : (fvals xs).getD j undef = .float .f64 (xs.getD j 0) := getD_map _ xs 0 h
theorem info_f64' : (Try.prog.info? 29).map (fun i => (i.zero, i.size, i.bytes)) = some (some (.float .f64 0), 1, 8) := by kernel_rfl

/-- The next place of a row that is being filled. -/
theorem fillV {vs : List Value} {n k : Nat} (hk : k < n) (hx : vs.length = k) (z u : Value) :
    (vs ++ List.replicate (n - k) z).set k u = (vs ++ [u]) ++ List.replicate (n - (k + 1)) z := by
  rw [List.set_append_right _ _ (by omega), hx, Nat.sub_self]
  obtain ⟨m, hm⟩ : ∃ m, n - k = m + 1 := ⟨n - k - 1, by omega⟩
  rw [hm, List.replicate_succ, List.set_cons_zero, show n - (k + 1) = m by omega, List.append_assoc]
  rfl

theorem snocGood {α : Type} {d : α} {xs : List α} {p : α} {k : Nat} {G : Nat → α → Prop} (hx : xs.length = k) (hg : ∀ i, i < k → G i (xs.getD i d)) (hp : G k p) :
    (xs ++ [p]).length = k + 1 ∧ ∀ i, i < k + 1 → G i ((xs ++ [p]).getD i d) := by
  refine ⟨by simp [hx], fun i hi => ?_⟩
  rcases Nat.lt_or_eq_of_le (Nat.le_of_lt_succ hi) with h | h
  · rw [show (xs ++ [p]).getD i d = xs.getD i d by simp [List.getD, List.getElem?_append_left, hx, h]]
    exact hg i h
  · subst h
    rw [show (xs ++ [p]).getD i d = p by simp [List.getD, ← hx]]
    exact hp

/-- What lies in a row stays behind whatever leaves the blocks that are there. -/
theorem Reads.below {w w' : World} {v : Value} {cs : List Value} (h : Reads w v cs) (hb : Below w.heap.size w w') : Reads w' v cs := by
  cases h with
  | none a cap => exact .none a cap
  | row g cap L cs hL h0 hc hm hh => exact .row g cap L cs hL h0 hc hm fun j hj => by rw [hb.cell (World.block_lt_of_cell? _ _ (hh j hj)), hh j hj]

/-- What mapSignal returns. -/
def MapsTo {α : Type} (e : TypeId) (val : List α → List Value) (d : α) (n : Nat) (G : Nat → α → Prop) (w : World) (en : Ending) (w' : World) : Prop :=
  ∃ v qs, en = .returned (.tuple #[v, .int .i64 0]) ∧ Row w' w.heap.size e v (val qs) ∧ qs.length = n ∧ (∀ i, i < n → G i (qs.getD i d)) ∧ Below w.heap.size w w'

set_option maxRecDepth 100000 in
set_option maxHeartbeats 4000000 in
theorem map_f64_f64 {v : Value} {xs : List Nat} {w : World} (h : Reads w v (fvals xs)) (hl : xs.length ≤ 256) (fn : Nat) (capt : Array Value)
    (hfn : ∀ (args : Array Value) (w : World), (callFunc fn args).run Try.prog w = .ok (.enter fn args) w) (G : Nat → Nat → Prop)
    (hcall : ∀ i w1, i < xs.length → Below w.heap.size w w1 → Calls Try.prog fn (#[.float .f64 (xs.getD i 0)] ++ capt) w1 fun e w2 => ∃ q : Nat, e = .returned (fval q) ∧ G i q ∧ Below w1.heap.size w1 w2) :
    Calls Try.prog 68 #[v, .func (.func fn) #[] capt] w (MapsTo 29 fvals 0 xs.length G w) := by
  obtain ⟨i0, hi, hz0, hz1, hz2⟩ := info_parts info_f64'
  have HF : Hid (∀ i w1, i < xs.length → Below w.heap.size w w1 → Calls Try.prog fn (#[.float .f64 (xs.getD i 0)] ++ capt) w1 fun e w2 => ∃ q : Nat, e = .returned (fval q) ∧ G i q ∧ Below w1.heap.size w1 w2) := hcall
  clear hcall
  generalize hcs : fvals xs = cs at h
  have hcl : cs.length = xs.length := by rw [← hcs, fvals_length]
  cases h with
  | none a cap =>
    have h0 : xs.length = 0 := by rw [← hcl]; rfl
    rw [h0]
    clear hcs hcl h0 HF hl
    go_enter Try.func68, Try.ntmps68
    go_wp2_with (at_make; refine wpList_make_full _ rfl _ _ 22 rfl w.heap.size 29 i0 (.float .f64 0) 1 Try.underlying22 hi hz0 hz1 .i64 .i64 _ _ 0 rfl rfl rfl rfl (by rw [hz2]; omega) (by simp only [maxLen]; omega) (Nat.le_refl _) ?_)
    intro w1 hown hg1
    rw [toList_madeCells_one] at hown
    have HO : Hid (Row w1 w.heap.size 29 (.slice (some ⟨w.heap.size, 0, none⟩) 0 0) []) := by
      show w1.ownsRow _ _ _ _ _ _
      simpa using hown
    have HG : Hid (Below w.heap.size w w1) := (Below.refl _ _).grown hg1 (Nat.le_refl _) (fun b e => by cases e)
    clear hown hg1 hi hz0 hz1 hz2
    go_wp2
    refine wp_loop_rounds 1 ?_
    rw [rounds_succ]
    go_wp2
    go_ret2
    exact ⟨_, [], rfl, HO.out, rfl, fun i hi => by omega, HG.out⟩
  | row g cap L cs hL h0 hc hm hcell =>
    obtain rfl : L = xs.length := by rw [← hL]; exact hcl
    obtain ⟨L, hxl⟩ : ∃ L, xs.length = L := ⟨_, rfl⟩
    rw [hxl] at hl h0 hc ⊢
    have hmax := maxLen_int (Nat.le_trans hc hm)
    have hgl : g < w.heap.size := World.block_lt_of_cell? _ _ (hcell 0 (by omega))
    have HC : Hid (∀ j, j < L → w.cell? ⟨g, j, none⟩ = some (.float .f64 (xs.getD j 0))) := fun j hj => by rw [hcell j (by omega), ← hcs, fvals_getD (by omega)]
    have HX := Lib.hid hxl
    clear hcell hcs hcl hL hm hxl
    go_enter Try.func68, Try.ntmps68
    go_wp2_with (at_make; refine wpList_make_full _ rfl _ _ 22 rfl w.heap.size 29 i0 (.float .f64 0) 1 Try.underlying22 hi hz0 hz1 .i64 .i64 _ _ L rfl rfl rfl rfl (by rw [hz2]; omega) (by simp only [maxLen]; omega) (Nat.le_refl _) ?_)
    intro w1 hown hg1
    rw [toList_madeCells_one] at hown
    have HO : Hid (Row w1 w.heap.size 29 (.slice (some ⟨w.heap.size, 0, none⟩) L L) (List.replicate L (.float .f64 0))) := by
      show w1.ownsRow _ _ _ _ _ _
      simpa using hown
    have HG : Hid (Below w.heap.size w w1) := (Below.refl _ _).grown hg1 (Nat.le_refl _) (fun b e => by cases e)
    clear hown hg1 hi hz0 hz1 hz2
    go_wp2
    go_loopw [16] (fun i wr => ∃ (k : Nat) (qs : List Nat), i = .int .i64 k ∧ k ≤ L ∧ qs.length = k ∧ Row wr w.heap.size 29 (.slice (some ⟨w.heap.size, 0, none⟩) L L) (fvals qs ++ List.replicate (L - k) (.float .f64 0)) ∧ (∀ j, j < k → G j (qs.getD j 0)) ∧ Below w.heap.size w wr) (fun i _ => L - (intOf i).toNat)
    case atStart => exact ⟨0, [], rfl, Nat.zero_le _, rfl, HO.out, fun j hj => by omega, HG.out⟩
    case round =>
      obtain ⟨k, qs, rfl, hk, hx, hrw, hgd, hbw⟩ := hrel
      have HQ := Lib.hid hx
      have HRW := Lib.hid hrw
      have HGD := Lib.hid hgd
      have HBW := Lib.hid hbw
      clear hx hrw hgd hbw
      by_cases hlt : k < L
      · have c1 : wr.cell? ⟨g, k, none⟩ = some (.float .f64 (xs.getD k 0)) := by rw [HBW.out.cell hgl]; exact HC.out k hlt
        have hcall := HF.out k wr (by rw [HX.out]; exact hlt) HBW.out
        obtain ⟨a, hab⟩ : ∃ q, xs.getD k 0 = q := ⟨_, rfl⟩
        rw [hab] at c1 hcall
        clear hab
        go_wp2_with fail
        refine hcall.mono ?_
        rintro e w2 ⟨q, rfl, hq, hb2⟩
        have hr2 := HRW.out.below hb2 (fun j hj => (HRW.out.lt j hj).2)
        have hS := hr2.set k (fval q)
        rw [fillV hlt (by rw [fvals_length]; exact HQ.out)] at hS
        have hF := snocGood (d := 0) HQ.out HGD.out hq
        have c2 := hr2.cellAt hlt
        have f1 := hr2.frozenAt k
        have hb3 := below_step HBW.out hb2 HBW.out.size
        have hb4 : Below w.heap.size w (w2.setCell ⟨w.heap.size, k, none⟩ (fval q)) := hb3.setCell (p := ⟨w.heap.size, k, none⟩) (Nat.le_refl _) _
        simp only [fval] at hS hb4 ⊢
        obtain ⟨u, hu⟩ : ∃ u, (fvals qs ++ List.replicate (L - k) (.float .f64 0 : Value)).getD k undef = u := ⟨_, rfl⟩
        rw [hu] at c2
        have hs2 : (Row (w2.setCell ⟨w.heap.size, k, none⟩ (.float .f64 q)) w.heap.size 29 (.slice (some ⟨w.heap.size, 0, none⟩) L L) (fvals (qs ++ [q]) ++ List.replicate (L - (k + 1)) (.float .f64 0))) := by
          have := hS.1
          simpa [fvals, fval] using this
        have HS2 := Lib.hid hs2
        have HF2 := Lib.hid hF
        have HB4 := Lib.hid hb4
        clear hu hr2 hS hF hq hb2 hb3 hb4 hs2
        go_wp2
        go_roundw
        case rel => exact ⟨k + 1, qs ++ [q], by go_num, by omega, HF2.out.1, HS2.out, HF2.out.2, HB4.out⟩
        case measure => simp [intOf]; omega
      · have e : k = L := by omega
        subst e
        go_wp2
        go_ret2
        refine ⟨_, qs, rfl, ?_, HQ.out, HGD.out, HBW.out⟩
        have := HRW.out
        rwa [Nat.sub_self, List.replicate_zero, List.append_nil] at this

end Go.Proofs.Ytpobbicbfnglaaa
