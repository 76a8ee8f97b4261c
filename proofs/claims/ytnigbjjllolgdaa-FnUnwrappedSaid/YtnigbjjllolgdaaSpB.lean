import Derived.Test.YtnigbjjllolgdaaSpA
import Derived.Deep.RegionLaw
/-
  mapSignal with a function that keeps something; UnwrapPhases and DelaysOf.
-/
set_option linter.unusedVariables false
set_option linter.unusedSimpArgs false
namespace Go.Proofs.Ytnigbjjllolgdaa
open Go.RowKit Flt Fast
attribute [local go_sem] run_fadd run_fsub run_fmul run_fquo run_cadd run_csub

/-- The blocks from B on stay as they were. -/
def HiB (B : Nat) (w w' : World) : Prop := w.heap.size ≤ w'.heap.size ∧ ∀ k, B ≤ k → k < w.heap.size → w'.heap[k]? = w.heap[k]?
theorem HiB.refl (B : Nat) (w : World) : HiB B w w := ⟨Nat.le_refl _, fun _ _ _ => rfl⟩
theorem HiB.trans {B : Nat} {a b c : World} (h : HiB B a b) (h' : HiB B b c) : HiB B a c := ⟨Nat.le_trans h.1 h'.1, fun k h1 h2 => (h'.2 k h1 (Nat.lt_of_lt_of_le h2 h.1)).trans (h.2 k h1 h2)⟩
theorem HiB.drewN {B : Nat} {w w' : World} (h : HiB B w w') (n : Nat) : HiB B w (w'.drewN n) := h
theorem HiB.setCell {B : Nat} {w w' : World} (h : HiB B w w') (g j : Nat) (u : Value) (hg : g < B) : HiB B w (w'.setCell ⟨g, j, none⟩ u) :=
  ⟨by simpa using h.1, fun k h1 h2 => by rw [heap_setCell_other w' ⟨g, j, none⟩ k u (by show k ≠ g; omega)]; exact h.2 k h1 h2⟩
theorem Row.hi {w w' : World} {B : Nat} {e : TypeId} {v : Value} {cs : List Value} (h : Row w B e v cs) (hb : HiB B w w') : Row w' B e v cs := by
  have hlt := h.lt
  refine ⟨h.1, ?_⟩
  rcases h.2 with hn | ⟨g, cap, cur, rfl, hbb, hgg, rest⟩
  · exact .inl hn
  · refine .inr ⟨g, cap, cur, rfl, hbb, ?_, rest⟩
    rw [hb.2 g hbb (hlt g rfl).2]
    exact hgg

set_option maxRecDepth 100000 in
set_option maxHeartbeats 4000000 in
theorem map_f64_st {v : Value} {xs : List Nat} {w : World} (h : Reads w v (fvals xs)) (hl : xs.length ≤ 256) (fn : Nat) (capt : Array Value)
    (hfn : ∀ (args : Array Value) (w : World), (callFunc fn args).run Try.prog w = .ok (.enter fn args) w) (G : Nat → Nat → Prop) (I : Nat → World → Prop) (hI0 : ∀ w1, w.grownBy w1 none → I 0 w1)
    (hIs : ∀ i w1 w2, w.heap.size < w1.heap.size → I i w1 → w1.grownBy w2 (some w.heap.size) → I i w2)
    (hIr : ∀ i w1, I i w1 → Reads w1 v (fvals xs))
    (hcall : ∀ i w1, i < xs.length → w.heap.size < w1.heap.size → I i w1 → Calls Try.prog fn (#[.float .f64 (xs.getD i 0)] ++ capt) w1 fun e w2 => ∃ q : Nat, e = .returned (fval q) ∧ G i q ∧ I (i + 1) w2 ∧ HiB w.heap.size w1 w2) :
    Calls Try.prog 27 #[v, .func (.func fn) #[] capt] w fun e w' => ∃ v qs, e = .returned (.tuple #[v, .int .i64 0]) ∧ Row w' w.heap.size 30 v (fvals qs) ∧ qs.length = xs.length ∧ (∀ i, i < xs.length → G i (qs.getD i 0)) ∧ I xs.length w' := by
  obtain ⟨i0, hi, hz0, hz1, hz2⟩ := info_parts info_f64'
  have HF := Lib.hid hcall
  have HI0 := Lib.hid hI0
  have HIS := Lib.hid hIs
  have HIR := Lib.hid hIr
  clear hcall hI0 hIs hIr
  generalize hcs : fvals xs = cs at h
  have hcl : cs.length = xs.length := by rw [← hcs, fvals_length]
  cases h with
  | none a cap =>
    have h0 : xs.length = 0 := by rw [← hcl]; rfl
    rw [h0]
    clear hcs hcl h0 HF hl HIS HIR
    go_enter Try.func27, Try.ntmps27
    go_wp2_with (at_make; refine wpList_make_full _ rfl _ _ 24 rfl w.heap.size 30 i0 (.float .f64 0) 1 Try.underlying24 hi hz0 hz1 .i64 .i64 _ _ 0 rfl rfl rfl rfl (by rw [hz2]; omega) (by simp only [maxLen]; omega) (Nat.le_refl _) ?_)
    intro w1 hown hg1
    rw [toList_madeCells_one] at hown
    have HO : Hid (Row w1 w.heap.size 30 (.slice (some ⟨w.heap.size, 0, none⟩) 0 0) []) := by
      show w1.ownsRow _ _ _ _ _ _
      simpa using hown
    have HG := Lib.hid (HI0.out w1 hg1)
    clear hown hg1 hi hz0 hz1 hz2
    go_wp2
    refine wp_loop_rounds 1 ?_
    rw [rounds_succ]
    go_wp2
    go_ret2
    exact ⟨_, [], rfl, HO.out, rfl, fun i hi => by omega, HG.out⟩
  | row g cap L cs hL h0 hc hm hcell =>
    obtain rfl : L = xs.length := by rw [← hL]; exact hcl
    obtain ⟨L, hxl⟩ : ∃ L, xs.length = L := ⟨_, rfl⟩
    rw [hxl] at hl h0 hc ⊢
    have hmax := maxLen_int (Nat.le_trans hc hm)
    have hgl : g < w.heap.size := World.block_lt_of_cell? _ _ (hcell 0 (by omega))
    have HC : Hid (∀ i w1, I i w1 → ∀ j, j < L → w1.cell? ⟨g, j, none⟩ = some (.float .f64 (xs.getD j 0))) := fun i w1 hI j hj => by
      obtain ⟨g', e', -, hc'⟩ := fl_reads (xs := xs) (HIR.out i w1 hI) _ _ _ rfl j (by omega)
      simp only [Option.some.injEq, Addr.mk.injEq, and_true] at e'
      subst e'
      exact hc'
    have HX := Lib.hid hxl
    clear hcell hcs hcl hL hm hxl HIR
    go_enter Try.func27, Try.ntmps27
    go_wp2_with (at_make; refine wpList_make_full _ rfl _ _ 24 rfl w.heap.size 30 i0 (.float .f64 0) 1 Try.underlying24 hi hz0 hz1 .i64 .i64 _ _ L rfl rfl rfl rfl (by rw [hz2]; omega) (by simp only [maxLen]; omega) (Nat.le_refl _) ?_)
    intro w1 hown hg1
    rw [toList_madeCells_one] at hown
    have HO : Hid (Row w1 w.heap.size 30 (.slice (some ⟨w.heap.size, 0, none⟩) L L) (List.replicate L (.float .f64 0))) := by
      show w1.ownsRow _ _ _ _ _ _
      simpa using hown
    have HG := Lib.hid (HI0.out w1 hg1)
    have HSZ := Lib.hid ((HO.out.lt _ rfl).2)
    clear hown hg1 hi hz0 hz1 hz2
    go_wp2
    go_loopw [16] (fun i wr => ∃ (k : Nat) (qs : List Nat), i = .int .i64 k ∧ k ≤ L ∧ qs.length = k ∧ Row wr w.heap.size 30 (.slice (some ⟨w.heap.size, 0, none⟩) L L) (fvals qs ++ List.replicate (L - k) (.float .f64 0)) ∧ (∀ j, j < k → G j (qs.getD j 0)) ∧ I k wr ∧ w.heap.size < wr.heap.size) (fun i _ => L - (intOf i).toNat)
    case atStart => exact ⟨0, [], rfl, Nat.zero_le _, rfl, HO.out, fun j hj => by omega, HG.out, HSZ.out⟩
    case round =>
      obtain ⟨k, qs, rfl, hk, hx, hrw, hgd, hbw, hsz⟩ := hrel
      have HQ := Lib.hid hx
      have HRW := Lib.hid hrw
      have HGD := Lib.hid hgd
      have HBW := Lib.hid hbw
      clear hx hrw hgd hbw
      by_cases hlt : k < L
      · have c1 : wr.cell? ⟨g, k, none⟩ = some (.float .f64 (xs.getD k 0)) := HC.out k _ HBW.out k hlt
        have hcall := HF.out k wr (by rw [HX.out]; exact hlt) hsz HBW.out
        obtain ⟨a, hab⟩ : ∃ q, xs.getD k 0 = q := ⟨_, rfl⟩
        rw [hab] at c1 hcall
        clear hab
        go_wp2_with fail
        refine hcall.mono ?_
        rintro e w2 ⟨q, rfl, hq, hi2, hb2⟩
        have hr2 := HRW.out.hi hb2
        have hS := hr2.set k (fval q)
        rw [fillV hlt (by rw [fvals_length]; exact HQ.out)] at hS
        have hF := snocGood (d := 0) HQ.out HGD.out hq
        have c2 := hr2.cellAt hlt
        have f1 := hr2.frozenAt k
        have hsz2 : w.heap.size < w2.heap.size := Nat.lt_of_lt_of_le hsz hb2.1
        have hb4 : I (k + 1) (w2.setCell ⟨w.heap.size, k, none⟩ (fval q)) := HIS.out _ _ _ hsz2 hi2 hS.2
        have hsz4 : w.heap.size < (w2.setCell ⟨w.heap.size, k, none⟩ (fval q)).heap.size := Nat.lt_of_lt_of_le hsz2 hS.2.size
        simp only [fval] at hS hb4 hsz4 ⊢
        obtain ⟨u, hu⟩ : ∃ u, (fvals qs ++ List.replicate (L - k) (.float .f64 0 : Value)).getD k undef = u := ⟨_, rfl⟩
        rw [hu] at c2
        have hs2 : (Row (w2.setCell ⟨w.heap.size, k, none⟩ (.float .f64 q)) w.heap.size 30 (.slice (some ⟨w.heap.size, 0, none⟩) L L) (fvals (qs ++ [q]) ++ List.replicate (L - (k + 1)) (.float .f64 0))) := by
          have := hS.1
          simpa [fvals, fval] using this
        have HS2 := Lib.hid hs2
        have HF2 := Lib.hid hF
        have HB4 := Lib.hid hb4
        have HSZ4 := Lib.hid hsz4
        clear hu hr2 hS hF hq hb2 hb4 hs2 hi2 hsz2 hsz4
        go_wp2
        go_roundw
        case rel => exact ⟨k + 1, qs ++ [q], by go_num, by omega, HF2.out.1, HS2.out, HF2.out.2, HB4.out, HSZ4.out⟩
        case measure => simp [intOf]; omega
      · have e : k = L := by omega
        subst e
        go_wp2
        go_ret2
        refine ⟨_, qs, rfl, ?_, HQ.out, HGD.out, HBW.out⟩
        have := HRW.out
        rwa [Nat.sub_self, List.replicate_zero, List.append_nil] at this

/-- Unwrapped phases. -/
def unwO (xs : List Nat) : Nat → Option Nat
  | 0 => wO xs 0
  | i + 1 => fop .add .f64 (unwO xs i) (wrapO (fop .sub .f64 (wO xs (i + 1)) (wO xs i)))
def unwN (n : Nat) : Nat := if 256 < n then 0 else n
theorem unwN_le (n : Nat) : unwN n ≤ 100000000 := by unfold unwN; split <;> omega

/-- What the function keeps: the phase before, as it came and unwrapped, and whether there is none yet. -/
structure St (w0 w : World) (N bf un : Nat) (fi : Bool) : Prop where
  below : Below N w0 w
  size : N + 3 ≤ w.heap.size
  cb : w.cell? ⟨N, 0, none⟩ = some (.float .f64 bf)
  cu : w.cell? ⟨N + 1, 0, none⟩ = some (.float .f64 un)
  cf : w.cell? ⟨N + 2, 0, none⟩ = some (.bool fi)
  fb : w.frozen? ⟨N, 0, none⟩ = false
  fu : w.frozen? ⟨N + 1, 0, none⟩ = false
  ff : w.frozen? ⟨N + 2, 0, none⟩ = false

section
variable {w0 w w' : World} {N bf un : Nat} {fi : Bool}
theorem St.drewN (h : St w0 w N bf un fi) (n : Nat) : St w0 (w.drewN n) N bf un fi := ⟨below_draws h.below n, h.size, h.cb, h.cu, h.cf, h.fb, h.fu, h.ff⟩
theorem St.setB (h : St w0 w N bf un fi) (x : Nat) : St w0 (w.setCell ⟨N, 0, none⟩ (.float .f64 x)) N x un fi :=
  ⟨h.below.setCell (p := ⟨N, 0, none⟩) (Nat.le_refl _) _, by simpa using h.size, World.cell?_setCell_same _ _ _ h.cb, by rw [World.cell?_setCell_other _ _ _ _ (by simp)]; exact h.cu, by rw [World.cell?_setCell_other _ _ _ _ (by simp)]; exact h.cf, by rw [World.frozen?_setCell]; exact h.fb, by rw [World.frozen?_setCell]; exact h.fu, by rw [World.frozen?_setCell]; exact h.ff⟩
theorem St.setU (h : St w0 w N bf un fi) (x : Nat) : St w0 (w.setCell ⟨N + 1, 0, none⟩ (.float .f64 x)) N bf x fi :=
  ⟨h.below.setCell (p := ⟨N + 1, 0, none⟩) (Nat.le_add_right _ _) _, by simpa using h.size, by rw [World.cell?_setCell_other _ _ _ _ (by simp)]; exact h.cb, World.cell?_setCell_same _ _ _ h.cu, by rw [World.cell?_setCell_other _ _ _ _ (by simp)]; exact h.cf, by rw [World.frozen?_setCell]; exact h.fb, by rw [World.frozen?_setCell]; exact h.fu, by rw [World.frozen?_setCell]; exact h.ff⟩
theorem St.setF (h : St w0 w N bf un fi) (b : Bool) : St w0 (w.setCell ⟨N + 2, 0, none⟩ (.bool b)) N bf un b :=
  ⟨h.below.setCell (p := ⟨N + 2, 0, none⟩) (Nat.le_add_right _ _) _, by simpa using h.size, by rw [World.cell?_setCell_other _ _ _ _ (by simp)]; exact h.cb, by rw [World.cell?_setCell_other _ _ _ _ (by simp)]; exact h.cu, World.cell?_setCell_same _ _ _ h.cf, by rw [World.frozen?_setCell]; exact h.fb, by rw [World.frozen?_setCell]; exact h.fu, by rw [World.frozen?_setCell]; exact h.ff⟩
theorem St.grown (h : St w0 w N bf un fi) {row : Option Nat} (hg : w.grownBy w' row) (hr : ∀ k, row = some k → N + 3 ≤ k) : St w0 w' N bf un fi := by
  have hs := h.size
  have b : ∀ j, j < 3 → w'.heap[N + j]? = w.heap[N + j]? := fun j hj => hg.block _ (by omega) (fun e => by have := hr _ e.symm; omega)
  exact ⟨h.below.grown hg (by omega) (fun k e => by have := hr k e; omega), Nat.le_trans hs hg.size, (World.cell?_of_block (b 0 (by omega))).trans h.cb, (World.cell?_of_block (b 1 (by omega))).trans h.cu, (World.cell?_of_block (b 2 (by omega))).trans h.cf,
    (World.frozen?_of_block (b 0 (by omega))).trans h.fb, (World.frozen?_of_block (b 1 (by omega))).trans h.fu, (World.frozen?_of_block (b 2 (by omega))).trans h.ff⟩
end

/-- The state ahead of the number i. -/
def StI (xs : List Nat) (w0 : World) (N i : Nat) (w : World) : Prop := ∃ bf un, St w0 w N bf un (decide (i = 0)) ∧ (i ≠ 0 → IsF bf (wO xs (i - 1)) ∧ IsF un (unwO xs (i - 1)))

set_option maxRecDepth 100000 in
set_option maxHeartbeats 4000000 in
theorem unwrap1_any (xs : List Nat) (hz : ∀ z ∈ xs, z < 18446744073709551616) (i : Nat) (hi : i < xs.length) (w0 : World) (N : Nat) (w : World) (h : StI xs w0 N i w) :
    Calls Try.prog 57 #[.float .f64 (xs.getD i 0), .pointer (some ⟨N + 2, 0, none⟩), .pointer (some ⟨N + 1, 0, none⟩), .pointer (some ⟨N, 0, none⟩)] w
      fun e w' => ∃ q, e = .returned (fval q) ∧ IsF q (unwO xs i) ∧ StI xs w0 N (i + 1) w' ∧ HiB (N + 3) w w' := by
  obtain ⟨bf, un, hs, hf⟩ := h
  have hx := wO_isF hz hi
  obtain ⟨x, hxx⟩ : ∃ x, xs.getD i 0 = x := ⟨_, rfl⟩
  rw [hxx] at hx ⊢
  by_cases h0 : i = 0
  · subst h0
    rw [show decide ((0 : Nat) = 0) = true from rfl] at hs
    have cf := hs.cf
    have cb := hs.cb
    have cu := hs.cu
    have fb := hs.fb
    have fu := hs.fu
    have ff := hs.ff
    have HS := Lib.hid hs
    have HX := Lib.hid hx
    clear hs hx hf hxx hi hz
    go_enter Try.func57, Try.ntmps57
    go_wp2
    go_ret
    exact ⟨x, rfl, HX.out, ⟨x, x, ((HS.out.setU x).setF false).setB x, fun _ => ⟨HX.out, HX.out⟩⟩, (((HiB.refl _ _).setCell _ _ _ (by omega)).setCell _ _ _ (by omega)).setCell _ _ _ (by omega)⟩
  · obtain ⟨j, rfl⟩ : ∃ j, i = j + 1 := ⟨i - 1, by omega⟩
    obtain ⟨hbf, hun⟩ := hf h0
    rw [show decide (j + 1 = 0) = false from rfl] at hs
    rw [Nat.add_sub_cancel] at hbf hun
    have cf := hs.cf
    have cb := hs.cb
    have cu := hs.cu
    have fb := hs.fb
    have fu := hs.fu
    have ff := hs.ff
    have HS := Lib.hid hs
    have HX := Lib.hid hx
    have HBF := Lib.hid hbf
    have HUN := Lib.hid hun
    have HN : Hid (∀ r q : Nat, IsF r (wrapO (fop .sub .f64 (wO xs (j + 1)) (wO xs j))) → ∀ w, IsF (fres .add .f64 un r w) (unwO xs (j + 1))) := fun r q hr w => by
      unfold unwO
      exact isF_fres hun hr w
    clear hs hx hf hxx hi hz hbf hun
    go_enter Try.func57, Try.ntmps57
    go_wp2
    go_region_law (go_simp; go_at_call 13; refine (wrap_impl _ _ (isF_fres HX.out HBF.out _) _).mono ?_; rintro e w' ⟨q, rfl, hq, nn, rfl⟩; have HQ := Lib.hid hq; clear hq)
    all_goals
      go_wp2
      go_ret
      exact ⟨_, rfl, HN.out _ 0 HQ.out _, ⟨x, _, ((HS.out.drewN _).setU _).setB x, fun _ => ⟨HX.out, HN.out _ 0 HQ.out _⟩⟩, (((HiB.refl _ _).drewN _).setCell _ _ _ (by omega)).setCell _ _ _ (by omega)⟩

end Go.Proofs.Ytnigbjjllolgdaa
