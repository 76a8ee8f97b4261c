/-
  Several texts of this claim, one behind the other; each says what it holds.
-/
import Derived.Test.YtphgibndncjaiaaMRealPa7
import Derived.BigRegion
import Derived.Test.YtphgibndncjaiaaRows
import Derived.Deep.RegionLaw
import Derived.Deep.AppendLies
import Derived.Deep.CutRange
import Derived.Deep.CutBlock
/-
  listOf over wide complex numbers, whatever makes them.
-/
set_option linter.unusedVariables false
set_option linter.unusedSimpArgs false
namespace Go.Proofs.Ytphgibndncjaiaa
open Go.RowKit Flt Turn

set_option maxRecDepth 100000 in
set_option maxHeartbeats 4000000 in
theorem listOf_c128 (fn : Nat) (capt : Array Value) (n : Nat) (hn : n ≤ 1000000) (z : Nat → Option Nat × Option Nat) (I : Nat → World → Prop) (row : Option Nat) (w : World)
    (hfn : ∀ (args : Array Value) (w : World), (callFunc fn args).run Try.prog w = .ok (.enter fn args) w) (hrow : ∀ k, row = some k → k < w.heap.size) (hI0 : ∀ w', w.grownBy w' none → I 0 w')
    (hIs : ∀ i w1 w2, w.heap.size < w1.heap.size → I i w1 → w1.grownBy w2 (some w.heap.size) → I i w2)
    (hcall : ∀ i w1, i < n → w.heap.size < w1.heap.size → I i w1 → Calls Try.prog fn (#[.int .i64 (i : Int)] ++ capt) w1 fun e w2 => ∃ p : C, e = .returned (cval p) ∧ IsC p (z i) ∧ I (i + 1) w2 ∧ w1.grownBy w2 row) :
    Calls Try.prog 24 #[.int .i64 n, .func (.func fn) #[] capt] w fun e w' =>
      ∃ v xs, e = .returned v ∧ Row w' w.heap.size 26 v (cvals xs) ∧ xs.length = n ∧ (∀ i, i < n → IsC (xs.getD i (0, 0)) (z i)) ∧ I n w' ∧ w.grownBy w' row := by
  obtain ⟨i0, hi, hz0, hz1, hz2⟩ := info_parts info_c128
  have HC := Lib.hid hcall
  have HS := Lib.hid hIs
  have HI := Lib.hid hI0
  have HR := Lib.hid hrow
  clear hcall hIs hI0 hrow
  go_enter Try.func24, Try.ntmps24
  go_wp2_with (at_make; refine wpList_make_full _ rfl _ _ 24 rfl w.heap.size 26 i0 (.complex .f64 0 0) 1 Try.underlying24 hi hz0 hz1 .i64 .i64 _ _ n rfl rfl rfl rfl (by rw [hz2]; omega) (by simp only [maxLen]; omega) (Nat.le_refl _) ?_)
  intro w1 hown hg1
  rw [toList_madeCells_one] at hown
  have HO : Hid (Row w1 w.heap.size 26 (.slice (some ⟨w.heap.size, 0, none⟩) n n) (List.replicate n (.complex .f64 0 0))) := by
    show w1.ownsRow _ _ _ _ _ _
    simpa using hown
  have HG := Lib.hid hg1
  clear hown hg1 hi hz0 hz1 hz2
  go_wp2
  go_loopw [10] (fun i wr => ∃ (k : Nat) (xs : List C), i = .int .i64 k ∧ k ≤ n ∧ xs.length = k ∧ Row wr w.heap.size 26 (.slice (some ⟨w.heap.size, 0, none⟩) n n) (cvals xs ++ List.replicate (n - k) (.complex .f64 0 0)) ∧ (∀ j, j < k → IsC (xs.getD j (0, 0)) (z j)) ∧ I k wr ∧ w.grownBy wr row ∧ w.heap.size < wr.heap.size) (fun i _ => n - (intOf i).toNat)
  case atStart => exact ⟨0, [], rfl, Nat.zero_le _, rfl, HO.out, fun j hj => by omega, HI.out _ HG.out, grown_up HG.out _, (HO.out.lt _ rfl).2⟩
  case round =>
    obtain ⟨k, xs, rfl, hk, hx, hrw, hgd, hI, hg, hsz⟩ := hrel
    have HX := Lib.hid hx
    have HRW := Lib.hid hrw
    have HGD := Lib.hid hgd
    have HIk := Lib.hid hI
    have HGk := Lib.hid hg
    clear hx hrw hgd hI hg
    by_cases hlt : k < n
    · go_wp2_with fail
      refine (HC.out k wr hlt hsz HIk.out).mono ?_
      rintro e w2 ⟨⟨a, b⟩, rfl, hp, hI2, hg2⟩
      have hr2 := HRW.out.kept hg2 (.inr (fun e => by have := HR.out _ e.symm; simp at this))
      have hS := hr2.set k (cval (a, b))
      rw [fill_step hlt HX.out] at hS
      have hF := fill_good HX.out HGD.out hp
      have c1 := hr2.cellAt hlt
      have f1 := hr2.frozenAt k
      have hsz2 : w.heap.size < w2.heap.size := Nat.lt_of_lt_of_le hsz hg2.size
      have hI3 := HS.out _ _ _ hsz2 hI2 hS.2
      have hg3 := grown_new (HGk.out.trans hg2) hS.2 (Nat.le_refl _)
      have hsz3 : w.heap.size < (w2.setCell ⟨w.heap.size, k, none⟩ (cval (a, b))).heap.size := Nat.lt_of_lt_of_le hsz2 hS.2.size
      simp only [cval] at hS hI3 hg3 hsz3 ⊢
      obtain ⟨u, hu⟩ : ∃ u, (cvals xs ++ List.replicate (n - k) (Value.complex .f64 0 0)).getD k undef = u := ⟨_, rfl⟩
      rw [hu] at c1
      have HS2 := Lib.hid hS
      have HF := Lib.hid hF
      have HI3 := Lib.hid hI3
      have HG3 := Lib.hid hg3
      have HZ3 := Lib.hid hsz3
      clear hu hr2 hS hF hp hI2 hg2 hI3 hg3 hsz3
      go_wp2
      go_roundw
      case rel => exact ⟨k + 1, xs ++ [(a, b)], by go_num, by omega, HF.out.1, HS2.out.1, HF.out.2, HI3.out, HG3.out, HZ3.out⟩
      case measure => simp [intOf]; omega
    · have e : k = n := by omega
      subst e
      go_wp2
      go_ret
      refine ⟨_, xs, rfl, ?_, HX.out, HGD.out, HIk.out, HGk.out⟩
      have := HRW.out
      rwa [Nat.sub_self, List.replicate_zero, List.append_nil] at this

end Go.Proofs.Ytphgibndncjaiaa
/-
  MirrorSignal and RotateSignal of the program.
-/
set_option linter.unusedVariables false
set_option linter.unusedSimpArgs false
namespace Go.Proofs.Ytphgibndncjaiaa
open Go.RowKit Flt Fast

theorem writtenM {w : World} {B e : Nat} {v : Value} {cs : List Value} (h : Row w B e v cs) : ∃ a cap, v = .slice a cs.length cap := by
  rcases h.shape with ⟨a, cap, e, e'⟩ | ⟨g, cap, e, _⟩
  · refine ⟨a, cap, ?_⟩
    rw [e, e']; rfl
  · exact ⟨_, cap, e⟩
/-- A signal and OK are returned. -/
def SigTo3 (L : Nat) (z : Nat → Z) (w : World) (e : Ending) (w' : World) : Prop :=
  ∃ v xs, e = .returned (.tuple #[v, .int .i64 0]) ∧ Row w' w.heap.size 26 v (cvals xs) ∧ xs.length = L ∧ (∀ i, i < L → IsC (xs.getD i (0, 0)) (z i)) ∧ Below w.heap.size w w'
def SigTo1 (L : Nat) (z : Nat → Z) (w : World) (e : Ending) (w' : World) : Prop :=
  ∃ v xs, e = .returned v ∧ Row w' w.heap.size 26 v (cvals xs) ∧ xs.length = L ∧ (∀ i, i < L → IsC (xs.getD i (0, 0)) (z i)) ∧ Below w.heap.size w w'

theorem enter_mirror (args : Array Value) (w : World) : (callFunc 27 args).run Try.prog w = .ok (.enter 27 args) w := by kernel_rfl
theorem enter_rotate (args : Array Value) (w : World) : (callFunc 25 args).run Try.prog w = .ok (.enter 25 args) w := by kernel_rfl

set_option maxRecDepth 100000 in
set_option maxHeartbeats 4000000 in
theorem mirror1_any {w : World} {a : Option Addr} {cap n : Nat} {xs : List C} {zx : Nat → Z} (h : Reads w (.slice a n cap) (cvals xs)) (hl : xs.length = n) (hz : ∀ i, i < n → IsC (xs.getD i (0, 0)) (zx i)) (i B0 B1 : Nat) (hi : i < n) (hn : n ≤ 256) (c0 : w.cell? ⟨B0, 0, none⟩ = some (.slice a n cap)) (c1 : w.cell? ⟨B1, 0, none⟩ = some (.int .i64 n)) :
    Calls Try.prog 27 #[.int .i64 i, .pointer (some ⟨B0, 0, none⟩), .pointer (some ⟨B1, 0, none⟩)] w fun e w2 => ∃ p : C, e = .returned (cval p) ∧ IsC p (zx ((n - i) % n)) ∧ ∃ d, w2 = w.drewN d := by
  obtain ⟨r, hr⟩ : ∃ r, (n - i) % n = r := ⟨_, rfl⟩
  have hrn : r < n := by rw [← hr]; exact Nat.mod_lt _ (by omega)
  obtain ⟨g, rfl, hcell⟩ := readsAtN h r hrn
  have hmax := maxLen_int (readsMaxN h)
  have HZ := Lib.hid (hz r hrn)
  obtain ⟨⟨x, y⟩, hxy⟩ : ∃ p, xs.getD r (0, 0) = p := ⟨_, rfl⟩
  rw [hxy] at hcell HZ
  rw [hr]
  have e1 : (n : Int) - (i : Int) = ((n - i : Nat) : Int) := by omega
  have r1 : ((n : Int) - (i : Int)) % (n : Int) = (r : Int) := by rw [e1, ← hr]; rfl
  have r2 : ((n : Int) - (i : Int)).tmod (n : Int) = (r : Int) := by rw [e1, ← hr]; rfl
  have g4 : ¬ (n : Int) = 0 := by omega
  clear h hl hz hxy hr e1
  go_enter Try.func27, Try.ntmps27
  go_wp2
  go_quiet (fail)
  go_wp2
  go_ret
  exact ⟨(x, y), rfl, HZ.out, _, rfl⟩

set_option maxRecDepth 100000 in
set_option maxHeartbeats 4000000 in
theorem rotate1_any {w : World} {a : Option Addr} {cap n : Nat} {xs : List C} {zx : Nat → Z} (h : Reads w (.slice a n cap) (cvals xs)) (hl : xs.length = n) (hz : ∀ i, i < n → IsC (xs.getD i (0, 0)) (zx i)) (i k B0 B1 B2 : Nat) (hi : i < n) (hk : k < n) (hn : n ≤ 256) (c0 : w.cell? ⟨B0, 0, none⟩ = some (.slice a n cap)) (c1 : w.cell? ⟨B1, 0, none⟩ = some (.int .i64 k)) (c2 : w.cell? ⟨B2, 0, none⟩ = some (.int .i64 n)) :
    Calls Try.prog 25 #[.int .i64 i, .pointer (some ⟨B0, 0, none⟩), .pointer (some ⟨B1, 0, none⟩), .pointer (some ⟨B2, 0, none⟩)] w fun e w2 => ∃ p : C, e = .returned (cval p) ∧ IsC p (zx ((i + k) % n)) ∧ ∃ d, w2 = w.drewN d := by
  obtain ⟨r, hr⟩ : ∃ r, (i + k) % n = r := ⟨_, rfl⟩
  have hrn : r < n := by rw [← hr]; exact Nat.mod_lt _ (by omega)
  obtain ⟨g, rfl, hcell⟩ := readsAtN h r hrn
  have hmax := maxLen_int (readsMaxN h)
  have HZ := Lib.hid (hz r hrn)
  obtain ⟨⟨x, y⟩, hxy⟩ : ∃ p, xs.getD r (0, 0) = p := ⟨_, rfl⟩
  rw [hxy] at hcell HZ
  rw [hr]
  have r1 : ((i : Int) + (k : Int)) % (n : Int) = (r : Int) := by rw [← hr]; rfl
  have r2 : ((i : Int) + (k : Int)).tmod (n : Int) = (r : Int) := by rw [← hr]; rfl
  have g4 : ¬ (n : Int) = 0 := by omega
  clear h hl hz hxy hr
  go_enter Try.func25, Try.ntmps25
  go_wp2
  go_quiet (fail)
  go_wp2
  go_ret
  exact ⟨(x, y), rfl, HZ.out, _, rfl⟩

set_option maxRecDepth 100000 in
set_option maxHeartbeats 4000000 in
theorem mirrored_any {w : World} {a : Option Addr} {cap n : Nat} {xs : List C} {zx : Nat → Z} (h : Reads w (.slice a n cap) (cvals xs)) (hl : xs.length = n) (hz : ∀ i, i < n → IsC (xs.getD i (0, 0)) (zx i)) (hn : n ≤ 256) :
    Calls Try.prog 26 #[.slice a n cap] w (SigTo1 n (fun i => zx ((n - i) % n)) w) := by
  obtain ⟨W, hW⟩ : ∃ W, (w.alloc (.cells #[.slice a n cap] 24)).alloc (.cells #[.int .i64 n] 2) = W := ⟨_, rfl⟩
  have hb0 : Below w.heap.size w W := by rw [← hW]; exact ((Below.refl _ _).alloc (Nat.le_refl _) _).alloc (by simp) _
  have hs : W.heap.size = w.heap.size + 2 := by rw [← hW]; simp
  have c0 : W.cell? ⟨w.heap.size, 0, none⟩ = some (.slice a n cap) := by subst hW; go_simp
  have c1 : W.cell? ⟨w.heap.size + 1, 0, none⟩ = some (.int .i64 n) := by subst hW; go_simp
  have hW2 := h.below hb0
  have HL : Hid (Calls Try.prog 24 #[.int .i64 n, .func (.func 27) #[] #[.pointer (some ⟨w.heap.size, 0, none⟩), .pointer (some ⟨w.heap.size + 1, 0, none⟩)]] W (SigTo1 n (fun i => zx ((n - i) % n)) w)) := by
    refine (listOf_c128 _ _ n (by omega) (fun i => zx ((n - i) % n)) (fun _ W' => Below W.heap.size W W') none W enter_mirror (fun k hk => by cases hk) (fun w' hg => (Below.refl _ _).grown hg (Nat.le_refl _) (fun b e => by cases e)) (fun i w1 w2 hs h hg => h.grown hg h.size (fun b e => by cases e; exact Nat.le_refl _)) (fun i w1 hi hs1 hI => ?_)).mono ?_
    · have hr := hW2.below hI
      refine (mirror1_any hr hl hz i _ _ hi hn (by rw [hI.cell (by show w.heap.size < _; omega)]; exact c0) (by rw [hI.cell (by show w.heap.size + 1 < _; omega)]; exact c1)).mono ?_
      rintro e w2 ⟨p, rfl, hp, d, rfl⟩
      exact ⟨p, rfl, hp, below_draws hI d, ⟨rfl, rfl, rfl, Nat.le_refl _, fun _ _ _ => rfl⟩⟩
    · rintro e w' ⟨v, xs, rfl, hr, hx, hz, hI, -⟩
      exact ⟨v, xs, rfl, hr.base hb0.size, hx, hz, hb0.trans (hI.mono hb0.size)⟩
  have HW := Lib.hid hW
  obtain ⟨q', hq'⟩ : ∃ q', (fun i => zx ((n - i) % n)) = q' := ⟨_, rfl⟩
  rw [hq'] at HL ⊢
  have hmax := maxLen_int (readsMaxN h)
  clear h hb0 hs c0 c1 hW hW2 hl hq' hz
  go_enter Try.func26, Try.ntmps26
  go_wp2_with fail
  rw [HW.out]
  refine HL.out.mono ?_
  rintro e w' ⟨v, xs, rfl, hm⟩
  have HM := Lib.hid hm
  clear hm HL
  go_wp2
  go_ret
  exact ⟨_, xs, rfl, HM.out⟩

set_option maxRecDepth 100000 in
set_option maxHeartbeats 4000000 in
theorem mirrorSignal_any {w : World} {v : Value} {n : Nat} {xs : List C} {zx : Nat → Z} (h : Reads w v (cvals xs)) (hl : xs.length = n) (hz : ∀ i, i < n → IsC (xs.getD i (0, 0)) (zx i)) (hn : n ≤ 256) :
    Calls Try.prog 11 #[v] w (SigTo3 n (fun i => zx ((n - i) % n)) w) := by
  obtain ⟨a, cap, rfl⟩ := h.form
  rw [cvals_length, hl] at h ⊢
  have HM := Lib.hid (mirrored_any h hl hz hn)
  have hmax := maxLen_int (readsMaxN h)
  clear h hl hz
  go_enter Try.func11, Try.ntmps11
  go_wp2_with (go_at_call 21; go_in)
  refine HM.out.mono ?_
  rintro e w' ⟨v, xs, rfl, hm⟩
  obtain ⟨va, vc, rfl⟩ := writtenM hm.1
  have HR := Lib.hid hm
  clear hm HM
  go_wp2
  go_ret2
  exact ⟨_, xs, rfl, HR.out⟩

theorem checkPlace_any (a : Option Addr) (n cap k : Nat) (hn : n ≤ 256) (hk : k < n ∨ k = 0) (w : World) :
    Calls Try.prog 23 #[.slice a n cap, .int .i64 k] w fun e w' => e = .returned (.int .i64 0) ∧ w' = w := by
  have g1 : decide ((256 : Int) < (n : Int)) = false := decide_eq_false (by omega)
  have g2 : decide ((k : Int) < 0) = false := decide_eq_false (by omega)
  by_cases h0 : k = 0
  · subst h0
    go_enter Try.func23, Try.ntmps23
    go_wp2
    go_ret
    exact ⟨rfl, rfl⟩
  · have g3 : decide ((0 : Int) < (k : Int)) = true := decide_eq_true (by omega)
    have g4 : decide ((n : Int) ≤ (k : Int)) = false := decide_eq_false (by omega)
    go_enter Try.func23, Try.ntmps23
    go_wp2
    go_ret
    exact ⟨rfl, rfl⟩

set_option maxRecDepth 100000 in
set_option maxHeartbeats 4000000 in
theorem rotateSignal_any {w : World} {v : Value} {n k : Nat} {xs : List C} {zx : Nat → Z} (h : Reads w v (cvals xs)) (hl : xs.length = n) (hz : ∀ i, i < n → IsC (xs.getD i (0, 0)) (zx i)) (hn : n ≤ 256) (hk : k < n ∨ k = 0) :
    Calls Try.prog 10 #[v, .int .i64 k] w (SigTo3 n (fun i => zx ((i + k) % n)) w) := by
  obtain ⟨a, cap, rfl⟩ := h.form
  rw [cvals_length, hl] at h ⊢
  obtain ⟨W, hW⟩ : ∃ W, ((w.alloc (.cells #[.slice a n cap] 24)).alloc (.cells #[.int .i64 k] 2)).alloc (.cells #[.int .i64 n] 2) = W := ⟨_, rfl⟩
  have hb0 : Below w.heap.size w W := by rw [← hW]; exact (((Below.refl _ _).alloc (Nat.le_refl _) _).alloc (by simp) _).alloc (by simp; omega) _
  have hs : W.heap.size = w.heap.size + 3 := by rw [← hW]; simp
  have c0 : W.cell? ⟨w.heap.size, 0, none⟩ = some (.slice a n cap) := by subst hW; go_simp
  have c1 : W.cell? ⟨w.heap.size + 1, 0, none⟩ = some (.int .i64 k) := by subst hW; go_simp
  have c2 : W.cell? ⟨w.heap.size + 1 + 1, 0, none⟩ = some (.int .i64 n) := by subst hW; go_simp
  have hW2 := h.below hb0
  have HL : Hid (Calls Try.prog 24 #[.int .i64 n, .func (.func 25) #[] #[.pointer (some ⟨w.heap.size, 0, none⟩), .pointer (some ⟨w.heap.size + 1, 0, none⟩), .pointer (some ⟨w.heap.size + 1 + 1, 0, none⟩)]] W (SigTo1 n (fun i => zx ((i + k) % n)) w)) := by
    refine (listOf_c128 _ _ n (by omega) (fun i => zx ((i + k) % n)) (fun _ W' => Below W.heap.size W W') none W enter_rotate (fun k hk => by cases hk) (fun w' hg => (Below.refl _ _).grown hg (Nat.le_refl _) (fun b e => by cases e)) (fun i w1 w2 hs h hg => h.grown hg h.size (fun b e => by cases e; exact Nat.le_refl _)) (fun i w1 hi hs1 hI => ?_)).mono ?_
    · have hr := hW2.below hI
      refine (rotate1_any hr hl hz i k _ _ _ hi (by omega) hn (by rw [hI.cell (by show w.heap.size < _; omega)]; exact c0) (by rw [hI.cell (by show w.heap.size + 1 < _; omega)]; exact c1) (by rw [hI.cell (by show w.heap.size + 1 + 1 < _; omega)]; exact c2)).mono ?_
      rintro e w2 ⟨p, rfl, hp, d, rfl⟩
      exact ⟨p, rfl, hp, below_draws hI d, ⟨rfl, rfl, rfl, Nat.le_refl _, fun _ _ _ => rfl⟩⟩
    · rintro e w' ⟨v, xs, rfl, hr, hx, hz, hI, -⟩
      exact ⟨v, xs, rfl, hr.base hb0.size, hx, hz, hb0.trans (hI.mono hb0.size)⟩
  have HW := Lib.hid hW
  obtain ⟨q', hq'⟩ : ∃ q', (fun i => zx ((i + k) % n)) = q' := ⟨_, rfl⟩
  rw [hq'] at HL ⊢
  have hmax := maxLen_int (readsMaxN h)
  have HCP := Lib.hid (fun w => checkPlace_any a n cap k hn hk w)
  clear h hb0 hs c0 c1 c2 hW hW2 hl hq' hz hk
  go_enter Try.func10, Try.ntmps10
  go_wp2_with (go_at_call 23; with_reducible refine (HCP.out _).mono ?_; rintro e w' ⟨rfl, rfl⟩)
  rw [HW.out]
  refine HL.out.mono ?_
  rintro e w' ⟨v, xs, rfl, hm⟩
  obtain ⟨va, vc, rfl⟩ := writtenM hm.1
  have HM := Lib.hid hm
  clear hm HL
  go_wp2
  go_ret2
  exact ⟨_, xs, rfl, HM.out⟩

end Go.Proofs.Ytphgibndncjaiaa
/-
  The model's products and rests.
-/
set_option linter.unusedVariables false
set_option linter.unusedSimpArgs false
namespace Go.Proofs.Ytphgibndncjaiaa
open Go.RowKit Flt Turn Fast
attribute [local go_sem] run_fadd run_fsub run_fmul run_fquo run_cadd run_csub

end Go.Proofs.Ytphgibndncjaiaa
/-
  The walks of the factors of a number.
-/
set_option linter.unusedVariables false
set_option linter.unusedSimpArgs false
namespace Go.Proofs.Ytphgibndncjaiaa
open Go.RowKit

theorem tmod_nat (n k : Nat) : (n : Int).tmod (k : Int) = ((n % k : Nat) : Int) := rfl
theorem tdiv_nat (n k : Nat) : (n : Int).tdiv (k : Int) = ((n / k : Nat) : Int) := rfl

theorem least_impl (n : Nat) (hn : 1 < n) (hb : n ≤ 1024) (w : World) :
    Calls Try.prog 46 #[.int .i64 n] w fun e w' => ∃ p : Nat, e = .returned (.int .i64 p) ∧ Fac.Least n p ∧ w' = w := by
  go_enter Try.func46, Try.ntmps46
  go_wp2
  go_loop [3] (fun p => ∃ k : Nat, p = .int .i64 k ∧ 2 ≤ k ∧ k ≤ n ∧ ∀ q, 2 ≤ q → q < k → n % q ≠ 0) (fun p => n - (intOf p).toNat)
  case atStart => exact ⟨2, rfl, Nat.le_refl _, by omega, fun q h1 h2 => by omega⟩
  case round =>
    obtain ⟨k, rfl, h2, hk, hl⟩ := hrel
    have HL := Lib.hid hl
    clear hl
    have hm := tmod_nat n k
    by_cases hd : n % k = 0
    · rw [hd] at hm
      go_wp2
      go_ret
      exact ⟨k, rfl, ⟨h2, hd, HL.out⟩, rfl⟩
    · have hm' : ¬ (n : Int).tmod (k : Int) = 0 := by rw [hm]; omega
      have hlt : k < n := by
        rcases Nat.lt_or_eq_of_le hk with h | h
        · exact h
        · subst h; exact absurd (Nat.mod_self k) hd
      clear hm
      go_wp2
      go_round
      case rel =>
        refine ⟨k + 1, by go_num, by omega, by omega, fun q h1 h2 => ?_⟩
        rcases Nat.lt_or_eq_of_le (Nat.le_of_lt_succ h2) with h | h
        · exact HL.out q h1 h
        · subst h; exact hd
      case measure => simp [intOf]; omega

theorem info_i64 : (Try.prog.info? 2).map (fun i => (i.zero, i.size, i.bytes)) = some (some (.int .i64 0), 1, 8) := by kernel_rfl

/-- A slice that owns these naturals, each a cell. -/
def OwnsN (w : World) (B : Nat) (v : Value) (xs : List Nat) : Prop := w.ownsRow B 2 1 v xs.length (xs.map fun (x : Nat) => Value.int .i64 (x : Int))

theorem pow_len {k m n : Nat} (h : 2 ^ k * m ≤ n) (hm : 1 ≤ m) (hn : n ≤ 1024) : k ≤ 10 := by
  apply Nat.le_of_not_lt
  intro hc
  have h1 : 2 ^ 11 ≤ 2 ^ k := Nat.pow_le_pow_right (by omega) hc
  have h2 : (2 : Nat) ^ 11 = 2048 := by decide
  have h3 : 2 ^ k * 1 ≤ 2 ^ k * m := Nat.mul_le_mul_left _ hm
  omega

/-- What a round of the factors does. -/
theorem fac_step {n m p : Nat} {xs : List Nat} (hm : 1 < m) (hp : Fac.Least m p) (hF : ∀ ys, Fac.Facs m ys → Fac.Facs n (xs ++ ys)) (hl : 2 ^ xs.length * m ≤ n) :
    (∀ ys, Fac.Facs (m / p) ys → Fac.Facs n ((xs ++ [p]) ++ ys)) ∧ 2 ^ (xs ++ [p]).length * (m / p) ≤ n ∧ 1 ≤ m / p ∧ m / p < m := by
  have hle := hp.le hm
  have h2 := hp.two
  have e : m / p * p = m := Nat.div_mul_cancel (Nat.dvd_of_mod_eq_zero hp.dvd)
  have h1 : 1 ≤ m / p := (Nat.le_div_iff_mul_le (by omega)).2 (by omega)
  have h3 : m / p * 2 ≤ m / p * p := Nat.mul_le_mul_left _ h2
  refine ⟨fun ys h => ?_, ?_, h1, by omega⟩
  · rw [List.append_assoc]
    exact hF _ (.more hm hp h)
  · simp only [List.length_append, List.length_cons, List.length_nil, Nat.zero_add, Nat.pow_succ]
    have : 2 ^ xs.length * (m / p * 2) ≤ 2 ^ xs.length * m := Nat.mul_le_mul_left _ (by omega)
    rw [Nat.mul_assoc, Nat.mul_comm 2 (m / p)]
    omega

/-- What FactorsOf returns: the factors, or an error. -/
def FR (n : Int) (zs : List Int) (c : Int) : Prop :=
  (∃ m : Nat, n = m ∧ 1 ≤ m ∧ m ≤ 1024 ∧ c = 0 ∧ ∃ xs, zs = xs.map (fun (x : Nat) => (x : Int)) ∧ Fac.Facs m xs) ∨ (¬ (1 ≤ n ∧ n ≤ 1024) ∧ zs = [] ∧ c = 2)

theorem FR.unique {n c c' : Int} {zs zs' : List Int} (h : FR n zs c) (h' : FR n zs' c') : zs = zs' ∧ c = c' := by
  rcases h with ⟨m, rfl, h1, h2, rfl, xs, rfl, hf⟩ | ⟨h1, rfl, rfl⟩
  · rcases h' with ⟨m', e, _, _, rfl, xs', rfl, hf'⟩ | ⟨h3, _⟩
    · obtain rfl : m = m' := by omega
      rw [hf.unique hf']; exact ⟨rfl, rfl⟩
    · omega
  · rcases h' with ⟨m', e, _, _, _⟩ | ⟨_, rfl, rfl⟩
    · omega
    · exact ⟨rfl, rfl⟩

theorem FR.len {n c : Int} {zs : List Int} (h : FR n zs c) : zs.length ≤ 10 := by
  rcases h with ⟨m, rfl, h1, h2, rfl, xs, rfl, hf⟩ | ⟨h1, rfl, rfl⟩
  · have := hf.len_le h2; simpa using this
  · simp

theorem OwnsN.row {w : World} {B : Nat} {v : Value} {xs : List Nat} (h : OwnsN w B v xs) : Row w B 2 v (ints (xs.map fun (x : Nat) => (x : Int))) := by
  unfold OwnsN at h
  unfold Row ints
  rw [List.length_map, List.length_map, List.map_map]
  exact h

end Go.Proofs.Ytphgibndncjaiaa
/-
  The walk of the model's fast transform.
-/
set_option linter.unusedVariables false
set_option linter.unusedSimpArgs false
namespace Go.Proofs.Ytphgibndncjaiaa
open Go.RowKit Flt Turn Fast
attribute [local go_sem] run_fadd run_fsub run_fmul run_fquo run_cadd run_csub

/-- Rows of different types lie in different blocks. -/
theorem Row.apart {w : World} {B B' : Nat} {e e' : TypeId} {v v' : Value} {cs cs' : List Value} (h : Row w B e v cs) (h' : Row w B' e' v' cs') (hne : e ≠ e') : v.ownBlock = none ∨ v.ownBlock ≠ v'.ownBlock := by
  rcases h.2 with ⟨rfl, _⟩ | ⟨g, cap, cur, rfl, _, hg, _⟩
  · exact .inl rfl
  · right
    rcases h'.2 with ⟨rfl, _⟩ | ⟨g', cap', cur', rfl, _, hg', _⟩
    · simp [Value.ownBlock]
    · intro e2
      simp only [Value.ownBlock, Option.some.injEq] at e2
      subst e2
      rw [hg] at hg'
      simp only [Option.some.injEq, Obj.cells.injEq] at hg'
      exact hne hg'.2.1

theorem info_rows : (Try.prog.info? 24).map (fun i => (i.zero, i.size, i.bytes)) = some (some (.slice none 0 0), 1, 24) := by kernel_rfl

/-- The first i numbers of a part. -/
def partN (xs : List C) (r p i : Nat) : List C := (List.range i).map fun t => xs.getD (r + t * p) (0, 0)
theorem partN_length (xs : List C) (r p i : Nat) : (partN xs r p i).length = i := by simp [partN]
theorem partN_succ (xs : List C) (r p i : Nat) : partN xs r p (i + 1) = partN xs r p i ++ [xs.getD (r + i * p) (0, 0)] := by simp [partN, List.range_succ]
theorem partN_wf {xs : List C} {r p i m : Nat} (hw : WfC xs) (hn : xs.length = p * m) (hr : r < p) (hi : i ≤ m) : WfC (partN xs r p i) := by
  intro q hq
  obtain ⟨t, ht, rfl⟩ := List.mem_map.1 hq
  have ht := List.mem_range.1 ht
  refine hw _ (getD_memC ?_)
  rw [hn]
  have : (t + 1) * p ≤ m * p := Nat.mul_le_mul_right _ (by omega)
  rw [Nat.add_mul, Nat.one_mul, Nat.mul_comm m p] at this
  omega
theorem part_every {xs : List C} {r p m : Nat} (hp : 0 < p) (hn : xs.length = p * m) (hr : r < p) : zsOf (partN xs r p m) = every (zsOf xs) r p := by
  have hl : (every (zsOf xs) r p).length = m := every_length hp (by rw [zsOf_length, hn]) hr
  unfold every at hl ⊢
  rw [List.length_map, List.length_range] at hl
  rw [hl]
  unfold zsOf partN
  rw [List.map_map]
  apply List.map_congr_left
  intro t ht
  have ht := List.mem_range.1 ht
  have hlt : r + t * p < xs.length := by
    rw [hn]
    have : (t + 1) * p ≤ m * p := Nat.mul_le_mul_right _ (by omega)
    rw [Nat.add_mul, Nat.one_mul, Nat.mul_comm m p] at this
    omega
  exact (zsOf_getD hlt).symm

/-- What the fast transform returns. -/
def FastR (xs : List C) (w : World) (e : Ending) (w' : World) : Prop :=
  ∃ v ys, e = .returned v ∧ Row w' w.heap.size 26 v (cvals ys) ∧ WfC ys ∧ Fast (zsOf xs) (zsOf ys) ∧ Below w.heap.size w w'

theorem row_one {w : World} {B : Nat} {e : TypeId} {v : Value} {cs : List Value} (h : Row w B e v cs) : v.oneCell' = true := by
  rcases h.2 with ⟨rfl, _⟩ | ⟨g, cap, cur, rfl, _⟩ <;> rfl

/-- A row that is not empty, as the walk reads it. -/
theorem Row.get {w : World} {B : Nat} {e : TypeId} {v : Value} {ys : List C} {m : Nat} (h : Row w B e v (cvals ys)) (hl : ys.length = m) (hm : 0 < m) :
    ∃ g cap, v = .slice (some ⟨g, 0, none⟩) m cap ∧ m ≤ cap ∧ g < w.heap.size ∧ ∀ j, j < m → w.cell? ⟨g, j, none⟩ = some (.complex .f64 (ys.getD j (0, 0)).1 (ys.getD j (0, 0)).2) := by
  have h' := h
  have hl' : (cvals ys).length = m := by rw [cvals_length, hl]
  rcases h.shape with ⟨a, cap, rfl, e⟩ | ⟨g, cap, rfl, h0, _, hg, hc, _⟩
  · rw [e] at hl'; simp at hl'; omega
  · rw [hl'] at hc h' ⊢
    exact ⟨g, cap, rfl, hc, hg, fun j hj => by rw [h'.cellAt hj, cvals_getD (by omega)]⟩

/-- A row of whatever values that is not empty. -/
theorem Row.getV {w : World} {B : Nat} {e : TypeId} {v : Value} {cs : List Value} {m : Nat} (h : Row w B e v cs) (hl : cs.length = m) (hm : 0 < m) :
    ∃ g cap, v = .slice (some ⟨g, 0, none⟩) m cap ∧ m ≤ cap ∧ g < w.heap.size ∧ ∀ j, j < m → w.cell? ⟨g, j, none⟩ = some (cs.getD j undef) := by
  have h' := h
  rcases h.shape with ⟨a, cap, rfl, e⟩ | ⟨g, cap, rfl, h0, _, hg, hc, _⟩
  · rw [e] at hl; simp at hl; omega
  · rw [hl] at hc h' ⊢
    exact ⟨g, cap, rfl, hc, hg, fun j hj => h'.cellAt hj⟩

theorem Row.heap {w w' : World} {B : Nat} {e : TypeId} {v : Value} {cs : List Value} (h : Row w B e v cs) (e2 : w'.heap = w.heap) : Row w' B e v cs := by
  unfold Row World.ownsRow at *
  rw [e2]
  exact h

/-- What the second loop fills. -/
structure Outs (W wr : World) (n m p k : Nat) (zy : Nat → List Z) (os : List C) : Prop where
  len : os.length = n
  row : Row wr W.heap.size 26 (.slice (some ⟨W.heap.size, 0, none⟩) n n) (cvals os)
  wf : WfC os
  good : ∀ i, i < n → i % m < k → (zsOf os).getD i z0 = outP n p zy (i % m) (i / m)
  below : Below W.heap.size W wr

theorem Outs.all {W wr : World} {n m p : Nat} {zy : Nat → List Z} {os : List C} (h : Outs W wr n m p m zy os) (hm : 0 < m) (hd : n / p = m) : zsOf os = joinP n p zy := by
  apply List.ext_getElem (by rw [zsOf_length, h.len, joinP_length])
  intro i h1 h2
  rw [joinP_length] at h2
  have e := h.good i h2 (Nat.mod_lt _ hm)
  have e2 := joinP_getD (p := p) (ys := zy) h2
  rw [hd] at e2
  rw [← e2] at e
  simpa [List.getD, h1, joinP_length, h2] using e

theorem wfC_snoc2 {xs : List C} {p q : Nat} (h : WfC xs) (hp : p < 18446744073709551616) (hq : q < 18446744073709551616) : WfC (xs ++ [(p, q)]) := by
  intro u hu
  rcases List.mem_append.1 hu with h1 | h1
  · exact h u h1
  · rw [List.mem_singleton.1 h1]; exact ⟨hp, hq⟩

/-- The terms of a round. -/
structure Terms (W wr : World) (n k r : Nat) (zy : Nat → List Z) (v : Value) (ts : List C) : Prop where
  len : ts.length = r
  row : Row wr W.heap.size 26 v (cvals ts)
  wf : WfC ts
  good : ∀ i, i < r → (zsOf ts).getD i z0 = term n zy k i
  below : Below W.heap.size W wr

/-- One term more. -/
theorem Terms.next {W wt w2 : World} {n k s nn : Nat} {zy : Nat → List Z} {v v' : Value} {ts : List C} {c d : Nat} {o : Obj} (h : Terms W wt n k s zy v ts) (hown : w2.ownsRow W.heap.size 26 1 v' (s + 1) (cvals ts ++ [.complex .f64 c d]))
    (hgr : ((wt.drewN nn).alloc o).grownBy w2 v.ownBlock) (hcd : IsC (c, d) (term n zy k s)) : Terms W w2 n k (s + 1) zy v' (ts ++ [(c, d)]) := by
  have hl : (cvals ts).length = s := by rw [cvals_length, h.len]
  have hlt := (h.row.alloc o).lt
  refine ⟨by rw [List.length_append, h.len]; rfl, ?_, wfC_snoc2 h.wf hcd.re.lt hcd.im.lt, fun i hi => ?_, ?_⟩
  · show w2.ownsRow _ _ _ _ _ _
    rw [cvals_snoc, List.length_append, hl]
    exact hown
  · have hlz : (zsOf ts).length = s := by rw [zsOf_length, h.len]
    have e : zsOf (ts ++ [(c, d)]) = zsOf ts ++ [zOf (c, d)] := by simp [zsOf]
    rw [e]
    rcases Nat.lt_or_eq_of_le (Nat.le_of_lt_succ hi) with h1 | h1
    · rw [show (zsOf ts ++ [zOf (c, d)]).getD i z0 = (zsOf ts).getD i z0 by simp [List.getD, List.getElem?_append_left, hlz, h1]]
      exact h.good i h1
    · subst h1
      rw [show (zsOf ts ++ [zOf (c, d)]).getD i z0 = zOf (c, d) by simp [List.getD, ← hlz]]
      unfold zOf
      rw [hcd.re.cn, hcd.im.cn]
  · exact (below_draws h.below nn).alloc h.below.size o |>.grown hgr (by have := h.below.size; show _ ≤ (wt.alloc o).heap.size; simp; omega) (fun b e => (hlt b e).1)

/-- What the first loop gathers: the transforms of the parts. -/
structure Parts (w wr : World) (xs : List C) (p r : Nat) (v6 : Value) (vs : List Value) (ys : Nat → List C) : Prop where
  len : vs.length = r
  row : Row wr w.heap.size 24 v6 vs
  each : ∀ i, i < r → Row wr w.heap.size 26 (vs.getD i undef) (cvals (ys i)) ∧ WfC (ys i) ∧ Fast (every (zsOf xs) i p) (zsOf (ys i))
  below : Below w.heap.size w wr

/-- The parts stay while new blocks are made. -/
theorem Parts.below' {w wr wq : World} {xs : List C} {p r : Nat} {v6 : Value} {vs : List Value} {ys : Nat → List C} (h : Parts w wr xs p r v6 vs ys) (hb : Below wr.heap.size wr wq) : Parts w wq xs p r v6 vs ys :=
  ⟨h.len, h.row.below hb (fun k hk => (h.row.lt k hk).2), fun i hi => ⟨(h.each i hi).1.below hb (fun k hk => ((h.each i hi).1.lt k hk).2), (h.each i hi).2⟩, h.below.trans (hb.mono h.below.size)⟩

/-- One part more. -/
theorem Parts.next {w w2 w3 : World} {xs : List C} {p r B2 : Nat} {v6 v6' v' : Value} {vs : List Value} {ys : Nat → List C} {y : List C} (h : Parts w w2 xs p r v6 vs ys)
    (hv : Row w2 B2 26 v' (cvals y)) (hB2 : w.heap.size ≤ B2) (hw : WfC y) (hf : Fast (every (zsOf xs) r p) (zsOf y)) (hr6 : Row w3 w.heap.size 24 v6' (vs ++ [v'])) (hg : w2.grownBy w3 v6.ownBlock) :
    Parts w w3 xs p (r + 1) v6' (vs ++ [v']) (fun i => if i = r then y else ys i) := by
  have ne : (26 : TypeId) ≠ 24 := by decide
  refine ⟨by simp [h.len], hr6, fun i hi => ?_, h.below.grown hg h.below.size (fun b e => (h.row.lt b e).1)⟩
  by_cases hir : i = r
  · subst hir
    rw [if_pos rfl, show (vs ++ [v']).getD i undef = v' by simp [List.getD, ← h.len]]
    exact ⟨(hv.base hB2).kept hg (hv.apart h.row ne), hw, hf⟩
  · rw [if_neg hir, show (vs ++ [v']).getD i undef = vs.getD i undef by simp [List.getD, List.getElem?_append_left, h.len, show i < r by omega]]
    obtain ⟨a, b⟩ := h.each i (by omega)
    exact ⟨a.kept hg (a.apart h.row ne), b⟩

/-- What has been filled of a column. -/
structure OutsQ (W wr : World) (n m p k q : Nat) (zy : Nat → List Z) (os : List C) : Prop where
  len : os.length = n
  row : Row wr W.heap.size 26 (.slice (some ⟨W.heap.size, 0, none⟩) n n) (cvals os)
  wf : WfC os
  good : ∀ i, i < n → (i % m < k ∨ i % m = k ∧ i / m < q) → (zsOf os).getD i z0 = outP n p zy (i % m) (i / m)
  below : Below W.heap.size W wr

theorem Outs.start {W wr wq : World} {n m p k : Nat} {zy : Nat → List Z} {os : List C} (h : Outs W wr n m p k zy os) (hb : Below wr.heap.size wr wq) : OutsQ W wq n m p k 0 zy os :=
  ⟨h.len, h.row.below hb (fun j hj => (h.row.lt j hj).2), h.wf, fun i hi hc => h.good i hi (hc.resolve_right (fun e => Nat.not_lt_zero _ e.2)), h.below.trans (hb.mono h.below.size)⟩

theorem OutsQ.draws {W wr : World} {n m p k q : Nat} {zy : Nat → List Z} {os : List C} (h : OutsQ W wr n m p k q zy os) (nn : Nat) : OutsQ W (wr.drewN nn) n m p k q zy os :=
  ⟨h.len, h.row.drewN nn, h.wf, h.good, below_draws h.below nn⟩

theorem OutsQ.done {W wr : World} {n m p k : Nat} {zy : Nat → List Z} {os : List C} (h : OutsQ W wr n m p k p zy os) (hn : n = p * m) (hm : 0 < m) : Outs W wr n m p (k + 1) zy os :=
  ⟨h.len, h.row, h.wf, fun i hi hc => h.good i hi (by
    have : i / m < p := Nat.div_lt_of_lt_mul (by rw [Nat.mul_comm]; omega)
    omega), h.below⟩

theorem OutsQ.next {W wr : World} {n m p k q : Nat} {zy : Nat → List Z} {os : List C} {c d : Nat} (h : OutsQ W wr n m p k q zy os) (hk : k < m) (hi : k + q * m < n) (hcd : IsC (c, d) (outP n p zy k q)) :
    OutsQ W (wr.setCell ⟨W.heap.size, k + q * m, none⟩ (.complex .f64 c d)) n m p k (q + 1) zy (os.set (k + q * m) (c, d)) := by
  have hS := h.row.set (k + q * m) (.complex .f64 c d)
  have hm : 0 < m := by omega
  have e1 : (k + q * m) % m = k := by rw [Nat.add_mul_mod_self_right, Nat.mod_eq_of_lt hk]
  have e2 : (k + q * m) / m = q := by rw [Nat.add_mul_div_right _ _ hm, Nat.div_eq_of_lt hk, Nat.zero_add]
  refine ⟨by rw [List.length_set, h.len], ?_, fun u hu => ?_, fun i hi' hc => ?_, h.below.setCell (p := ⟨W.heap.size, k + q * m, none⟩) (Nat.le_refl _) _⟩
  · have : cvals (os.set (k + q * m) (c, d)) = (cvals os).set (k + q * m) (.complex .f64 c d) := by simp [cvals, cval, List.map_set]
    rw [this]; exact hS.1
  · rcases List.mem_or_eq_of_mem_set hu with h1 | rfl
    · exact h.wf u h1
    · exact ⟨hcd.re.lt, hcd.im.lt⟩
  · have ez : zsOf (os.set (k + q * m) (c, d)) = (zsOf os).set (k + q * m) (zOf (c, d)) := by simp [zsOf, List.map_set]
    rw [ez]
    by_cases he : k + q * m = i
    · subst he
      rw [e1, e2]
      rw [show ((zsOf os).set (k + q * m) (zOf (c, d))).getD (k + q * m) z0 = zOf (c, d) by simp [List.getD, zsOf_length, h.len, hi]]
      unfold zOf
      rw [hcd.re.cn, hcd.im.cn]
    · rw [show ((zsOf os).set (k + q * m) (zOf (c, d))).getD i z0 = (zsOf os).getD i z0 by simp [List.getD, he]]
      refine h.good i hi' ?_
      rcases hc with h1 | ⟨h1, h2⟩
      · exact .inl h1
      · refine .inr ⟨h1, ?_⟩
        have : i / m ≠ q := fun e => he (by rw [← e, ← h1, Nat.mul_comm]; exact Nat.mod_add_div i m)
        omega

/-- The row of the terms stays while a number of the result is written. -/
theorem Row.far {w : World} {B g j : Nat} {e : TypeId} {v u : Value} {cs : List Value} (h : Row w B e v cs) (hg : g < B) : Row (w.setCell ⟨g, j, none⟩ u) B e v cs := by
  refine ⟨h.1, ?_⟩
  · rcases h.2 with hn | ⟨g', cap, cur, rfl, hb, hc, r⟩
    · exact .inl hn
    · refine .inr ⟨g', cap, cur, rfl, hb, ?_, r⟩
      rw [Below.heap_setCell _ _ _ _ (by show g' ≠ g; omega)]
      exact hc

theorem one_single (a b : Nat) : ∀ u ∈ [Value.complex .f64 a b], u.oneCell' = true := by intro u hu; simp at hu; subst hu; rfl

end Go.Proofs.Ytphgibndncjaiaa
/-
  What a call leaves that may fill one cache: blocks below B, but for the cache, stay.
-/
set_option linter.unusedVariables false
set_option linter.unusedSimpArgs false
namespace Go.Proofs.Ytphgibndncjaiaa
open Go.RowKit Flt Turn Fast

structure Keeps (B b : Nat) (w w' : World) : Prop where
  os : w'.os = w.os
  tape : w'.tape = w.tape
  output : w'.output = w.output
  size : w.heap.size ≤ w'.heap.size
  block : ∀ k, k < B → k ≠ b → w'.heap[k]? = w.heap[k]?

section
variable {B b : Nat} {w w1 w2 : World}
theorem Keeps.refl (B b : Nat) (w : World) : Keeps B b w w := ⟨rfl, rfl, rfl, Nat.le_refl _, fun _ _ _ => rfl⟩
theorem Keeps.trans (h : Keeps B b w w1) (k : Keeps B b w1 w2) : Keeps B b w w2 :=
  ⟨k.os.trans h.os, k.tape.trans h.tape, k.output.trans h.output, Nat.le_trans h.size k.size, fun i hi hb => (k.block i hi hb).trans (h.block i hi hb)⟩
theorem Keeps.mono {B' : Nat} (h : Keeps B b w w1) (hB : B' ≤ B) : Keeps B' b w w1 := ⟨h.os, h.tape, h.output, h.size, fun k hk hb => h.block k (Nat.lt_of_lt_of_le hk hB) hb⟩
theorem Keeps.of_below (h : Below B w w1) : Keeps B b w w1 := ⟨h.os, h.tape, h.output, h.size, fun k hk _ => h.block k hk⟩
theorem Keeps.of_grown (h : w.grownBy w1 (some b)) : Keeps w.heap.size b w w1 := ⟨h.os, h.tape, h.output, h.size, fun k hk hb => h.block k hk (by simpa using hb)⟩
theorem Keeps.below (h : Keeps B b w w1) (k : Below w1.heap.size w1 w2) (hB : B ≤ w1.heap.size) : Keeps B b w w2 := h.trans (.of_below (k.mono hB))
theorem Keeps.grown (h : Keeps B b w w1) (k : w1.grownBy w2 (some b)) (hB : B ≤ w1.heap.size) : Keeps B b w w2 := h.trans ((Keeps.of_grown k).mono hB)
theorem Keeps.keeps (h : Keeps B b w w1) (k : Keeps w1.heap.size b w1 w2) (hB : B ≤ w1.heap.size) : Keeps B b w w2 := h.trans (k.mono hB)
theorem Keeps.draws (h : Keeps B b w w1) (n : Nat) : Keeps B b w (w1.drewN n) := ⟨h.os, h.tape, h.output, h.size, h.block⟩
theorem Keeps.alloc (h : Keeps B b w w1) (hB : B ≤ w1.heap.size) (o : Obj) : Keeps B b w (w1.alloc o) := h.trans (.of_below ((Below.refl _ _).alloc hB o))
theorem Keeps.setCell (h : Keeps B b w w1) {p : Addr} (hp : B ≤ p.block) (u : Value) : Keeps B b w (w1.setCell p u) := h.trans (.of_below ((Below.refl _ _).setCell hp u))
theorem Keeps.cell (h : Keeps B b w w1) {p : Addr} (hp : p.block < B) (hb : p.block ≠ b) : w1.cell? p = w.cell? p := World.cell?_of_block (w := w) (h.block p.block hp hb)
theorem Keeps.frozen (h : Keeps B b w w1) {p : Addr} (hp : p.block < B) (hb : p.block ≠ b) : w1.frozen? p = w.frozen? p := World.frozen?_of_block (w := w) (h.block p.block hp hb)

/-- A row is no cache. -/
theorem Row.notCache {B c : Nat} {e : TypeId} {v : Value} {cs : List Value} (h : Row w B e v cs) (hc : Cache w b c) : v.ownBlock ≠ some b := by
  intro e1
  obtain ⟨es, clock, hb, _⟩ := hc
  rcases h.2 with ⟨rfl, _⟩ | ⟨g, cap, cur, rfl, _, hg, _⟩
  · cases e1
  · simp only [Value.ownBlock, Option.some.injEq] at e1
    subst e1
    rw [hb] at hg
    cases hg
theorem Row.keeps {B' : Nat} {e : TypeId} {v : Value} {cs : List Value} (h : Row w B' e v cs) (hk : Keeps B b w w1) (hv : ∀ k, v.ownBlock = some k → k < B) (hb : v.ownBlock ≠ some b) : Row w1 B' e v cs := by
  refine ⟨h.1, ?_⟩
  rcases h.2 with hn | ⟨g, cap, cur, rfl, hbb, hgg, rest⟩
  · exact .inl hn
  · refine .inr ⟨g, cap, cur, rfl, hbb, ?_, rest⟩
    rw [hk.block g (hv g (by simp [Value.ownBlock])) (fun e => hb (by rw [← e]; rfl))]
    exact hgg
theorem Row.grownK {B' : Nat} {e : TypeId} {v : Value} {cs : List Value} {c : Nat} (h : Row w B' e v cs) (hc : Cache w b c) (hk : w.grownBy w1 (some b)) : Row w1 B' e v cs :=
  h.keeps (Keeps.of_grown hk) (fun k e => (h.lt k e).2) (h.notCache hc)
theorem Cache.below {c : Nat} (h : Cache w b c) (hb : Below w.heap.size w w1) : Cache w1 b c := h.kept (grown_of_below hb) (by simp)
theorem cell_notCache {p : Addr} {c : Nat} {v : Value} (h : w.cell? p = some v) (hc : Cache w b c) : p.block ≠ b := by
  intro e
  obtain ⟨es, clock, hb, _⟩ := hc
  unfold World.cell? at h
  rw [e, hb] at h
  cases h
end

theorem readsAt' {w : World} {v : Value} {xs : List C} (h : Reads w v (cvals xs)) : ∀ a n cap, v = .slice a n cap → ∀ k, k < n → ∃ g, a = some ⟨g, 0, none⟩ ∧ g < w.heap.size ∧ w.cell? ⟨g, k, none⟩ = some (.complex .f64 (xs.getD k (0, 0)).1 (xs.getD k (0, 0)).2) := by
  intro a n cap e k hk
  generalize hcs : cvals xs = cs at h
  cases h with
  | none a' cap' => simp only [Value.slice.injEq] at e; omega
  | row g cap' L cs hL h0 hc hm hcell =>
    simp only [Value.slice.injEq] at e
    obtain ⟨rfl, rfl, rfl⟩ := e
    have c := hcell k hk
    rw [← hcs, cvals_getD (by rw [← hcs, cvals_length] at hL; omega)] at c
    exact ⟨g, rfl, World.block_lt_of_cell? _ _ c, c⟩

/-- The shape of what is read. -/
theorem Reads.form' {w : World} {v : Value} {cs : List Value} (h : Reads w v cs) : ∃ a cap, v = .slice a cs.length cap := by
  cases h with
  | none a cap => exact ⟨a, cap, rfl⟩
  | row g cap L cs hL => subst hL; exact ⟨_, cap, rfl⟩

end Go.Proofs.Ytphgibndncjaiaa
/-
  The program's fast transform: everyOf, restTurn, turnEach, sumOfTurned.
-/
set_option linter.unusedVariables false
set_option linter.unusedSimpArgs false
namespace Go.Proofs.Ytphgibndncjaiaa
open Go.RowKit Flt Turn Fast
attribute [local go_sem] run_fadd run_fsub run_fmul run_fquo run_cadd run_csub

set_option maxRecDepth 100000 in
set_option maxHeartbeats 4000000 in
theorem everyOf_any {v : Value} {xs : List C} {w : World} (h : Reads w v (cvals xs)) (p m r : Nat) (hn : xs.length = p * m) (hr : r < p) (hp : p ≤ 1024) (hl : xs.length ≤ 1024) :
    Calls Try.prog 45 #[v, .int .i64 r, .int .i64 p] w fun e w' => ∃ v', e = .returned v' ∧ Row w' w.heap.size 26 v' (cvals (partN xs r p m)) ∧ Below w.heap.size w w' := by
  obtain ⟨i0, hi, hz0, hz1, hz2⟩ := info_parts info_c128
  obtain ⟨n, hxn⟩ : ∃ n, xs.length = n := ⟨_, rfl⟩
  have hrd := readsAt' h
  obtain ⟨a, cap, rfl⟩ := h.form'
  rw [cvals_length, hxn] at hrd ⊢
  replace hrd := hrd _ _ _ rfl
  rw [hxn] at hn hl
  have HPM := Lib.hid hn
  have HRD := Lib.hid hrd
  have hmp : m ≤ 1024 := by
    apply Nat.le_of_not_lt
    intro hc
    have : 1 * m ≤ p * m := Nat.mul_le_mul_right _ (by omega)
    omega
  clear h hn hxn hrd
  go_enter Try.func45, Try.ntmps45
  go_wp2
  go_loopw [7, 8] (fun v8 i wq => ∃ (t J : Nat), i = .int .i64 J ∧ J = r + t * p ∧ t ≤ m ∧ J ≤ n + p ∧ Row wq w.heap.size 26 v8 (cvals (partN xs r p t)) ∧ Below w.heap.size w wq) (fun _ i _ => n - (intOf i).toNat)
  case atStart => exact ⟨0, r, rfl, by omega, Nat.zero_le _, by omega, World.ownsRow_nil _ _ _ _, Below.refl _ _⟩
  case round =>
    obtain ⟨t, J, rfl, hJ, ht, hJn, hrw, hbw⟩ := hrel
    have HJ := Lib.hid hJ
    have HRW := Lib.hid hrw
    have HBW := Lib.hid hbw
    clear hJ hrw hbw
    by_cases hJl : J < n
    · obtain ⟨g, rfl, hg, hc⟩ := HRD.out J hJl
      have c1 : wr.cell? ⟨g, J, none⟩ = some (.complex .f64 (xs.getD J (0, 0)).1 (xs.getD J (0, 0)).2) := by
        rw [HBW.out.cell hg]; exact hc
      have htm : t < m := by
        apply Nat.lt_of_not_le
        intro hc
        have : m * p ≤ t * p := Nat.mul_le_mul_right _ hc
        have e1 := HJ.out
        have e2 := HPM.out
        rw [Nat.mul_comm m p] at this
        omega
      have hJ2 : J + p = r + (t + 1) * p := by rw [Nat.add_mul, Nat.one_mul, HJ.out]; omega
      have hps := partN_succ xs r p t
      rw [← HJ.out] at hps
      obtain ⟨⟨a, b⟩, hab⟩ : ∃ q, xs.getD J (0, 0) = q := ⟨_, rfl⟩
      rw [hab] at c1 hps
      have hl8 : (cvals (partN xs r p t)).length = t := by rw [cvals_length, partN_length]
      have HS := Lib.hid hps
      have HJ2 := Lib.hid hJ2
      have HL8 := Lib.hid hl8
      clear hab hps hJ2 hl8 hc
      go_wp2_with (at_builtin; refine wpList_append_own _ rfl _ _ 24 rfl w.heap.size 26 i0 (.complex .f64 0 0) 1 16 Try.underlying24 hi hz0 hz1 hz2 rfl (by decide) _ _ _ rfl (HRW.out.alloc _) ⟨_, 0, none⟩ 1 1 [.complex .f64 a b] rfl rfl (cell_one_new _ _ _) (by intro u hu; simp at hu; subst hu; rfl) (by rw [HL8.out]; simp only [maxLen]; omega) (by rw [HL8.out]; omega) (by have := HBW.out.size; simp; omega) ?_)
      intro v' w1 hown' hgrow _
      have hlt' := (HRW.out.alloc (.cells #[.complex .f64 a b] 26)).lt
      have HB' : Hid (Below w.heap.size w w1) := (HBW.out.alloc HBW.out.size _).grown hgrow (by have := HBW.out.size; simp; omega) (fun b e => (hlt' b e).1)
      have HO' : Hid (Row w1 w.heap.size 26 v' (cvals (partN xs r p (t + 1)))) := by
        show w1.ownsRow _ _ _ _ _ _
        rw [HS.out, cvals_snoc, List.length_append]
        exact hown'
      clear hown' hgrow hlt' HRW HBW HS HL8
      go_wp2
      go_roundw
      case rel => first | exact ⟨t + 1, J + p, by go_num, HJ2.out, by omega, by omega, HO'.out, HB'.out⟩ | ((repeat apply Exists.intro); refine ⟨?_, rfl⟩; exact ⟨t + 1, J + p, by go_num, HJ2.out, by omega, by omega, HO'.out, HB'.out⟩)
      case measure => simp [intOf]; omega
    · have htm : t = m := by
        have e1 := HJ.out
        have e2 := HPM.out
        apply Nat.le_antisymm ht
        apply Nat.le_of_not_lt
        intro hc
        have : (t + 1) * p ≤ m * p := Nat.mul_le_mul_right _ hc
        rw [Nat.add_mul, Nat.one_mul, Nat.mul_comm m p] at this
        omega
      subst htm
      go_wp2
      go_ret
      exact ⟨_, rfl, HRW.out, HBW.out⟩

theorem partN_one (xs : List C) : partN xs 0 1 xs.length = xs := by
  apply List.ext_getElem (by simp [partN])
  intro i h1 h2
  simp [partN, List.getD, h2]

theorem restTurn_any (n j b c : Nat) (w : World) (hn : 0 < n) (hn2 : n ≤ 100000) (hj : j ≤ 10000000000) (hc : Cache w b c) (hcf : c ≤ 4000000000000000000) :
    Calls Try.prog 31 #[.map (some b), .int .i64 n, .int .i64 (-(j : Int))] w (RetCa (twid n j) b (c + 8) w) := by
  have hrl : rst n j ≤ n := by unfold rst; exact Nat.le_of_lt (Nat.mod_lt _ hn)
  have T := Lib.hid (turn_cache n (rst n j) b c w hn hn2 hrl hc hcf)
  obtain ⟨e, he⟩ : ∃ e, j % n = e := ⟨_, rfl⟩
  have hen : e < n := by rw [← he]; exact Nat.mod_lt _ hn
  have he1 : (j : Int) % (n : Int) = (e : Int) := by rw [← he]; rfl
  obtain ⟨f, hf⟩ : ∃ f, (n - e) % n = f := ⟨_, rfl⟩
  have hf0 : ((n - e : Nat) : Int) = -(e : Int) + (n : Int) := by omega
  have hf1 : (-(e : Int) + (n : Int)).tmod (n : Int) = (f : Int) := by rw [← hf0, ← hf]; rfl
  have hf2 : (-(e : Int) + (n : Int)) % (n : Int) = (f : Int) := by rw [← hf0, ← hf]; rfl
  have hR : rst n j = f := by
    show (n - j % n) % n = f
    rw [he, hf]
  unfold twid
  rw [hR] at T ⊢
  clear hf he hf0 hc hR hrl
  go_enter Try.func31, Try.ntmps31
  go_wp2_with fail
  refine T.out.mono ?_
  rintro e w1 ⟨x, y, rfl, hx, hy, hc1, hg1⟩
  have HE := Lib.hid (show RetCa (turn n f) b (c + 8) w (.returned (.complex .f64 x y)) w1 from ⟨x, y, rfl, hx, hy, hc1, hg1⟩)
  clear hx hy hc1 hg1 T
  go_wp2
  go_ret
  exact HE.out

/-- A term, turned. -/
def turnedT (n k : Nat) (z : Nat → Z) (i : Nat) : Z := if i = 0 then z 0 else mulZ (z i) (twid n (i * k))

set_option maxRecDepth 100000 in
set_option maxHeartbeats 4000000 in
theorem turnEach_any {g L cap B : Nat} {ts : List C} {w : World} (b c n k : Nat) (zt : Nat → Z) (hrow : Row w B 26 (.slice (some ⟨g, 0, none⟩) L cap) (cvals ts)) (hgd : ∀ i, i < L → IsC (ts.getD i (0, 0)) (zt i)) (hc : Cache w b c)
    (hn : 0 < n) (hn2 : n ≤ 100000) (h1 : 1 ≤ L) (hL : L ≤ 1024) (hk : k ≤ 1024) (hcf : c ≤ 3000000000000000000) :
    Calls Try.prog 61 #[.map (some b), .slice (some ⟨g, 0, none⟩) L cap, .int .i64 n, .int .i64 k] w fun e w' => e = .returned (.tuple #[]) ∧ ∃ ts', Row w' B 26 (.slice (some ⟨g, 0, none⟩) L cap) (cvals ts') ∧ ts'.length = L ∧ (∀ i, i < L → IsC (ts'.getD i (0, 0)) (turnedT n k zt i)) ∧ Cache w' b (c + 8 * L) ∧ Keeps B b w w' := by
  have hBg : B ≤ g := (hrow.lt _ rfl).1
  have hlt : ts.length = L := by have := hrow.len; rwa [cvals_length] at this
  have HR0 := Lib.hid hrow
  have HG0 := Lib.hid hgd
  have HC0 := Lib.hid hc
  have HL0 := Lib.hid hlt
  have hBs : B ≤ w.heap.size := Nat.le_trans hBg (Nat.le_of_lt (hrow.lt _ rfl).2)
  clear hrow hgd hc hlt
  go_enter Try.func61, Try.ntmps61
  go_wp2
  go_loopw [8] (fun i wr => ∃ (r : Nat) (ts' : List C), i = .int .i64 r ∧ 1 ≤ r ∧ r ≤ L ∧ Row wr B 26 (.slice (some ⟨g, 0, none⟩) L cap) (cvals ts') ∧ ts'.length = L ∧ (∀ i, i < L → IsC (ts'.getD i (0, 0)) (if i < r then turnedT n k zt i else zt i)) ∧ Cache wr b (c + 8 * r) ∧ Keeps B b w wr) (fun i _ => L - (intOf i).toNat)
  case atStart => exact ⟨1, ts, rfl, Nat.le_refl _, h1, HR0.out, HL0.out, fun i hi => by
    by_cases h0 : i = 0
    · subst h0; exact HG0.out 0 (by omega)
    · rw [if_neg (by omega)]; exact HG0.out i hi, HC0.out.mono (by omega), Keeps.refl _ _ _⟩
  case round =>
    obtain ⟨r, ts', rfl, hr1, hr2, hrw, hl', hgd', hc', hkp⟩ := hrel
    have HRW := Lib.hid hrw
    have HL' := Lib.hid hl'
    have HGD := Lib.hid hgd'
    have HC := Lib.hid hc'
    have HK := Lib.hid hkp
    clear hrw hl' hgd' hc' hkp
    by_cases hrl : r < L
    · obtain ⟨J, hJ⟩ : ∃ J, r * k = J := ⟨_, rfl⟩
      have hJ2 : J ≤ 1048576 := by rw [← hJ]; exact Nat.le_trans (Nat.mul_le_mul (by omega : r ≤ 1024) (by omega : k ≤ 1024)) (by decide)
      have eM : -(r : Int) * (k : Int) = -(J : Int) := by rw [← hJ]; simp [Int.neg_mul]
      have eW : IntKind.i64.wrap (IntKind.i64.wrap (-(r : Int)) * (k : Int)) = -(J : Int) := by
        have a1 : IntKind.i64.wrap (-(r : Int)) = -(r : Int) := by rw [IntKind.wrap_i64]; omega
        rw [a1, eM, IntKind.wrap_i64]; omega
      have RT := Lib.hid (restTurn_any n J b (c + 8 * r) wr hn hn2 (by omega) HC.out (by omega))
      have HJ := Lib.hid hJ
      clear hJ
      go_wp2_with fail
      refine RT.out.mono ?_
      rintro e w1 ⟨x, y, rfl, hx, hy, hc1, hg1⟩
      have hr1' := HRW.out.grownK HC.out hg1
      have c1 := hr1'.cellAt hrl
      rw [cvals_getD (by rw [HL'.out]; exact hrl)] at c1
      have z1 := HGD.out r hrl
      rw [if_neg (by omega)] at z1
      obtain ⟨⟨p, q⟩, hpq⟩ : ∃ u, ts'.getD r (0, 0) = u := ⟨_, rfl⟩
      rw [hpq] at c1 z1
      have HX : Hid (IsC (x, y) (twid n J)) := ⟨hx, hy⟩
      have HR1 := Lib.hid hr1'
      have HC1 := Lib.hid hc1
      have HK1 := Lib.hid (HK.out.grown hg1 (Nat.le_trans hBs HK.out.size))
      have hBs1 : B ≤ w1.heap.size := Nat.le_trans hBg (Nat.le_of_lt (hr1'.lt _ rfl).2)
      have T := Lib.hid (fun w => times_any p q x y (zt r) (twid n J) z1 HX.out w)
      clear hx hy hc1 hg1 hr1' hpq z1 RT HRW HC HK
      go_wp2_with fail
      refine (numberOf_any p q _).mono ?_
      rintro e w2 ⟨rfl, b2⟩
      go_wp2_with fail
      refine (numberOf_any x y _).mono ?_
      rintro e w3 ⟨rfl, b3⟩
      go_wp2_with fail
      refine (T.out _).mono ?_
      rintro e w4 ⟨p2, q2, rfl, hpq2, b4⟩
      have bb : Below w1.heap.size w1 w4 := below_step (below_step b2 b3 b2.size) b4 (Nat.le_trans b2.size b3.size)
      have HR4 := Lib.hid (HR1.out.below bb (fun j hj => (HR1.out.lt j hj).2))
      have HC4 := Lib.hid (HC1.out.below bb)
      have HK4 := Lib.hid (HK1.out.below bb hBs1)
      have hS := (HR4.out).set r (.complex .f64 p2 q2)
      have c4 := HR4.out.cellAt hrl
      have f4 := HR4.out.frozenAt r
      obtain ⟨u, hu⟩ : ∃ u, (cvals ts').getD r undef = u := ⟨_, rfl⟩
      rw [hu] at c4
      have hcs : (cvals ts').set r (.complex .f64 p2 q2) = cvals (ts'.set r (p2, q2)) := by simp [cvals, cval, List.map_set]
      rw [hcs] at hS
      have HS := Lib.hid hS.1
      have hgb : b ≠ g := fun e => (HR4.out.notCache HC4.out) (by rw [e]; rfl)
      have HC5 : Hid (Cache (w4.setCell ⟨g, r, none⟩ (.complex .f64 p2 q2)) b (c + 8 * (r + 1))) := (HC4.out.setCell (a := ⟨g, r, none⟩) hgb _).mono (by omega)
      have HK5 : Hid (Keeps B b w (w4.setCell ⟨g, r, none⟩ (.complex .f64 p2 q2))) := HK4.out.setCell (p := ⟨g, r, none⟩) hBg _
      have HG5 : Hid (∀ i, i < L → IsC ((ts'.set r (p2, q2)).getD i (0, 0)) (if i < r + 1 then turnedT n k zt i else zt i)) := fun i hi => by
        by_cases he : r = i
        · subst he
          rw [if_pos (Nat.lt_succ_self _), show (ts'.set r (p2, q2)).getD r (0, 0) = (p2, q2) by simp [List.getD, HL'.out, hi]]
          unfold turnedT
          rw [if_neg (by omega), HJ.out]
          exact hpq2
        · rw [show (ts'.set r (p2, q2)).getD i (0, 0) = ts'.getD i (0, 0) by simp [List.getD, he]]
          have := HGD.out i hi
          by_cases h2 : i < r
          · rw [if_pos h2] at this; rw [if_pos (by omega)]; exact this
          · rw [if_neg h2] at this; rw [if_neg (by omega)]; exact this
      have HL5 : Hid ((ts'.set r (p2, q2)).length = L) := by show _ = _; rw [List.length_set]; exact HL'.out
      clear b2 b3 b4 bb hS hu hcs hpq2 T HX HR1 HC1 HK1 HR4 HC4 HK4 HGD c1
      go_wp2
      go_roundw
      case rel => first | exact ⟨r + 1, _, by go_num, by omega, by omega, HS.out, HL5.out, HG5.out, HC5.out, HK5.out⟩ | ((repeat apply Exists.intro); refine ⟨?_, rfl⟩; exact ⟨r + 1, _, by go_num, by omega, by omega, HS.out, HL5.out, HG5.out, HC5.out, HK5.out⟩)
      case measure => simp [intOf]; omega
    · have e : r = L := by omega
      subst e
      go_wp2
      go_end0
      exact ⟨rfl, ts', HRW.out, HL'.out, fun i hi => by have := HGD.out i hi; rwa [if_pos hi] at this, HC.out, HK.out⟩

/-- The sum of the turned terms is the one that the model finds. -/
theorem sumC_turned (p q : Nat) (z : Nat → Z) : ∀ j, j ≠ 0 → sumC (turnedT p q z) j = sumT z p q j
  | 0, h => absurd rfl h
  | j + 1, _ => by
    by_cases h : j = 0
    · subst h; rfl
    · rw [sumC_succ _ h, sumT, if_neg h, sumC_turned p q z j h]
      unfold turnedT
      rw [if_neg h]

set_option maxRecDepth 100000 in
set_option maxHeartbeats 4000000 in
theorem sumOfTurned_any {g L cap : Nat} {ts : List C} {w : World} (b c q : Nat) (zt : Nat → Z) (hrow : Reads w (.slice (some ⟨g, 0, none⟩) L cap) (cvals ts)) (hlt : ts.length = L) (hgd : ∀ i, i < L → IsC (ts.getD i (0, 0)) (zt i)) (hc : Cache w b c)
    (h1 : 1 ≤ L) (hL : L ≤ 1024) (hq : q ≤ 1024) (hcf : c ≤ 3000000000000000000) :
    Calls Try.prog 62 #[.map (some b), .slice (some ⟨g, 0, none⟩) L cap, .int .i64 q] w fun e w' => ∃ x y, e = .returned (.complex .f64 x y) ∧ IsC (x, y) (sumT zt L q L) ∧ Cache w' b (c + 8 * L) ∧ Keeps w.heap.size b w w' := by
  have E := Lib.hid (everyOf_any hrow 1 L 0 (by omega) (by omega) (by omega) (by omega))
  have HL := Lib.hid hlt
  have HG := Lib.hid hgd
  have HC := Lib.hid hc
  clear hrow hlt hgd hc
  go_enter Try.func62, Try.ntmps62
  go_wp2_with fail
  refine E.out.mono ?_
  rintro e w1 ⟨v', rfl, hr, hb⟩
  have hpo : partN ts 0 1 L = ts := by rw [← HL.out]; exact partN_one ts
  rw [hpo] at hr
  obtain ⟨g', cap', rfl, -, -, -⟩ := hr.get HL.out (by omega)
  have TE := Lib.hid (turnEach_any b c L q zt hr HG.out (HC.out.below hb) (by omega) (by omega) h1 hL hq hcf)
  have HB := Lib.hid hb
  have hz := hb.size
  clear hr hb E hpo
  go_wp2_with fail
  refine TE.out.mono ?_
  rintro e w2 ⟨rfl, ts', hr2, hl2, hg2, hc2, hk2⟩
  have S := Lib.hid (sumC_any hr2.reads (by omega) (turnedT L q zt) (fun i hi => hg2 i (by omega)))
  have HK : Hid (Keeps w.heap.size b w w2) := (Keeps.of_below HB.out).trans hk2
  have HC2 := Lib.hid hc2
  rw [hl2, sumC_turned L q zt L (by omega)] at S
  clear hr2 hl2 hg2 hc2 hk2 TE HB
  go_wp2_with fail
  refine S.out.mono ?_
  rintro e w3 ⟨x, y, rfl, hxy, n, rfl⟩
  have HX := Lib.hid hxy
  clear hxy S
  go_wp2
  go_ret
  exact ⟨x, y, rfl, HX.out, HC2.out.drewN n, HK.out.draws n⟩

end Go.Proofs.Ytphgibndncjaiaa
