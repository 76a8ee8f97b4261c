/-
  Several texts of this claim, one behind the other; each says what it holds.
-/
import Derived.Test.YtphgibndncjaiaaMRealPa9
import Derived.Deep.RegionHeld3
import Derived.IntWalk
import Derived.Deep.Slices
import Derived.Test.YtphgibndncjaiaaRows
import Derived.Lib.Hide
import Derived.Deep.QuietTactic
import Derived.BigQuiet
import Derived.Deep.RegionWith
/-
  ModulateSignal and TransformOf of the program.
-/
set_option linter.unusedVariables false
set_option linter.unusedSimpArgs false
namespace Go.Proofs.Ytphgibndncjaiaa
open Go.RowKit Flt Turn Fast

theorem restTurnP_any (n j b c : Nat) (w : World) (hn : 0 < n) (hn2 : n ≤ 100000) (hj : j ≤ 10000000000) (hc : Cache w b c) (hcf : c ≤ 4000000000000000000) :
    Calls Try.prog 31 #[.map (some b), .int .i64 n, .int .i64 (j : Int)] w (RetCa (turn n (j % n)) b (c + 8) w) := by
  have hrl : j % n ≤ n := Nat.le_of_lt (Nat.mod_lt _ hn)
  have T := Lib.hid (turn_cache n (j % n) b c w hn hn2 hrl hc hcf)
  obtain ⟨e, he⟩ : ∃ e, j % n = e := ⟨_, rfl⟩
  have hen : e < n := by rw [← he]; exact Nat.mod_lt _ hn
  have he1 : (j : Int) % (n : Int) = (e : Int) := by rw [← he]; rfl
  have he2 : ((j : Int)).tmod (n : Int) = (e : Int) := by rw [← he]; rfl
  have hf0 : (e + n) % n = e := by rw [Nat.add_mod_right, Nat.mod_eq_of_lt hen]
  have hf3 : (((e + n) % n : Nat) : Int) = (e : Int) := congrArg _ hf0
  have hf1 : ((e : Int) + (n : Int)).tmod (n : Int) = (e : Int) := Eq.trans (by rfl) hf3
  have hf2 : ((e : Int) + (n : Int)) % (n : Int) = (e : Int) := Eq.trans (by rfl) hf3
  rw [he] at T ⊢
  clear he hf0 hf3 hc hrl
  go_enter Try.func31, Try.ntmps31
  go_wp2_with fail
  refine T.out.mono ?_
  rintro e w1 ⟨x, y, rfl, hx, hy, hc1, hg1⟩
  have HE := Lib.hid (show RetCa (turn n e) b (c + 8) w (.returned (.complex .f64 x y)) w1 from ⟨x, y, rfl, hx, hy, hc1, hg1⟩)
  clear hx hy hc1 hg1 T
  go_wp2
  go_ret
  exact HE.out

/-- What the closure finds. -/
structure HasM (B0 B1 B2 B3 BC n k : Nat) (xv : Value) (c : Nat) (w : World) : Prop where
  cache : Cache w BC c
  c0 : w.cell? ⟨B0, 0, none⟩ = some xv
  c1 : w.cell? ⟨B1, 0, none⟩ = some (.map (some BC))
  c2 : w.cell? ⟨B2, 0, none⟩ = some (.int .i64 n)
  c3 : w.cell? ⟨B3, 0, none⟩ = some (.int .i64 k)

theorem HasM.kept {B0 B1 B2 B3 BC n k c : Nat} {xv : Value} {w w' : World} {row : Option Nat} (h : HasM B0 B1 B2 B3 BC n k xv c w) (hg : w.grownBy w' row) (n0 : some B0 ≠ row) (n1 : some B1 ≠ row) (n2 : some B2 ≠ row) (n3 : some B3 ≠ row) (n4 : some BC ≠ row) : HasM B0 B1 B2 B3 BC n k xv c w' :=
  ⟨h.cache.kept hg n4, hg.cell h.c0 n0, hg.cell h.c1 n1, hg.cell h.c2 n2, hg.cell h.c3 n3⟩

set_option maxRecDepth 100000 in
set_option maxHeartbeats 4000000 in
theorem mod1_any {w : World} {a : Option Addr} {cap n : Nat} {xs : List C} {zx : Nat → Z} (h : Reads w (.slice a n cap) (cvals xs)) (hl : xs.length = n) (hz : ∀ i, i < n → IsC (xs.getD i (0, 0)) (zx i)) (i k B0 B1 B2 B3 BC c : Nat) (hi : i < n) (hk : k < n) (hn : n ≤ 256) (hc : c ≤ 3000000000000000000) (hm : HasM B0 B1 B2 B3 BC n k (.slice a n cap) c w)
    (hbc : ∀ g, a = some ⟨g, 0, none⟩ → g ≠ BC) (b0 : B0 ≠ BC) (b1 : B1 ≠ BC) (b2 : B2 ≠ BC) (b3 : B3 ≠ BC) :
    Calls Try.prog 29 #[.int .i64 i, .pointer (some ⟨B0, 0, none⟩), .pointer (some ⟨B1, 0, none⟩), .pointer (some ⟨B2, 0, none⟩), .pointer (some ⟨B3, 0, none⟩)] w fun e w2 => ∃ p : C, e = .returned (cval p) ∧ IsC p (mulZ (zx i) (turn n (i * k % n))) ∧ Cache w2 BC (c + 8) ∧ w.grownBy w2 (some BC) := by
  obtain ⟨g, rfl, hcell⟩ := readsAtN h i hi
  have hmax := maxLen_int (readsMaxN h)
  have HZ := Lib.hid (hz i hi)
  obtain ⟨⟨x, y⟩, hxy⟩ : ∃ p, xs.getD i (0, 0) = p := ⟨_, rfl⟩
  rw [hxy] at hcell HZ
  obtain ⟨hca, c0, c1, c2, c3⟩ := hm
  have hgb := hbc g rfl
  obtain ⟨J, hJ⟩ : ∃ J, i * k = J := ⟨_, rfl⟩
  have hJ2 : J ≤ 65536 := by rw [← hJ]; exact Nat.le_trans (Nat.mul_le_mul (by omega : i ≤ 256) (by omega : k ≤ 256)) (by decide)
  have eM : (i : Int) * (k : Int) = (J : Int) := by rw [← hJ]; simp
  have hg0 : w.grownBy w.drew (some BC) := grown_drewN (World.grownBy.refl _ _) 1
  have RT := Lib.hid (restTurnP_any n J BC c w.drew (by omega) (by omega) (by omega) (hca.drewN 1) (by omega))
  rw [hJ]
  obtain ⟨tw, htw⟩ : ∃ tw, turn n (J % n) = tw := ⟨_, rfl⟩
  rw [htw] at RT ⊢
  have HC : Hid (∀ w', w.grownBy w' (some BC) → w'.cell? ⟨B0, 0, none⟩ = some (.slice (some ⟨g, 0, none⟩) n cap) ∧ w'.cell? ⟨B1, 0, none⟩ = some (.map (some BC)) ∧ w'.cell? ⟨B2, 0, none⟩ = some (.int .i64 n) ∧ w'.cell? ⟨B3, 0, none⟩ = some (.int .i64 k) ∧ w'.cell? ⟨g, i, none⟩ = some (.complex .f64 x y)) := fun w' hg =>
    ⟨hg.cell c0 (by simpa using b0), hg.cell c1 (by simpa using b1), hg.cell c2 (by simpa using b2), hg.cell c3 (by simpa using b3), hg.cell hcell (by simpa using hgb)⟩
  obtain ⟨d0, d1, d2, d3, d4⟩ := HC.out _ hg0
  have HG0 := Lib.hid hg0
  have PR := Lib.hid (fun (t u : Nat) (htu : IsC (t, u) tw) w => product_impl x y t u (zx i) tw HZ.out htu w)
  have wM : IntKind.i64.wrap ((i : Int) * (k : Int)) = (J : Int) := by rw [eM]; exact IntWalk.i64_in _ (by omega)
  clear h hl hz hxy hJ hbc htw hg0 hca hcell c0 c1 c2 c3 b0 b1 b2 b3 hgb eM HZ
  go_enter Try.func29, Try.ntmps29
  go_wp2_with fail
  go_region_held3 (fun w' => w'.cell? ⟨B0, 0, none⟩ = some (.slice (some ⟨g, 0, none⟩) n cap) ∧ w'.cell? ⟨B1, 0, none⟩ = some (.map (some BC)) ∧ w'.cell? ⟨B2, 0, none⟩ = some (.int .i64 n) ∧ w'.cell? ⟨B3, 0, none⟩ = some (.int .i64 k) ∧ w'.cell? ⟨g, i, none⟩ = some (.complex .f64 x y))
    (first
      | exact ⟨d0, d1, d2, d3, d4⟩
      | exact HC.out _ HG1.out.2
      | exact HC.out _ HG2.out.2
      | go_keep)
    (first
      | (go_at_call 31; refine RT.out.mono ?_; rintro e w1 ⟨t, u, rfl, ht, hu, hca1, hg1⟩; have HTU : Hid (IsC (t, u) tw) := ⟨ht, hu⟩; have HG1 : Hid (Cache w1 BC (c + 8) ∧ w.grownBy w1 (some BC)) := ⟨hca1, HG0.out.trans hg1⟩; clear ht hu hca1 hg1)
      | (go_at_call 30; refine (PR.out _ _ HTU.out _).mono ?_; rintro e w2 ⟨r, s, rfl, hrs, hb⟩; have HRS := Lib.hid hrs; have HG2 : Hid (Cache w2 BC (c + 8) ∧ w.grownBy w2 (some BC)) := ⟨HG1.out.1.below hb, HG1.out.2.trans (grown_up (grown_of_below hb) _)⟩; clear hrs hb))
  all_goals
    go_wp2
    go_ret
    exact ⟨(r, s), rfl, HRS.out, HG2.out⟩

theorem enter_modulate (args : Array Value) (w : World) : (callFunc 29 args).run Try.prog w = .ok (.enter 29 args) w := by kernel_rfl

set_option maxRecDepth 100000 in
set_option maxHeartbeats 4000000 in
theorem modulateSignal_any {w : World} {v : Value} {n k : Nat} {xs : List C} {zx : Nat → Z} (h : Reads w v (cvals xs)) (hl : xs.length = n) (hz : ∀ i, i < n → IsC (xs.getD i (0, 0)) (zx i)) (hn : n ≤ 256) (hk : k < n ∨ k = 0) :
    Calls Try.prog 13 #[v, .int .i64 k] w (SigTo3 n (fun i => mulZ (zx i) (turn n (i * k % n))) w) := by
  have hmm := @run_makeMap Try.prog
  have hrd := readsAt' h
  obtain ⟨a, cap, rfl⟩ := h.form
  rw [cvals_length, hl] at h hrd ⊢
  have hrd := hrd _ _ _ rfl
  obtain ⟨W, hW⟩ : ∃ W, ((((w.alloc (.cells #[.slice a n cap] 24)).alloc (.cells #[.int .i64 k] 2)).alloc (.cells #[.int .i64 n] 2)).alloc (.map #[] 0)).alloc (.cells #[.map (some (w.heap.size + 1 + 1 + 1))] 53) = W := ⟨_, rfl⟩
  have hb0 : Below w.heap.size w W := by rw [← hW]; exact (((((Below.refl _ _).alloc (Nat.le_refl _) _).alloc (by simp) _).alloc (by simp; omega) _).alloc (by simp; omega) _).alloc (by simp; omega) _
  have hs : W.heap.size = w.heap.size + 5 := by subst hW; simp
  have HM0 : HasM w.heap.size (w.heap.size + 1 + 1 + 1 + 1) (w.heap.size + 1 + 1) (w.heap.size + 1) (w.heap.size + 1 + 1 + 1) n k (.slice a n cap) 0 W := by
    subst hW
    refine ⟨?_, by go_simp, by go_simp, by go_simp, by go_simp⟩
    have := (Cache.made (((w.alloc (.cells #[.slice a n cap] 24)).alloc (.cells #[.int .i64 k] 2)).alloc (.cells #[.int .i64 n] 2))).alloc (.cells #[.map (some (w.heap.size + 1 + 1 + 1))] 53)
    simpa using this
  have hW2 := h.below hb0
  have HL : Hid (Calls Try.prog 24 #[.int .i64 n, .func (.func 29) #[] #[.pointer (some ⟨w.heap.size, 0, none⟩), .pointer (some ⟨w.heap.size + 1 + 1 + 1 + 1, 0, none⟩), .pointer (some ⟨w.heap.size + 1 + 1, 0, none⟩), .pointer (some ⟨w.heap.size + 1, 0, none⟩)]] W (SigTo1 n (fun i => mulZ (zx i) (turn n (i * k % n))) w)) := by
    refine (listOf_c128 _ _ n (by omega) (fun i => mulZ (zx i) (turn n (i * k % n))) (fun i W' => HasM w.heap.size (w.heap.size + 1 + 1 + 1 + 1) (w.heap.size + 1 + 1) (w.heap.size + 1) (w.heap.size + 1 + 1 + 1) n k (.slice a n cap) (8 * i) W' ∧ Reads W' (.slice a n cap) (cvals xs) ∧ Below w.heap.size w W') (some (w.heap.size + 1 + 1 + 1)) W enter_modulate
      (fun k hk => by cases hk; omega)
      (fun w' hg => ⟨HM0.kept hg (by simp) (by simp) (by simp) (by simp) (by simp), hW2.below ((Below.refl _ _).grown hg (Nat.le_refl _) (fun b e => by cases e)), hb0.grown hg hb0.size (fun b e => by cases e)⟩)
      (fun i w1 w2 hs1 ⟨hm, hr, hb⟩ hg => ⟨hm.kept hg (by simp; omega) (by simp; omega) (by simp; omega) (by simp; omega) (by simp; omega), ?_, hb.grown hg (by omega) (fun b e => by cases e; omega)⟩)
      (fun i w1 hi hs1 ⟨hm, hr, hb⟩ => ?_)).mono ?_
    · exact h.below (hb.grown hg (by omega) (fun b e => by cases e; omega))
    · refine (mod1_any hr hl hz i k _ _ _ _ _ (8 * i) hi (by omega) hn (by omega) hm (fun g e => ?_) (by omega) (by omega) (by omega) (by omega)).mono ?_
      · obtain ⟨g', e', hg', -⟩ := hrd i hi
        rw [e] at e'
        cases e'
        omega
      · rintro e w2 ⟨p, rfl, hp, hc2, hg⟩
        have hm2 := hb.grown hg (Nat.le_trans (by omega) (Nat.le_of_lt hs1)) (fun b e => by cases e; omega)
        exact ⟨p, rfl, hp, ⟨⟨by rw [show 8 * (i + 1) = 8 * i + 8 by omega]; exact hc2, hg.cell hm.c0 (by simp; omega), hg.cell hm.c1 (by simp), hg.cell hm.c2 (by simp), hg.cell hm.c3 (by simp)⟩, h.below hm2, hm2⟩, hg⟩
    · rintro e w' ⟨v, xs, rfl, hr, hx, hz, hI, -⟩
      exact ⟨v, xs, rfl, hr.base hb0.size, hx, hz, hI.2.2⟩
  have HW := Lib.hid hW
  obtain ⟨q', hq'⟩ : ∃ q', (fun i => mulZ (zx i) (turn n (i * k % n))) = q' := ⟨_, rfl⟩
  rw [hq'] at HL ⊢
  have hmax := maxLen_int (readsMaxN h)
  have HCP := Lib.hid (fun w => checkPlace_any a n cap k hn hk w)
  clear h hb0 hs HM0 hW hW2 hl hq' hz hk hrd
  go_enter Try.func13, Try.ntmps13
  go_wp2_with (go_at_call 23; with_reducible refine (HCP.out _).mono ?_; rintro e w' ⟨rfl, rfl⟩)
  rw [HW.out]
  refine HL.out.mono ?_
  rintro e w' ⟨v, xs, rfl, hm⟩
  obtain ⟨va, vc, rfl⟩ := writtenM hm.1
  have HM := Lib.hid hm
  clear hm HL
  go_wp2
  go_ret2
  exact ⟨_, xs, rfl, HM.out⟩

/-- A transform and OK are returned. -/
def FastR2 (xs : List C) (w : World) (e : Ending) (w' : World) : Prop :=
  ∃ v ys, e = .returned (.tuple #[v, .int .i64 0]) ∧ Row w' w.heap.size 26 v (cvals ys) ∧ WfC ys ∧ Fast (zsOf xs) (zsOf ys) ∧ Below w.heap.size w w'

set_option maxRecDepth 100000 in
set_option maxHeartbeats 4000000 in
theorem transformOf_any (xs : List C) (v : Value) (B : Nat) (w : World) (h2 : xs.length ≤ 256) (hw : WfC xs) (h : Row w B 26 v (cvals xs)) :
    Calls Try.prog 9 #[v] w (FastR2 xs w) := by
  have F := Lib.hid (fast_impl xs v B w (by omega) hw h)
  obtain ⟨a, cap, rfl⟩ := writtenM h
  rw [cvals_length] at F ⊢
  have hmax := maxLen_int (by have := readsMaxN (n := (cvals xs).length) h.reads; rwa [cvals_length] at this)
  obtain ⟨n, hn⟩ : ∃ n, xs.length = n := ⟨_, rfl⟩
  rw [hn] at F h2 hmax ⊢
  clear h hw hn
  go_enter Try.func9, Try.ntmps9
  go_wp2_with (go_at_call 21; go_in)
  refine F.out.mono ?_
  rintro e w' ⟨v, ys, rfl, hr, hy, hf, hb⟩
  obtain ⟨va, vc, rfl⟩ := writtenM hr
  have HM := Lib.hid (And.intro hr (And.intro hy (And.intro hf hb)))
  clear hr hy hf hb F
  go_wp2
  go_ret2
  exact ⟨_, ys, rfl, HM.out⟩

end Go.Proofs.Ytphgibndncjaiaa
/-
  Slices of floats that came in or that the call has made: opened, compared, copied, marked.
-/
set_option linter.unusedVariables false
set_option linter.unusedSimpArgs false
namespace Go.Proofs.Ytphgibndncjaiaa
open Go.RowKit Flt

section
variable {H : Type} {enc : TypeId × Value → H} {P : Program} {w : World} {base : Nat} {held : Bool}

theorem trod_float {t : TypeId} {k : FloatKind} {spare : Nat → Bool} {fuel : Nat} {cs : List Value} {x : DataW H × List MemPlace} (ht : P.underlying t = some (.float k)) (h : DataW.trod enc P w base spare held fuel t cs = some x) :
    ∃ n, cs = [.float k n] ∧ (Lit.float k n).wf = true := by
  cases fuel with
  | zero => simp [DataW.trod] at h
  | succ n =>
    unfold DataW.trod at h
    rw [ht] at h
    split at h <;> simp_all

end

/-- Floats as values. -/
def flts (zs : List Nat) : List Value := zs.map (Value.float .f64)
theorem flts_length (zs : List Nat) : (flts zs).length = zs.length := by simp [flts]
theorem flts_getD {zs : List Nat} {j : Nat} (h : j < zs.length) : (flts zs).getD j undef = .float .f64 (zs.getD j 0) := getD_map _ zs 0 h
theorem flts_snoc (zs : List Nat) (a : Nat) : flts (zs ++ [a]) = flts zs ++ [.float .f64 a] := by simp [flts]

/-- A slice of floats as the walk reads it, wherever it lies. -/
inductive ReadsF (w : World) : Value → List Nat → Prop
  | none (a : Option Addr) (cap : Nat) : ReadsF w (.slice a 0 cap) []
  | row (x : Addr) (cap L : Nat) (zs : List Nat) (hL : zs.length = L) (h0 : 0 < L) (hc : L ≤ cap) (hm : cap ≤ maxLen) (hz : ∀ z ∈ zs, z < 18446744073709551616) (h : ∀ j, j < L → w.cell? (x.add j) = some (.float .f64 (zs.getD j 0))) : ReadsF w (.slice (some x) L cap) zs

/-- A slice of floats that came in. -/
def IsRowF (w : World) (a : Option Addr) (len cap : Nat) (zs : List Nat) : Prop := ReadsF w (.slice a len cap) zs ∧ (∀ x, a = some x → 0 < len → x.block < w.heap.size)

theorem isRowF_open {H : Type} {enc : TypeId × Value → H} {P : Program} {w : World} {base : Nat} {held : Bool} {t e : TypeId} {fuel : Nat} {a : Option Addr} {len cap : Nat} {x : DataW H × List MemPlace}
    (ht : P.underlying t = some (.slice e)) (he : P.underlying e = some (.float .f64)) (hc : P.cellsOf e = 1) (h : DataW.trod enc P w base (fun _ => true) held fuel t (Value.slice a len cap).cells.toList = some x) : ∃ zs, IsRowF w a len cap zs := by
  have hcs : (Value.slice a len cap).cells.toList = [.slice a len cap] := by simp [Value.cells]
  rw [hcs] at h
  rcases Go.Deep.open_slice1 ht hc h with ⟨h0, _⟩ | ⟨x, l, c, m, n, V, D, Pl, h1, hb, hl, hm, hmm, rfl, hx⟩
  · simp only [List.cons.injEq, Value.slice.injEq, and_true] at h0
    obtain ⟨rfl, rfl, rfl⟩ := h0
    exact ⟨[], .none _ _, fun x hx => by cases hx⟩
  · simp only [List.cons.injEq, Value.slice.injEq, and_true] at h1
    obtain ⟨rfl, rfl, rfl⟩ := h1
    simp only [if_true] at hmm
    subst hmm
    have hV : ∀ i, i < m → ∃ z, V i = .float .f64 z ∧ z < 18446744073709551616 := fun i hi => by
      obtain ⟨z, e1, e2⟩ := trod_float he (hx i hi).2
      exact ⟨z, by simpa using e1, by simpa [Lit.wf] using e2⟩
    by_cases h0 : len = 0
    · subst h0
      exact ⟨[], .none _ _, fun x hx h => by omega⟩
    · let B : Nat → Nat := fun i => match V i with | .float _ z => z | _ => 0
      have hB : ∀ i, i < m → V i = .float .f64 (B i) ∧ B i < 18446744073709551616 := fun i hi => by
        obtain ⟨z, e1, e2⟩ := hV i hi
        have : B i = z := by show (match V i with | .float _ z => z | _ => 0) = z; rw [e1]
        rw [this]; exact ⟨e1, e2⟩
      refine ⟨(List.range len).map B, .row x m len _ (by simp) (by omega) hl hm ?_ ?_, fun y hy _ => ?_⟩
      · intro z hz
        obtain ⟨i, hi, rfl⟩ := List.mem_map.1 hz
        exact (hB i (by have := List.mem_range.1 hi; omega)).2
      · intro j hj
        rw [(hx j (by omega)).1, (hB j (by omega)).1]
        simp [List.getD, hj]
      · cases hy
        have := World.block_lt_of_cell? _ _ (hx 0 (by omega)).1
        rwa [addr_block] at this

theorem ReadsF.of_row {w : World} {B : Nat} {e : TypeId} {v : Value} {zs : List Nat} (h : Row w B e v (flts zs)) (hz : ∀ z ∈ zs, z < 18446744073709551616) : ReadsF w v zs := by
  have h' := h
  rcases h.shape with ⟨a, cap, rfl, h0⟩ | ⟨g, cap, rfl, h0, _, _, h1, h2⟩
  · have : zs = [] := by simpa [flts] using h0
    subst this
    exact .none a cap
  · rw [flts_length] at h0 h1 h' ⊢
    refine .row _ cap _ zs rfl h0 h1 h2 hz fun j hj => ?_
    rw [addr_lit, h'.cellAt hj, flts_getD hj]

theorem ReadsF.below {w w' : World} {B : Nat} {v : Value} {zs : List Nat} (h : ReadsF w v zs) (hb : Below B w w') (hv : ∀ x L cap, v = .slice (some x) L cap → 0 < L → x.block < B) : ReadsF w' v zs := by
  cases h with
  | none a cap => exact .none a cap
  | row x cap L zs hL h0 hc hm hz hh =>
    refine .row x cap L zs hL h0 hc hm hz fun j hj => ?_
    rw [hb.cell (by rw [addr_block]; exact hv x L cap rfl h0)]
    exact hh j hj
theorem ReadsF.drewN {w : World} {v : Value} {zs : List Nat} (h : ReadsF w v zs) (n : Nat) : ReadsF (w.drewN n) v zs := by
  cases h with
  | none a cap => exact .none a cap
  | row x cap L zs hL h0 hc hm hz hh => exact .row x cap L zs hL h0 hc hm hz hh

theorem IsRowF.below {w w' : World} {a : Option Addr} {len cap : Nat} {zs : List Nat} (h : IsRowF w a len cap zs) (hb : Below w.heap.size w w') : ReadsF w' (.slice a len cap) zs :=
  h.1.below hb (fun x L c e hL => by
    simp only [Value.slice.injEq] at e
    exact h.2 x e.1 (by omega))

theorem info_f64 : (Try.prog.info? 28).map (fun i => (i.zero, i.size, i.bytes)) = some (some (.float .f64 0), 1, 8) := by kernel_rfl

theorem fillF_step {zs : List Nat} {n k : Nat} (hk : k < n) (hz : n ≤ zs.length) :
    (flts (zs.take k) ++ List.replicate (n - k) (Value.float .f64 0)).set k (.float .f64 (zs.getD k 0)) = flts (zs.take (k + 1)) ++ List.replicate (n - (k + 1)) (Value.float .f64 0) := by
  have hl : (flts (zs.take k)).length = k := by rw [flts_length, List.length_take]; omega
  rw [List.set_append_right _ _ (by omega), hl, Nat.sub_self]
  obtain ⟨m, hm⟩ : ∃ m, n - k = m + 1 := ⟨n - k - 1, by omega⟩
  rw [hm, List.replicate_succ, List.set_cons_zero, show n - (k + 1) = m by omega, List.take_add_one]
  have e : zs[k]?.toList = [zs.getD k 0] := by simp [List.getD, show k < zs.length by omega]
  rw [e, flts_snoc, List.append_assoc]
  rfl

theorem grown_newF {w w1 w2 : World} {row : Option Nat} {B : Nat} (h : w.grownBy w1 row) (k : w1.grownBy w2 (some B)) (hB : w.heap.size ≤ B) : w.grownBy w2 row :=
  ⟨k.os.trans h.os, k.tape.trans h.tape, k.output.trans h.output, Nat.le_trans h.size k.size, fun j hj hr => (k.block j (Nat.lt_of_lt_of_le hj h.size) (by simp; omega)).trans (h.block j hj hr)⟩

/-- The numbers that are laid in a row of floats: from m on. -/
def fmark (m i : Nat) : Value := .float .f64 (floatOfInt .f64 ((m + i : Nat) : Int))
def fmarks (m n : Nat) : List Value := (List.range n).map (fmark m)
theorem fmarks_length (m n : Nat) : (fmarks m n).length = n := by simp [fmarks]
theorem fmarks_getD {m n j : Nat} (h : j < n) : (fmarks m n).getD j undef = fmark m j := by simp [fmarks, List.getD, h]

end Go.Proofs.Ytphgibndncjaiaa
/-
  Bytes that came in; a2At, a2Long.
-/
set_option linter.unusedVariables false
set_option linter.unusedSimpArgs false
namespace Go.Proofs.Ytphgibndncjaiaa
open Go.RowKit

theorem isRow_cell {w0 w : World} {x : Addr} {len cap : Nat} {zs : List Int} (hr : IsRow .u8 w0 (some x) len cap zs) (hb : Below w0.heap.size w0 w) {k : Nat} (hk : k < len) :
    ∃ z : Int, w.cell? (x.add k) = some (.int .u8 z) ∧ 0 ≤ z ∧ z ≤ 255 := by
  rcases hr with ⟨h, -⟩ | ⟨y, h, hl, hm, hz, hc, hw⟩
  · cases h
  · obtain rfl := Option.some.inj h
    have hk' : k < zs.length := by omega
    have c := hc k hk'
    refine ⟨zs.getD k 0, ?_, ?_⟩
    · rw [hb.cell (World.block_lt_of_cell? _ _ c), c]
    · have hmem : zs.getD k 0 ∈ zs := by
        rw [List.getD_eq_getElem?_getD, List.getElem?_eq_getElem hk']
        exact List.getElem_mem hk'
      have := hw _ hmem
      simp only [Lit.wf, decide_eq_true_eq] at this
      have h1 : IntKind.u8.min = 0 := by decide
      have h2 : IntKind.u8.max = 255 := by decide
      rw [h1, h2] at this
      simpa using this

theorem isRow_len {w0 : World} {a : Option Addr} {len cap : Nat} {zs : List Int} (hr : IsRow .u8 w0 a len cap zs) : len ≤ 9223372036854775807 := by
  rcases hr with ⟨-, rfl, -⟩ | ⟨y, h, hl, hm, hz, hc, hw⟩
  · omega
  · unfold maxLen at hm; omega

theorem isRow_below {k : IntKind} {w0 w1 : World} {a : Option Addr} {len cap : Nat} {zs : List Int} (hr : IsRow k w0 a len cap zs) (hb : Below w0.heap.size w0 w1) : IsRow k w1 a len cap zs := by
  rcases hr with h | ⟨x, h, hl, hm, hz, hc, hw⟩
  · exact .inl h
  · exact .inr ⟨x, h, hl, hm, hz, fun i hi => by rw [hb.cell (World.block_lt_of_cell? _ _ (hc i hi)), hc i hi], hw⟩

/-- A number from 0 to n - 1 is returned. -/
def Upto (n : Int) (w : World) (e : Ending) (w' : World) : Prop := ∃ r : Int, 0 ≤ r ∧ r < n ∧ e = .returned (.int .i64 r) ∧ w' = w

theorem a2At_any (a : Option Addr) (len cap : Nat) (zs : List Int) (i : Nat) (hi : i ≤ 100) (n : Int) (hn : 0 < n) (hn2 : n ≤ 1000000) (w : World) (hr : IsRow .u8 w a len cap zs) :
    Calls Try.prog 7 #[.slice a len cap, .int .i64 i, .int .i64 n] w (Upto n w) := by
  have hlen := isRow_len hr
  have hn1 : ¬ n < 1 := by omega
  by_cases hl : i < len
  · cases a with
    | none =>
      rcases hr with ⟨-, rfl, -⟩ | ⟨x, hx, -⟩
      · omega
      · cases hx
    | some x =>
      obtain ⟨z, hz, z0, z1⟩ := isRow_cell hr (Below.refl _ _) hl
      have h1 := Int.emod_nonneg z (show n ≠ 0 by omega)
      have h2 := Int.emod_lt_of_pos z hn
      clear hr
      have hl' : ¬ ((len : Int) ≤ (i : Int)) := by omega
      go_enter Try.func7, Try.ntmps7
      go_wp2
      go_ret
      exact ⟨_, h1, h2, rfl, rfl⟩
  · have hl' : (len : Int) ≤ (i : Int) := by omega
    clear hr
    go_enter Try.func7, Try.ntmps7
    go_wp2
    go_ret
    exact ⟨0, by omega, hn, rfl, rfl⟩

end Go.Proofs.Ytphgibndncjaiaa
/-
  The draws of the model: l00Src and what is drawn by it. Nothing is said of the numbers that are drawn but that they fit.
-/
set_option linter.unusedVariables false
set_option linter.unusedSimpArgs false
namespace Go.Proofs.Ytphgibndncjaiaa
open Go.RowKit Flt

/-- In block B of the world w lies a source over the bytes (a, len, cap) that lay there in the world w0. -/
structure Src (w0 : World) (B : Nat) (a : Option Addr) (len cap : Nat) (i : Int) (w : World) : Prop where
  below : Below w0.heap.size w0 w
  new : w0.heap.size ≤ B
  code : w.cell? ⟨B, 0, none⟩ = some (.slice a len cap)
  pos : w.cell? ⟨B, 1, none⟩ = some (.int .i64 i)
  seed : ∃ s, w.cell? ⟨B, 2, none⟩ = some (.int .u64 s)
  free1 : w.frozen? ⟨B, 1, none⟩ = false
  free2 : w.frozen? ⟨B, 2, none⟩ = false
  low : 0 ≤ i

/-- A number from lo to hi is returned, and the source has gone on, by at most so many bytes. -/
def Picks (w0 : World) (B : Nat) (a : Option Addr) (len cap : Nat) (i : Int) (lo hi most : Int) (w : World) (e : Ending) (w' : World) : Prop :=
  ∃ r j, lo ≤ r ∧ r ≤ hi ∧ e = .returned (.int .i64 r) ∧ i ≤ j ∧ j ≤ i + most ∧ Src w0 B a len cap j w' ∧ w.grownBy w' (some B)

theorem block_of_cell {w : World} {B : Nat} {v : Value} {o : Nat} (h : w.cell? ⟨B, o, none⟩ = some v) : B < w.heap.size := World.block_lt_of_cell? _ _ h

/-- What the walk of 'next' leaves. -/
theorem src_step {w0 : World} {B : Nat} {a : Option Addr} {len cap : Nat} {k : Int} {w : World} (h : Src w0 B a len cap k w) (n m : Nat) (s : Int) :
    Src w0 B a len cap (k + 1) ((((w.drewN n).setCell ⟨B, 1, none⟩ (.int .i64 (k + 1))).setCell ⟨B, 2, none⟩ (.int .u64 s)).drewN m) ∧
    w.grownBy ((((w.drewN n).setCell ⟨B, 1, none⟩ (.int .i64 (k + 1))).setCell ⟨B, 2, none⟩ (.int .u64 s)).drewN m) (some B) := by
  obtain ⟨hb, hn, c0, c1, ⟨t, c2⟩, f1, f2, h0⟩ := h
  have hB := block_of_cell c0
  have d0 : (w.drewN n).cell? ⟨B, 0, none⟩ = some (.slice a len cap) := c0
  have d1 : (w.drewN n).cell? ⟨B, 1, none⟩ = some (.int .i64 k) := c1
  have d2 : (w.drewN n).cell? ⟨B, 2, none⟩ = some (.int .u64 t) := c2
  have e2 : ((w.drewN n).setCell ⟨B, 1, none⟩ (.int .i64 (k + 1))).cell? ⟨B, 2, none⟩ = some (.int .u64 t) := by
    rw [World.cell?_setCell_other (h := by simp)]; exact d2
  refine ⟨⟨?_, hn, ?_, ?_, ⟨s, ?_⟩, ?_, ?_, by omega⟩, ?_⟩
  · exact below_draws (Below.setCell (Below.setCell (below_draws hb n) (p := ⟨B, 1, none⟩) hn _) (p := ⟨B, 2, none⟩) hn _) m
  · show (((w.drewN n).setCell ⟨B, 1, none⟩ (.int .i64 (k + 1))).setCell ⟨B, 2, none⟩ (.int .u64 s)).cell? _ = _
    rw [World.cell?_setCell_other (h := by simp), World.cell?_setCell_other (h := by simp)]; exact d0
  · show (((w.drewN n).setCell ⟨B, 1, none⟩ (.int .i64 (k + 1))).setCell ⟨B, 2, none⟩ (.int .u64 s)).cell? _ = _
    rw [World.cell?_setCell_other (h := by simp), World.cell?_setCell_same (h := d1)]
  · show (((w.drewN n).setCell ⟨B, 1, none⟩ (.int .i64 (k + 1))).setCell ⟨B, 2, none⟩ (.int .u64 s)).cell? _ = _
    rw [World.cell?_setCell_same (h := e2)]
  · show (((w.drewN n).setCell ⟨B, 1, none⟩ (.int .i64 (k + 1))).setCell ⟨B, 2, none⟩ (.int .u64 s)).frozen? _ = _
    simp [f1]
  · show (((w.drewN n).setCell ⟨B, 1, none⟩ (.int .i64 (k + 1))).setCell ⟨B, 2, none⟩ (.int .u64 s)).frozen? _ = _
    simp [f2]
  · refine ⟨rfl, rfl, rfl, ?_, ?_⟩
    · show w.heap.size ≤ (((w.drewN n).setCell ⟨B, 1, none⟩ (.int .i64 (k + 1))).setCell ⟨B, 2, none⟩ (.int .u64 s)).heap.size
      simp [World.setCell]
    · intro j hj hne
      have hjB : j ≠ B := fun e => hne (by rw [e])
      show (((w.drewN n).setCell ⟨B, 1, none⟩ (.int .i64 (k + 1))).setCell ⟨B, 2, none⟩ (.int .u64 s)).heap[j]? = _
      rw [Below.heap_setCell _ _ _ _ hjB, Below.heap_setCell _ _ _ _ hjB]
      rfl

set_option maxHeartbeats 1000000 in
theorem next_in (w0 : World) (B : Nat) (x : Addr) (len cap : Nat) (zs : List Int) (hr : IsRow .u8 w0 (some x) len cap zs) (k : Nat) (hi : k < 4611686018427387904) (w : World) (h : Src w0 B (some x) len cap k w) (hl : k < len) :
    Calls Try.prog 54 #[.pointer (some ⟨B, 0, none⟩)] w (Picks w0 B (some x) len cap k 0 255 1 w) := by
  have HS := Lib.hid h
  obtain ⟨hb, hn, c0, c1, ⟨s, c2⟩, f1, f2, h0⟩ := h
  obtain ⟨z, hz, z0, z1⟩ := isRow_cell hr hb hl
  have hlen := isRow_len hr
  have hl' : (k : Int) < (len : Int) := by omega
  clear hr h0 hb
  go_enter Try.func54, Try.ntmps54
  go_wp2
  go_quiet (fail)
  go_wp2
  go_quiet (fail)
  go_wp2
  go_quiet (fail)
  go_wp2
  go_ret
  exact ⟨z, _, z0, z1, rfl, by omega, by omega, src_step HS.out _ _ _⟩

theorem and255 (n : Int) : 0 ≤ bits .and .u64 n 255 ∧ bits .and .u64 n 255 ≤ 255 := by
  have h : ∃ m : Nat, m ≤ 255 ∧ bits .and .u64 n 255 = IntKind.u64.wrap (m : Int) := by
    refine ⟨(BitVec.ofInt 64 n).toNat &&& 255, Nat.and_le_right, ?_⟩
    show IntKind.u64.wrap ((BitVec.ofInt 64 n &&& BitVec.ofInt 64 255).toNat : Int) = _
    rw [BitVec.toNat_and]
    rfl
  obtain ⟨m, hm, e⟩ := h
  rw [e, IntWalk.u64_in _ (by omega)]
  omega

set_option maxHeartbeats 1000000 in
theorem next_out (w0 : World) (B : Nat) (a : Option Addr) (len cap : Nat) (hlen : len ≤ 9223372036854775807) (k : Nat) (hi : k < 4611686018427387904) (w : World) (h : Src w0 B a len cap k w) (hl : ¬ k < len) :
    Calls Try.prog 54 #[.pointer (some ⟨B, 0, none⟩)] w (Picks w0 B a len cap k 0 255 1 w) := by
  have HS := Lib.hid h
  obtain ⟨hb, hn, c0, c1, ⟨s, c2⟩, f1, f2, h0⟩ := h
  have hl' : (len : Int) ≤ (k : Int) := by omega
  clear h0 hb
  go_enter Try.func54, Try.ntmps54
  go_wp2
  go_quiet (fail)
  go_wp2
  go_quiet (fail)
  go_wp2
  go_ret
  refine ⟨_, _, ?_, ?_, rfl, by omega, by omega, src_step HS.out _ _ _⟩
  all_goals
    rw [IntWalk.wrap64_in _ (by have := and255 (IntKind.u64.wrap (IntKind.u64.wrap (IntKind.u64.wrap (s * 6364136223846793005)) + 1442695040888963407) / 1099511627776); omega)]
    have := and255 (IntKind.u64.wrap (IntKind.u64.wrap (IntKind.u64.wrap (s * 6364136223846793005)) + 1442695040888963407) / 1099511627776)
    omega

/-- The bytes that a source reads lay in the world w0. -/
def Bytes (w0 : World) (a : Option Addr) (len cap : Nat) : Prop := ∃ zs, IsRow .u8 w0 a len cap zs

theorem next_any (w0 : World) (B : Nat) (a : Option Addr) (len cap : Nat) (hr : Bytes w0 a len cap) (i : Int) (hi : i < 4611686018427387904) (w : World) (h : Src w0 B a len cap i w) :
    Calls Try.prog 54 #[.pointer (some ⟨B, 0, none⟩)] w (Picks w0 B a len cap i 0 255 1 w) := by
  obtain ⟨zs, hr⟩ := hr
  obtain ⟨k, rfl⟩ : ∃ k : Nat, i = k := ⟨i.toNat, by have := h.low; omega⟩
  by_cases hl : k < len
  · cases a with
    | none =>
      rcases hr with ⟨-, rfl, -⟩ | ⟨x, hx, -⟩
      · omega
      · cases hx
    | some x => exact next_in w0 B x len cap zs hr k (by omega) w h hl
  · exact next_out w0 B a len cap (isRow_len hr) k (by omega) w h hl

theorem grown_trans {a b c : World} {B : Nat} (h : a.grownBy b (some B)) (k : b.grownBy c (some B)) : a.grownBy c (some B) :=
  ⟨k.os.trans h.os, k.tape.trans h.tape, k.output.trans h.output, Nat.le_trans h.size k.size, fun i hi hne => (k.block i (Nat.lt_of_lt_of_le hi h.size) hne).trans (h.block i hi hne)⟩

set_option maxHeartbeats 1000000 in
theorem pick_small (w0 : World) (B : Nat) (a : Option Addr) (len cap : Nat) (hr : Bytes w0 a len cap) (i : Int) (hi : i < 4611686018427387903) (n : Int) (hn : 1 < n) (hn' : n ≤ 200) (w : World) (h : Src w0 B a len cap i w) :
    Calls Try.prog 38 #[.pointer (some ⟨B, 0, none⟩), .int .i64 n] w (Picks w0 B a len cap i 0 (n - 1) 2 w) := by
  go_enter Try.func38, Try.ntmps38
  go_wp2_with fail
  go_at_call 54
  refine (next_any w0 B a len cap hr i (by omega) _ h).mono ?_
  rintro e w1 ⟨r, j, r0, r1, rfl, j0, j1, hs, hg⟩
  go_wp2
  go_ret
  have h1 := Int.emod_nonneg r (show n ≠ 0 by omega)
  have h2 := Int.emod_lt_of_pos r (show 0 < n by omega)
  exact ⟨_, j, h1, by omega, rfl, j0, by omega, hs, hg⟩

set_option maxHeartbeats 1000000 in
theorem pick_great (w0 : World) (B : Nat) (a : Option Addr) (len cap : Nat) (hr : Bytes w0 a len cap) (i : Int) (hi : i < 4611686018427387903) (n : Int) (hn : 200 < n) (hn' : n ≤ 4611686018427387904) (w : World) (h : Src w0 B a len cap i w) :
    Calls Try.prog 38 #[.pointer (some ⟨B, 0, none⟩), .int .i64 n] w (Picks w0 B a len cap i 0 (n - 1) 2 w) := by
  go_enter Try.func38, Try.ntmps38
  go_wp2_with fail
  go_at_call 54
  refine (next_any w0 B a len cap hr i (by omega) _ h).mono ?_
  rintro e w1 ⟨r, j, r0, r1, rfl, j0, j1, hs, hg⟩
  go_wp2_with fail
  go_at_call 54
  refine (next_any w0 B a len cap hr j (by omega) _ hs).mono ?_
  rintro e w2 ⟨r', j', r0', r1', rfl, j0', j1', hs', hg'⟩
  go_wp2
  go_ret
  have h1 := Int.emod_nonneg (r * 256 + r') (show n ≠ 0 by omega)
  have h2 := Int.emod_lt_of_pos (r * 256 + r') (show 0 < n by omega)
  exact ⟨_, j', h1, by omega, rfl, by omega, by omega, hs', grown_trans hg hg'⟩

theorem pick_any (w0 : World) (B : Nat) (a : Option Addr) (len cap : Nat) (hr : Bytes w0 a len cap) (i : Int) (hi : i < 4611686018427387903) (n : Int) (hn : 1 < n) (hn' : n ≤ 4611686018427387904) (w : World) (h : Src w0 B a len cap i w) :
    Calls Try.prog 38 #[.pointer (some ⟨B, 0, none⟩), .int .i64 n] w (Picks w0 B a len cap i 0 (n - 1) 2 w) := by
  by_cases h1 : n ≤ 200
  · exact pick_small w0 B a len cap hr i hi n hn h1 w h
  · exact pick_great w0 B a len cap hr i hi n (by omega) hn' w h

/-- A float is returned, of whatever bits, and the source has gone on. -/
def PicksF (w0 : World) (B : Nat) (a : Option Addr) (len cap : Nat) (i : Int) (most : Int) (w : World) (e : Ending) (w' : World) : Prop :=
  ∃ r j, r < 18446744073709551616 ∧ e = .returned (.float .f64 r) ∧ i ≤ j ∧ j ≤ i + most ∧ Src w0 B a len cap j w' ∧ w.grownBy w' (some B)

theorem Src.draws {w0 : World} {B : Nat} {a : Option Addr} {len cap : Nat} {i : Int} {w : World} (h : Src w0 B a len cap i w) (n : Nat) : Src w0 B a len cap i (w.drewN n) :=
  ⟨below_draws h.below n, h.new, h.code, h.pos, h.seed, h.free1, h.free2, h.low⟩
theorem grown_draws {a b : World} {row : Option Nat} (h : a.grownBy b row) (n : Nat) : a.grownBy (b.drewN n) row := ⟨h.os, h.tape, h.output, h.size, h.block⟩

theorem u64_bounds (x : Int) : 0 ≤ IntKind.u64.wrap x ∧ IntKind.u64.wrap x < 18446744073709551616 := by
  simp only [IntKind.wrap, IntKind.bits, IntKind.signed]
  simp
  omega
theorem bits_bounds (op : BinOp) (x y : Int) : 0 ≤ bits op .u64 x y ∧ bits op .u64 x y < 18446744073709551616 := by
  unfold bits
  exact u64_bounds _
theorem toNat_lt {x : Int} (h : 0 ≤ x ∧ x < 18446744073709551616) : x.toNat < 18446744073709551616 := by omega

theorem inf_neg (w : World) :
    Calls Try.prog 55 #[.int .i64 (-1)] w fun e w' => e = .returned (.float .f64 18442240474082181120) ∧ w' = w := by
  go_enter Try.func55, Try.ntmps55
  go_wp2
  go_ret
  exact ⟨rfl, rfl⟩
theorem nan_call (w : World) :
    Calls Try.prog 56 #[] w fun e w' => e = .returned (.float .f64 9221120237041090561) ∧ w' = w := by
  go_enter Try.func56, Try.ntmps56
  go_wp2
  go_ret
  exact ⟨rfl, rfl⟩
set_option maxRecDepth 100000 in
theorem copysign_zero (w : World) :
    Calls Try.prog 57 #[.float .f64 0, .float .f64 13830554455654793216] w fun e w' => e = .returned (.float .f64 9223372036854775808) ∧ w' = w := by
  go_enter Try.func57, Try.ntmps57
  go_wp2
  go_ret
  exact ⟨by kernel_rfl, rfl⟩

set_option maxHeartbeats 1000000 in
theorem plain_any (w0 : World) (B : Nat) (a : Option Addr) (len cap : Nat) (hr : Bytes w0 a len cap) (i : Int) (hi : i < 4611686018427387903) (w : World) (h : Src w0 B a len cap i w) :
    Calls Try.prog 39 #[.pointer (some ⟨B, 0, none⟩)] w (PicksF w0 B a len cap i 2 w) := by
  go_enter Try.func39, Try.ntmps39
  go_wp2_with fail
  go_at_call 38
  refine (pick_any w0 B a len cap hr i hi 2049 (by omega) (by omega) _ h).mono ?_
  rintro e w1 ⟨r, j, r0, r1, rfl, j0, j1, hs, hg⟩
  go_wp2_with (refine wpList_farith _ rfl .quo (by decide) _ _ _ _ rfl .f64 _ _ rfl rfl ?_; intro q n hq hb)
  go_ret
  exact ⟨_, j, hb, rfl, j0, j1, hs.draws _, grown_draws hg _⟩

theorem float_case (w0 : World) (B : Nat) (a : Option Addr) (len cap : Nat) (hr : Bytes w0 a len cap) (i : Int) (hi : i < 4611686018427387000) (w : World) (h : Src w0 B a len cap i w) :
    Calls Try.prog 41 #[.pointer (some ⟨B, 0, none⟩)] w (PicksF w0 B a len cap i 6 w) := by
  go_enter Try.func41, Try.ntmps41
  go_wp2_with fail
  go_at_call 38
  refine (pick_any w0 B a len cap hr i (by omega) 16 (by omega) (by omega) _ h).mono ?_
  rintro e w1 ⟨r, j, r0, r1, rfl, j0, j1, hs, hg⟩
  go_wp2_with (first
    | (go_at_call 55; (first | (with_reducible refine (inf_any _).mono ?_) | (with_reducible refine (inf_neg _).mono ?_)); rintro e w' ⟨rfl, rfl⟩)
    | (go_at_call 56; refine (nan_call _).mono ?_; rintro e w' ⟨rfl, rfl⟩)
    | (go_at_call 57; refine (copysign_zero _).mono ?_; rintro e w' ⟨rfl, rfl⟩))
  all_goals try (go_ret; exact ⟨_, j, by omega, rfl, j0, by omega, hs, hg⟩)
  · refine (pick_any w0 B a len cap hr j (by omega) 1073741824 (by omega) (by omega) _ hs).mono ?_
    rintro e w2 ⟨s, k, s0, s1, rfl, k0, k1, hs2, hg2⟩
    go_wp2
    go_ret
    exact ⟨_, k, toNat_lt (by omega), rfl, by omega, by omega, hs2, grown_trans hg hg2⟩
  · refine (pick_any w0 B a len cap hr j (by omega) 1073741824 (by omega) (by omega) _ hs).mono ?_
    rintro e w2 ⟨s, k, s0, s1, rfl, k0, k1, hs2, hg2⟩
    go_wp2_with fail
    refine (pick_any w0 B a len cap hr k (by omega) 1073741824 (by omega) (by omega) _ hs2).mono ?_
    rintro e w3 ⟨t, l, t0, t1, rfl, l0, l1, hs3, hg3⟩
    go_wp2
    go_ret
    exact ⟨_, l, toNat_lt (bits_bounds _ _ _), rfl, by omega, by omega, hs3, grown_trans (grown_trans hg hg2) hg3⟩
  · refine (pick_any w0 B a len cap hr j (by omega) 1073741824 (by omega) (by omega) _ hs).mono ?_
    rintro e w2 ⟨s, k, s0, s1, rfl, k0, k1, hs2, hg2⟩
    go_wp2_with fail
    refine (pick_any w0 B a len cap hr k (by omega) 1073741824 (by omega) (by omega) _ hs2).mono ?_
    rintro e w3 ⟨t, l, t0, t1, rfl, l0, l1, hs3, hg3⟩
    go_wp2
    go_ret
    exact ⟨_, l, neg64_lt (toNat_lt (bits_bounds _ _ _)), rfl, by omega, by omega, hs3, grown_trans (grown_trans hg hg2) hg3⟩
  · refine (pick_any w0 B a len cap hr j (by omega) 4 (by omega) (by omega) _ hs).mono ?_
    rintro e w2 ⟨s, k, s0, s1, rfl, k0, k1, hs2, hg2⟩
    go_wp2_with (first
      | (refine wpList_farith _ rfl .mul (by decide) _ _ _ _ rfl .f64 _ _ rfl rfl ?_; intro q n hq hb)
      | (refine wpList_farith _ rfl .add (by decide) _ _ _ _ rfl .f64 _ _ rfl rfl ?_; intro q n hq hb))
    go_ret
    exact ⟨_, k, by assumption, rfl, by omega, by omega, hs2.draws _, grown_draws (grown_trans hg hg2) _⟩
  · refine (pick_any w0 B a len cap hr j (by omega) 1073741824 (by omega) (by omega) _ hs).mono ?_
    rintro e w2 ⟨s, k, s0, s1, rfl, k0, k1, hs2, hg2⟩
    go_wp2_with (first
      | (refine wpList_farith _ rfl .quo (by decide) _ _ _ _ rfl .f64 _ _ rfl rfl ?_; intro q n hq hb))
    go_ret
    exact ⟨_, k, by assumption, rfl, by omega, by omega, hs2.draws _, grown_draws (grown_trans hg hg2) _⟩
  · refine (plain_any w0 B a len cap hr j (by omega) _ hs).mono ?_
    rintro e w2 ⟨s, k, s0, rfl, k0, k1, hs2, hg2⟩
    go_wp2
    go_ret
    exact ⟨_, k, s0, rfl, by omega, by omega, hs2, grown_trans hg hg2⟩

/-- A source that is made anew. -/
theorem src_new {w : World} {a : Option Addr} {len cap : Nat} {t : TypeId} : Src w w.heap.size a len cap 0 (w.alloc (.cells #[.slice a len cap, .int .i64 0, .int .u64 0] t)) := by
  refine ⟨(Below.refl _ _).alloc (Nat.le_refl _) _, Nat.le_refl _, ?_, ?_, ⟨0, ?_⟩, ?_, ?_, Int.le_refl _⟩ <;> simp

theorem below_of_src {w w1 w2 : World} {B : Nat} {a : Option Addr} {len cap : Nat} {i : Int} (h : Src w B a len cap i w2) : Below w.heap.size w w2 := h.below

/-- A float of whatever bits; nothing that was there has turned. -/
def AnyF (w : World) (e : Ending) (w' : World) : Prop := (∃ r, r < 18446744073709551616 ∧ e = .returned (.float .f64 r)) ∧ Below w.heap.size w w'

end Go.Proofs.Ytphgibndncjaiaa
/-
  The draws of complex numbers: l01Any, A2Any; and a2At.
-/
set_option linter.unusedVariables false
set_option linter.unusedSimpArgs false
namespace Go.Proofs.Ytphgibndncjaiaa
open Go.RowKit Flt

/-- A bool is returned, and the source has gone on. -/
def PicksB (w0 : World) (B : Nat) (a : Option Addr) (len cap : Nat) (i : Int) (most : Int) (w : World) (e : Ending) (w' : World) : Prop :=
  ∃ b j, e = .returned (.bool b) ∧ i ≤ j ∧ j ≤ i + most ∧ Src w0 B a len cap j w' ∧ w.grownBy w' (some B)
/-- A complex number is returned, and the source has gone on. -/
def PicksC (w0 : World) (B : Nat) (a : Option Addr) (len cap : Nat) (i : Int) (most : Int) (w : World) (e : Ending) (w' : World) : Prop :=
  ∃ x y j, x < 18446744073709551616 ∧ y < 18446744073709551616 ∧ e = .returned (.complex .f64 x y) ∧ i ≤ j ∧ j ≤ i + most ∧ Src w0 B a len cap j w' ∧ w.grownBy w' (some B)

theorem one_any (w0 : World) (B : Nat) (a : Option Addr) (len cap : Nat) (hr : Bytes w0 a len cap) (i : Int) (hi : i < 4611686018427387903) (n : Int) (hn : 1 < n) (hn' : n ≤ 4611686018427387904) (w : World) (h : Src w0 B a len cap i w) :
    Calls Try.prog 40 #[.pointer (some ⟨B, 0, none⟩), .int .i64 n] w (PicksB w0 B a len cap i 2 w) := by
  go_enter Try.func40, Try.ntmps40
  go_wp2_with fail
  refine (pick_any w0 B a len cap hr i hi n hn hn' _ h).mono ?_
  rintro e w1 ⟨r, j, r0, r1, rfl, j0, j1, hs, hg⟩
  clear hn hn' h r0 r1
  go_wp2
  go_ret
  exact ⟨_, j, rfl, j0, j1, hs, hg⟩

/-- A complex number of whatever bits; nothing that was there has turned. -/
def AnyC (w : World) (e : Ending) (w' : World) : Prop := ∃ x y, x < 18446744073709551616 ∧ y < 18446744073709551616 ∧ e = .returned (.complex .f64 x y) ∧ Below w.heap.size w w'

end Go.Proofs.Ytphgibndncjaiaa
/-
  The draw of a signal: l01Signal, A2Wild.
-/
set_option linter.unusedVariables false
set_option linter.unusedSimpArgs false
namespace Go.Proofs.Ytphgibndncjaiaa
open Go.RowKit Flt Fast

theorem Src.alloc {w0 : World} {B : Nat} {a : Option Addr} {len cap : Nat} {i : Int} {w : World} (h : Src w0 B a len cap i w) (o : Obj) : Src w0 B a len cap i (w.alloc o) := by
  have hB := block_of_cell h.code
  have hb : Below w.heap.size w (w.alloc o) := (Below.refl _ _).alloc (Nat.le_refl _) o
  refine ⟨h.below.alloc h.below.size o, h.new, ?_, ?_, ?_, ?_, ?_, h.low⟩
  · rw [hb.cell hB]; exact h.code
  · rw [hb.cell hB]; exact h.pos
  · obtain ⟨s, e⟩ := h.seed; exact ⟨s, by rw [hb.cell hB]; exact e⟩
  · rw [hb.frozen hB]; exact h.free1
  · rw [hb.frozen hB]; exact h.free2

theorem Src.other {w0 : World} {B : Nat} {a : Option Addr} {len cap : Nat} {i : Int} {w w' : World} {row : Option Nat} (h : Src w0 B a len cap i w) (hg : w.grownBy w' row) (hne : row ≠ some B) (hr : ∀ k, row = some k → w0.heap.size ≤ k) : Src w0 B a len cap i w' := by
  have hB := block_of_cell h.code
  have hk : w'.heap[B]? = w.heap[B]? := hg.block B hB (fun e => hne e.symm)
  have hc : ∀ j, w'.cell? ⟨B, j, none⟩ = w.cell? ⟨B, j, none⟩ := fun j => World.cell?_of_block (w := w) hk
  have hf : ∀ j, w'.frozen? ⟨B, j, none⟩ = w.frozen? ⟨B, j, none⟩ := fun j => World.frozen?_of_block (w := w) hk
  refine ⟨h.below.grown hg h.below.size hr, h.new, ?_, ?_, ?_, ?_, ?_, h.low⟩
  · rw [hc]; exact h.code
  · rw [hc]; exact h.pos
  · obtain ⟨s, e⟩ := h.seed; exact ⟨s, by rw [hc]; exact e⟩
  · rw [hf]; exact h.free1
  · rw [hf]; exact h.free2

/-- A signal of at most so many numbers has been drawn. -/
def Wild (n : Nat) (w : World) (e : Ending) (w' : World) : Prop := ∃ v xs, e = .returned v ∧ Row w' w.heap.size 26 v (cvals xs) ∧ xs.length ≤ n ∧ WfC xs ∧ Below w.heap.size w w'

theorem wfC_snoc {xs : List C} {p q : Nat} (h : WfC xs) (hp : p < 18446744073709551616) (hq : q < 18446744073709551616) : WfC (xs ++ [(p, q)]) := by
  intro u hu
  rcases List.mem_append.1 hu with h1 | h1
  · exact h u h1
  · rw [List.mem_singleton.1 h1]; exact ⟨hp, hq⟩

set_option maxRecDepth 100000 in
set_option maxHeartbeats 8000000 in
theorem signal_wild (w0 : World) (B : Nat) (a : Option Addr) (len cap : Nat) (hr : Bytes w0 a len cap) (n : Nat) (hn : 0 < n) (hn2 : n ≤ 100) (w : World) (hB : B < w.heap.size) (h : Src w0 B a len cap 0 w) :
    Calls Try.prog 18 #[.pointer (some ⟨B, 0, none⟩), .int .i64 n, .bool false] w fun e w' => ∃ v xs, e = .returned v ∧ Row w' w.heap.size 26 v (cvals xs) ∧ xs.length ≤ n ∧ WfC xs ∧ Below w0.heap.size w0 w' := by
  obtain ⟨i0, hi, hz0, hz1, hz2⟩ := info_parts info_c128
  go_enter Try.func18, Try.ntmps18
  go_wp2_with fail
  refine (pick_any w0 B a len cap hr 0 (by omega) ((n : Int) + 1) (by omega) (by omega) _ (h.alloc _)).mono ?_
  rintro e w1 ⟨k0, j0, l0, l1, rfl, i0', i1', hs, hg⟩
  have hrow : Row w1 w.heap.size 26 (.slice (some ⟨w.heap.size, 0, none⟩) 0 0) (cvals []) := Row.kept (World.ownsRow_lit w #[] 0 (Nat.le_refl _) (by unfold maxLen; omega) rfl) hg (.inr (by simp [Value.ownBlock]; omega))
  obtain ⟨kk, rfl⟩ : ∃ kk : Nat, k0 = kk := ⟨k0.toNat, by omega⟩
  have HS := Lib.hid hs
  have HR := Lib.hid hrow
  have hkn : kk ≤ n := by omega
  have hsz1 : w.heap.size ≤ w1.heap.size := by have := hg.size; simp at this; omega
  clear hs hg hrow h
  go_wp2
  go_loopw [7, 8] (fun v k wr => ∃ (m : Nat) (xs : List C) (j : Int), k = .int .i64 m ∧ m + xs.length ≤ n ∧ 0 ≤ j ∧ j ≤ 2 + 20 * (xs.length : Int) ∧ w.heap.size ≤ wr.heap.size ∧ Src w0 B a len cap j wr ∧ Row wr w.heap.size 26 v (cvals xs) ∧ WfC xs) (fun _ k _ => (intOf k).toNat)
  case atStart => exact ⟨kk, [], j0, rfl, by simpa using hkn, by omega, by simp; omega, hsz1, HS.out, HR.out, by intro p hp; cases hp⟩
  case round =>
    clear HS HR
    obtain ⟨m, xs, j, rfl, hm, hj0, hj1, hsz, hs, hrw, hwf⟩ := hrel
    have HS := Lib.hid hs
    have HR := Lib.hid hrw
    have HW := Lib.hid hwf
    clear hs hrw hwf
    by_cases hlt : 0 < m
    · have hxl : (cvals xs).length = xs.length := cvals_length xs
      have hxn : (xs.length : Int) ≤ 100 := by omega
      go_wp2_with fail
      refine (plain_any w0 B a len cap hr j (by omega) _ HS.out).mono ?_
      rintro e w2 ⟨x, j2, hx, rfl, k0, k1, hs2, hg2⟩
      go_wp2_with fail
      refine (plain_any w0 B a len cap hr j2 (by omega) _ hs2).mono ?_
      rintro e w3 ⟨y, j3, hy, rfl, k2, k3, hs3, hg3⟩
      go_wp2_with fail
      refine (one_any w0 B a len cap hr j3 (by omega) 6 (by omega) (by omega) _ hs3).mono ?_
      rintro e w4 ⟨b6, j4, rfl, k4, k5, hs4, hg4⟩
      have hg := grown_trans (grown_trans hg2 hg3) hg4
      have HX := Lib.hid hx
      have HY := Lib.hid hy
      clear hs2 hs3 hg2 hg3 hg4 hx hy
      have HG4 := Lib.hid hg
      have HS4 := Lib.hid hs4
      clear hs4 hg
      have tail : ∀ (w5 w6 : World) (v v' : Value) (p q : Nat) (j5 : Int), wr.grownBy w5 (some B) → Src w0 B a len cap j5 w5 → j5 ≤ j + 20 → 0 ≤ j5 → Row w5 w.heap.size 26 v (cvals xs) → p < 18446744073709551616 → q < 18446744073709551616 →
          w6.ownsRow w.heap.size 26 1 v' (xs.length + 1) (cvals xs ++ [.complex .f64 p q]) → (w5.alloc (.cells #[.complex .f64 p q] 26)).grownBy w6 v.ownBlock → w.heap.size ≤ wr.heap.size →
          ∃ (m' : Nat) (xs' : List C) (j' : Int), m - 1 = m' ∧ m' + xs'.length ≤ n ∧ 0 ≤ j' ∧ j' ≤ 2 + 20 * (xs'.length : Int) ∧ w.heap.size ≤ w6.heap.size ∧ Src w0 B a len cap j' w6 ∧ Row w6 w.heap.size 26 v' (cvals xs') ∧ WfC xs' := by
        intro w5 w6 v v' p q j5 hg hs hj5 hj50 hr hp hq hown hgr hsz
        refine ⟨m - 1, xs ++ [(p, q)], j5, rfl, by simp; omega, hj50, by simp; omega, ?_, (hs.alloc _).other hgr (fun e => ?_) (fun k e => ?_), ?_, wfC_snoc HW.out hp hq⟩
        · have := hgr.size; have := hg.size; simp at *; omega
        · have := (hr.lt _ e).1; omega
        · have h1 := (hr.lt _ e).1; have h2 := hs.new; omega
        · show w6.ownsRow _ _ _ _ _ _
          rw [cvals_snoc, List.length_append, cvals_length]
          exact hown
      have HT := Lib.hid tail
      clear tail
      have fin : ∀ w5, wr.grownBy w5 (some B) → Row w5 w.heap.size 26 u7 (cvals xs) := fun w5 hg => HR.out.kept hg (.inr (fun e => by have := (HR.out.lt _ e).1; omega))
      have HFI := Lib.hid fin
      clear fin
      cases b6
      · go_wp2_with fail
        refine (one_any w0 B a len cap hr j4 (by omega) 4 (by omega) (by omega) _ HS4.out).mono ?_
        rintro e w5 ⟨b4, j5, rfl, k6, k7, hs5, hg5⟩
        have hgg := grown_trans HG4.out hg5
        have HR2 := Lib.hid (HFI.out _ hgg)
        have HG5 := Lib.hid hgg
        have HS5 := Lib.hid hs5
        have hz5 : w.heap.size ≤ w5.heap.size := Nat.le_trans hsz hgg.size
        clear hs5 hg5 hgg HR HS HG4 HS4
        cases b4
        all_goals
          go_wp2_with (at_builtin; refine wpList_append_own _ rfl _ _ 24 rfl w.heap.size 26 i0 (.complex .f64 0 0) 1 16 Try.underlying24 hi hz0 hz1 hz2 rfl (by decide) _ _ _ rfl (HR2.out.alloc _) ⟨_, 0, none⟩ 1 1 [.complex .f64 _ _] rfl rfl (cell_one_new _ _ _) (by intro u hu; simp at hu; subst hu; rfl) (by rw [hxl]; simp only [maxLen]; omega) (by rw [hxl]; omega) (by simp; omega) ?_)
          intro v' w6 hown' hgrow _
          obtain ⟨m', xs', j', e1, e2, e3, e4, e5, e6, e7, e8⟩ := HT.out w5 w6 _ v' _ _ j5 HG5.out HS5.out (by omega) (by omega) HR2.out (by first | exact HX.out | exact HX2.out) (by first | exact HY.out | omega) hown' hgrow hsz
          have HE := Lib.hid (And.intro e6 (And.intro e7 e8))
          clear e6 e7 e8 hown' hgrow HR2 HG5 HS5 HX HY HT HFI
          go_wp2
          go_roundw
          case rel => exact ⟨m', xs', j', by go_num, e2, e3, e4, e5, HE.out⟩
          case measure => simp [intOf]; omega
      · go_wp2_with fail
        refine (float_case w0 B a len cap hr j4 (by omega) _ HS4.out).mono ?_
        rintro e w4' ⟨x2, j4', hx2, rfl, k6', k7', hs4', hg4'⟩
        have HX2 := Lib.hid hx2
        have hg4 := grown_trans HG4.out hg4'
        clear hx2 hg4' HX
        have HX := HX2
        go_wp2_with fail
        refine (one_any w0 B a len cap hr j4' (by omega) 4 (by omega) (by omega) _ hs4').mono ?_
        rintro e w5 ⟨b4, j5, rfl, k6, k7, hs5, hg5⟩
        have hgg := grown_trans hg4 hg5
        have HR2 := Lib.hid (HFI.out _ hgg)
        have HG5 := Lib.hid hgg
        have HS5 := Lib.hid hs5
        have hz5 : w.heap.size ≤ w5.heap.size := Nat.le_trans hsz hgg.size
        clear hs5 hg5 hgg HR HS HG4 HS4 hs4' hg4
        cases b4
        all_goals
          go_wp2_with (at_builtin; refine wpList_append_own _ rfl _ _ 24 rfl w.heap.size 26 i0 (.complex .f64 0 0) 1 16 Try.underlying24 hi hz0 hz1 hz2 rfl (by decide) _ _ _ rfl (HR2.out.alloc _) ⟨_, 0, none⟩ 1 1 [.complex .f64 _ _] rfl rfl (cell_one_new _ _ _) (by intro u hu; simp at hu; subst hu; rfl) (by rw [hxl]; simp only [maxLen]; omega) (by rw [hxl]; omega) (by simp; omega) ?_)
          intro v' w6 hown' hgrow _
          obtain ⟨m', xs', j', e1, e2, e3, e4, e5, e6, e7, e8⟩ := HT.out w5 w6 _ v' _ _ j5 HG5.out HS5.out (by omega) (by omega) HR2.out (by first | exact HX.out | exact HX2.out) (by first | exact HY.out | omega) hown' hgrow hsz
          have HE := Lib.hid (And.intro e6 (And.intro e7 e8))
          clear e6 e7 e8 hown' hgrow HR2 HG5 HS5 HX HY HT HFI
          go_wp2
          go_roundw
          case rel => exact ⟨m', xs', j', by go_num, e2, e3, e4, e5, HE.out⟩
          case measure => simp [intOf]; omega
    · have e : m = 0 := by omega
      subst e
      go_wp2
      go_ret
      exact ⟨_, xs, rfl, HR.out, by omega, HW.out, HS.out.below⟩

end Go.Proofs.Ytphgibndncjaiaa
/-
  The draw of a signal of few sixteenths: l01Plain, A2Signal.
-/
set_option linter.unusedVariables false
set_option linter.unusedSimpArgs false
namespace Go.Proofs.Ytphgibndncjaiaa
open Go.RowKit Flt Fast

/-- A word that is few sixteenths. -/
def Few (p : Nat) : Prop := ∃ k : Int, k.natAbs ≤ 1024 ∧ Has p ((k : Rat) / 16)
theorem Few.lt {p : Nat} (h : Few p) : p < 18446744073709551616 := by
  obtain ⟨k, -, h⟩ := h
  exact h.lt
theorem Few.zero : Few 0 := ⟨0, by decide, by
  have := has_zero
  rwa [show ((0 : Int) : Rat) / 16 = 0 by decide +kernel]⟩
/-- Numbers both parts of which are few sixteenths. -/
def FewC (xs : List C) : Prop := ∀ u ∈ xs, Few u.1 ∧ Few u.2
theorem FewC.wf {xs : List C} (h : FewC xs) : WfC xs := fun u hu => ⟨(h u hu).1.lt, (h u hu).2.lt⟩
theorem fewC_snoc {xs : List C} {p q : Nat} (h : FewC xs) (hp : Few p) (hq : Few q) : FewC (xs ++ [(p, q)]) := by
  intro u hu
  rcases List.mem_append.1 hu with h1 | h1
  · exact h u h1
  · rw [List.mem_singleton.1 h1]; exact ⟨hp, hq⟩

theorem has_sixteen : Has 4625196817309499392 16 := has_int (n := 16) (by decide) (by decide)
theorem few_of {r : Int} {q : Nat} (h0 : 0 ≤ r) (h1 : r ≤ 2048) (hq : cn .f64 q = floatBits .quo .f64 (floatOfInt .f64 (r - 1024)) 4625196817309499392) (hb : q < 2 ^ FloatKind.f64.format.width) : Few q := by
  have hF := fv_int_exact (n := r - 1024) (by omega)
  have hd : Dy 4 1024 (((r - 1024 : Int) : Rat) / 16) := ⟨r - 1024, by omega, by rw [show two 4 = 16 from rfl]; exact Rat.div_mul_cancel (by decide)⟩
  exact ⟨r - 1024, by omega, Has.of (IsF.op (IsF.ofInt _) has_sixteen.isF hq hb) (hd.fv_div (by omega) (by omega) (by decide) hF has_sixteen.fv)⟩

/-- A float of few sixteenths is returned, and the source has gone on. -/
def PicksV (w0 : World) (B : Nat) (a : Option Addr) (len cap : Nat) (i : Int) (most : Int) (w : World) (e : Ending) (w' : World) : Prop :=
  ∃ r j, Few r ∧ e = .returned (.float .f64 r) ∧ i ≤ j ∧ j ≤ i + most ∧ Src w0 B a len cap j w' ∧ w.grownBy w' (some B)

set_option maxHeartbeats 1000000 in
theorem plainV_any (w0 : World) (B : Nat) (a : Option Addr) (len cap : Nat) (hr : Bytes w0 a len cap) (i : Int) (hi : i < 4611686018427387903) (w : World) (h : Src w0 B a len cap i w) :
    Calls Try.prog 39 #[.pointer (some ⟨B, 0, none⟩)] w (PicksV w0 B a len cap i 2 w) := by
  go_enter Try.func39, Try.ntmps39
  go_wp2_with fail
  go_at_call 38
  refine (pick_any w0 B a len cap hr i hi 2049 (by omega) (by omega) _ h).mono ?_
  rintro e w1 ⟨r, j, r0, r1, rfl, j0, j1, hs, hg⟩
  go_wp2_with (refine wpList_farith _ rfl .quo (by decide) _ _ _ _ rfl .f64 _ _ rfl rfl ?_; intro q n hq hb)
  have HF := Lib.hid (few_of r0 (by omega) hq hb)
  go_ret
  exact ⟨_, j, HF.out, rfl, j0, j1, hs.draws _, grown_draws hg _⟩

/-- A signal of at most so many numbers of few sixteenths has been drawn. -/
def Drawn16 (n : Nat) (w : World) (e : Ending) (w' : World) : Prop := ∃ v xs, e = .returned v ∧ Row w' w.heap.size 26 v (cvals xs) ∧ xs.length ≤ n ∧ FewC xs ∧ Below w.heap.size w w'

set_option maxRecDepth 100000 in
set_option maxHeartbeats 8000000 in
theorem signal_few (w0 : World) (B : Nat) (a : Option Addr) (len cap : Nat) (hr : Bytes w0 a len cap) (n : Nat) (hn : 0 < n) (hn2 : n ≤ 100) (w : World) (hB : B < w.heap.size) (h : Src w0 B a len cap 0 w) :
    Calls Try.prog 18 #[.pointer (some ⟨B, 0, none⟩), .int .i64 n, .bool true] w fun e w' => ∃ v xs, e = .returned v ∧ Row w' w.heap.size 26 v (cvals xs) ∧ xs.length ≤ n ∧ FewC xs ∧ Below w0.heap.size w0 w' := by
  obtain ⟨i0, hi, hz0, hz1, hz2⟩ := info_parts info_c128
  go_enter Try.func18, Try.ntmps18
  go_wp2_with fail
  refine (pick_any w0 B a len cap hr 0 (by omega) ((n : Int) + 1) (by omega) (by omega) _ (h.alloc _)).mono ?_
  rintro e w1 ⟨k0, j0, l0, l1, rfl, i0', i1', hs, hg⟩
  have hrow : Row w1 w.heap.size 26 (.slice (some ⟨w.heap.size, 0, none⟩) 0 0) (cvals []) := Row.kept (World.ownsRow_lit w #[] 0 (Nat.le_refl _) (by unfold maxLen; omega) rfl) hg (.inr (by simp [Value.ownBlock]; omega))
  obtain ⟨kk, rfl⟩ : ∃ kk : Nat, k0 = kk := ⟨k0.toNat, by omega⟩
  have HS := Lib.hid hs
  have HR := Lib.hid hrow
  have hkn : kk ≤ n := by omega
  have hsz1 : w.heap.size ≤ w1.heap.size := by have := hg.size; simp at this; omega
  clear hs hg hrow h
  go_wp2
  go_loopw [7, 8] (fun v k wr => ∃ (m : Nat) (xs : List C) (j : Int), k = .int .i64 m ∧ m + xs.length ≤ n ∧ 0 ≤ j ∧ j ≤ 2 + 20 * (xs.length : Int) ∧ w.heap.size ≤ wr.heap.size ∧ Src w0 B a len cap j wr ∧ Row wr w.heap.size 26 v (cvals xs) ∧ FewC xs) (fun _ k _ => (intOf k).toNat)
  case atStart => exact ⟨kk, [], j0, rfl, by simpa using hkn, by omega, by simp; omega, hsz1, HS.out, HR.out, by intro p hp; cases hp⟩
  case round =>
    clear HS HR
    obtain ⟨m, xs, j, rfl, hm, hj0, hj1, hsz, hs, hrw, hwf⟩ := hrel
    have HS := Lib.hid hs
    have HR := Lib.hid hrw
    have HW := Lib.hid hwf
    clear hs hrw hwf
    by_cases hlt : 0 < m
    · have hxl : (cvals xs).length = xs.length := cvals_length xs
      have hxn : (xs.length : Int) ≤ 100 := by omega
      go_wp2_with fail
      refine (plainV_any w0 B a len cap hr j (by omega) _ HS.out).mono ?_
      rintro e w2 ⟨x, j2, hx, rfl, k0, k1, hs2, hg2⟩
      go_wp2_with fail
      refine (plainV_any w0 B a len cap hr j2 (by omega) _ hs2).mono ?_
      rintro e w4 ⟨y, j4, hy, rfl, k2, k3, hs4, hg3⟩
      have hg := grown_trans hg2 hg3
      have HX := Lib.hid hx
      have HY := Lib.hid hy
      clear hs2 hg2 hg3 hx hy
      have HG4 := Lib.hid hg
      have HS4 := Lib.hid hs4
      clear hs4 hg
      have tail : ∀ (w5 w6 : World) (v v' : Value) (p q : Nat) (j5 : Int), wr.grownBy w5 (some B) → Src w0 B a len cap j5 w5 → j5 ≤ j + 20 → 0 ≤ j5 → Row w5 w.heap.size 26 v (cvals xs) → Few p → Few q →
          w6.ownsRow w.heap.size 26 1 v' (xs.length + 1) (cvals xs ++ [.complex .f64 p q]) → (w5.alloc (.cells #[.complex .f64 p q] 26)).grownBy w6 v.ownBlock → w.heap.size ≤ wr.heap.size →
          ∃ (m' : Nat) (xs' : List C) (j' : Int), m - 1 = m' ∧ m' + xs'.length ≤ n ∧ 0 ≤ j' ∧ j' ≤ 2 + 20 * (xs'.length : Int) ∧ w.heap.size ≤ w6.heap.size ∧ Src w0 B a len cap j' w6 ∧ Row w6 w.heap.size 26 v' (cvals xs') ∧ FewC xs' := by
        intro w5 w6 v v' p q j5 hg hs hj5 hj50 hr hp hq hown hgr hsz
        refine ⟨m - 1, xs ++ [(p, q)], j5, rfl, by simp; omega, hj50, by simp; omega, ?_, (hs.alloc _).other hgr (fun e => ?_) (fun k e => ?_), ?_, fewC_snoc HW.out hp hq⟩
        · have := hgr.size; have := hg.size; simp at *; omega
        · have := (hr.lt _ e).1; omega
        · have h1 := (hr.lt _ e).1; have h2 := hs.new; omega
        · show w6.ownsRow _ _ _ _ _ _
          rw [cvals_snoc, List.length_append, cvals_length]
          exact hown
      have HT := Lib.hid tail
      clear tail
      have fin : ∀ w5, wr.grownBy w5 (some B) → Row w5 w.heap.size 26 u7 (cvals xs) := fun w5 hg => HR.out.kept hg (.inr (fun e => by have := (HR.out.lt _ e).1; omega))
      have HFI := Lib.hid fin
      clear fin
      go_wp2_with fail
      refine (one_any w0 B a len cap hr j4 (by omega) 4 (by omega) (by omega) _ HS4.out).mono ?_
      rintro e w5 ⟨b4, j5, rfl, k6, k7, hs5, hg5⟩
      have hgg := grown_trans HG4.out hg5
      have HR2 := Lib.hid (HFI.out _ hgg)
      have HG5 := Lib.hid hgg
      have HS5 := Lib.hid hs5
      have hz5 : w.heap.size ≤ w5.heap.size := Nat.le_trans hsz hgg.size
      clear hs5 hg5 hgg HR HS HG4 HS4
      cases b4
      all_goals
        go_wp2_with (at_builtin; refine wpList_append_own _ rfl _ _ 24 rfl w.heap.size 26 i0 (.complex .f64 0 0) 1 16 Try.underlying24 hi hz0 hz1 hz2 rfl (by decide) _ _ _ rfl (HR2.out.alloc _) ⟨_, 0, none⟩ 1 1 [.complex .f64 _ _] rfl rfl (cell_one_new _ _ _) (by intro u hu; simp at hu; subst hu; rfl) (by rw [hxl]; simp only [maxLen]; omega) (by rw [hxl]; omega) (by simp; omega) ?_)
        intro v' w6 hown' hgrow _
        obtain ⟨m', xs', j', e1, e2, e3, e4, e5, e6, e7, e8⟩ := HT.out w5 w6 _ v' _ _ j5 HG5.out HS5.out (by omega) (by omega) HR2.out HX.out (by first | exact HY.out | exact Few.zero) hown' hgrow hsz
        have HE := Lib.hid (And.intro e6 (And.intro e7 e8))
        clear e6 e7 e8 hown' hgrow HR2 HG5 HS5 HX HY HT HFI
        go_wp2
        go_roundw
        case rel => exact ⟨m', xs', j', by go_num, e2, e3, e4, e5, HE.out⟩
        case measure => simp [intOf]; omega
    · have e : m = 0 := by omega
      subst e
      go_wp2
      go_ret
      exact ⟨_, xs, rfl, HR.out, by omega, HW.out, HS.out.below⟩

theorem a2Signal_any (a : Option Addr) (len cap : Nat) (zs : List Int) (n : Nat) (hn : 0 < n) (hn2 : n ≤ 100) (w : World) (hr : IsRow .u8 w a len cap zs) :
    Calls Try.prog 6 #[.slice a len cap, .int .i64 n] w (Drawn16 n w) := by
  go_enter Try.func6, Try.ntmps6
  go_wp2_with (first | (go_at_call 19; go_in))
  refine (signal_few w w.heap.size a len cap ⟨zs, hr⟩ n hn hn2 _ (by simp) src_new).mono ?_
  rintro e w1 ⟨v, xs, rfl, hrow, hl, hw, hb⟩
  have HE := Lib.hid (show Drawn16 n w (.returned v) w1 from ⟨v, xs, rfl, hrow.base (by simp), hl, hw, hb⟩)
  clear hrow hl hw hb
  go_wp2
  go_ret
  exact HE.out

end Go.Proofs.Ytphgibndncjaiaa
