import Derived.Test.YtnigbjjllolgdaaSpC
import Derived.Laws.EntriesVeiled
/-
  UnwrapPhases and DelaysOf of both.
-/
set_option linter.unusedVariables false
set_option linter.unusedSimpArgs false
namespace Go.Proofs.Ytnigbjjllolgdaa
open Go.RowKit Flt Fast
attribute [local go_sem] run_fadd run_fsub run_fmul run_fquo run_cadd run_csub

theorem enter_unwrap1 (args : Array Value) (w : World) : (callFunc 57 args).run Try.prog w = .ok (.enter 57 args) w := by kernel_rfl

set_option maxRecDepth 100000 in
theorem unwrapping_any (w : World) :
    Calls Try.prog 28 #[] w fun e w' => e = .returned (.func (.func 57) #[] #[.pointer (some ⟨w.heap.size + 2, 0, none⟩), .pointer (some ⟨w.heap.size + 1, 0, none⟩), .pointer (some ⟨w.heap.size, 0, none⟩)]) ∧ St w w' w.heap.size 0 0 true ∧ w'.heap.size = w.heap.size + 3 := by
  go_enter Try.func28, Try.ntmps28
  go_wp2
  go_ret
  refine ⟨rfl, ⟨(((Below.refl _ _).alloc (Nat.le_refl _) _).alloc (by simp) _).alloc (by simp; omega) _, by simp, ?_, ?_, ?_, ?_, ?_, ?_⟩, by simp⟩
  all_goals go_simp

/-- Whatever is mapped, a list that is too long is an error. -/
theorem map_long (a : Option Addr) (n cap : Nat) (f : Value) (w : World) (h1 : 256 < n) (h2 : (n : Int) ≤ 9223372036854775807) :
    Calls Try.prog 27 #[.slice a n cap, f] w fun e w' => e = .returned (.tuple #[.slice none 0 0, .int .i64 3]) ∧ w' = w := by
  go_enter Try.func27, Try.ntmps27
  go_wp2
  go_ret2
  exact ⟨rfl, rfl⟩

set_option maxRecDepth 100000 in
set_option maxHeartbeats 4000000 in
theorem unwrap_impl (xs : List Nat) (hz : ∀ z ∈ xs, z < 18446744073709551616) (v : Value) (w : World) (h : Reads w v (flts xs)) :
    Calls Try.prog 8 #[v] w (FloatsTo (unwN xs.length) (unwO xs) (tooK xs.length) w) := by
  have U := Lib.hid (unwrapping_any w)
  have hcap := fl_cap h
  by_cases hb : 256 < xs.length
  · have e1 : unwN xs.length = 0 := if_pos hb
    have e2 : tooK xs.length = 3 := if_pos hb
    rw [e1, e2]
    obtain ⟨a, cap, rfl⟩ := fl_form h
    rw [flts_length] at *
    replace hcap := hcap _ _ _ rfl
    have M := Lib.hid (fun f w => map_long a xs.length cap f w hb hcap)
    obtain ⟨n, hn⟩ : ∃ n, xs.length = n := ⟨_, rfl⟩
    rw [hn] at M ⊢
    clear e1 e2 h hn hb hcap
    go_enter Try.func8, Try.ntmps8
    go_wp2_with fail
    refine U.out.mono ?_
    rintro e w2 ⟨rfl, hs, -⟩
    have HB := Lib.hid hs.below
    clear hs
    go_wp2_with fail
    refine (M.out _ _).mono ?_
    rintro e w' ⟨rfl, rfl⟩
    go_wp2
    go_ret2
    exact ⟨_, [], rfl, World.ownsRow_nil _ _ _ _, rfl, fun i hi => by omega, HB.out⟩
  · have e1 : unwN xs.length = xs.length := if_neg hb
    have e2 : tooK xs.length = 0 := if_neg hb
    rw [e1, e2]
    obtain ⟨N, hN⟩ : ∃ N, w.heap.size = N := ⟨_, rfl⟩
    have M : Hid (∀ w2 : World, St w w2 N 0 0 true → w2.heap.size = N + 3 → Calls Try.prog 27 #[v, .func (.func 57) #[] #[.pointer (some ⟨N + 2, 0, none⟩), .pointer (some ⟨N + 1, 0, none⟩), .pointer (some ⟨N, 0, none⟩)]] w2
        fun e w' => ∃ v qs, e = .returned (.tuple #[v, .int .i64 0]) ∧ Row w' w2.heap.size 30 v (fvals qs) ∧ qs.length = xs.length ∧ (∀ i, i < xs.length → IsF (qs.getD i 0) (unwO xs i)) ∧ StI xs w N xs.length w') := by
      refine Lib.hid fun w2 hs hz2 => ?_
      have hb2 : Below w.heap.size w w2 := by rw [hN]; exact hs.below
      refine map_f64_st (xs := xs) (h.below hb2) (by omega) 57 _ enter_unwrap1 (fun i q => IsF q (unwO xs i)) (StI xs w N) ?_ ?_ ?_ ?_
      · exact fun w1 hg => ⟨0, 0, hs.grown hg (fun k e => by cases e), fun c => absurd rfl c⟩
      · rintro i w1 w3 hsz ⟨bf, un, h1, h2⟩ hg
        exact ⟨bf, un, h1.grown hg (fun k e => by cases e; omega), h2⟩
      · rintro i w1 ⟨bf, un, h1, h2⟩
        exact h.below (by rw [hN]; exact h1.below)
      · intro i w1 hi hsz hI
        rw [hz2]
        exact unwrap1_any xs hz i hi w N w1 hI
    rw [hN] at U
    have HNN : Hid (w.heap.size = N) := hN
    obtain ⟨a, cap, rfl⟩ := fl_form h
    rw [flts_length] at *
    obtain ⟨n, hn⟩ : ∃ n, xs.length = n := ⟨_, rfl⟩
    rw [hn] at M ⊢
    clear e1 e2 h hz hn hb hcap hN
    go_enter Try.func8, Try.ntmps8
    go_wp2_with fail
    refine U.out.mono ?_
    rintro e w2 ⟨rfl, hs, hz2⟩
    have HM := Lib.hid (M.out w2 hs hz2)
    have HB : Hid (Below N w w2) := hs.below
    have HZ2 := Lib.hid hz2
    clear hs hz2 M U
    go_wp2_with fail
    refine HM.out.mono ?_
    rintro e w3 ⟨u, qs, rfl, hr, hq, hg, bf, un, hst, -⟩
    have HX : Hid (Row w3 w.heap.size 30 u (flts qs) ∧ qs.length = n ∧ (∀ i, i < n → IsF (qs.getD i 0) (unwO xs i)) ∧ Below w.heap.size w w3) :=
      ⟨hr.base (by have := HZ2.out; have := HNN.out; omega), hq, hg, by rw [HNN.out]; exact hst.below⟩
    clear hr hq hg hst HM
    go_wp2
    go_ret2
    exact ⟨u, qs, rfl, HX.out⟩

set_option maxRecDepth 100000 in
set_option maxHeartbeats 4000000 in
theorem unwrap_spec (xs : List Nat) (hz : ∀ z ∈ xs, z < 18446744073709551616) (v : Value) (w : World) (h : Reads w v (flts xs)) :
    Calls Try.prog 9 #[v] w (FloatsTo (unwN xs.length) (unwO xs) (tooK xs.length) w) := by
  have hcap := fl_cap h
  by_cases hb : 256 < xs.length
  · have e1 : unwN xs.length = 0 := if_pos hb
    have e2 : tooK xs.length = 3 := if_pos hb
    rw [e1, e2]
    obtain ⟨a, cap, rfl⟩ := fl_form h
    rw [flts_length] at *
    replace hcap := hcap _ _ _ rfl
    obtain ⟨n, hn⟩ : ∃ n, xs.length = n := ⟨_, rfl⟩
    rw [hn] at hcap hb ⊢
    clear e1 e2 h hn hz
    go_enter Try.func9, Try.ntmps9
    go_wp2
    go_ret2
    exact ⟨_, [], rfl, World.ownsRow_lit w #[] 0 (Nat.le_refl _) (by unfold maxLen; omega) rfl, rfl, fun i hi => by omega, (Below.refl _ _).alloc (Nat.le_refl _) _⟩
  · have e1 : unwN xs.length = xs.length := if_neg hb
    have e2 : tooK xs.length = 0 := if_neg hb
    rw [e1, e2]
    have M := Lib.hid (unwrap_model xs hz (by omega) v w h)
    obtain ⟨a, cap, rfl⟩ := fl_form h
    rw [flts_length] at *
    replace hcap := hcap _ _ _ rfl
    obtain ⟨n, hn⟩ : ∃ n, xs.length = n := ⟨_, rfl⟩
    rw [hn] at M hcap hb ⊢
    clear e1 e2 h hn hz
    go_enter Try.func9, Try.ntmps9
    go_wp2_with fail
    refine M.out.mono ?_
    rintro e w3 ⟨u, qs, rfl, hx⟩
    have HX := Lib.hid hx
    clear hx
    go_wp2
    go_ret2
    exact ⟨u, qs, rfl, HX.out⟩

end Go.Proofs.Ytnigbjjllolgdaa
