import Derived.Test.YtcoieclecmefiaaWinC
/-
  GainOf, PowerOf of both.
-/
set_option linter.unusedVariables false
set_option linter.unusedSimpArgs false
namespace Go.Proofs.Ytcoieclecmefiaa
open Go.RowKit Flt Fast
attribute [local go_sem] run_fadd run_fsub run_fmul run_fquo run_cadd run_csub

/-- The sum of a window, if it is not too long. -/
def tooK (n : Nat) : Int := if 256 < n then 3 else 0
def gainR (z : Nat → Option Nat) (n : Nat) : Option Nat := if 256 < n then some 0 else sumO z n
/-- A square. -/
def sqO (xs : List Nat) (i : Nat) : Option Nat := fop .mul .f64 (wO xs i) (wO xs i)

theorem sumO_first (z : Nat → Option Nat) {k : Nat} (h : k = 0) : sumO z (k + 1) = z k := by subst h; rfl

set_option maxRecDepth 100000 in
set_option maxHeartbeats 4000000 in
theorem gain_impl (xs : List Nat) (hz : ∀ z ∈ xs, z < 18446744073709551616) (v : Value) (w : World) (h : Reads w v (flts xs)) :
    Calls Try.prog 28 #[v] w (FloatTo (gainR (wO xs) xs.length) (tooK xs.length) w) := by
  have hcap := fl_cap h
  have hW : ∀ i, i < xs.length → IsF (xs.getD i 0) (wO xs i) := fun i hi => wO_isF hz hi
  by_cases hb : 256 < xs.length
  · have e1 : gainR (wO xs) xs.length = some 0 := if_pos hb
    have e2 : tooK xs.length = 3 := if_pos hb
    rw [e1, e2]
    obtain ⟨a, cap, rfl⟩ := fl_form h
    rw [flts_length] at *
    replace hcap := hcap _ _ _ rfl
    obtain ⟨n, hn⟩ : ∃ n, xs.length = n := ⟨_, rfl⟩
    rw [hn] at hcap hb ⊢
    clear e1 e2 h hW hn
    go_enter Try.func28, Try.ntmps28
    go_wp2
    go_ret2
    exact ⟨0, rfl, IsF.lit (by decide) (by omega), Below.refl _ _⟩
  · have e1 : gainR (wO xs) xs.length = sumO (wO xs) xs.length := if_neg hb
    have e2 : tooK xs.length = 0 := if_neg hb
    rw [e1, e2]
    have S := Lib.hid (sumF_any (xs := xs) (w := w) h (by omega) (wO xs) hW)
    obtain ⟨a, cap, rfl⟩ := fl_form h
    rw [flts_length] at *
    replace hcap := hcap _ _ _ rfl
    obtain ⟨n, hn⟩ : ∃ n, xs.length = n := ⟨_, rfl⟩
    rw [hn] at hcap hb S ⊢
    clear e1 e2 h hW hn
    go_enter Try.func28, Try.ntmps28
    go_wp2_with fail
    refine S.out.mono ?_
    rintro e w2 ⟨r, rfl, hr, m, rfl⟩
    have HR := Lib.hid hr
    clear hr
    go_wp2
    go_ret2
    exact ⟨_, rfl, HR.out, below_draws (Below.refl _ _) m⟩

theorem square_any (a : Nat) (z : Option Nat) (ha : IsF a z) (w : World) :
    Calls Try.prog 71 #[.float .f64 a] w fun e w' => ∃ q : Nat, e = .returned (fval q) ∧ IsF q (fop .mul .f64 z z) ∧ Below w.heap.size w w' := by
  have HA := Lib.hid ha
  clear ha
  go_enter Try.func71, Try.ntmps71
  go_wp2
  go_ret
  exact ⟨_, rfl, isF_fres HA.out HA.out _, below_draws (Below.refl _ _) _⟩

theorem enter_square (args : Array Value) (w : World) : (callFunc 71 args).run Try.prog w = .ok (.enter 71 args) w := by kernel_rfl

set_option maxRecDepth 100000 in
set_option maxHeartbeats 4000000 in
theorem power_impl (xs : List Nat) (hz : ∀ z ∈ xs, z < 18446744073709551616) (v : Value) (w : World) (h : Reads w v (flts xs)) :
    Calls Try.prog 29 #[v] w (FloatTo (gainR (sqO xs) xs.length) (tooK xs.length) w) := by
  have hcap := fl_cap h
  have hW : ∀ i, i < xs.length → IsF (xs.getD i 0) (wO xs i) := fun i hi => wO_isF hz hi
  by_cases hb : 256 < xs.length
  · have e1 : gainR (sqO xs) xs.length = some 0 := if_pos hb
    have e2 : tooK xs.length = 3 := if_pos hb
    rw [e1, e2]
    have M : ∀ (a : Option Addr) (cap n : Nat) (f : Value), 256 < n → (n : Int) ≤ 9223372036854775807 → Calls Try.prog 70 #[.slice a n cap, f] w fun e w' => e = .returned (.tuple #[.slice none 0 0, .int .i64 3]) ∧ w' = w := by
      intro a cap n f h1 h2
      go_enter Try.func70, Try.ntmps70
      go_wp2
      go_ret2
      exact ⟨rfl, rfl⟩
    have S := Lib.hid (sumF_any (xs := []) (w := w) (.none none 0) (by simp) (fun _ => none) (fun i hi => by simp at hi))
    obtain ⟨a, cap, rfl⟩ := fl_form h
    rw [flts_length] at *
    replace hcap := hcap _ _ _ rfl
    obtain ⟨n, hn⟩ : ∃ n, xs.length = n := ⟨_, rfl⟩
    rw [hn] at hcap hb ⊢
    have M := Lib.hid (fun f => M a cap n f hb hcap)
    clear e1 e2 h hW hn
    go_enter Try.func29, Try.ntmps29
    go_wp2_with fail
    refine (M.out _).mono ?_
    rintro e w2 ⟨rfl, rfl⟩
    go_wp2_with fail
    refine S.out.mono ?_
    rintro e w2 ⟨r, rfl, hr, m, rfl⟩
    have HR := Lib.hid hr
    clear hr
    go_wp2
    go_ret2
    exact ⟨_, rfl, HR.out, below_draws (Below.refl _ _) m⟩
  · have e1 : gainR (sqO xs) xs.length = sumO (sqO xs) xs.length := if_neg hb
    have e2 : tooK xs.length = 0 := if_neg hb
    rw [e1, e2]
    have M := Lib.hid (map_f64_f64 (xs := xs) (w := w) h (by omega) 71 #[] enter_square (fun i q => IsF q (sqO xs i)) (fun i w1 hi hb => (square_any _ _ (hW i hi) w1)))
    obtain ⟨a, cap, rfl⟩ := fl_form h
    rw [flts_length] at *
    clear e1 e2 h hW hcap
    go_enter Try.func29, Try.ntmps29
    go_wp2_with fail
    refine M.out.mono ?_
    rintro e w2 ⟨u, qs, rfl, hr, hq, hg, hb2⟩
    have S := Lib.hid (sumF_any (xs := qs) (w := w2) hr.reads (by omega) (sqO xs) (fun i hi => hg i (by omega)))
    rw [hq] at S
    have HB := Lib.hid hb2
    clear hr hq hg hb2 M
    go_wp2_with fail
    refine S.out.mono ?_
    rintro e w3 ⟨r, rfl, hr, m, rfl⟩
    have HR := Lib.hid hr
    clear hr
    go_wp2
    go_ret2
    exact ⟨_, rfl, HR.out, below_draws HB.out m⟩

end Go.Proofs.Ytcoieclecmefiaa
