import Derived.Test.YtnhhmgnceicpkaaWinO
import Derived.Deep.RegionLaw
/-
  The numbers of windows: the program's; WindowOf of the model.
-/
set_option linter.unusedVariables false
set_option linter.unusedSimpArgs false
namespace Go.Proofs.Ytnhhmgnceicpkaa
open Go.RowKit Flt Turn
attribute [local go_sem] run_fadd run_fsub run_fmul run_fquo run_cadd run_csub

/-- A float is returned; the cache b has at most c turns. -/
def RetW (z : Option Nat) (b c : Nat) (w : World) (e : Ending) (w' : World) : Prop := ∃ a, e = .returned (fval a) ∧ IsF a z ∧ Cache w' b c ∧ w.grownBy w' (some b)

theorem restPos (n j b c : Nat) (w : World) (hn : 0 < n) (hn2 : n ≤ 1000) (hj : j ≤ 100000) (hc : Cache w b c) (hcf : c ≤ 4000000000000000000) :
    Calls Try.prog 96 #[.map (some b), .int .i64 n, .int .i64 j] w (RetCa (turn n (j % n)) b (c + 8) w) := by
  have hrl : j % n ≤ n := Nat.le_of_lt (Nat.mod_lt _ hn)
  have T := Lib.hid (turn_cache n (j % n) b c w hn (by omega) hrl hc hcf)
  obtain ⟨e, he⟩ : ∃ e, j % n = e := ⟨_, rfl⟩
  have hen : e < n := by rw [← he]; exact Nat.mod_lt _ hn
  have he1 : (j : Int) % (n : Int) = (e : Int) := by rw [← he]; rfl
  have he2 : ((j : Int)).tmod (n : Int) = (e : Int) := by rw [← he]; rfl
  have hf : (e + n) % n = e := by rw [Nat.add_mod_right, Nat.mod_eq_of_lt hen]
  have hf1 : ((e : Int) + (n : Int)).tmod (n : Int) = (e : Int) := by
    have : ((e + n : Nat) : Int).tmod (n : Int) = (((e + n) % n : Nat) : Int) := rfl
    rw [hf] at this
    simpa using this
  have hf2 : ((e : Int) + (n : Int)) % (n : Int) = (e : Int) := by
    have : ((e + n : Nat) : Int) % (n : Int) = (((e + n) % n : Nat) : Int) := rfl
    rw [hf] at this
    simpa using this
  have hz : ¬ n = 0 := by omega
  have hzI : ¬ (n : Int) = 0 := by omega
  rw [he] at T ⊢
  clear hf he hc hrl
  go_enter Try.func96, Try.ntmps96
  go_wp2_with fail
  refine T.out.mono ?_
  rintro e' w1 ⟨x, y, rfl, hx, hy, hc1, hg1⟩
  have HE := Lib.hid (show RetCa (turn n e) b (c + 8) w (.returned (.complex .f64 x y)) w1 from ⟨x, y, rfl, hx, hy, hc1, hg1⟩)
  clear hx hy hc1 hg1 T
  go_wp2
  go_ret
  exact HE.out

theorem across_any (n k b c : Nat) (w : World) (hn : 0 < n) (hn2 : n ≤ 1000) (hk : k ≤ 100000) (hc : Cache w b c) (hcf : c ≤ 4000000000000000000) :
    Calls Try.prog 89 #[.agg #[.map (some b), .int .i64 n], .int .i64 k] w (RetW (cosO n k) b (c + 8) w) := by
  have R := Lib.hid (restPos n k b c (w.alloc (.cells #[.map (some b), .int .i64 n] 80)) hn hn2 hk (hc.alloc _) hcf)
  have hg0 : w.grownBy (w.alloc (.cells #[.map (some b), .int .i64 n] 80)) (some b) := World.grownBy_alloc w _ _
  have HG0 := Lib.hid hg0
  have hcz : cosO n k = (turn n (k % n)).1 := rfl
  rw [hcz]
  clear hc hg0 hcz
  go_enter Try.func89, Try.ntmps89
  go_wp2_with fail
  refine R.out.mono ?_
  rintro e w2 ⟨x, y, rfl, hx, hy, hc2, hg2⟩
  have HE := Lib.hid (show RetW (turn n (k % n)).1 b (c + 8) w (.returned (fval x)) w2 from ⟨x, rfl, hx, hc2, HG0.out.trans hg2⟩)
  clear hx hy hc2 hg2 R
  go_wp2
  go_ret
  exact HE.out

theorem rectW_any (n i b c : Nat) (w : World) (hc : Cache w b c) :
    Calls Try.prog 79 #[.agg #[.map (some b), .int .i64 n], .int .i64 i] w (RetW (winO 1 n i) b (c + 16) w) := by
  have HC := Lib.hid hc
  have ez : winO 1 n i = some 4607182418800017408 := rfl
  rw [ez]
  clear hc
  go_enter Try.func79, Try.ntmps79
  go_wp2
  go_ret
  exact ⟨_, rfl, IsF.lit (by decide) (by omega), ((HC.out.alloc _).mono (by omega)), World.grownBy_alloc w _ _⟩

theorem cache_draws {w : World} {b c : Nat} (h : Cache w b c) (n : Nat) : Cache (w.drewN n) b c := h.drewN n
theorem grown_dr {w w' : World} {row : Option Nat} (h : w.grownBy w' row) (n : Nat) : w.grownBy (w'.drewN n) row := ⟨h.os, h.tape, h.output, h.size, h.block⟩

set_option maxRecDepth 100000 in
set_option maxHeartbeats 4000000 in
theorem triangleW_any (n i b c : Nat) (w : World) (hn2 : n ≤ 256) (hi : i < n) (hc : Cache w b c) :
    Calls Try.prog 80 #[.agg #[.map (some b), .int .i64 n], .int .i64 i] w (RetW (winO 2 n i) b (c + 16) w) := by
  have HC := Lib.hid hc
  have ez : winO 2 n i = fop .sub .f64 (some 4607182418800017408) (absO (fop .sub .f64 (fop .quo .f64 (some (floatOfInt .f64 ((2 * i : Nat) : Int))) (some (floatOfInt .f64 (n : Int)))) (some 4607182418800017408))) := rfl
  rw [ez]
  obtain ⟨J, hJ⟩ : ∃ J, 2 * i = J := ⟨_, rfl⟩
  have e2 : (2 : Int) * (i : Int) = (J : Int) := by omega
  have hJb : J ≤ 1000 := by omega
  rw [hJ]
  have H1 := Lib.hid (show IsF 4607182418800017408 (some 4607182418800017408) from IsF.lit (by decide) (by omega))
  have A1 := Lib.hid (fun (a : Nat) (ha : a < 18446744073709551616) => abs_any a ha)
  clear hc hJ ez
  go_enter Try.func80, Try.ntmps80
  go_wp2_with fail
  refine (A1.out _ (fres_lt64 _ _ _ _) _).mono ?_
  rintro e w' ⟨rfl, rfl⟩
  go_wp2
  go_ret
  exact ⟨_, rfl, isF_fres H1.out (isF_abs (isF_fres (isF_fres (IsF.ofInt _) (IsF.ofInt _) _) H1.out _)) _, (cache_draws (HC.out.alloc _) _).mono (by omega), grown_dr (World.grownBy_alloc w _ _) _⟩

set_option maxRecDepth 100000 in
set_option maxHeartbeats 4000000 in
theorem hannW_any (n i b c : Nat) (w : World) (hn : 0 < n) (hn2 : n ≤ 256) (hi : i < n) (hc : Cache w b c) (hcf : c ≤ 4000000000000000000) :
    Calls Try.prog 81 #[.agg #[.map (some b), .int .i64 n], .int .i64 i] w (RetW (winO 3 n i) b (c + 16) w) := by
  have R := Lib.hid (across_any n i b c (w.alloc (.cells #[.map (some b), .int .i64 n] 80)) hn (by omega) (by omega) (hc.alloc _) hcf)
  have HG0 := Lib.hid (show w.grownBy (w.alloc (.cells #[.map (some b), .int .i64 n] 80)) (some b) from World.grownBy_alloc w _ _)
  have HF := Lib.hid (show IsF 4602678819172646912 (some 4602678819172646912) from IsF.lit (by decide) (by omega))
  have ez : winO 3 n i = fop .sub .f64 (some 4602678819172646912) (fop .mul .f64 (some 4602678819172646912) (cosO n i)) := rfl
  rw [ez]
  clear hc ez
  go_enter Try.func81, Try.ntmps81
  go_wp2_with fail
  refine R.out.mono ?_
  rintro e w2 ⟨x, rfl, hx, hc2, hg2⟩
  have HX := Lib.hid hx
  have HC2 := Lib.hid (hc2.mono (show c + 8 ≤ c + 16 by omega))
  have HG2 := Lib.hid (HG0.out.trans hg2)
  clear hx hc2 hg2 R
  simp only [fval]
  go_wp2
  go_ret
  exact ⟨_, rfl, isF_fres HF.out (isF_fres HF.out HX.out _) _, cache_draws HC2.out _, grown_dr HG2.out _⟩

set_option maxRecDepth 100000 in
set_option maxHeartbeats 4000000 in
theorem hammingW_any (n i b c : Nat) (w : World) (hn : 0 < n) (hn2 : n ≤ 256) (hi : i < n) (hc : Cache w b c) (hcf : c ≤ 4000000000000000000) :
    Calls Try.prog 82 #[.agg #[.map (some b), .int .i64 n], .int .i64 i] w (RetW (winO 4 n i) b (c + 16) w) := by
  have R := Lib.hid (across_any n i b c (w.alloc (.cells #[.map (some b), .int .i64 n] 80)) hn (by omega) (by omega) (hc.alloc _) hcf)
  have HG0 := Lib.hid (show w.grownBy (w.alloc (.cells #[.map (some b), .int .i64 n] 80)) (some b) from World.grownBy_alloc w _ _)
  have HF := Lib.hid (show IsF 4603039107142836552 (some 4603039107142836552) from IsF.lit (by decide) (by omega))
  have HG := Lib.hid (show IsF 4601958243232267633 (some 4601958243232267633) from IsF.lit (by decide) (by omega))
  have ez : winO 4 n i = fop .sub .f64 (some 4603039107142836552) (fop .mul .f64 (some 4601958243232267633) (cosO n i)) := rfl
  rw [ez]
  clear hc ez
  go_enter Try.func82, Try.ntmps82
  go_wp2_with fail
  refine R.out.mono ?_
  rintro e w2 ⟨x, rfl, hx, hc2, hg2⟩
  have HX := Lib.hid hx
  have HC2 := Lib.hid (hc2.mono (show c + 8 ≤ c + 16 by omega))
  have HG2 := Lib.hid (HG0.out.trans hg2)
  clear hx hc2 hg2 R
  simp only [fval]
  go_wp2
  go_ret
  exact ⟨_, rfl, isF_fres HF.out (isF_fres HG.out HX.out _) _, cache_draws HC2.out _, grown_dr HG2.out _⟩

set_option maxRecDepth 100000 in
set_option maxHeartbeats 4000000 in
theorem sineW_any (n i b c : Nat) (w : World) (hn : 0 < n) (hn2 : n ≤ 256) (hi : i < n) (hc : Cache w b c) (hcf : c ≤ 4000000000000000000) :
    Calls Try.prog 83 #[.agg #[.map (some b), .int .i64 n], .int .i64 i] w (RetW (winO 5 n i) b (c + 16) w) := by
  have R := Lib.hid (hannW_any n i b c (w.alloc (.cells #[.map (some b), .int .i64 n] 80)) hn hn2 hi (hc.alloc _) hcf)
  have HG0 := Lib.hid (show w.grownBy (w.alloc (.cells #[.map (some b), .int .i64 n] 80)) (some b) from World.grownBy_alloc w _ _)
  have SQ := Lib.hid (fun a ha => sqrt_any a (hannO n i) ha)
  have e3 : winO 3 n i = hannO n i := rfl
  have ez : winO 5 n i = fsqrtO (hannO n i) := rfl
  rw [e3] at R
  rw [ez]
  clear hc ez e3
  go_enter Try.func83, Try.ntmps83
  go_wp2_with fail
  refine R.out.mono ?_
  rintro e w2 ⟨x, rfl, hx, hc2, hg2⟩
  have HX := Lib.hid hx
  have HC2 := Lib.hid hc2
  have HG2 := Lib.hid (HG0.out.trans hg2)
  clear hx hc2 hg2 R
  simp only [fval]
  go_wp2_with fail
  refine (SQ.out _ HX.out _).mono ?_
  rintro e w3 ⟨r, m2, rfl, hr, rfl⟩
  have HR := Lib.hid hr
  clear hr
  go_wp2
  go_ret
  exact ⟨_, rfl, HR.out, cache_draws HC2.out _, grown_dr HG2.out _⟩

end Go.Proofs.Ytnhhmgnceicpkaa
