import Derived.Test.YtnhhmgnceicpkaaWinP
import Derived.Deep.AppendLies
/-
  The last kind's number; the function that has them all; WindowOf of the model.
-/
set_option linter.unusedVariables false
set_option linter.unusedSimpArgs false
namespace Go.Proofs.Ytnhhmgnceicpkaa
open Go.RowKit Flt Turn
attribute [local go_sem] run_fadd run_fsub run_fmul run_fquo run_cadd run_csub

theorem gb_same {w' w2 : World} {row : Option Nat} {n : Nat} (h : (w'.drewN n).grownBy w2 row) : w'.grownBy w2 row := ⟨h.os, h.tape, h.output, h.size, h.block⟩
theorem circle_cells (w wx : World) (n b : Nat) (hb : b < w.heap.size) (h : (w.alloc (.cells #[.map (some b), .int .i64 n] 80)).grownBy wx (some b)) :
    wx.cell? ⟨w.heap.size, 0, none⟩ = some (.map (some b)) ∧ wx.cell? ⟨w.heap.size, 1, none⟩ = some (.int .i64 n) := by
  have hlt : w.heap.size < (w.alloc (.cells #[.map (some b), .int .i64 n] 80)).heap.size := by rw [World.size_alloc]; omega
  have hne : ∀ k : Nat, some (Addr.block ⟨w.heap.size, k, none⟩) ≠ some b := fun k e => by simp only [Option.some.injEq] at e; omega
  constructor
  · rw [World.grownBy.cell_far h ⟨w.heap.size, 0, none⟩ hlt (hne 0)]; simp
  · rw [World.grownBy.cell_far h ⟨w.heap.size, 1, none⟩ hlt (hne 1)]; simp

set_option maxRecDepth 100000 in
set_option maxHeartbeats 4000000 in
theorem blackmanW_any (n i b c : Nat) (w : World) (hn : 0 < n) (hn2 : n ≤ 256) (hi : i < n) (hc : Cache w b c) (hcf : c ≤ 3000000000000000000) :
    Calls Try.prog 84 #[.agg #[.map (some b), .int .i64 n], .int .i64 i] w (RetW (winO 6 n i) b (c + 16) w) := by
  have R1 := Lib.hid (fun w2 c2 (h : Cache w2 b c2) (hc2 : c2 ≤ 4000000000000000000) => across_any n i b c2 w2 hn (by omega) (by omega) h hc2)
  have R2 := Lib.hid (fun w2 c2 (h : Cache w2 b c2) (hc2 : c2 ≤ 4000000000000000000) => across_any n (2 * i) b c2 w2 hn (by omega) (by omega) h hc2)
  have HC := Lib.hid hc
  obtain ⟨J, hJ⟩ : ∃ J, 2 * i = J := ⟨_, rfl⟩
  have e2 : (2 : Int) * (i : Int) = (J : Int) := by omega
  have hJb : J ≤ 1000 := by omega
  have eW : IntKind.i64.wrap (J : Int) = (J : Int) := by rw [IntKind.wrap_i64]; omega
  have ez : winO 6 n i = fop .add .f64 (fop .sub .f64 (some 4601237667291888353) (fop .mul .f64 (some 4602678819172646912) (cosO n i))) (fop .mul .f64 (some 4590429028186199163) (cosO n (2 * i))) := rfl
  rw [ez]
  rw [hJ] at R2 ⊢
  clear hJ ez hc
  go_enter Try.func84, Try.ntmps84
  go_wp2_with fail
  have HF := Lib.hid (show IsF 4602678819172646912 (some 4602678819172646912) from IsF.lit (by decide) (by omega))
  have HG := Lib.hid (show IsF 4601237667291888353 (some 4601237667291888353) from IsF.lit (by decide) (by omega))
  have HH := Lib.hid (show IsF 4590429028186199163 (some 4590429028186199163) from IsF.lit (by decide) (by omega))
  have hbl := HC.out.lt
  have HK := Lib.hid (fun wx (h : (w.alloc (.cells #[.map (some b), .int .i64 n] 80)).grownBy wx (some b)) => circle_cells w wx n b hbl h)
  have gb_alloc : ∀ {w2 : World} {m : Nat}, ((w.alloc (.cells #[.map (some b), .int .i64 n] 80)).drewN m).grownBy w2 (some b) → (w.alloc (.cells #[.map (some b), .int .i64 n] 80)).grownBy w2 (some b) := fun h => gb_same h
  clear hbl
  go_region_law (first
    | (go_simp; go_at_call 89; (with_reducible refine (R1.out _ c ?_ (by omega)).mono ?_); exact HC.out.alloc _; rintro e w2 ⟨x, rfl, hx, hc2, hg2⟩; have HX := Lib.hid hx; have HC2 := Lib.hid hc2; have HG2 := Lib.hid (gb_alloc hg2); obtain ⟨k2, l2⟩ := HK.out _ HG2.out; clear hx hc2 hg2; simp only [fval])
    | (go_simp; go_at_call 89; (with_reducible refine (R2.out _ c ?_ (by omega)).mono ?_); exact HC.out.alloc _; rintro e w2 ⟨y, rfl, hx, hc2, hg2⟩; have HY := Lib.hid hx; have HC2 := Lib.hid hc2; have HG2 := Lib.hid (gb_alloc hg2); obtain ⟨k2, l2⟩ := HK.out _ HG2.out; clear hx hc2 hg2; simp only [fval])
    | (go_simp; go_at_call 89; (with_reducible refine (R1.out _ (c + 8) ?_ (by omega)).mono ?_); exact HC2.out; rintro e w3 ⟨x, rfl, hx, hc2, hg2⟩; have HX := Lib.hid hx; have HC3 := Lib.hid hc2; have HG3 := Lib.hid ((by first | exact HG2.out.trans hg2 | exact HG2.out.trans (gb_same hg2))); obtain ⟨k3, l3⟩ := HK.out _ HG3.out; clear hx hc2 hg2; simp only [fval])
    | (go_simp; go_at_call 89; (with_reducible refine (R2.out _ (c + 8) ?_ (by omega)).mono ?_); exact HC2.out; rintro e w3 ⟨y, rfl, hx, hc2, hg2⟩; have HY := Lib.hid hx; have HC3 := Lib.hid hc2; have HG3 := Lib.hid ((by first | exact HG2.out.trans hg2 | exact HG2.out.trans (gb_same hg2))); obtain ⟨k3, l3⟩ := HK.out _ HG3.out; clear hx hc2 hg2; simp only [fval])
    | (trace "no arm fits"; sorry))
  all_goals
    go_wp2
    go_ret
    exact ⟨_, rfl, isF_fres (isF_fres HG.out (isF_fres HF.out HX.out _) _) (isF_fres HH.out HY.out _) _, cache_draws HC3.out _, grown_dr ((World.grownBy_alloc w _ _).trans HG3.out) _⟩

end Go.Proofs.Ytnhhmgnceicpkaa
