import Derived.Test.YtpobbicbfnglaaaCache
import Derived.Test.YtpobbicbfnglaaaNumB
import Derived.Deep.MidRow
/-
  The walks of the program's turns.
-/
set_option linter.unusedVariables false
set_option linter.unusedSimpArgs false
namespace Go.Proofs.Ytpobbicbfnglaaa
open Go.RowKit Flt Turn

theorem grown_drewN {w w' : World} {row : Option Nat} (h : w.grownBy w' row) (n : Nat) : w.grownBy (w'.drewN n) row := ⟨h.os, h.tape, h.output, h.size, h.block⟩
theorem grown_of_below {w w' : World} (h : Below w.heap.size w w') : w.grownBy w' none := ⟨h.os, h.tape, h.output, h.size, fun k hk _ => h.block k hk⟩

theorem results_cell1 {fn : Func} {p : Tmp} {ty : TypeId} (h : fn.results = #[.cell p ty]) (tmps : Array Value) (P : Program) (w : World) {a : Addr} {v : Value} (ha : tmps.getD p undef = .pointer (some a)) (hv : (loadVar ty a).run P w = .ok v w) :
    (results fn tmps).run P w = .ok v w := by
  have ha' : tmps[p]?.getD undef = .pointer (some a) := by simpa using ha
  simp only [results, h]
  simp [Sem.run_bind, Result.andThen, ha', asAddr, hv]

theorem infoFrac : (Try.prog.info? 103).map (·.size) = some 2 := by kernel_rfl

set_option maxRecDepth 100000 in
set_option maxHeartbeats 4000000 in
theorem lowest_impl (n k : Nat) (hn0 : 0 < n) (hn : n ≤ 4611686018427387904) (hk : k ≤ 4611686018427387904) (w : World) :
    Calls Try.prog 116 #[frac n k] w fun e w' => e = .returned (frac ((n / n.gcd k : Nat) : Int) ((k / n.gcd k : Nat) : Int)) ∧ Below w.heap.size w w' := by
  unfold frac
  go_enter Try.func116, Try.ntmps116
  go_wp2
  go_quiet (fail)
  go_wp2
  go_loopw [3, 4] (fun p q wr => ∃ a b m : Nat, p = .int .i64 a ∧ q = .int .i64 b ∧ a ≤ 4611686018427387904 ∧ b ≤ 4611686018427387904 ∧ a.gcd b = n.gcd k ∧ wr = ((w.alloc (.cells #[.int .i64 n, .int .i64 k] 103)).alloc (.cells #[.int .i64 0, .int .i64 0] 103)).drewN m) (fun _ q _ => (intOf q).toNat)
  case atStart => exact ⟨n, k, nq, rfl, rfl, hn, hk, rfl, rfl⟩
  case round =>
    obtain ⟨a, b, m, rfl, rfl, ha, hb, hg, rfl⟩ := hrel
    have HG := Lib.hid hg
    clear hg
    by_cases hb0 : b = 0
    · subst hb0
      have HA : Hid (a = n.gcd k) := by have := HG.out; rwa [Nat.gcd_zero_right] at this
      have hap : 0 < a := by rw [HA.out]; exact Nat.gcd_pos_of_pos_left _ hn0
      clear HG
      obtain ⟨n1, hN⟩ : ∃ n1, n / a = n1 := ⟨_, rfl⟩
      obtain ⟨k1, hK⟩ : ∃ k1, k / a = k1 := ⟨_, rfl⟩
      have q1 : (n : Int) / (a : Int) = (n1 : Int) := by rw [← hN]; rfl
      have q2 : (k : Int) / (a : Int) = (k1 : Int) := by rw [← hK]; rfl
      have q3 : (n : Int).tdiv (a : Int) = (n1 : Int) := by rw [← hN]; rfl
      have q4 : (k : Int).tdiv (a : Int) = (k1 : Int) := by rw [← hK]; rfl
      have hn1 : n1 ≤ n := by rw [← hN]; exact Nat.div_le_self _ _
      have hk1 : k1 ≤ k := by rw [← hK]; exact Nat.div_le_self _ _
      have HN := Lib.hid hN
      have HK := Lib.hid hK
      clear hN hK
      go_wp2
      go_region
      go_wp2
      (try simp only [Exit.inBlock, Exit.then])
      refine bodyPost_ret (results_cell1 rfl _ _ _ rfl (run_loadVar_mid _ _ _ _ [.int .i64 n1, .int .i64 k1] _ ?_ Try.underlying103 rfl infoFrac)) rfl ?_
      · intro j v hv
        rcases j with _ | _ | j <;> simp at hv <;> subst hv <;> go_simp
      · refine ⟨?_, ?_⟩
        · rw [← HA.out, HN.out, HK.out]
        · refine Below.setCell (Below.setCell (below_draws (((Below.refl _ _).alloc (Nat.le_refl _) _).alloc (by simp) _) _) ?_ _) ?_ _ <;> simp
    · have hb1 : ¬ (b : Int) = 0 := by omega
      obtain ⟨r, hr⟩ : ∃ r, a % b = r := ⟨_, rfl⟩
      have hr1 : (a : Int) % (b : Int) = (r : Int) := by rw [← hr]; rfl
      have hr2 : (a : Int).tmod (b : Int) = (r : Int) := by rw [← hr]; rfl
      have hrb : r < b := by rw [← hr]; exact Nat.mod_lt _ (by omega)
      have HG2 : Hid (b.gcd r = n.gcd k) := by
        show b.gcd r = n.gcd k
        rw [← hr, ← HG.out, Nat.gcd_comm a b, Nat.gcd_rec b a, Nat.gcd_comm]
      clear hr HG
      go_wp2
      go_quiet (fail)
      go_wp2
      go_roundw
      case rel => exact ⟨b, r, m + nq, rfl, rfl, hb, by omega, HG2.out, World.drewN_drewN ..⟩
      case measure => simp [intOf]; omega

/-- A complex number is returned; what was there is as it was. -/
def RetB (z : Option Nat × Option Nat) (w : World) (e : Ending) (w' : World) : Prop := ∃ a b, e = .returned (.complex .f64 a b) ∧ IsF a z.1 ∧ IsF b z.2 ∧ Below w.heap.size w w'

set_option maxRecDepth 100000 in
set_option maxHeartbeats 8000000 in
theorem series_impl (n k : Nat) (hn : n ≤ 4611686018427387904) (hk : k ≤ 4611686018427387904) (w : World) :
    Calls Try.prog 118 #[frac n k] w (RetB (serO n k) w) := by
  unfold frac
  go_enter Try.func118, Try.ntmps118
  go_wp2_with (first
    | (refine wpList_farith _ rfl .mul (by decide) (.const (.float .f64 4618760256179416344)) (.tmp 10) _ _ rfl .f64 _ _ rfl rfl ?_; intro rA nA hrA hbA; have A := Lib.hid (IsF.op isF_twoPi (IsF.ofInt _) hrA hbA); clear hrA hbA)
    | (refine wpList_farith _ rfl .quo (by decide) (.tmp 11) (.tmp 14) _ _ rfl .f64 _ _ rfl rfl ?_; intro rB nB hrB hbB; have B := Lib.hid (IsF.op A.out (IsF.ofInt _) hrB hbB); clear hrB hbB)
    | (refine wpList_farith _ rfl .mul (by decide) (.tmp 16) (.tmp 17) _ _ rfl .f64 _ _ rfl rfl ?_; intro rC nC hrC hbC; have C := Lib.hid (IsF.op B.out B.out hrC hbC); clear hrC hbC))
  obtain ⟨N0, hN0⟩ : ∃ N0, nA + nB + nC = N0 := ⟨_, rfl⟩
  go_loopw [5, 6, 7] (fun s t m wr => ∃ (j n0 sb tb : Nat), j ≤ 9 ∧ m = .int .i64 (9 - (j : Int)) ∧ s = .float .f64 sb ∧ t = .float .f64 tb ∧ IsF sb (cosR (fop .mul .f64 (argO n k) (argO n k)) j) ∧ IsF tb (sinR (fop .mul .f64 (argO n k) (argO n k)) j) ∧ wr = (w.alloc (.cells #[.int .i64 n, .int .i64 k] 103)).drewN n0) (fun _ _ m _ => (intOf m).toNat)
  case atStart => exact ⟨0, _, _, _, by omega, rfl, rfl, rfl, isF_one, isF_one, rfl⟩
  case round =>
    obtain ⟨j, n0, sb, tb, hj, rfl, rfl, rfl, hs, ht, rfl⟩ := hrel
    have HS := Lib.hid hs
    have HT := Lib.hid ht
    have HY : Hid (IsF rC (fop .mul .f64 (argO n k) (argO n k))) := C.out
    clear hs ht
    have hc : j = 0 ∨ j = 1 ∨ j = 2 ∨ j = 3 ∨ j = 4 ∨ j = 5 ∨ j = 6 ∨ j = 7 ∨ j = 8 ∨ j = 9 := by omega
    clear hj
    rcases hc with rfl | rfl | rfl | rfl | rfl | rfl | rfl | rfl | rfl | rfl
    · go_wp2_with (first
        | (refine wpList_farith _ rfl .quo (by decide) (.tmp 23) (.tmp 30) _ _ rfl .f64 _ _ rfl rfl ?_; intro rD nD hrD hbD; have D := Lib.hid (IsF.op HY.out (IsF.ofInt _) hrD hbD); clear hrD hbD)
        | (refine wpList_farith _ rfl .mul (by decide) (.tmp 31) (.tmp 32) _ _ rfl .f64 _ _ rfl rfl ?_; intro rE nE hrE hbE; have E := Lib.hid (IsF.op D.out HS.out hrE hbE); clear hrE hbE)
        | (refine wpList_farith _ rfl .sub (by decide) (.const (.float .f64 4607182418800017408)) (.tmp 33) _ _ rfl .f64 _ _ rfl rfl ?_; intro rF nF hrF hbF; have F := Lib.hid (IsF.op isF_one E.out hrF hbF); clear hrF hbF)
        | (refine wpList_farith _ rfl .quo (by decide) (.tmp 35) (.tmp 42) _ _ rfl .f64 _ _ rfl rfl ?_; intro rG nG hrG hbG; have G := Lib.hid (IsF.op HY.out (IsF.ofInt _) hrG hbG); clear hrG hbG)
        | (refine wpList_farith _ rfl .mul (by decide) (.tmp 43) (.tmp 44) _ _ rfl .f64 _ _ rfl rfl ?_; intro rH nH hrH hbH; have H := Lib.hid (IsF.op G.out HT.out hrH hbH); clear hrH hbH)
        | (refine wpList_farith _ rfl .sub (by decide) (.const (.float .f64 4607182418800017408)) (.tmp 45) _ _ rfl .f64 _ _ rfl rfl ?_; intro rI nI hrI hbI; have I := Lib.hid (IsF.op isF_one H.out hrI hbI); clear hrI hbI))
      go_roundw
      case rel => exact ⟨1, _, _, _, by omega, by first | rfl | go_num, rfl, rfl, F.out, I.out, rfl⟩
      case measure => simp [intOf]
    · go_wp2_with (first
        | (refine wpList_farith _ rfl .quo (by decide) (.tmp 23) (.tmp 30) _ _ rfl .f64 _ _ rfl rfl ?_; intro rD nD hrD hbD; have D := Lib.hid (IsF.op HY.out (IsF.ofInt _) hrD hbD); clear hrD hbD)
        | (refine wpList_farith _ rfl .mul (by decide) (.tmp 31) (.tmp 32) _ _ rfl .f64 _ _ rfl rfl ?_; intro rE nE hrE hbE; have E := Lib.hid (IsF.op D.out HS.out hrE hbE); clear hrE hbE)
        | (refine wpList_farith _ rfl .sub (by decide) (.const (.float .f64 4607182418800017408)) (.tmp 33) _ _ rfl .f64 _ _ rfl rfl ?_; intro rF nF hrF hbF; have F := Lib.hid (IsF.op isF_one E.out hrF hbF); clear hrF hbF)
        | (refine wpList_farith _ rfl .quo (by decide) (.tmp 35) (.tmp 42) _ _ rfl .f64 _ _ rfl rfl ?_; intro rG nG hrG hbG; have G := Lib.hid (IsF.op HY.out (IsF.ofInt _) hrG hbG); clear hrG hbG)
        | (refine wpList_farith _ rfl .mul (by decide) (.tmp 43) (.tmp 44) _ _ rfl .f64 _ _ rfl rfl ?_; intro rH nH hrH hbH; have H := Lib.hid (IsF.op G.out HT.out hrH hbH); clear hrH hbH)
        | (refine wpList_farith _ rfl .sub (by decide) (.const (.float .f64 4607182418800017408)) (.tmp 45) _ _ rfl .f64 _ _ rfl rfl ?_; intro rI nI hrI hbI; have I := Lib.hid (IsF.op isF_one H.out hrI hbI); clear hrI hbI))
      go_roundw
      case rel => exact ⟨2, _, _, _, by omega, by first | rfl | go_num, rfl, rfl, F.out, I.out, rfl⟩
      case measure => simp [intOf]
    · go_wp2_with (first
        | (refine wpList_farith _ rfl .quo (by decide) (.tmp 23) (.tmp 30) _ _ rfl .f64 _ _ rfl rfl ?_; intro rD nD hrD hbD; have D := Lib.hid (IsF.op HY.out (IsF.ofInt _) hrD hbD); clear hrD hbD)
        | (refine wpList_farith _ rfl .mul (by decide) (.tmp 31) (.tmp 32) _ _ rfl .f64 _ _ rfl rfl ?_; intro rE nE hrE hbE; have E := Lib.hid (IsF.op D.out HS.out hrE hbE); clear hrE hbE)
        | (refine wpList_farith _ rfl .sub (by decide) (.const (.float .f64 4607182418800017408)) (.tmp 33) _ _ rfl .f64 _ _ rfl rfl ?_; intro rF nF hrF hbF; have F := Lib.hid (IsF.op isF_one E.out hrF hbF); clear hrF hbF)
        | (refine wpList_farith _ rfl .quo (by decide) (.tmp 35) (.tmp 42) _ _ rfl .f64 _ _ rfl rfl ?_; intro rG nG hrG hbG; have G := Lib.hid (IsF.op HY.out (IsF.ofInt _) hrG hbG); clear hrG hbG)
        | (refine wpList_farith _ rfl .mul (by decide) (.tmp 43) (.tmp 44) _ _ rfl .f64 _ _ rfl rfl ?_; intro rH nH hrH hbH; have H := Lib.hid (IsF.op G.out HT.out hrH hbH); clear hrH hbH)
        | (refine wpList_farith _ rfl .sub (by decide) (.const (.float .f64 4607182418800017408)) (.tmp 45) _ _ rfl .f64 _ _ rfl rfl ?_; intro rI nI hrI hbI; have I := Lib.hid (IsF.op isF_one H.out hrI hbI); clear hrI hbI))
      go_roundw
      case rel => exact ⟨3, _, _, _, by omega, by first | rfl | go_num, rfl, rfl, F.out, I.out, rfl⟩
      case measure => simp [intOf]
    · go_wp2_with (first
        | (refine wpList_farith _ rfl .quo (by decide) (.tmp 23) (.tmp 30) _ _ rfl .f64 _ _ rfl rfl ?_; intro rD nD hrD hbD; have D := Lib.hid (IsF.op HY.out (IsF.ofInt _) hrD hbD); clear hrD hbD)
        | (refine wpList_farith _ rfl .mul (by decide) (.tmp 31) (.tmp 32) _ _ rfl .f64 _ _ rfl rfl ?_; intro rE nE hrE hbE; have E := Lib.hid (IsF.op D.out HS.out hrE hbE); clear hrE hbE)
        | (refine wpList_farith _ rfl .sub (by decide) (.const (.float .f64 4607182418800017408)) (.tmp 33) _ _ rfl .f64 _ _ rfl rfl ?_; intro rF nF hrF hbF; have F := Lib.hid (IsF.op isF_one E.out hrF hbF); clear hrF hbF)
        | (refine wpList_farith _ rfl .quo (by decide) (.tmp 35) (.tmp 42) _ _ rfl .f64 _ _ rfl rfl ?_; intro rG nG hrG hbG; have G := Lib.hid (IsF.op HY.out (IsF.ofInt _) hrG hbG); clear hrG hbG)
        | (refine wpList_farith _ rfl .mul (by decide) (.tmp 43) (.tmp 44) _ _ rfl .f64 _ _ rfl rfl ?_; intro rH nH hrH hbH; have H := Lib.hid (IsF.op G.out HT.out hrH hbH); clear hrH hbH)
        | (refine wpList_farith _ rfl .sub (by decide) (.const (.float .f64 4607182418800017408)) (.tmp 45) _ _ rfl .f64 _ _ rfl rfl ?_; intro rI nI hrI hbI; have I := Lib.hid (IsF.op isF_one H.out hrI hbI); clear hrI hbI))
      go_roundw
      case rel => exact ⟨4, _, _, _, by omega, by first | rfl | go_num, rfl, rfl, F.out, I.out, rfl⟩
      case measure => simp [intOf]
    · go_wp2_with (first
        | (refine wpList_farith _ rfl .quo (by decide) (.tmp 23) (.tmp 30) _ _ rfl .f64 _ _ rfl rfl ?_; intro rD nD hrD hbD; have D := Lib.hid (IsF.op HY.out (IsF.ofInt _) hrD hbD); clear hrD hbD)
        | (refine wpList_farith _ rfl .mul (by decide) (.tmp 31) (.tmp 32) _ _ rfl .f64 _ _ rfl rfl ?_; intro rE nE hrE hbE; have E := Lib.hid (IsF.op D.out HS.out hrE hbE); clear hrE hbE)
        | (refine wpList_farith _ rfl .sub (by decide) (.const (.float .f64 4607182418800017408)) (.tmp 33) _ _ rfl .f64 _ _ rfl rfl ?_; intro rF nF hrF hbF; have F := Lib.hid (IsF.op isF_one E.out hrF hbF); clear hrF hbF)
        | (refine wpList_farith _ rfl .quo (by decide) (.tmp 35) (.tmp 42) _ _ rfl .f64 _ _ rfl rfl ?_; intro rG nG hrG hbG; have G := Lib.hid (IsF.op HY.out (IsF.ofInt _) hrG hbG); clear hrG hbG)
        | (refine wpList_farith _ rfl .mul (by decide) (.tmp 43) (.tmp 44) _ _ rfl .f64 _ _ rfl rfl ?_; intro rH nH hrH hbH; have H := Lib.hid (IsF.op G.out HT.out hrH hbH); clear hrH hbH)
        | (refine wpList_farith _ rfl .sub (by decide) (.const (.float .f64 4607182418800017408)) (.tmp 45) _ _ rfl .f64 _ _ rfl rfl ?_; intro rI nI hrI hbI; have I := Lib.hid (IsF.op isF_one H.out hrI hbI); clear hrI hbI))
      go_roundw
      case rel => exact ⟨5, _, _, _, by omega, by first | rfl | go_num, rfl, rfl, F.out, I.out, rfl⟩
      case measure => simp [intOf]
    · go_wp2_with (first
        | (refine wpList_farith _ rfl .quo (by decide) (.tmp 23) (.tmp 30) _ _ rfl .f64 _ _ rfl rfl ?_; intro rD nD hrD hbD; have D := Lib.hid (IsF.op HY.out (IsF.ofInt _) hrD hbD); clear hrD hbD)
        | (refine wpList_farith _ rfl .mul (by decide) (.tmp 31) (.tmp 32) _ _ rfl .f64 _ _ rfl rfl ?_; intro rE nE hrE hbE; have E := Lib.hid (IsF.op D.out HS.out hrE hbE); clear hrE hbE)
        | (refine wpList_farith _ rfl .sub (by decide) (.const (.float .f64 4607182418800017408)) (.tmp 33) _ _ rfl .f64 _ _ rfl rfl ?_; intro rF nF hrF hbF; have F := Lib.hid (IsF.op isF_one E.out hrF hbF); clear hrF hbF)
        | (refine wpList_farith _ rfl .quo (by decide) (.tmp 35) (.tmp 42) _ _ rfl .f64 _ _ rfl rfl ?_; intro rG nG hrG hbG; have G := Lib.hid (IsF.op HY.out (IsF.ofInt _) hrG hbG); clear hrG hbG)
        | (refine wpList_farith _ rfl .mul (by decide) (.tmp 43) (.tmp 44) _ _ rfl .f64 _ _ rfl rfl ?_; intro rH nH hrH hbH; have H := Lib.hid (IsF.op G.out HT.out hrH hbH); clear hrH hbH)
        | (refine wpList_farith _ rfl .sub (by decide) (.const (.float .f64 4607182418800017408)) (.tmp 45) _ _ rfl .f64 _ _ rfl rfl ?_; intro rI nI hrI hbI; have I := Lib.hid (IsF.op isF_one H.out hrI hbI); clear hrI hbI))
      go_roundw
      case rel => exact ⟨6, _, _, _, by omega, by first | rfl | go_num, rfl, rfl, F.out, I.out, rfl⟩
      case measure => simp [intOf]
    · go_wp2_with (first
        | (refine wpList_farith _ rfl .quo (by decide) (.tmp 23) (.tmp 30) _ _ rfl .f64 _ _ rfl rfl ?_; intro rD nD hrD hbD; have D := Lib.hid (IsF.op HY.out (IsF.ofInt _) hrD hbD); clear hrD hbD)
        | (refine wpList_farith _ rfl .mul (by decide) (.tmp 31) (.tmp 32) _ _ rfl .f64 _ _ rfl rfl ?_; intro rE nE hrE hbE; have E := Lib.hid (IsF.op D.out HS.out hrE hbE); clear hrE hbE)
        | (refine wpList_farith _ rfl .sub (by decide) (.const (.float .f64 4607182418800017408)) (.tmp 33) _ _ rfl .f64 _ _ rfl rfl ?_; intro rF nF hrF hbF; have F := Lib.hid (IsF.op isF_one E.out hrF hbF); clear hrF hbF)
        | (refine wpList_farith _ rfl .quo (by decide) (.tmp 35) (.tmp 42) _ _ rfl .f64 _ _ rfl rfl ?_; intro rG nG hrG hbG; have G := Lib.hid (IsF.op HY.out (IsF.ofInt _) hrG hbG); clear hrG hbG)
        | (refine wpList_farith _ rfl .mul (by decide) (.tmp 43) (.tmp 44) _ _ rfl .f64 _ _ rfl rfl ?_; intro rH nH hrH hbH; have H := Lib.hid (IsF.op G.out HT.out hrH hbH); clear hrH hbH)
        | (refine wpList_farith _ rfl .sub (by decide) (.const (.float .f64 4607182418800017408)) (.tmp 45) _ _ rfl .f64 _ _ rfl rfl ?_; intro rI nI hrI hbI; have I := Lib.hid (IsF.op isF_one H.out hrI hbI); clear hrI hbI))
      go_roundw
      case rel => exact ⟨7, _, _, _, by omega, by first | rfl | go_num, rfl, rfl, F.out, I.out, rfl⟩
      case measure => simp [intOf]
    · go_wp2_with (first
        | (refine wpList_farith _ rfl .quo (by decide) (.tmp 23) (.tmp 30) _ _ rfl .f64 _ _ rfl rfl ?_; intro rD nD hrD hbD; have D := Lib.hid (IsF.op HY.out (IsF.ofInt _) hrD hbD); clear hrD hbD)
        | (refine wpList_farith _ rfl .mul (by decide) (.tmp 31) (.tmp 32) _ _ rfl .f64 _ _ rfl rfl ?_; intro rE nE hrE hbE; have E := Lib.hid (IsF.op D.out HS.out hrE hbE); clear hrE hbE)
        | (refine wpList_farith _ rfl .sub (by decide) (.const (.float .f64 4607182418800017408)) (.tmp 33) _ _ rfl .f64 _ _ rfl rfl ?_; intro rF nF hrF hbF; have F := Lib.hid (IsF.op isF_one E.out hrF hbF); clear hrF hbF)
        | (refine wpList_farith _ rfl .quo (by decide) (.tmp 35) (.tmp 42) _ _ rfl .f64 _ _ rfl rfl ?_; intro rG nG hrG hbG; have G := Lib.hid (IsF.op HY.out (IsF.ofInt _) hrG hbG); clear hrG hbG)
        | (refine wpList_farith _ rfl .mul (by decide) (.tmp 43) (.tmp 44) _ _ rfl .f64 _ _ rfl rfl ?_; intro rH nH hrH hbH; have H := Lib.hid (IsF.op G.out HT.out hrH hbH); clear hrH hbH)
        | (refine wpList_farith _ rfl .sub (by decide) (.const (.float .f64 4607182418800017408)) (.tmp 45) _ _ rfl .f64 _ _ rfl rfl ?_; intro rI nI hrI hbI; have I := Lib.hid (IsF.op isF_one H.out hrI hbI); clear hrI hbI))
      go_roundw
      case rel => exact ⟨8, _, _, _, by omega, by first | rfl | go_num, rfl, rfl, F.out, I.out, rfl⟩
      case measure => simp [intOf]
    · go_wp2_with (first
        | (refine wpList_farith _ rfl .quo (by decide) (.tmp 23) (.tmp 30) _ _ rfl .f64 _ _ rfl rfl ?_; intro rD nD hrD hbD; have D := Lib.hid (IsF.op HY.out (IsF.ofInt _) hrD hbD); clear hrD hbD)
        | (refine wpList_farith _ rfl .mul (by decide) (.tmp 31) (.tmp 32) _ _ rfl .f64 _ _ rfl rfl ?_; intro rE nE hrE hbE; have E := Lib.hid (IsF.op D.out HS.out hrE hbE); clear hrE hbE)
        | (refine wpList_farith _ rfl .sub (by decide) (.const (.float .f64 4607182418800017408)) (.tmp 33) _ _ rfl .f64 _ _ rfl rfl ?_; intro rF nF hrF hbF; have F := Lib.hid (IsF.op isF_one E.out hrF hbF); clear hrF hbF)
        | (refine wpList_farith _ rfl .quo (by decide) (.tmp 35) (.tmp 42) _ _ rfl .f64 _ _ rfl rfl ?_; intro rG nG hrG hbG; have G := Lib.hid (IsF.op HY.out (IsF.ofInt _) hrG hbG); clear hrG hbG)
        | (refine wpList_farith _ rfl .mul (by decide) (.tmp 43) (.tmp 44) _ _ rfl .f64 _ _ rfl rfl ?_; intro rH nH hrH hbH; have H := Lib.hid (IsF.op G.out HT.out hrH hbH); clear hrH hbH)
        | (refine wpList_farith _ rfl .sub (by decide) (.const (.float .f64 4607182418800017408)) (.tmp 45) _ _ rfl .f64 _ _ rfl rfl ?_; intro rI nI hrI hbI; have I := Lib.hid (IsF.op isF_one H.out hrI hbI); clear hrI hbI))
      go_roundw
      case rel => exact ⟨9, _, _, _, by omega, by first | rfl | go_num, rfl, rfl, F.out, I.out, rfl⟩
      case measure => simp [intOf]
    · go_wp2_with (first
        | (refine wpList_farith _ rfl .mul (by decide) (.tmp 48) (.tmp 49) _ _ rfl .f64 _ _ rfl rfl ?_; intro rK nK hrK hbK; have K := Lib.hid (IsF.op HT.out B.out hrK hbK); clear hrK hbK))
      go_ret
      refine ⟨_, _, rfl, HS.out, K.out, ?_⟩
      exact below_draws ((Below.refl _ _).alloc (Nat.le_refl _) _) _

end Go.Proofs.Ytpobbicbfnglaaa
