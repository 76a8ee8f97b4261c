/-
  Several texts of this claim, one behind the other; each says what it holds.
-/
import Derived.Test.YtocjhanehphibaaMConvol7
import Derived.Deep.RegionHeld3
import Derived.Test.YtocjhanehphibaaRows
import Derived.Deep.Slices
/-
  Convolve of the model.
-/
set_option linter.unusedVariables false
set_option linter.unusedSimpArgs false
namespace Go.Proofs.Ytocjhanehphibaa
open Go.RowKit Flt Fast
attribute [local go_sem] run_fadd run_fsub run_fmul run_fquo run_cadd run_csub

theorem cvLength_spec (a b : Nat) (ha : a ≤ 1000000) (hb : b ≤ 1000000) (w : World) :
    Calls Try.prog 41 #[.int .i64 a, .int .i64 b] w fun e w' => e = .returned (.int .i64 (cvLen a b)) ∧ w' = w := by
  by_cases hz : a = 0
  · subst hz
    rw [cvLen_nil]
    go_enter Try.func41, Try.ntmps41
    go_wp2
    go_ret
    exact ⟨rfl, rfl⟩
  · have g1 : ((a : Int) == 0) = false := by simp; omega
    by_cases hy : b = 0
    · subst hy
      rw [cvLen_nil']
      go_enter Try.func41, Try.ntmps41
      go_wp2
      go_ret
      exact ⟨rfl, rfl⟩
    · have g2 : ((b : Int) == 0) = false := by simp; omega
      obtain ⟨L, hL⟩ : ∃ L, cvLen a b = L := ⟨_, rfl⟩
      have hL2 : ((a : Int) + b - 1) = (L : Int) := by rw [← hL, cvLen_pos hz hy]; omega
      rw [hL]
      have HL := Lib.hid hL2
      clear hL hL2
      go_enter Try.func41, Try.ntmps41
      go_wp2
      go_ret
      exact ⟨by rw [HL.out]; rfl, rfl⟩

theorem cvLong_spec (a b : Nat) (ha : a ≤ 256) (hb : b ≤ 256) (hl : cvLen a b ≤ 256) (w : World) :
    Calls Try.prog 36 #[.int .i64 a, .int .i64 b] w fun e w' => e = .returned (.bool false) ∧ w' = w := by
  have K := Lib.hid (fun w => cvLength_spec a b (by omega) (by omega) w)
  obtain ⟨L, hL⟩ : ∃ L, cvLen a b = L := ⟨_, rfl⟩
  rw [hL] at K hl
  clear hL
  have g1 : decide ((256 : Int) < (a : Int)) = false := decide_eq_false (by omega)
  have g2 : decide ((256 : Int) < (b : Int)) = false := decide_eq_false (by omega)
  have g3 : decide ((256 : Int) < (L : Int)) = false := decide_eq_false (by omega)
  go_enter Try.func36, Try.ntmps36
  go_wp2_with (go_at_call 41; refine (K.out _).mono ?_; rintro e w' ⟨rfl, rfl⟩)
  go_ret
  exact ⟨rfl, rfl⟩

/-- The block of a sum that has begun or not. -/
def SumAt (w : World) (B : Nat) (a b : Nat) (g : Bool) : Prop := w.heap[B]? = some (.cells #[.complex .f64 a b, .bool g] 105 (0, 0))
theorem SumAt.c0 {w : World} {B a b : Nat} {g : Bool} (h : SumAt w B a b g) : w.cell? ⟨B, 0, none⟩ = some (.complex .f64 a b) := cell_of_heap h rfl
theorem SumAt.c1 {w : World} {B a b : Nat} {g : Bool} (h : SumAt w B a b g) : w.cell? ⟨B, 1, none⟩ = some (.bool g) := cell_of_heap h rfl
theorem SumAt.fr {w : World} {B a b : Nat} {g : Bool} (h : SumAt w B a b g) (k : Nat) : w.frozen? ⟨B, k, none⟩ = false := by
  have h' : w.heap[B]? = _ := h
  simp [World.frozen?, h']
theorem SumAt.drewN {w : World} {B a b : Nat} {g : Bool} (h : SumAt w B a b g) (n : Nat) : SumAt (w.drewN n) B a b g := h
theorem SumAt.set0 {w : World} {B a b : Nat} {g : Bool} (h : SumAt w B a b g) (a' b' : Nat) : SumAt (w.setCell ⟨B, 0, none⟩ (.complex .f64 a' b')) B a' b' g := by
  obtain ⟨hlt, hk⟩ := Array.getElem?_eq_some_iff.1 (show w.heap[B]? = _ from h)
  show (w.heap.modify B _)[B]? = _
  rw [Array.getElem?_eq_getElem (by rw [Array.size_modify]; exact hlt), Array.getElem_modify_self, hk]
  rfl
theorem SumAt.set1 {w : World} {B a b : Nat} {g : Bool} (h : SumAt w B a b g) (g' : Bool) : SumAt (w.setCell ⟨B, 1, none⟩ (.bool g')) B a b g' := by
  obtain ⟨hlt, hk⟩ := Array.getElem?_eq_some_iff.1 (show w.heap[B]? = _ from h)
  show (w.heap.modify B _)[B]? = _
  rw [Array.getElem?_eq_getElem (by rw [Array.size_modify]; exact hlt), Array.getElem_modify_self, hk]
  rfl
theorem grown_set (W : World) (b o : Nat) (v : Value) : W.grownBy (W.setCell ⟨b, o, none⟩ v) (some b) :=
  ⟨rfl, rfl, rfl, (KeepsWalks.setCell W _ v).size, fun k _ hk => Below.heap_setCell _ _ _ k (fun e => hk (by rw [e]))⟩
theorem grown_drew (W : World) (n : Nat) (row : Option Nat) : W.grownBy (W.drewN n) row := ⟨rfl, rfl, rfl, Nat.le_refl _, fun _ _ _ => rfl⟩

set_option maxRecDepth 100000 in
set_option maxHeartbeats 4000000 in
theorem add_spec (B a b p q : Nat) (g : Bool) (za zp : Z) (hab : g = true → IsC (a, b) za) (hp : IsC (p, q) zp) (w : World) (h : SumAt w B a b g) :
    Calls Try.prog 84 #[.pointer (some ⟨B, 0, none⟩), .complex .f64 p q] w fun e w' => (∃ v, e = .returned v) ∧ ∃ a' b', SumAt w' B a' b' true ∧ IsC (a', b') (if g then addZ za zp else zp) ∧ w.grownBy w' (some B) := by
  have d0 := h.c0
  have d1 := h.c1
  have f0 := h.fr 0
  have f1 := h.fr 1
  have H := Lib.hid h
  have HP := Lib.hid hp
  clear h hp
  cases g with
  | true =>
    have HA := Lib.hid (hab rfl)
    clear hab
    go_enter Try.func84, Try.ntmps84
    go_wp2
    go_end0
    exact ⟨⟨_, rfl⟩, _, _, (H.out.drewN _).set0 _ _, ⟨isF_fres HA.out.re HP.out.re _, isF_fres HA.out.im HP.out.im _⟩, (grown_drew w _ _).trans (grown_set _ B 0 _)⟩
  | false =>
    clear hab
    go_enter Try.func84, Try.ntmps84
    go_wp2
    go_end0
    exact ⟨⟨_, rfl⟩, p, q, (H.out.set0 p q).set1 true, by simpa using HP.out, (grown_set w B 0 _).trans (grown_set _ B 1 _)⟩

set_option maxRecDepth 100000 in
set_option maxHeartbeats 4000000 in
theorem cvAt_spec (x h : List C) (v1 v2 : Value) (n : Nat) (hx : x.length ≤ 1000) (hh : h.length ≤ 1000) (hn : n ≤ 2000) (hwx : WfC x) (hwh : WfC h) (w : World) (hrx : RdO w.heap.size w v1 x) (hrh : RdO w.heap.size w v2 h) :
    Calls Try.prog 66 #[v1, v2, .int .i64 n] w fun e w' => ∃ a b, e = .returned (.complex .f64 a b) ∧ (0 < cvCnt x.length h.length n → IsC (a, b) (cvAt (zsOf x) (zsOf h) n)) ∧ a < 18446744073709551616 ∧ b < 18446744073709551616 ∧ Below w.heap.size w w' := by
  have HRX := Lib.hid hrx
  have HRH := Lib.hid hrh
  obtain ⟨a1, c1, e1, -, -, -⟩ := hrx.find
  obtain ⟨a2, c2, e2, -, -, -⟩ := hrh.find
  subst e1
  subst e2
  clear hrx hrh
  obtain ⟨L, hL⟩ : ∃ L, x.length = L := ⟨_, rfl⟩
  obtain ⟨M, hM⟩ : ∃ M, h.length = M := ⟨_, rfl⟩
  rw [hL] at hx HRX ⊢
  rw [hM] at hh HRH ⊢
  have HXL := Lib.hid hL
  have HAL := Lib.hid hM
  obtain ⟨lo, hlo⟩ : ∃ k, cvLo L n = k := ⟨_, rfl⟩
  have hlo' : lo = n + 1 - L := by rw [← hlo]; rfl
  have HLO := Lib.hid hlo
  clear hL hM hlo
  obtain ⟨N, hN⟩ : ∃ N, w.heap.size = N := ⟨_, rfl⟩
  have hnew : SumAt (w.alloc (.cells #[.complex .f64 0 0, .bool false] 105)) N 0 0 false := by rw [← hN]; exact World.alloc_heap_new w _
  have HNEW := Lib.hid hnew
  have HN := Lib.hid hN
  clear hnew
  go_enter Try.func66, Try.ntmps66
  go_wp2
  go_loopw [8] (fun i wr => ∃ (k a b : Nat), i = .int .i64 (k : Int) ∧ k ≤ min M (n + 1) ∧ SumAt wr N a b (decide (lo < k)) ∧ (lo < k → IsC (a, b) (cvSum (zsOf x) (zsOf h) n (k - lo))) ∧ (¬ lo < k → a = 0 ∧ b = 0) ∧ Below w.heap.size w wr) (fun i _ => min M (n + 1) - (intOf i).toNat)
  case atStart => exact ⟨0, 0, 0, rfl, Nat.zero_le _, by rw [decide_eq_false (by omega)]; exact HNEW.out, fun h => by omega, fun _ => ⟨rfl, rfl⟩, (Below.refl _ _).alloc (Nat.le_refl _) _⟩
  case round =>
    clear HNEW
    obtain ⟨k, a, b, rfl, hk, hs, hc, hcz, hB⟩ := hrel
    have HS := Lib.hid hs
    have HC := Lib.hid hc
    have HCZ := Lib.hid hcz
    have HB := Lib.hid hB
    clear hs hc hcz hB
    by_cases hlt : k < min M (n + 1)
    · have g1 : decide (k < M) = true := decide_eq_true (by omega)
      have g2 : decide (k ≤ n) = true := decide_eq_true (by omega)
      obtain ⟨D, hD⟩ : ∃ D, n - k = D := ⟨_, rfl⟩
      have hDi : (n : Int) - (k : Int) = (D : Int) := by omega
      by_cases hin : D < L
      · have g3 : decide (D < L) = true := decide_eq_true hin
        have hkM : k < M := by omega
        obtain ⟨ga, oa, rfl, hga, hca, hcma, k2⟩ := (HRH.out.below HB.out).at hkM
        obtain ⟨gx, ox, rfl, hgx, hcx, hcmx, k3⟩ := (HRX.out.below HB.out).at hin
        obtain ⟨⟨r, s⟩, hq1⟩ : ∃ z, h.getD k (0, 0) = z := ⟨_, rfl⟩
        obtain ⟨⟨t, u⟩, hq2⟩ : ∃ z, x.getD D (0, 0) = z := ⟨_, rfl⟩
        rw [hq1] at k2
        rw [hq2] at k3
        have hza : IsC (r, s) ((zsOf h).getD k z0) := by rw [← hq1]; exact isC_getD hwh (by rw [HAL.out]; exact hkM)
        have hzy : IsC (t, u) ((zsOf x).getD D z0) := by rw [← hq2]; exact isC_getD hwx (by rw [HXL.out]; exact hin)
        have HMUL := Lib.hid (fun w => mul_spec r s t u _ _ hza hzy w)
        have HADD : Hid (∀ (p q nn : Nat), IsC (p, q) (mulZ ((zsOf h).getD k z0) ((zsOf x).getD D z0)) → Calls Try.prog 84 #[.pointer (some ⟨N, 0, none⟩), .complex .f64 p q] (wr.drewN nn) fun e w' => (∃ v, e = .returned v) ∧
            ∃ a' b', SumAt w' N a' b' (decide (lo < k + 1)) ∧ IsC (a', b') (cvSum (zsOf x) (zsOf h) n (k + 1 - lo)) ∧ Below w.heap.size w w') := fun p q nn hpq => by
          have hterm : cvTerm (zsOf x) (zsOf h) n (k - lo) = mulZ ((zsOf h).getD k z0) ((zsOf x).getD D z0) := by
            unfold cvTerm
            rw [zsOf_length, HXL.out, HLO.out, show lo + (k - lo) = k by omega, hD]
          refine (add_spec N a b p q (decide (lo < k)) _ _ (fun h => HC.out (of_decide_eq_true h)) hpq (wr.drewN nn) (HS.out.drewN nn)).mono ?_
          rintro e w' ⟨hv, a', b', hs', hc', hg'⟩
          refine ⟨hv, a', b', by rw [decide_eq_true (by omega)]; exact hs', ?_, (below_draws HB.out nn).grown hg' HB.out.size (fun j e => by cases e; rw [HN.out]; exact Nat.le_refl _)⟩
          by_cases hlk : lo < k
          · rw [decide_eq_true hlk, if_pos rfl] at hc'
            rw [show k + 1 - lo = (k - lo) + 1 by omega, cvSum_succ _ _ _ (by omega), hterm]
            exact hc'
          · rw [decide_eq_false hlk] at hc'
            obtain rfl : k = lo := by omega
            rw [show k + 1 - k = 1 by omega, cvSum_one, show 0 = k - k by omega, hterm]
            simpa using hc'
        have c2' : wr.drew.cell? ⟨ga, oa + k, none⟩ = some (.complex .f64 r s) := k2
        have c3' : wr.drew.cell? ⟨gx, ox + D, none⟩ = some (.complex .f64 t u) := k3
        have hgaN : ga < w.heap.size := hga
        have hgxN : gx < w.heap.size := hgx
        have HKK := Lib.hid (fun W (hW : Below w.heap.size w W) => (show W.cell? ⟨ga, oa + k, none⟩ = some (.complex .f64 r s) ∧ W.cell? ⟨gx, ox + D, none⟩ = some (.complex .f64 t u) from
          ⟨by rw [hW.cell hgaN, ← HB.out.cell hgaN]; exact k2, by rw [hW.cell hgxN, ← HB.out.cell hgxN]; exact k3⟩))
        have hmxa := maxLen_int (Nat.le_trans hca hcma)
        have hmxx := maxLen_int (Nat.le_trans hcx hcmx)
        clear hza hzy hq1 hq2 k2 k3 hD
        go_wp2_with fail
        have y0 : IntKind.i64.wrap (D : Int) = (D : Int) := IntWalk.i64_in _ (by omega)
        have y2' : IntKind.i64.wrap ((n : Int) - (k : Int)) = (D : Int) := by rw [hDi]; exact y0
        have y3' : (D : Int) < (L : Int) := by omega
        go_region_held3 (fun w' => w'.cell? ⟨ga, oa + k, none⟩ = some (.complex .f64 r s) ∧ w'.cell? ⟨gx, ox + D, none⟩ = some (.complex .f64 t u))
          (first | exact ⟨c2', c3'⟩ | exact HKK.out _ HB4.out | go_keep)
          (first
            | (go_at_call 71; refine (HMUL.out _).mono ?_; rintro e w3 ⟨x1, y1, rfl, hx1, hy1, nn, rfl⟩; have HXY : Hid (IsC (x1, y1) (mulZ ((zsOf h).getD k z0) ((zsOf x).getD D z0))) := ⟨hx1, hy1⟩; clear hx1 hy1)
            | (go_at_call 84; with_reducible refine (HADD.out _ _ (1 + nn) HXY.out).mono ?_; rintro e w4 ⟨⟨v, rfl⟩, a', b', hs', hc', hB'⟩; have HB4 := Lib.hid hB'; have HS4 := Lib.hid hs'; have HC4 := Lib.hid hc'; clear hB' hs' hc'))
        all_goals
          go_wp2
          go_roundw
          case rel => exact ⟨k + 1, a', b', by go_num, by omega, HS4.out, fun _ => HC4.out, fun h => absurd (show lo < k + 1 by omega) h, HB4.out⟩
          case measure => simp [intOf]; omega
      · have g3 : decide (D < L) = false := decide_eq_false hin
        clear hD
        go_wp2
        go_roundw
        case rel => exact ⟨k + 1, a, b, by go_num, by omega, by rw [decide_eq_false (by omega)]; have := HS.out; rwa [decide_eq_false (by omega)] at this, fun h => by omega, fun _ => HCZ.out (by omega), HB.out⟩
        case measure => simp [intOf]; omega
    · have hkk : k = min M (n + 1) := by omega
      have HFin : Hid ((0 < cvCnt L M n → IsC (a, b) (cvAt (zsOf x) (zsOf h) n)) ∧ a < 18446744073709551616 ∧ b < 18446744073709551616) := by
        refine ⟨fun h0 => ?_, ?_⟩
        · have : cvCnt L M n = k - lo := by unfold cvCnt; omega
          unfold cvAt
          rw [zsOf_length, zsOf_length, HXL.out, HAL.out, this]
          exact HC.out (by omega)
        · by_cases hl : lo < k
          · exact ⟨(HC.out hl).re.lt, (HC.out hl).im.lt⟩
          · obtain ⟨rfl, rfl⟩ := HCZ.out hl; omega
      have d0 := HS.out.c0
      clear hkk
      by_cases hc : k < M
      · have g1 : decide (k < M) = true := decide_eq_true hc
        have g2 : decide (k ≤ n) = false := decide_eq_false (by omega)
        go_wp2
        go_ret
        exact ⟨a, b, rfl, HFin.out.1, HFin.out.2.1, HFin.out.2.2, HB.out⟩
      · have g1 : decide (k < M) = false := decide_eq_false hc
        go_wp2
        go_ret
        exact ⟨a, b, rfl, HFin.out.1, HFin.out.2.1, HFin.out.2.2, HB.out⟩

/-- The first numbers of a convolution. -/
def cvFirst (x h : List Z) (n : Nat) : List Z := (List.range n).map (cvAt x h)
theorem cvFirst_succ (x h : List Z) (n : Nat) : cvFirst x h (n + 1) = cvFirst x h n ++ [cvAt x h n] := by simp [cvFirst, List.range_succ]
theorem cvFirst_length (x h : List Z) (n : Nat) : (cvFirst x h n).length = n := by simp [cvFirst]

set_option maxRecDepth 100000 in
set_option maxHeartbeats 4000000 in
theorem cvConv_spec (x h : List C) (v1 v2 : Value) (hx : x.length ≤ 1000) (hh : h.length ≤ 1000) (hwx : WfC x) (hwh : WfC h) (w : World) (hrx : RdO w.heap.size w v1 x) (hrh : RdO w.heap.size w v2 h) :
    Calls Try.prog 37 #[v1, v2] w fun e w' =>
      ∃ v ps, e = .returned v ∧ Row w' w.heap.size 30 v (cvals ps) ∧ IsCs ps (cvAll (zsOf x) (zsOf h)) ∧ Below w.heap.size w w' := by
  obtain ⟨i0, hi, hz0, hz1, hz2⟩ := info_parts info_c128
  have HRX := Lib.hid hrx
  have HRH := Lib.hid hrh
  obtain ⟨a1, c1, e1, -, -, -⟩ := hrx.find
  obtain ⟨a2, c2, e2, -, -, -⟩ := hrh.find
  subst e1
  subst e2
  clear hrx hrh
  have HLen := Lib.hid (fun w => cvLength_spec x.length h.length (by omega) (by omega) w)
  have HAT : Hid (∀ (n : Nat), n < cvLen x.length h.length → ∀ w1, Below w.heap.size w w1 → Calls Try.prog 66 #[.slice a1 x.length c1, .slice a2 h.length c2, .int .i64 n] w1 fun e w' => ∃ a b, e = .returned (.complex .f64 a b) ∧ IsC (a, b) (cvAt (zsOf x) (zsOf h) n) ∧ Below w1.heap.size w1 w') := fun n hn w1 hb => by
    refine (cvAt_spec x h _ _ n hx hh (by have := cvLen_le x.length h.length; omega) hwx hwh w1 ((HRX.out.below hb).base hb.size) ((HRH.out.below hb).base hb.size)).mono ?_
    rintro e w' ⟨a, b, rfl, hc, -, -, hB⟩
    exact ⟨a, b, rfl, hc (cvCnt_pos hn), hB⟩
  have HEND : Hid (cvAll (zsOf x) (zsOf h) = cvFirst (zsOf x) (zsOf h) (cvLen x.length h.length)) := by
    show cvAll _ _ = _
    unfold cvAll cvFirst
    rw [zsOf_length, zsOf_length]
  have hLle : cvLen x.length h.length ≤ 2000 := by have := cvLen_le x.length h.length; omega
  obtain ⟨T, hT⟩ : ∃ T, cvLen x.length h.length = T := ⟨_, rfl⟩
  rw [hT] at HLen HAT HEND hLle
  obtain ⟨L, hL⟩ : ∃ L, x.length = L := ⟨_, rfl⟩
  obtain ⟨M, hM⟩ : ∃ M, h.length = M := ⟨_, rfl⟩
  rw [hL] at hx HLen HAT ⊢
  rw [hM] at hh HLen HAT ⊢
  clear hL hM hT HRX HRH
  have HR0 : Hid (Row (w.alloc (.cells #[] 30)) w.heap.size 30 (.slice (some ⟨w.heap.size, 0, none⟩) 0 0) (cvals [])) := World.ownsRow_lit w #[] 0 (Nat.le_refl _) (by unfold maxLen; omega) rfl
  go_enter Try.func37, Try.ntmps37
  go_wp2
  go_loopw [5, 6] (fun v i wr => ∃ (m : Nat) (ps : List C), i = .int .i64 (m : Int) ∧ m ≤ T ∧ Row wr w.heap.size 30 v (cvals ps) ∧ IsCs ps (cvFirst (zsOf x) (zsOf h) m) ∧ Below w.heap.size w wr) (fun _ i _ => T - (intOf i).toNat)
  case atStart => exact ⟨0, [], rfl, Nat.zero_le _, HR0.out, IsCs.nil, (Below.refl _ _).alloc (Nat.le_refl _) _⟩
  case round =>
    clear HR0
    obtain ⟨m, ps, rfl, hmL, hrow, hps, hB⟩ := hrel
    obtain ⟨va, vc, rfl⟩ := hrow.written (n := m) (by rw [cvals_length, hps.1, cvFirst_length])
    have HROW := Lib.hid hrow
    have HPS := Lib.hid hps
    have HB := Lib.hid hB
    have hpl : ps.length = m := by rw [hps.1, cvFirst_length]
    have HPL := Lib.hid hpl
    clear hrow hps hB hpl
    by_cases hlt : m < T
    · have g1 : decide (m < T) = true := decide_eq_true hlt
      go_wp2_with fail
      with_reducible refine (HLen.out _).mono ?_
      rintro e w' ⟨rfl, rfl⟩
      go_wp2_with fail
      with_reducible refine (HAT.out m hlt _ HB.out).mono ?_
      rintro e w2 ⟨p, q, rfl, hc, hb⟩
      have hB2 : Below w.heap.size w w2 := below_step HB.out hb HB.out.size
      have hR2 : Row w2 w.heap.size 30 (.slice va m vc) (cvals ps) := HROW.out.below hb (fun k e => (HROW.out.lt k e).2)
      have HFin : Hid (∀ (w1 : World) v' g cap tmp, v' = .slice (some ⟨g, 0, none⟩) (m + 1) cap → w1.ownsRow w.heap.size 30 1 v' (m + 1) (cvals ps ++ [.complex .f64 p q]) → (w2.alloc tmp).grownBy w1 (Value.slice va m vc).ownBlock →
          Row w1 w.heap.size 30 v' (cvals (ps ++ [(p, q)])) ∧ IsCs (ps ++ [(p, q)]) (cvFirst (zsOf x) (zsOf h) (m + 1)) ∧ Below w.heap.size w w1) := fun w1 v' g cap tmp hv' hown hgrow => by
        refine ⟨?_, ?_, (hB2.alloc hB2.size tmp).grown hgrow (by have := hB2.size; simp; omega) (fun k e => (hR2.lt k e).1)⟩
        · unfold Row
          rw [cvals_length, List.length_append, HPL.out, cvals_snoc]
          exact hown
        · rw [cvFirst_succ]
          exact HPS.out.snoc hc
      have hsz : w.heap.size ≤ w2.heap.size := hB2.size
      have HR := Lib.hid (show w2.ownsRow w.heap.size 30 1 (.slice va m vc) m (cvals ps) by
        have := hR2; unfold Row at this; rwa [cvals_length, HPL.out] at this)
      clear hB2 hR2 hb hc
      go_wp2_with (at_builtin; refine wpList_append_own _ rfl _ _ 24 rfl w.heap.size 30 i0 (.complex .f64 0 0) 1 16 Try.underlying24 hi hz0 hz1 hz2 rfl (by decide) _ _ _ rfl (HR.out.alloc _) ⟨w2.heap.size, 0, none⟩ 1 1 [.complex .f64 p q] rfl rfl (cell_one_new _ _ _) (by simp [Value.oneCell']) (by simp only [maxLen]; omega) (by omega) (by simp; omega) ?_; intro v' w1 hown' hgrow _; obtain ⟨g', cap', rfl⟩ := ownsRow_succ hown'; have Y3 := Lib.hid (HFin.out _ _ _ _ _ rfl hown' hgrow); clear hown' hgrow)
      go_roundw
      case rel => exact ⟨m + 1, ps ++ [(p, q)], by go_num, by omega, Y3.out.1, Y3.out.2.1, Y3.out.2.2⟩
      case measure => simp [intOf]; omega
    · obtain rfl : m = T := by omega
      have g1 : decide (m < m) = false := decide_eq_false (by omega)
      go_wp2_with fail
      with_reducible refine (HLen.out _).mono ?_
      rintro e w' ⟨rfl, rfl⟩
      go_wp2
      go_ret
      exact ⟨_, ps, rfl, HROW.out, by rw [HEND.out]; exact HPS.out, HB.out⟩

theorem convolve_spec (x h : List C) (v1 v2 : Value) (hx : x.length ≤ 256) (hh : h.length ≤ 256) (hl : cvLen x.length h.length ≤ 256) (hwx : WfC x) (hwh : WfC h) (w : World) (hrx : RdO w.heap.size w v1 x) (hrh : RdO w.heap.size w v2 h) :
    Calls Try.prog 10 #[v1, v2] w fun e w' =>
      ∃ v ps, e = .returned (.tuple #[v, .int .i64 0]) ∧ Row w' w.heap.size 30 v (cvals ps) ∧ IsCs ps (cvAll (zsOf x) (zsOf h)) ∧ Below w.heap.size w w' := by
  have K1 := Lib.hid (cvLong_spec x.length h.length hx hh hl w)
  have K2 := Lib.hid (cvConv_spec x h v1 v2 (by omega) (by omega) hwx hwh w hrx hrh)
  obtain ⟨a1, c1, e1, -, -, -⟩ := hrx.find
  obtain ⟨a2, c2, e2, -, -, -⟩ := hrh.find
  subst e1
  subst e2
  clear hrx hrh
  go_enter Try.func10, Try.ntmps10
  go_wp2_with fail
  with_reducible refine K1.out.mono ?_
  rintro e w' ⟨rfl, rfl⟩
  go_wp2_with fail
  with_reducible refine K2.out.mono ?_
  rintro e w1 ⟨v, ps, rfl, hr, hf, hb⟩
  obtain ⟨va, vc, rfl⟩ := hr.written rfl
  have HE := Lib.hid (And.intro hr (And.intro hf hb))
  clear hr hf hb
  go_wp2
  go_ret2
  exact ⟨_, ps, rfl, HE.out.1, HE.out.2.1, HE.out.2.2⟩

end Go.Proofs.Ytocjhanehphibaa
/-
  The walks of eqInt64S, markInt64S and heldInt64S over slices that the call itself has made.
-/
set_option linter.unusedVariables false
set_option linter.unusedSimpArgs false
namespace Go.Proofs.Ytocjhanehphibaa
open Go.RowKit

/-- Integers as values. -/
def ints (zs : List Int) : List Value := zs.map (Value.int .i64)
theorem ints_length (zs : List Int) : (ints zs).length = zs.length := by simp [ints]
theorem ints_getD {zs : List Int} {j : Nat} (h : j < zs.length) : (ints zs).getD j undef = .int .i64 (zs.getD j 0) := getD_map _ zs 0 h

/-- The numbers that are laid in a row: from m on. -/
def marks (m n : Nat) : List Int := (List.range n).map fun i => ((m + i : Nat) : Int)

theorem marks_length (m n : Nat) : (marks m n).length = n := by simp [marks]
theorem marks_getD {m n j : Nat} (h : j < n) : (marks m n).getD j 0 = ((m + j : Nat) : Int) := by simp [marks, List.getD, h]

/-- The first k values of a row are turned, by f. -/
def turned (f : Nat → Value) (k : Nat) (cs : List Value) : List Value := (List.range k).map f ++ cs.drop k
theorem turned_zero (f : Nat → Value) (cs : List Value) : turned f 0 cs = cs := by simp [turned]
theorem turned_all (f : Nat → Value) (cs : List Value) : turned f cs.length cs = (List.range cs.length).map f := by simp [turned]
theorem turned_step {f : Nat → Value} {k : Nat} {cs : List Value} (h : k < cs.length) : (turned f k cs).set k (f k) = turned f (k + 1) cs := by
  unfold turned
  rw [List.set_append_right _ _ (by simp), List.length_map, List.length_range, Nat.sub_self]
  rw [List.drop_eq_getElem_cons h, List.set_cons_zero]
  rw [List.range_succ, List.map_append, List.append_assoc]
  rfl
theorem turned_length {f : Nat → Value} {k : Nat} {cs : List Value} (h : k ≤ cs.length) : (turned f k cs).length = cs.length := by simp [turned]; omega

theorem ints_marks (m n : Nat) : ints (marks m n) = (List.range n).map fun i => .int .i64 ((m + i : Nat) : Int) := by simp [ints, marks]

end Go.Proofs.Ytocjhanehphibaa
/-
  Slices of floats that came in or that the call has made: opened, compared, copied, marked.
-/
set_option linter.unusedVariables false
set_option linter.unusedSimpArgs false
namespace Go.Proofs.Ytocjhanehphibaa
open Go.RowKit Flt

section
variable {H : Type} {enc : TypeId × Value → H} {P : Program} {w : World} {base : Nat} {held : Bool}

theorem trod_float {t : TypeId} {k : FloatKind} {spare : Nat → Bool} {fuel : Nat} {cs : List Value} {x : DataW H × List MemPlace} (ht : P.underlying t = some (.float k)) (h : DataW.trod enc P w base spare held fuel t cs = some x) :
    ∃ n, cs = [.float k n] ∧ (Lit.float k n).wf = true := by
  cases fuel with
  | zero => simp [DataW.trod] at h
  | succ n =>
    unfold DataW.trod at h
    rw [ht] at h
    split at h <;> simp_all

end

/-- Floats as values. -/
def flts (zs : List Nat) : List Value := zs.map (Value.float .f64)
theorem flts_length (zs : List Nat) : (flts zs).length = zs.length := by simp [flts]
theorem flts_getD {zs : List Nat} {j : Nat} (h : j < zs.length) : (flts zs).getD j undef = .float .f64 (zs.getD j 0) := getD_map _ zs 0 h
theorem flts_snoc (zs : List Nat) (a : Nat) : flts (zs ++ [a]) = flts zs ++ [.float .f64 a] := by simp [flts]

/-- A slice of floats as the walk reads it, wherever it lies. -/
inductive ReadsF (w : World) : Value → List Nat → Prop
  | none (a : Option Addr) (cap : Nat) : ReadsF w (.slice a 0 cap) []
  | row (x : Addr) (cap L : Nat) (zs : List Nat) (hL : zs.length = L) (h0 : 0 < L) (hc : L ≤ cap) (hm : cap ≤ maxLen) (hz : ∀ z ∈ zs, z < 18446744073709551616) (h : ∀ j, j < L → w.cell? (x.add j) = some (.float .f64 (zs.getD j 0))) : ReadsF w (.slice (some x) L cap) zs

/-- A slice of floats that came in. -/
def IsRowF (w : World) (a : Option Addr) (len cap : Nat) (zs : List Nat) : Prop := ReadsF w (.slice a len cap) zs ∧ (∀ x, a = some x → 0 < len → x.block < w.heap.size)

theorem isRowF_open {H : Type} {enc : TypeId × Value → H} {P : Program} {w : World} {base : Nat} {held : Bool} {t e : TypeId} {fuel : Nat} {a : Option Addr} {len cap : Nat} {x : DataW H × List MemPlace}
    (ht : P.underlying t = some (.slice e)) (he : P.underlying e = some (.float .f64)) (hc : P.cellsOf e = 1) (h : DataW.trod enc P w base (fun _ => true) held fuel t (Value.slice a len cap).cells.toList = some x) : ∃ zs, IsRowF w a len cap zs := by
  have hcs : (Value.slice a len cap).cells.toList = [.slice a len cap] := by simp [Value.cells]
  rw [hcs] at h
  rcases Go.Deep.open_slice1 ht hc h with ⟨h0, _⟩ | ⟨x, l, c, m, n, V, D, Pl, h1, hb, hl, hm, hmm, rfl, hx⟩
  · simp only [List.cons.injEq, Value.slice.injEq, and_true] at h0
    obtain ⟨rfl, rfl, rfl⟩ := h0
    exact ⟨[], .none _ _, fun x hx => by cases hx⟩
  · simp only [List.cons.injEq, Value.slice.injEq, and_true] at h1
    obtain ⟨rfl, rfl, rfl⟩ := h1
    simp only [if_true] at hmm
    subst hmm
    have hV : ∀ i, i < m → ∃ z, V i = .float .f64 z ∧ z < 18446744073709551616 := fun i hi => by
      obtain ⟨z, e1, e2⟩ := trod_float he (hx i hi).2
      exact ⟨z, by simpa using e1, by simpa [Lit.wf] using e2⟩
    by_cases h0 : len = 0
    · subst h0
      exact ⟨[], .none _ _, fun x hx h => by omega⟩
    · let B : Nat → Nat := fun i => match V i with | .float _ z => z | _ => 0
      have hB : ∀ i, i < m → V i = .float .f64 (B i) ∧ B i < 18446744073709551616 := fun i hi => by
        obtain ⟨z, e1, e2⟩ := hV i hi
        have : B i = z := by show (match V i with | .float _ z => z | _ => 0) = z; rw [e1]
        rw [this]; exact ⟨e1, e2⟩
      refine ⟨(List.range len).map B, .row x m len _ (by simp) (by omega) hl hm ?_ ?_, fun y hy _ => ?_⟩
      · intro z hz
        obtain ⟨i, hi, rfl⟩ := List.mem_map.1 hz
        exact (hB i (by have := List.mem_range.1 hi; omega)).2
      · intro j hj
        rw [(hx j (by omega)).1, (hB j (by omega)).1]
        simp [List.getD, hj]
      · cases hy
        have := World.block_lt_of_cell? _ _ (hx 0 (by omega)).1
        rwa [addr_block] at this

theorem ReadsF.of_row {w : World} {B : Nat} {e : TypeId} {v : Value} {zs : List Nat} (h : Row w B e v (flts zs)) (hz : ∀ z ∈ zs, z < 18446744073709551616) : ReadsF w v zs := by
  have h' := h
  rcases h.shape with ⟨a, cap, rfl, h0⟩ | ⟨g, cap, rfl, h0, _, _, h1, h2⟩
  · have : zs = [] := by simpa [flts] using h0
    subst this
    exact .none a cap
  · rw [flts_length] at h0 h1 h' ⊢
    refine .row _ cap _ zs rfl h0 h1 h2 hz fun j hj => ?_
    rw [addr_lit, h'.cellAt hj, flts_getD hj]

theorem ReadsF.below {w w' : World} {B : Nat} {v : Value} {zs : List Nat} (h : ReadsF w v zs) (hb : Below B w w') (hv : ∀ x L cap, v = .slice (some x) L cap → 0 < L → x.block < B) : ReadsF w' v zs := by
  cases h with
  | none a cap => exact .none a cap
  | row x cap L zs hL h0 hc hm hz hh =>
    refine .row x cap L zs hL h0 hc hm hz fun j hj => ?_
    rw [hb.cell (by rw [addr_block]; exact hv x L cap rfl h0)]
    exact hh j hj
theorem ReadsF.drewN {w : World} {v : Value} {zs : List Nat} (h : ReadsF w v zs) (n : Nat) : ReadsF (w.drewN n) v zs := by
  cases h with
  | none a cap => exact .none a cap
  | row x cap L zs hL h0 hc hm hz hh => exact .row x cap L zs hL h0 hc hm hz hh

theorem IsRowF.below {w w' : World} {a : Option Addr} {len cap : Nat} {zs : List Nat} (h : IsRowF w a len cap zs) (hb : Below w.heap.size w w') : ReadsF w' (.slice a len cap) zs :=
  h.1.below hb (fun x L c e hL => by
    simp only [Value.slice.injEq] at e
    exact h.2 x e.1 (by omega))

theorem info_f64 : (Try.prog.info? 55).map (fun i => (i.zero, i.size, i.bytes)) = some (some (.float .f64 0), 1, 8) := by kernel_rfl

theorem fillF_step {zs : List Nat} {n k : Nat} (hk : k < n) (hz : n ≤ zs.length) :
    (flts (zs.take k) ++ List.replicate (n - k) (Value.float .f64 0)).set k (.float .f64 (zs.getD k 0)) = flts (zs.take (k + 1)) ++ List.replicate (n - (k + 1)) (Value.float .f64 0) := by
  have hl : (flts (zs.take k)).length = k := by rw [flts_length, List.length_take]; omega
  rw [List.set_append_right _ _ (by omega), hl, Nat.sub_self]
  obtain ⟨m, hm⟩ : ∃ m, n - k = m + 1 := ⟨n - k - 1, by omega⟩
  rw [hm, List.replicate_succ, List.set_cons_zero, show n - (k + 1) = m by omega, List.take_add_one]
  have e : zs[k]?.toList = [zs.getD k 0] := by simp [List.getD, show k < zs.length by omega]
  rw [e, flts_snoc, List.append_assoc]
  rfl

theorem grown_newF {w w1 w2 : World} {row : Option Nat} {B : Nat} (h : w.grownBy w1 row) (k : w1.grownBy w2 (some B)) (hB : w.heap.size ≤ B) : w.grownBy w2 row :=
  ⟨k.os.trans h.os, k.tape.trans h.tape, k.output.trans h.output, Nat.le_trans h.size k.size, fun j hj hr => (k.block j (Nat.lt_of_lt_of_le hj h.size) (by simp; omega)).trans (h.block j hj hr)⟩

set_option maxRecDepth 100000 in
set_option maxHeartbeats 4000000 in
theorem eqFloat64_any {v v' : Value} {xs ys : List Nat} {w : World} (h : ReadsF w v xs) (h' : ReadsF w v' ys) (hl : xs.length = ys.length) (he : ∀ j, j < xs.length → cn .f64 (xs.getD j 0) = cn .f64 (ys.getD j 0)) :
    Calls Try.prog 30 #[v, v'] w fun e w' => e = .returned (.bool true) ∧ ∃ n, w' = w.drewN n := by
  cases h with
  | none a cap =>
    cases h' with
    | none a' cap' =>
      clear he
      go_enter Try.func30, Try.ntmps30
      go_wp2
      refine wp_loop_rounds 1 ?_
      rw [rounds_succ]
      go_wp2
      go_ret
      exact ⟨rfl, 0, rfl⟩
    | row x cap L zs hL h0 => simp only [List.length_nil] at hl; omega
  | row x cap L xs hL h0 hc hm hz hcell =>
    cases h' with
    | none a' cap' => simp only [List.length_nil] at hl; omega
    | row x' cap' L' ys hL' _ _ _ hz' hcell' =>
      obtain rfl : L = L' := by omega
      have hmax := maxLen_int (Nat.le_trans hc hm)
      have HC := Lib.hid hcell
      have HC' := Lib.hid hcell'
      have HE : Hid (∀ j, j < L → cn .f64 (xs.getD j 0) = cn .f64 (ys.getD j 0)) := fun j hj => he j (by omega)
      have HZ : Hid (∀ j, j < L → xs.getD j 0 < 18446744073709551616) := fun j hj => hz _ (by
        rw [List.getD_eq_getElem?_getD, List.getElem?_eq_getElem (by omega)]
        exact List.getElem_mem _)
      clear hcell hcell' h0 hL hL' hm hc he hl hz hz'
      go_enter Try.func30, Try.ntmps30
      go_wp2
      go_loopw [5] (fun i wr => ∃ k n : Nat, i = .int .i64 k ∧ k ≤ L ∧ wr = w.drewN n) (fun i _ => L - (intOf i).toNat)
      case atStart => exact ⟨0, 0, rfl, Nat.zero_le _, rfl⟩
      case round =>
        obtain ⟨k, n, rfl, hk, hw⟩ := hrel
        have HW := Lib.hid hw
        clear hw
        by_cases hlt : k < L
        · have c1 : wr.cell? (x.add k) = some (.float .f64 (xs.getD k 0)) := by rw [HW.out]; exact HC.out k hlt
          have c2 : wr.cell? (x'.add k) = some (.float .f64 (ys.getD k 0)) := by rw [HW.out]; exact HC'.out k hlt
          have hcn := HE.out k hlt
          have hzz := HZ.out k hlt
          obtain ⟨a, ha⟩ : ∃ a, xs.getD k 0 = a := ⟨_, rfl⟩
          obtain ⟨b, hb⟩ : ∃ b, ys.getD k 0 = b := ⟨_, rfl⟩
          rw [ha] at c1 hcn hzz
          rw [hb] at c2 hcn
          have S := fun w => sameFloat_any a b hcn hzz w
          clear hcn ha hb
          go_wp2
          go_quiet ((go_at_call 64; exact Calls.quiet_of_same (S _)))
          go_wp2
          go_roundw
          case rel => exact ⟨k + 1, n + nq, by go_num, by omega, by rw [HW.out, World.drewN_drewN]⟩
          case measure => simp [intOf]; omega
        · have e : k = L := by omega
          subst e
          go_wp2
          go_ret
          exact ⟨rfl, n, HW.out⟩

/-- The numbers that are laid in a row of floats: from m on. -/
def fmark (m i : Nat) : Value := .float .f64 (floatOfInt .f64 ((m + i : Nat) : Int))
def fmarks (m n : Nat) : List Value := (List.range n).map (fmark m)
theorem fmarks_length (m n : Nat) : (fmarks m n).length = n := by simp [fmarks]
theorem fmarks_getD {m n j : Nat} (h : j < n) : (fmarks m n).getD j undef = fmark m j := by simp [fmarks, List.getD, h]

set_option maxRecDepth 100000 in
set_option maxHeartbeats 1600000 in
theorem markFloat64_any {v : Value} {cs : List Value} {B m : Nat} {w : World} (h : Row w B 55 v cs) (hm : m ≤ 1000000000000) (hz : cs.length ≤ 1000000000000) :
    Calls Try.prog 31 #[v, .int .i64 m] w fun e w' => e = .returned (.int .i64 ((m + cs.length : Nat) : Int)) ∧ Row w' B 55 v (fmarks m cs.length) ∧ w.grownBy w' v.ownBlock := by
  have hown := h
  rcases h.shape with ⟨a, cap, rfl, rfl⟩ | ⟨g, cap, rfl, h0, hB, hlt, hc, hcm⟩
  · have HO := Lib.hid h
    clear h hown
    go_enter Try.func31, Try.ntmps31
    go_wp2
    refine wp_loop_rounds 1 ?_
    rw [rounds_succ]
    go_wp2
    go_ret
    exact ⟨rfl, HO.out, World.grownBy.refl _ _⟩
  · obtain ⟨L, hL⟩ : ∃ L, cs.length = L := ⟨_, rfl⟩
    rw [hL] at h hz hc h0
    rw [show (Value.slice (some ⟨g, 0, none⟩) cs.length cap) = (Value.slice (some ⟨g, 0, none⟩) L cap) by rw [hL], hL]
    unfold fmarks
    have hmax := maxLen_int (Nat.le_trans hc hcm)
    have hmL : m + L ≤ 2000000000000 := by omega
    obtain ⟨f, hf⟩ : ∃ f : Nat → Value, fmark m = f := ⟨_, rfl⟩
    have HO := Lib.hid h
    have HL := Lib.hid hL
    have HFd := Lib.hid hf
    rw [hf]
    clear h hown hf h0 hL hm hcm
    go_enter Try.func31, Try.ntmps31
    go_wp2
    go_loopw [1, 5] (fun j i wr => ∃ k : Nat, i = .int .i64 k ∧ j = .int .i64 ((m + k : Nat) : Int) ∧ k ≤ L ∧ Row wr B 55 (.slice (some ⟨g, 0, none⟩) L cap) (turned f k cs) ∧ w.grownBy wr (some g)) (fun _ i _ => L - (intOf i).toNat)
    case atStart => exact ⟨0, rfl, rfl, Nat.zero_le _, by rw [turned_zero]; exact HO.out, World.grownBy.refl _ _⟩
    case round =>
      obtain ⟨k, rfl, rfl, hk, hown, hg⟩ := hrel
      by_cases hlt' : k < L
      · have hS := hown.set k (f k)
        rw [turned_step (by rw [HL.out]; exact hlt')] at hS
        have hfk : f k = Value.float .f64 (floatOfInt .f64 ((m + k : Nat) : Int)) := by rw [← HFd.out]; rfl
        rw [hfk] at hS
        have c1 := hown.cellAt hlt'
        have f1 := hown.frozenAt k
        obtain ⟨z, hz⟩ : ∃ z, (turned f k cs).getD k undef = z := ⟨_, rfl⟩
        rw [hz] at c1
        have HS := Lib.hid hS
        have HG := Lib.hid (hg.trans hS.2)
        clear hz hown hg hS hfk
        go_wp2
        go_roundw
        case rel => exact ⟨k + 1, by go_num, by go_num, by omega, HS.out.1, HG.out⟩
        case measure => simp [intOf]; omega
      · have e : k = L := by omega
        subst e
        have HOW := Lib.hid hown
        have HG := Lib.hid hg
        clear hown hg
        go_wp2
        go_ret
        refine ⟨rfl, ?_, HG.out⟩
        have := HOW.out
        rw [← HL.out, turned_all] at this
        rw [← HL.out]
        exact this

end Go.Proofs.Ytocjhanehphibaa
/-
  The walk of heldFloat64S.
-/
set_option linter.unusedVariables false
set_option linter.unusedSimpArgs false
namespace Go.Proofs.Ytocjhanehphibaa
open Go.RowKit Flt

set_option maxRecDepth 100000 in
set_option maxHeartbeats 1600000 in
theorem heldFloat64_any {v : Value} {m n : Nat} {w : World} (h : Reads w v (fmarks m n)) (hm : m ≤ 1000000000000) (hz : n ≤ 1000000000000) :
    Calls Try.prog 32 #[v, .int .i64 m] w fun e w' => e = .returned (.int .i64 ((m + n : Nat) : Int)) ∧ w' = w := by
  have hlen : (fmarks m n).length = n := fmarks_length m n
  generalize hcs : fmarks m n = cs at h hlen
  cases h with
  | none a cap =>
    simp at hlen
    subst hlen
    clear hcs
    go_enter Try.func32, Try.ntmps32
    go_wp2
    refine wp_loop_rounds 1 ?_
    rw [rounds_succ]
    go_wp2
    go_ret
    exact ⟨rfl, rfl⟩
  | row g cap L cs hL h0 hc hcm hcell =>
    obtain rfl : L = n := by omega
    have hmax := maxLen_int (Nat.le_trans hc hcm)
    have HC : Hid (∀ j, j < L → w.cell? ⟨g, j, none⟩ = some (.float .f64 (floatOfInt .f64 ((m : Int) + (j : Int))))) := fun j hj => by rw [hcell j hj, ← hcs, fmarks_getD hj]; unfold fmark; rw [Int.natCast_add]
    have hmL : m + L ≤ 2000000000000 := by omega
    clear hcell h0 hL hcs hlen hcm hm
    go_enter Try.func32, Try.ntmps32
    go_wp2
    go_loopw [1, 5] (fun j i wr => ∃ k : Nat, i = .int .i64 k ∧ j = .int .i64 ((m + k : Nat) : Int) ∧ k ≤ L ∧ wr = w) (fun _ i _ => L - (intOf i).toNat)
    case atStart => exact ⟨0, rfl, rfl, Nat.zero_le _, rfl⟩
    case round =>
      obtain ⟨k, rfl, rfl, hk, rfl⟩ := hrel
      by_cases hlt : k < L
      · have c1 := HC.out k hlt
        have o1 := ord_eq (nan_floatOfInt .f64 ((m : Int) + (k : Int))) (nan_floatOfInt .f64 ((m : Int) + (k : Int))) rfl
        go_wp2
        go_roundw
        case rel => exact ⟨k + 1, by go_num, by go_num, by omega, (by first | rfl | trivial)⟩
        case measure => simp [intOf]; omega
      · have e : k = L := by omega
        subst e
        go_wp2
        go_ret
        exact ⟨rfl, rfl⟩

end Go.Proofs.Ytocjhanehphibaa
/-
  The laws on functions from floats to floats: what is returned, and three rows in blocks of their own under marks.
-/
set_option linter.unusedVariables false
set_option linter.unusedSimpArgs false
namespace Go.Proofs.Ytocjhanehphibaa
open Go.RowKit Flt

theorem ReadsF.facts' {w : World} {a : Option Addr} {len cap : Nat} {zs : List Nat} (h : ReadsF w (.slice a len cap) zs) : zs.length = len ∧ (∀ z ∈ zs, z < 18446744073709551616) ∧ (len : Int) ≤ 9223372036854775807 := by
  generalize hv : (Value.slice a len cap) = v at h
  cases h with
  | none a cap => simp only [Value.slice.injEq] at hv; obtain ⟨-, rfl, -⟩ := hv; exact ⟨rfl, fun z hz => by simp at hz, by omega⟩
  | row x cap L zs hL h0 hc hm hz hh => simp only [Value.slice.injEq] at hv; obtain ⟨-, rfl, -⟩ := hv; exact ⟨hL, hz, maxLen_int (Nat.le_trans hc hm)⟩

/-- A float and a code are returned. -/
def FloatTo (r : Option Nat) (c : Int) (w : World) (e : Ending) (w' : World) : Prop :=
  ∃ a, e = .returned (.tuple #[.float .f64 a, .int .i64 c]) ∧ IsF a r ∧ Below w.heap.size w w'

/-- A list of floats and a code are returned. -/
def FloatsTo (n : Nat) (z : Nat → Option Nat) (c : Int) (w : World) (e : Ending) (w' : World) : Prop :=
  ∃ v fs, e = .returned (.tuple #[v, .int .i64 c]) ∧ Row w' w.heap.size 55 v (flts fs) ∧ fs.length = n ∧ (∀ i, i < n → IsF (fs.getD i 0) (z i)) ∧ Below w.heap.size w w'

theorem all_lt {fs : List Nat} {z : Nat → Option Nat} (h : ∀ i, i < fs.length → IsF (fs.getD i 0) (z i)) : ∀ x ∈ fs, x < 18446744073709551616 := fun x hx => by
  obtain ⟨i, hi, rfl⟩ := List.getElem_of_mem hx
  have := (h i hi).lt
  simpa [List.getD, hi] using this

theorem apart_low {v u : Value} {w : World} {B1 B2 : Nat} {cs : List Value} {e : TypeId} (hv : ∀ b, v.ownBlock = some b → b < B1) (hB : B1 ≤ B2) (hu : Row w B2 e u cs) : v.ownBlock = none ∨ v.ownBlock ≠ u.ownBlock := by
  cases h : v.ownBlock with
  | none => exact .inl rfl
  | some b =>
    refine .inr fun e => ?_
    have := hv b h
    have := (hu.lt b e.symm).1
    omega
theorem apart_low' {v u : Value} {w : World} {B1 B2 : Nat} {cs : List Value} {e : TypeId} (hv : ∀ b, v.ownBlock = some b → b < B1) (hB : B1 ≤ B2) (hu : Row w B2 e u cs) : u.ownBlock = none ∨ u.ownBlock ≠ v.ownBlock := by
  cases h : u.ownBlock with
  | none => exact .inl rfl
  | some b =>
    refine .inr fun e => ?_
    have := hv b e.symm
    have := (hu.lt b h).1
    omega

/-- The model's result v, the argument y and the program's result u, one behind the other. -/
structure Three (w : World) (e ea : TypeId) (B0 B1 B2 : Nat) (v y u : Value) (f c d : List Value) : Prop where
  rv : Row w B0 e v f
  ry : Row w B1 ea y c
  ru : Row w B2 e u d
  lowv : ∀ b, v.ownBlock = some b → b < B1
  lowy : ∀ b, y.ownBlock = some b → b < B2
  le : B1 ≤ B2

section
variable {w w' : World} {e ea : TypeId} {B0 B1 B2 : Nat} {v y u : Value} {f c d : List Value}
theorem Three.below (h : Three w e ea B0 B1 B2 v y u f c d) (hb : Below w.heap.size w w') : Three w' e ea B0 B1 B2 v y u f c d :=
  ⟨h.rv.below hb (fun k e => (h.rv.lt k e).2), h.ry.below hb (fun k e => (h.ry.lt k e).2), h.ru.below hb (fun k e => (h.ru.lt k e).2), h.lowv, h.lowy, h.le⟩
theorem Three.draws (h : Three w e ea B0 B1 B2 v y u f c d) (n : Nat) : Three (w.drewN n) e ea B0 B1 B2 v y u f c d := ⟨h.rv.drewN n, h.ry.drewN n, h.ru.drewN n, h.lowv, h.lowy, h.le⟩
theorem Three.markY {c' : List Value} (h : Three w e ea B0 B1 B2 v y u f c d) (hg : w.grownBy w' y.ownBlock) (hr : Row w' B1 ea y c') : Three w' e ea B0 B1 B2 v y u f c' d :=
  ⟨h.rv.kept hg (apart_low h.lowv (Nat.le_refl _) h.ry), hr, h.ru.kept hg (apart_low' h.lowy (Nat.le_refl _) h.ru), h.lowv, h.lowy, h.le⟩
theorem Three.markU {d' : List Value} (h : Three w e ea B0 B1 B2 v y u f c d) (hg : w.grownBy w' u.ownBlock) (hr : Row w' B2 e u d') : Three w' e ea B0 B1 B2 v y u f c d' :=
  ⟨h.rv.kept hg (apart_low h.lowv h.le h.ru), h.ry.kept hg (apart_low h.lowy (Nat.le_refl _) h.ru), hr, h.lowv, h.lowy, h.le⟩
end

end Go.Proofs.Ytocjhanehphibaa
/-
  listOf and everyOf over floats; how floats that lie in a row are read.
-/
set_option linter.unusedVariables false
set_option linter.unusedSimpArgs false
namespace Go.Proofs.Ytocjhanehphibaa
open Go.RowKit Flt Fast

theorem fl_form {w : World} {v : Value} {cs : List Value} (h : Reads w v cs) : ∃ a cap, v = .slice a cs.length cap := by
  cases h with
  | none a cap => exact ⟨a, cap, rfl⟩
  | row g cap L cs hL => subst hL; exact ⟨_, cap, rfl⟩

theorem fl_reads {w : World} {v : Value} {xs : List Nat} (h : Reads w v (flts xs)) : ∀ a n cap, v = .slice a n cap → ∀ k, k < n → ∃ g, a = some ⟨g, 0, none⟩ ∧ g < w.heap.size ∧ w.cell? ⟨g, k, none⟩ = some (.float .f64 (xs.getD k 0)) := by
  intro a n cap e k hk
  generalize hcs : flts xs = cs at h
  cases h with
  | none a cap => simp only [Value.slice.injEq] at e; omega
  | row g cap L cs hL h0 hc hm hh =>
    simp only [Value.slice.injEq] at e
    obtain ⟨e1, e2, -⟩ := e
    have hl : xs.length = L := by rw [← hL, ← hcs, flts_length]
    have hc := hh k (by omega)
    refine ⟨g, e1.symm, World.block_lt_of_cell? _ _ hc, ?_⟩
    rw [hc, ← hcs, flts_getD (by omega)]

theorem fl_cap {w : World} {v : Value} {cs : List Value} (h : Reads w v cs) : ∀ a n cap, v = .slice a n cap → (n : Int) ≤ 9223372036854775807 := by
  intro a n cap e
  cases h with
  | none a cap => simp only [Value.slice.injEq] at e; omega
  | row g cap L cs hL h0 hc hm hh => simp only [Value.slice.injEq] at e; obtain ⟨-, rfl, -⟩ := e; exact maxLen_int (Nat.le_trans hc hm)

theorem flts_fvals (xs : List Nat) : flts xs = fvals xs := rfl

theorem up_row {w w' : World} (h : w.grownBy w' none) (row : Option Nat) : w.grownBy w' row := ⟨h.os, h.tape, h.output, h.size, fun k hk _ => h.block k hk (by simp)⟩

/-- What was converted to a number up to the choice of a NaN. -/
def wO (xs : List Nat) (i : Nat) : Option Nat := cn .f64 (xs.getD i 0)
theorem wO_isF {xs : List Nat} (hz : ∀ z ∈ xs, z < 18446744073709551616) {i : Nat} (h : i < xs.length) : IsF (xs.getD i 0) (wO xs i) :=
  IsF.self (hz _ (by rw [List.getD_eq_getElem?_getD, List.getElem?_eq_getElem h]; exact List.getElem_mem _))

set_option maxRecDepth 100000 in
set_option maxHeartbeats 4000000 in
theorem listOf_f64 (fn : Nat) (capt : Array Value) (n : Nat) (hn : n ≤ 1000000) (z : Nat → Option Nat) (I : Nat → World → Prop) (row : Option Nat) (w : World)
    (hfn : ∀ (args : Array Value) (w : World), (callFunc fn args).run Try.prog w = .ok (.enter fn args) w) (hrow : ∀ k, row = some k → k < w.heap.size) (hI0 : ∀ w', w.grownBy w' none → I 0 w')
    (hIs : ∀ i w1 w2, w.heap.size < w1.heap.size → I i w1 → w1.grownBy w2 (some w.heap.size) → I i w2)
    (hcall : ∀ i w1, i < n → w.heap.size < w1.heap.size → I i w1 → Calls Try.prog fn (#[.int .i64 (i : Int)] ++ capt) w1 fun e w2 => ∃ p : Nat, e = .returned (fval p) ∧ IsF p (z i) ∧ I (i + 1) w2 ∧ w1.grownBy w2 row) :
    Calls Try.prog 81 #[.int .i64 n, .func (.func fn) #[] capt] w fun e w' =>
      ∃ v xs, e = .returned v ∧ Row w' w.heap.size 55 v (flts xs) ∧ xs.length = n ∧ (∀ i, i < n → IsF (xs.getD i 0) (z i)) ∧ I n w' ∧ w.grownBy w' row := by
  obtain ⟨i0, hi, hz0, hz1, hz2⟩ := info_parts info_f64'
  have HC := Lib.hid hcall
  have HS := Lib.hid hIs
  have HI := Lib.hid hI0
  have HR := Lib.hid hrow
  clear hcall hIs hI0 hrow
  go_enter Try.func81, Try.ntmps81
  go_wp2_with (at_make; refine wpList_make_full _ rfl _ _ 47 rfl w.heap.size 55 i0 (.float .f64 0) 1 Try.underlying47 hi hz0 hz1 .i64 .i64 _ _ n rfl rfl rfl rfl (by rw [hz2]; omega) (by simp only [maxLen]; omega) (Nat.le_refl _) ?_)
  intro w1 hown hg1
  rw [toList_madeCells_one] at hown
  have HO : Hid (Row w1 w.heap.size 55 (.slice (some ⟨w.heap.size, 0, none⟩) n n) (List.replicate n (.float .f64 0))) := by
    show w1.ownsRow _ _ _ _ _ _
    simpa using hown
  have HG := Lib.hid hg1
  clear hown hg1 hi hz0 hz1 hz2
  go_wp2
  go_loopw [10] (fun i wr => ∃ (k : Nat) (xs : List Nat), i = .int .i64 k ∧ k ≤ n ∧ xs.length = k ∧ Row wr w.heap.size 55 (.slice (some ⟨w.heap.size, 0, none⟩) n n) (flts xs ++ List.replicate (n - k) (.float .f64 0)) ∧ (∀ j, j < k → IsF (xs.getD j 0) (z j)) ∧ I k wr ∧ w.grownBy wr row ∧ w.heap.size < wr.heap.size) (fun i _ => n - (intOf i).toNat)
  case atStart => exact ⟨0, [], rfl, Nat.zero_le _, rfl, HO.out, fun j hj => by omega, HI.out _ HG.out, up_row HG.out _, (HO.out.lt _ rfl).2⟩
  case round =>
    obtain ⟨k, xs, rfl, hk, hx, hrw, hgd, hI, hg, hsz⟩ := hrel
    have HX := Lib.hid hx
    have HRW := Lib.hid hrw
    have HGD := Lib.hid hgd
    have HIk := Lib.hid hI
    have HGk := Lib.hid hg
    clear hx hrw hgd hI hg
    by_cases hlt : k < n
    · go_wp2_with fail
      refine (HC.out k wr hlt hsz HIk.out).mono ?_
      rintro e w2 ⟨a, rfl, hp, hI2, hg2⟩
      have hr2 := HRW.out.kept hg2 (.inr (fun e => by have := HR.out _ e.symm; simp at this))
      have hS := hr2.set k (.float .f64 a)
      rw [fillV hlt (by rw [flts_length]; exact HX.out)] at hS
      have hF := snocGood (d := (0 : Nat)) (G := fun i p => IsF p (z i)) HX.out HGD.out hp
      have c1 := hr2.cellAt hlt
      have f1 := hr2.frozenAt k
      have hsz2 : w.heap.size < w2.heap.size := Nat.lt_of_lt_of_le hsz hg2.size
      have hI3 := HS.out _ _ _ hsz2 hI2 hS.2
      have hg3 := grown_new (HGk.out.trans hg2) hS.2 (Nat.le_refl _)
      have hsz3 : w.heap.size < (w2.setCell ⟨w.heap.size, k, none⟩ (.float .f64 a)).heap.size := Nat.lt_of_lt_of_le hsz2 hS.2.size
      simp only [fval] at ⊢
      obtain ⟨u, hu⟩ : ∃ u, (flts xs ++ List.replicate (n - k) (Value.float .f64 0)).getD k undef = u := ⟨_, rfl⟩
      rw [hu] at c1
      rw [← flts_snoc] at hS
      have HS2 := Lib.hid hS
      have HF := Lib.hid hF
      have HI3 := Lib.hid hI3
      have HG3 := Lib.hid hg3
      have HZ3 := Lib.hid hsz3
      clear hu hr2 hS hF hp hI2 hg2 hI3 hg3 hsz3
      go_wp2
      go_roundw
      case rel => exact ⟨k + 1, xs ++ [a], by go_num, by omega, HF.out.1, HS2.out.1, HF.out.2, HI3.out, HG3.out, HZ3.out⟩
      case measure => simp [intOf]; omega
    · have e : k = n := by omega
      subst e
      go_wp2
      go_ret
      refine ⟨_, xs, rfl, ?_, HX.out, HGD.out, HIk.out, HGk.out⟩
      have := HRW.out
      rwa [Nat.sub_self, List.replicate_zero, List.append_nil] at this

/-- The first t floats of those that stand p places apart, from the place r on. -/
def partF (xs : List Nat) (r p t : Nat) : List Nat := (List.range t).map fun i => xs.getD (r + i * p) 0
theorem partF_length (xs : List Nat) (r p t : Nat) : (partF xs r p t).length = t := by simp [partF]
theorem partF_succ (xs : List Nat) (r p t : Nat) : partF xs r p (t + 1) = partF xs r p t ++ [xs.getD (r + t * p) 0] := by simp [partF, List.range_succ]
theorem partF_getD (xs : List Nat) (r p t : Nat) {i : Nat} (h : i < t) : (partF xs r p t).getD i 0 = xs.getD (r + i * p) 0 := by simp [partF, List.getD, h]

end Go.Proofs.Ytocjhanehphibaa
/-
  BlockCount, GainOf, PowerOf of both.
-/
set_option linter.unusedVariables false
set_option linter.unusedSimpArgs false
namespace Go.Proofs.Ytocjhanehphibaa
open Go.RowKit Flt Fast
attribute [local go_sem] run_fadd run_fsub run_fmul run_fquo run_cadd run_csub

theorem in_t (n lo hi : Int) (h : lo ≤ n ∧ n ≤ hi) (w : World) :
    Calls Try.prog 58 #[.int .i64 n, .int .i64 lo, .int .i64 hi] w fun e w' => e = .returned (.bool true) ∧ w' = w := by
  obtain ⟨h1, h2⟩ := h
  go_enter Try.func58, Try.ntmps58
  go_wp2
  go_ret
  exact ⟨rfl, rfl⟩
theorem in_f (n lo hi : Int) (h : ¬ (lo ≤ n ∧ n ≤ hi)) (w : World) :
    Calls Try.prog 58 #[.int .i64 n, .int .i64 lo, .int .i64 hi] w fun e w' => e = .returned (.bool false) ∧ w' = w := by
  by_cases h1 : lo ≤ n
  · have h2 : ¬ n ≤ hi := fun h' => h ⟨h1, h'⟩
    have g : decide (n ≤ hi) = false := decide_eq_false h2
    clear h
    go_enter Try.func58, Try.ntmps58
    go_wp2
    go_ret
    exact ⟨rfl, rfl⟩
  · have h2 : n < lo := by omega
    clear h h1
    go_enter Try.func58, Try.ntmps58
    go_wp2
    go_ret
    exact ⟨rfl, rfl⟩

/-- The number of blocks. -/
def cntR (a b c : Int) : Int := if a = 0 then 0 else if a ≤ b then 1 else 1 + (a - b + c - 1).tdiv c

/-- What BlockCount answers. -/
def bcK (a b c : Int) : Int := if (0 ≤ a ∧ a ≤ 256) ∧ (1 ≤ b ∧ b ≤ 256) ∧ (1 ≤ c ∧ c ≤ b) then 0 else 2
def bcR (a b c : Int) : Int := if (0 ≤ a ∧ a ≤ 256) ∧ (1 ≤ b ∧ b ≤ 256) ∧ (1 ≤ c ∧ c ≤ b) then cntR a b c else 0

/-- A cut as the program holds it. -/
def rightB (b c : Int) : Bool := decide ((1 ≤ c ∧ c ≤ b) ∧ b ≤ 256)

theorem cntR_max {a b c : Int} (ha : 0 ≤ a ∧ a ≤ 1000000) (hb : 1 ≤ b ∧ b ≤ 1000000) (hc : 1 ≤ c ∧ c ≤ b) (h0 : a ≠ 0) : cntR a b c = ((if a - b ≥ 0 then a - b else 0) + c - 1).tdiv c + 1 := by
  unfold cntR
  rw [if_neg h0]
  by_cases h1 : a ≤ b
  · rw [if_pos h1]
    have : (if a - b ≥ 0 then a - b else 0) + c - 1 = c - 1 := by split <;> omega
    rw [this, Int.tdiv_eq_ediv_of_nonneg (by omega), Int.ediv_eq_zero_of_lt (by omega) (by omega)]; rfl
  · rw [if_neg h1, if_pos (by omega)]; omega

end Go.Proofs.Ytocjhanehphibaa
/-
  l03Add, l03Many, l03Joined and OverlapAdd of the model.
-/
set_option linter.unusedVariables false
set_option linter.unusedSimpArgs false
namespace Go.Proofs.Ytocjhanehphibaa
open Go.RowKit Flt Fast
attribute [local go_sem] run_fadd run_fsub run_fmul run_fquo run_cadd run_csub

/-- Blocks of one size, in a row. -/
structure Blks (w : World) (V : Value) (vs : List Value) (bs : Nat → List C) (q : Nat → Nat → Z) (n : Nat) : Prop where
  row : Reads w V vs
  each : ∀ b, b < vs.length → RdC w (vs.getD b undef) (bs b) ∧ (bs b).length = n ∧ ∀ i, i < n → IsC ((bs b).getD i (0, 0)) (q b i)

theorem Blks.below {w w' : World} {V : Value} {vs : List Value} {bs : Nat → List C} {q : Nat → Nat → Z} {n : Nat} (h : Blks w V vs bs q n) (hb : Below w.heap.size w w') : Blks w' V vs bs q n :=
  ⟨h.row.below hb, fun b hb' => ⟨(h.each b hb').1.below hb, (h.each b hb').2⟩⟩

/-- How the walk finds a block. -/
theorem Blks.find {w : World} {V : Value} {vs : List Value} {bs : Nat → List C} {q : Nat → Nat → Z} {n : Nat} (h : Blks w V vs bs q n) :
    ∃ a cap, V = .slice a vs.length cap ∧ (vs.length : Int) ≤ 9223372036854775807 ∧ ∀ b, b < vs.length → ∃ g ab cb, a = some ⟨g, 0, none⟩ ∧ g < w.heap.size ∧ w.cell? ⟨g, b, none⟩ = some (.slice ab n cb) ∧ (n : Int) ≤ 9223372036854775807 ∧
      ∀ j, j < n → ∃ gb ob, ab = some ⟨gb, ob, none⟩ ∧ gb < w.heap.size ∧ w.cell? ⟨gb, ob + j, none⟩ = some (.complex .f64 ((bs b).getD j (0, 0)).1 ((bs b).getD j (0, 0)).2) ∧ IsC ((bs b).getD j (0, 0)) (q b j) := by
  have key : ∀ (g cap : Nat) (b : Nat), b < vs.length → w.cell? ⟨g, b, none⟩ = some (vs.getD b undef) → ∃ ab cb, g < w.heap.size ∧ w.cell? ⟨g, b, none⟩ = some (.slice ab n cb) ∧ (n : Int) ≤ 9223372036854775807 ∧
      ∀ j, j < n → ∃ gb ob, ab = some ⟨gb, ob, none⟩ ∧ gb < w.heap.size ∧ w.cell? ⟨gb, ob + j, none⟩ = some (.complex .f64 ((bs b).getD j (0, 0)).1 ((bs b).getD j (0, 0)).2) ∧ IsC ((bs b).getD j (0, 0)) (q b j) := by
    intro g cap b hb hc
    obtain ⟨⟨ab, cb, e, h1, h2, h3⟩, h4, h5⟩ := h.each b hb
    rw [h4] at e h1 h3
    refine ⟨ab, cb, World.block_lt_of_cell? _ _ hc, by rw [hc, e], maxLen_int (Nat.le_trans h1 h2), fun j hj => ?_⟩
    obtain ⟨gb, ob, e1, e2, e3⟩ := h3 j hj
    exact ⟨gb, ob, e1, e2, e3, h5 j hj⟩
  have hr := h.row
  generalize hvs : vs = cs at hr
  cases hr with
  | none a cap => subst hvs; exact ⟨a, cap, rfl, by simp, fun b hb => by simp at hb⟩
  | row g cap L cs hL h0 hcc hm hh =>
    subst hvs
    subst hL
    refine ⟨_, cap, rfl, maxLen_int (Nat.le_trans hcc hm), fun b hb => ?_⟩
    obtain ⟨ab, cb, k1, k2, k3, k4⟩ := key g cap b hb (hh b hb)
    exact ⟨g, ab, cb, rfl, k1, k2, k3, k4⟩

/-- The sums of blocks of the size n, h places apart. -/
def ovlL (q : Nat → Nat → Z) (n h c : Nat) : List Z := addAll addZ z0 q (fun _ => n) h c

end Go.Proofs.Ytocjhanehphibaa
/-
  An adder's tail and what it has told are the sums of all blocks: pure facts.
-/
set_option linter.unusedVariables false
set_option linter.unusedSimpArgs false
namespace Go.Proofs.Ytocjhanehphibaa
open Go.RowKit Flt Fast

section
variable {Y : Type} (add : Y → Y → Y) (d : Y)
theorem addAt_app (A X : List Y) (m : Nat) (p : Y) : addAt add d (A ++ X) (A.length + m) p = A ++ addAt add d X m p := by
  by_cases h : m < X.length
  · rw [addAt_lt add d (by simp; omega), addAt_lt add d h, List.set_append_right _ _ (by omega), Nat.add_sub_cancel_left]
    congr 3
    simp [List.getD, List.getElem?_append_right]
  · rw [addAt_ge add d (by simp; omega), addAt_ge add d h, List.append_assoc]
theorem addBlk_split {zs : List Y} {f : Nat} (q : Nat → Y) (hf : f ≤ zs.length) (m : Nat) : addBlk add d zs f q m = zs.take f ++ addBlk add d (zs.drop f) 0 q m := by
  have hl : (zs.take f).length = f := by simp; omega
  induction m with
  | zero => simp [addBlk]
  | succ m ih =>
    rw [addBlk, ih, addBlk, Nat.zero_add]
    have := addAt_app add d (zs.take f) (addBlk add d (zs.drop f) 0 q m) m (q m)
    rw [hl] at this
    exact this
theorem addBlk_list (T : List Y) (m : Nat) (hm : m ≤ T.length) : addBlk add d [] 0 (fun i => T.getD i d) m = T.take m := by
  induction m with
  | zero => simp [addBlk]
  | succ m ih =>
    rw [addBlk, ih (by omega), addAt_ge add d (by simp; omega), List.take_add_one]
    have : m < T.length := by omega
    simp [List.getD, this]
theorem addBlk_ext (zs : List Y) (f : Nat) (q q' : Nat → Y) (m : Nat) (h : ∀ i, i < m → q i = q' i) : addBlk add d zs f q m = addBlk add d zs f q' m := by
  induction m with
  | zero => rfl
  | succ m ih => rw [addBlk, addBlk, ih (fun i hi => h i (by omega)), h m (by omega)]
end

/-- What has been told after b blocks, and what is left. -/
def toldL (q : Nat → Nat → Z) (n h b : Nat) : List Z := (ovlL q n h b).take (b * h)
def tailL (q : Nat → Nat → Z) (n h b : Nat) : List Z := (ovlL q n h b).drop (b * h)
/-- The sums of a tail and a block. -/
def stepL (T : List Z) (q : Nat → Z) (n : Nat) : List Z := addBlk addZ z0 T 0 q n

theorem told_tail (q : Nat → Nat → Z) (n h b : Nat) : toldL q n h b ++ tailL q n h b = ovlL q n h b := List.take_append_drop _ _
theorem toldL_len (q : Nat → Nat → Z) {n h : Nat} (hh : h ≤ n) (b : Nat) : (toldL q n h b).length = b * h := by
  unfold toldL
  rw [List.length_take]
  have : b * h ≤ (ovlL q n h b).length := addAll_le _ _ _ _ _ hh b
  omega
theorem tailL_zero (q : Nat → Nat → Z) (n h : Nat) : tailL q n h 0 = [] := by simp [tailL, ovlL, addAll]
theorem tailL_len (q : Nat → Nat → Z) {n h : Nat} (hh : h ≤ n) (b : Nat) : (tailL q n h (b + 1)).length = n - h := by
  have e : (ovlL q n h (b + 1)).length = b * h + n := addAll_len _ _ _ _ _ hh b
  unfold tailL
  rw [List.length_drop, e, Nat.add_mul]
  omega
theorem ovl_succ (q : Nat → Nat → Z) {n h : Nat} (hh : h ≤ n) (b : Nat) : ovlL q n h (b + 1) = toldL q n h b ++ stepL (tailL q n h b) (q b) n := by
  have hl : b * h ≤ (ovlL q n h b).length := addAll_le _ _ _ _ _ hh b
  show addBlk addZ z0 (ovlL q n h b) (b * h) (q b) n = _
  rw [addBlk_split addZ z0 (q b) hl n]
  rfl
theorem stepL_len (T : List Z) (q : Nat → Z) (n : Nat) : (stepL T q n).length = max T.length n := by
  unfold stepL
  rw [addBlk_len addZ z0 q (Nat.zero_le _)]
  simp
theorem told_succ (q : Nat → Nat → Z) {n h : Nat} (hh : h ≤ n) (b : Nat) : toldL q n h (b + 1) = toldL q n h b ++ (stepL (tailL q n h b) (q b) n).take h := by
  have hl := toldL_len q hh b
  show (ovlL q n h (b + 1)).take ((b + 1) * h) = _
  rw [ovl_succ q hh b, Nat.add_mul, Nat.one_mul, ← hl, List.take_length_add_append]
theorem tail_succ (q : Nat → Nat → Z) {n h : Nat} (hh : h ≤ n) (b : Nat) : tailL q n h (b + 1) = (stepL (tailL q n h b) (q b) n).drop h := by
  have hl := toldL_len q hh b
  show (ovlL q n h (b + 1)).drop ((b + 1) * h) = _
  rw [ovl_succ q hh b, Nat.add_mul, Nat.one_mul, ← hl, List.drop_length_add_append]

theorem FitsC.take {fs : List C} {zs : List Z} (h : FitsC fs zs) (k : Nat) : FitsC (fs.take k) (zs.take k) := by
  refine ⟨by simp [h.len], fun i hi => ?_⟩
  rw [List.length_take] at hi
  have h1 : i < k := by omega
  rw [show (fs.take k).getD i (0, 0) = fs.getD i (0, 0) by simp [List.getD, List.getElem?_take, h1], show (zs.take k).getD i z0 = zs.getD i z0 by simp [List.getD, List.getElem?_take, h1]]
  exact h.good i (by omega)
theorem FitsC.drop {fs : List C} {zs : List Z} (h : FitsC fs zs) (k : Nat) : FitsC (fs.drop k) (zs.drop k) := by
  refine ⟨by simp [h.len], fun i hi => ?_⟩
  simp at hi
  rw [show (fs.drop k).getD i (0, 0) = fs.getD (k + i) (0, 0) by simp [List.getD, List.getElem?_drop], show (zs.drop k).getD i z0 = zs.getD (k + i) z0 by simp [List.getD, List.getElem?_drop]]
  exact h.good (k + i) (by omega)
theorem FitsC.app {fs gs : List C} {zs ys : List Z} (h : FitsC fs zs) (k : FitsC gs ys) : FitsC (fs ++ gs) (zs ++ ys) := by
  refine ⟨by simp [h.len, k.len], fun i hi => ?_⟩
  by_cases hl : i < fs.length
  · rw [show (fs ++ gs).getD i (0, 0) = fs.getD i (0, 0) by simp [List.getD, List.getElem?_append_left, hl], show (zs ++ ys).getD i z0 = zs.getD i z0 by simp [List.getD, List.getElem?_append_left, ← h.len, hl]]
    exact h.good i hl
  · have e1 : (fs ++ gs).getD i (0, 0) = gs.getD (i - fs.length) (0, 0) := by simp [List.getD, List.getElem?_append_right (Nat.le_of_not_lt hl)]
    have e2 : (zs ++ ys).getD i z0 = ys.getD (i - fs.length) z0 := by rw [h.len] at hl ⊢; simp [List.getD, List.getElem?_append_right (Nat.le_of_not_lt hl)]
    rw [e1, e2]
    exact k.good _ (by simp at hi; omega)

/-- The sums that sumsAtPlaces makes of a tail and a block. -/
theorem two_sums (T : List Z) (q : Nat → Z) (n : Nat) : addAll addZ z0 (fun b i => if b = 0 then T.getD i z0 else q i) (fun b => if b = 0 then T.length else n) 0 2 = stepL T q n := by
  show addBlk addZ z0 (addBlk addZ z0 [] (0 * 0) (fun i => if (0 : Nat) = 0 then T.getD i z0 else q i) (if (0 : Nat) = 0 then T.length else n)) (1 * 0) (fun i => if (1 : Nat) = 0 then T.getD i z0 else q i) (if (1 : Nat) = 0 then T.length else n) = _
  simp only [if_true, Nat.mul_zero]
  rw [if_neg (by omega), addBlk_list addZ z0 T T.length (Nat.le_refl _), List.take_length]
  exact addBlk_ext addZ z0 T 0 _ _ n (fun i _ => by rw [if_neg (by omega)])

end Go.Proofs.Ytocjhanehphibaa
