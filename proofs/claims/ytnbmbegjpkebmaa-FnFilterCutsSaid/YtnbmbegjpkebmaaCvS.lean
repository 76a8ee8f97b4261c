import Derived.Test.YtnbmbegjpkebmaaRcS
import Derived.Deep.RegionHeld3
/-
  Convolve of the model.
-/
set_option linter.unusedVariables false
set_option linter.unusedSimpArgs false
namespace Go.Proofs.Ytnbmbegjpkebmaa
open Go.RowKit Flt Fast
attribute [local go_sem] run_fadd run_fsub run_fmul run_fquo run_cadd run_csub

theorem cvLength_spec (a b : Nat) (ha : a ≤ 1000000) (hb : b ≤ 1000000) (w : World) :
    Calls Try.prog 42 #[.int .i64 a, .int .i64 b] w fun e w' => e = .returned (.int .i64 (cvLen a b)) ∧ w' = w := by
  by_cases hz : a = 0
  · subst hz
    rw [cvLen_nil]
    go_enter Try.func42, Try.ntmps42
    go_wp2
    go_ret
    exact ⟨rfl, rfl⟩
  · have g1 : ((a : Int) == 0) = false := by simp; omega
    by_cases hy : b = 0
    · subst hy
      rw [cvLen_nil']
      go_enter Try.func42, Try.ntmps42
      go_wp2
      go_ret
      exact ⟨rfl, rfl⟩
    · have g2 : ((b : Int) == 0) = false := by simp; omega
      obtain ⟨L, hL⟩ : ∃ L, cvLen a b = L := ⟨_, rfl⟩
      have hL2 : ((a : Int) + b - 1) = (L : Int) := by rw [← hL, cvLen_pos hz hy]; omega
      rw [hL]
      have HL := Lib.hid hL2
      clear hL hL2
      go_enter Try.func42, Try.ntmps42
      go_wp2
      go_ret
      exact ⟨by rw [HL.out]; rfl, rfl⟩

theorem cvLong_spec (a b : Nat) (ha : a ≤ 256) (hb : b ≤ 256) (hl : cvLen a b ≤ 256) (w : World) :
    Calls Try.prog 38 #[.int .i64 a, .int .i64 b] w fun e w' => e = .returned (.bool false) ∧ w' = w := by
  have K := Lib.hid (fun w => cvLength_spec a b (by omega) (by omega) w)
  obtain ⟨L, hL⟩ : ∃ L, cvLen a b = L := ⟨_, rfl⟩
  rw [hL] at K hl
  clear hL
  have g1 : decide ((256 : Int) < (a : Int)) = false := decide_eq_false (by omega)
  have g2 : decide ((256 : Int) < (b : Int)) = false := decide_eq_false (by omega)
  have g3 : decide ((256 : Int) < (L : Int)) = false := decide_eq_false (by omega)
  go_enter Try.func38, Try.ntmps38
  go_wp2_with (go_at_call 42; refine (K.out _).mono ?_; rintro e w' ⟨rfl, rfl⟩)
  go_ret
  exact ⟨rfl, rfl⟩

/-- The block of a sum that has begun or not. -/
def SumAt (w : World) (B : Nat) (a b : Nat) (g : Bool) : Prop := w.heap[B]? = some (.cells #[.complex .f64 a b, .bool g] 97 (0, 0))
theorem SumAt.c0 {w : World} {B a b : Nat} {g : Bool} (h : SumAt w B a b g) : w.cell? ⟨B, 0, none⟩ = some (.complex .f64 a b) := cell_of_heap h rfl
theorem SumAt.c1 {w : World} {B a b : Nat} {g : Bool} (h : SumAt w B a b g) : w.cell? ⟨B, 1, none⟩ = some (.bool g) := cell_of_heap h rfl
theorem SumAt.fr {w : World} {B a b : Nat} {g : Bool} (h : SumAt w B a b g) (k : Nat) : w.frozen? ⟨B, k, none⟩ = false := by
  have h' : w.heap[B]? = _ := h
  simp [World.frozen?, h']
theorem SumAt.drewN {w : World} {B a b : Nat} {g : Bool} (h : SumAt w B a b g) (n : Nat) : SumAt (w.drewN n) B a b g := h
theorem SumAt.set0 {w : World} {B a b : Nat} {g : Bool} (h : SumAt w B a b g) (a' b' : Nat) : SumAt (w.setCell ⟨B, 0, none⟩ (.complex .f64 a' b')) B a' b' g := by
  obtain ⟨hlt, hk⟩ := Array.getElem?_eq_some_iff.1 (show w.heap[B]? = _ from h)
  show (w.heap.modify B _)[B]? = _
  rw [Array.getElem?_eq_getElem (by rw [Array.size_modify]; exact hlt), Array.getElem_modify_self, hk]
  rfl
theorem SumAt.set1 {w : World} {B a b : Nat} {g : Bool} (h : SumAt w B a b g) (g' : Bool) : SumAt (w.setCell ⟨B, 1, none⟩ (.bool g')) B a b g' := by
  obtain ⟨hlt, hk⟩ := Array.getElem?_eq_some_iff.1 (show w.heap[B]? = _ from h)
  show (w.heap.modify B _)[B]? = _
  rw [Array.getElem?_eq_getElem (by rw [Array.size_modify]; exact hlt), Array.getElem_modify_self, hk]
  rfl
theorem grown_set (W : World) (b o : Nat) (v : Value) : W.grownBy (W.setCell ⟨b, o, none⟩ v) (some b) :=
  ⟨rfl, rfl, rfl, (KeepsWalks.setCell W _ v).size, fun k _ hk => Below.heap_setCell _ _ _ k (fun e => hk (by rw [e]))⟩
theorem grown_drew (W : World) (n : Nat) (row : Option Nat) : W.grownBy (W.drewN n) row := ⟨rfl, rfl, rfl, Nat.le_refl _, fun _ _ _ => rfl⟩

set_option maxRecDepth 100000 in
set_option maxHeartbeats 4000000 in
theorem add_spec (B a b p q : Nat) (g : Bool) (za zp : Z) (hab : g = true → IsC (a, b) za) (hp : IsC (p, q) zp) (w : World) (h : SumAt w B a b g) :
    Calls Try.prog 64 #[.pointer (some ⟨B, 0, none⟩), .complex .f64 p q] w fun e w' => (∃ v, e = .returned v) ∧ ∃ a' b', SumAt w' B a' b' true ∧ IsC (a', b') (if g then addZ za zp else zp) ∧ w.grownBy w' (some B) := by
  have d0 := h.c0
  have d1 := h.c1
  have f0 := h.fr 0
  have f1 := h.fr 1
  have H := Lib.hid h
  have HP := Lib.hid hp
  clear h hp
  cases g with
  | true =>
    have HA := Lib.hid (hab rfl)
    clear hab
    go_enter Try.func64, Try.ntmps64
    go_wp2
    go_end0
    exact ⟨⟨_, rfl⟩, _, _, (H.out.drewN _).set0 _ _, ⟨isF_fres HA.out.re HP.out.re _, isF_fres HA.out.im HP.out.im _⟩, (grown_drew w _ _).trans (grown_set _ B 0 _)⟩
  | false =>
    clear hab
    go_enter Try.func64, Try.ntmps64
    go_wp2
    go_end0
    exact ⟨⟨_, rfl⟩, p, q, (H.out.set0 p q).set1 true, by simpa using HP.out, (grown_set w B 0 _).trans (grown_set _ B 1 _)⟩

set_option maxRecDepth 100000 in
set_option maxHeartbeats 4000000 in
theorem cvAt_spec (x h : List C) (v1 v2 : Value) (n : Nat) (hx : x.length ≤ 1000) (hh : h.length ≤ 1000) (hn : n ≤ 2000) (hwx : WfC x) (hwh : WfC h) (w : World) (hrx : RdO w.heap.size w v1 x) (hrh : RdO w.heap.size w v2 h) :
    Calls Try.prog 56 #[v1, v2, .int .i64 n] w fun e w' => ∃ a b, e = .returned (.complex .f64 a b) ∧ (0 < cvCnt x.length h.length n → IsC (a, b) (cvAt (zsOf x) (zsOf h) n)) ∧ a < 18446744073709551616 ∧ b < 18446744073709551616 ∧ Below w.heap.size w w' := by
  have HRX := Lib.hid hrx
  have HRH := Lib.hid hrh
  obtain ⟨a1, c1, e1, -, -, -⟩ := hrx.find
  obtain ⟨a2, c2, e2, -, -, -⟩ := hrh.find
  subst e1
  subst e2
  clear hrx hrh
  obtain ⟨L, hL⟩ : ∃ L, x.length = L := ⟨_, rfl⟩
  obtain ⟨M, hM⟩ : ∃ M, h.length = M := ⟨_, rfl⟩
  rw [hL] at hx HRX ⊢
  rw [hM] at hh HRH ⊢
  have HXL := Lib.hid hL
  have HAL := Lib.hid hM
  obtain ⟨lo, hlo⟩ : ∃ k, cvLo L n = k := ⟨_, rfl⟩
  have hlo' : lo = n + 1 - L := by rw [← hlo]; rfl
  have HLO := Lib.hid hlo
  clear hL hM hlo
  obtain ⟨N, hN⟩ : ∃ N, w.heap.size = N := ⟨_, rfl⟩
  have hnew : SumAt (w.alloc (.cells #[.complex .f64 0 0, .bool false] 97)) N 0 0 false := by rw [← hN]; exact World.alloc_heap_new w _
  have HNEW := Lib.hid hnew
  have HN := Lib.hid hN
  clear hnew
  go_enter Try.func56, Try.ntmps56
  go_wp2
  go_loopw [8] (fun i wr => ∃ (k a b : Nat), i = .int .i64 (k : Int) ∧ k ≤ min M (n + 1) ∧ SumAt wr N a b (decide (lo < k)) ∧ (lo < k → IsC (a, b) (cvSum (zsOf x) (zsOf h) n (k - lo))) ∧ (¬ lo < k → a = 0 ∧ b = 0) ∧ Below w.heap.size w wr) (fun i _ => min M (n + 1) - (intOf i).toNat)
  case atStart => exact ⟨0, 0, 0, rfl, Nat.zero_le _, by rw [decide_eq_false (by omega)]; exact HNEW.out, fun h => by omega, fun _ => ⟨rfl, rfl⟩, (Below.refl _ _).alloc (Nat.le_refl _) _⟩
  case round =>
    clear HNEW
    obtain ⟨k, a, b, rfl, hk, hs, hc, hcz, hB⟩ := hrel
    have HS := Lib.hid hs
    have HC := Lib.hid hc
    have HCZ := Lib.hid hcz
    have HB := Lib.hid hB
    clear hs hc hcz hB
    by_cases hlt : k < min M (n + 1)
    · have g1 : decide (k < M) = true := decide_eq_true (by omega)
      have g2 : decide (k ≤ n) = true := decide_eq_true (by omega)
      obtain ⟨D, hD⟩ : ∃ D, n - k = D := ⟨_, rfl⟩
      have hDi : (n : Int) - (k : Int) = (D : Int) := by omega
      by_cases hin : D < L
      · have g3 : decide (D < L) = true := decide_eq_true hin
        have hkM : k < M := by omega
        obtain ⟨ga, oa, rfl, hga, hca, hcma, k2⟩ := (HRH.out.below HB.out).at hkM
        obtain ⟨gx, ox, rfl, hgx, hcx, hcmx, k3⟩ := (HRX.out.below HB.out).at hin
        obtain ⟨⟨r, s⟩, hq1⟩ : ∃ z, h.getD k (0, 0) = z := ⟨_, rfl⟩
        obtain ⟨⟨t, u⟩, hq2⟩ : ∃ z, x.getD D (0, 0) = z := ⟨_, rfl⟩
        rw [hq1] at k2
        rw [hq2] at k3
        have hza : IsC (r, s) ((zsOf h).getD k z0) := by rw [← hq1]; exact isC_getD hwh (by rw [HAL.out]; exact hkM)
        have hzy : IsC (t, u) ((zsOf x).getD D z0) := by rw [← hq2]; exact isC_getD hwx (by rw [HXL.out]; exact hin)
        have HMUL := Lib.hid (fun w => mul_spec r s t u _ _ hza hzy w)
        have HADD : Hid (∀ (p q nn : Nat), IsC (p, q) (mulZ ((zsOf h).getD k z0) ((zsOf x).getD D z0)) → Calls Try.prog 64 #[.pointer (some ⟨N, 0, none⟩), .complex .f64 p q] (wr.drewN nn) fun e w' => (∃ v, e = .returned v) ∧
            ∃ a' b', SumAt w' N a' b' (decide (lo < k + 1)) ∧ IsC (a', b') (cvSum (zsOf x) (zsOf h) n (k + 1 - lo)) ∧ Below w.heap.size w w') := fun p q nn hpq => by
          have hterm : cvTerm (zsOf x) (zsOf h) n (k - lo) = mulZ ((zsOf h).getD k z0) ((zsOf x).getD D z0) := by
            unfold cvTerm
            rw [zsOf_length, HXL.out, HLO.out, show lo + (k - lo) = k by omega, hD]
          refine (add_spec N a b p q (decide (lo < k)) _ _ (fun h => HC.out (of_decide_eq_true h)) hpq (wr.drewN nn) (HS.out.drewN nn)).mono ?_
          rintro e w' ⟨hv, a', b', hs', hc', hg'⟩
          refine ⟨hv, a', b', by rw [decide_eq_true (by omega)]; exact hs', ?_, (below_draws HB.out nn).grown hg' HB.out.size (fun j e => by cases e; rw [HN.out]; exact Nat.le_refl _)⟩
          by_cases hlk : lo < k
          · rw [decide_eq_true hlk, if_pos rfl] at hc'
            rw [show k + 1 - lo = (k - lo) + 1 by omega, cvSum_succ _ _ _ (by omega), hterm]
            exact hc'
          · rw [decide_eq_false hlk] at hc'
            obtain rfl : k = lo := by omega
            rw [show k + 1 - k = 1 by omega, cvSum_one, show 0 = k - k by omega, hterm]
            simpa using hc'
        have c2' : wr.drew.cell? ⟨ga, oa + k, none⟩ = some (.complex .f64 r s) := k2
        have c3' : wr.drew.cell? ⟨gx, ox + D, none⟩ = some (.complex .f64 t u) := k3
        have hgaN : ga < w.heap.size := hga
        have hgxN : gx < w.heap.size := hgx
        have HKK := Lib.hid (fun W (hW : Below w.heap.size w W) => (show W.cell? ⟨ga, oa + k, none⟩ = some (.complex .f64 r s) ∧ W.cell? ⟨gx, ox + D, none⟩ = some (.complex .f64 t u) from
          ⟨by rw [hW.cell hgaN, ← HB.out.cell hgaN]; exact k2, by rw [hW.cell hgxN, ← HB.out.cell hgxN]; exact k3⟩))
        have hmxa := maxLen_int (Nat.le_trans hca hcma)
        have hmxx := maxLen_int (Nat.le_trans hcx hcmx)
        clear hza hzy hq1 hq2 k2 k3 hD
        go_wp2_with fail
        have y0 : IntKind.i64.wrap (D : Int) = (D : Int) := IntWalk.i64_in _ (by omega)
        have y2' : IntKind.i64.wrap ((n : Int) - (k : Int)) = (D : Int) := by rw [hDi]; exact y0
        have y3' : (D : Int) < (L : Int) := by omega
        go_region_held3 (fun w' => w'.cell? ⟨ga, oa + k, none⟩ = some (.complex .f64 r s) ∧ w'.cell? ⟨gx, ox + D, none⟩ = some (.complex .f64 t u))
          (first | exact ⟨c2', c3'⟩ | exact HKK.out _ HB4.out | go_keep)
          (first
            | (go_at_call 28; refine (HMUL.out _).mono ?_; rintro e w3 ⟨x1, y1, rfl, hx1, hy1, nn, rfl⟩; have HXY : Hid (IsC (x1, y1) (mulZ ((zsOf h).getD k z0) ((zsOf x).getD D z0))) := ⟨hx1, hy1⟩; clear hx1 hy1)
            | (go_at_call 64; with_reducible refine (HADD.out _ _ (1 + nn) HXY.out).mono ?_; rintro e w4 ⟨⟨v, rfl⟩, a', b', hs', hc', hB'⟩; have HB4 := Lib.hid hB'; have HS4 := Lib.hid hs'; have HC4 := Lib.hid hc'; clear hB' hs' hc'))
        all_goals
          go_wp2
          go_roundw
          case rel => exact ⟨k + 1, a', b', by go_num, by omega, HS4.out, fun _ => HC4.out, fun h => absurd (show lo < k + 1 by omega) h, HB4.out⟩
          case measure => simp [intOf]; omega
      · have g3 : decide (D < L) = false := decide_eq_false hin
        clear hD
        go_wp2
        go_roundw
        case rel => exact ⟨k + 1, a, b, by go_num, by omega, by rw [decide_eq_false (by omega)]; have := HS.out; rwa [decide_eq_false (by omega)] at this, fun h => by omega, fun _ => HCZ.out (by omega), HB.out⟩
        case measure => simp [intOf]; omega
    · have hkk : k = min M (n + 1) := by omega
      have HFin : Hid ((0 < cvCnt L M n → IsC (a, b) (cvAt (zsOf x) (zsOf h) n)) ∧ a < 18446744073709551616 ∧ b < 18446744073709551616) := by
        refine ⟨fun h0 => ?_, ?_⟩
        · have : cvCnt L M n = k - lo := by unfold cvCnt; omega
          unfold cvAt
          rw [zsOf_length, zsOf_length, HXL.out, HAL.out, this]
          exact HC.out (by omega)
        · by_cases hl : lo < k
          · exact ⟨(HC.out hl).re.lt, (HC.out hl).im.lt⟩
          · obtain ⟨rfl, rfl⟩ := HCZ.out hl; omega
      have d0 := HS.out.c0
      clear hkk
      by_cases hc : k < M
      · have g1 : decide (k < M) = true := decide_eq_true hc
        have g2 : decide (k ≤ n) = false := decide_eq_false (by omega)
        go_wp2
        go_ret
        exact ⟨a, b, rfl, HFin.out.1, HFin.out.2.1, HFin.out.2.2, HB.out⟩
      · have g1 : decide (k < M) = false := decide_eq_false hc
        go_wp2
        go_ret
        exact ⟨a, b, rfl, HFin.out.1, HFin.out.2.1, HFin.out.2.2, HB.out⟩

/-- The first numbers of a convolution. -/
def cvFirst (x h : List Z) (n : Nat) : List Z := (List.range n).map (cvAt x h)
theorem cvFirst_succ (x h : List Z) (n : Nat) : cvFirst x h (n + 1) = cvFirst x h n ++ [cvAt x h n] := by simp [cvFirst, List.range_succ]
theorem cvFirst_length (x h : List Z) (n : Nat) : (cvFirst x h n).length = n := by simp [cvFirst]

set_option maxRecDepth 100000 in
set_option maxHeartbeats 4000000 in
theorem cvConv_spec (x h : List C) (v1 v2 : Value) (hx : x.length ≤ 1000) (hh : h.length ≤ 1000) (hwx : WfC x) (hwh : WfC h) (w : World) (hrx : RdO w.heap.size w v1 x) (hrh : RdO w.heap.size w v2 h) :
    Calls Try.prog 39 #[v1, v2] w fun e w' =>
      ∃ v ps, e = .returned v ∧ Row w' w.heap.size 32 v (cvals ps) ∧ IsCs ps (cvAll (zsOf x) (zsOf h)) ∧ Below w.heap.size w w' := by
  obtain ⟨i0, hi, hz0, hz1, hz2⟩ := info_parts info_c128
  have HRX := Lib.hid hrx
  have HRH := Lib.hid hrh
  obtain ⟨a1, c1, e1, -, -, -⟩ := hrx.find
  obtain ⟨a2, c2, e2, -, -, -⟩ := hrh.find
  subst e1
  subst e2
  clear hrx hrh
  have HLen := Lib.hid (fun w => cvLength_spec x.length h.length (by omega) (by omega) w)
  have HAT : Hid (∀ (n : Nat), n < cvLen x.length h.length → ∀ w1, Below w.heap.size w w1 → Calls Try.prog 56 #[.slice a1 x.length c1, .slice a2 h.length c2, .int .i64 n] w1 fun e w' => ∃ a b, e = .returned (.complex .f64 a b) ∧ IsC (a, b) (cvAt (zsOf x) (zsOf h) n) ∧ Below w1.heap.size w1 w') := fun n hn w1 hb => by
    refine (cvAt_spec x h _ _ n hx hh (by have := cvLen_le x.length h.length; omega) hwx hwh w1 ((HRX.out.below hb).base hb.size) ((HRH.out.below hb).base hb.size)).mono ?_
    rintro e w' ⟨a, b, rfl, hc, -, -, hB⟩
    exact ⟨a, b, rfl, hc (cvCnt_pos hn), hB⟩
  have HEND : Hid (cvAll (zsOf x) (zsOf h) = cvFirst (zsOf x) (zsOf h) (cvLen x.length h.length)) := by
    show cvAll _ _ = _
    unfold cvAll cvFirst
    rw [zsOf_length, zsOf_length]
  have hLle : cvLen x.length h.length ≤ 2000 := by have := cvLen_le x.length h.length; omega
  obtain ⟨T, hT⟩ : ∃ T, cvLen x.length h.length = T := ⟨_, rfl⟩
  rw [hT] at HLen HAT HEND hLle
  obtain ⟨L, hL⟩ : ∃ L, x.length = L := ⟨_, rfl⟩
  obtain ⟨M, hM⟩ : ∃ M, h.length = M := ⟨_, rfl⟩
  rw [hL] at hx HLen HAT ⊢
  rw [hM] at hh HLen HAT ⊢
  clear hL hM hT HRX HRH
  have HR0 : Hid (Row (w.alloc (.cells #[] 32)) w.heap.size 32 (.slice (some ⟨w.heap.size, 0, none⟩) 0 0) (cvals [])) := World.ownsRow_lit w #[] 0 (Nat.le_refl _) (by unfold maxLen; omega) rfl
  go_enter Try.func39, Try.ntmps39
  go_wp2
  go_loopw [5, 6] (fun v i wr => ∃ (m : Nat) (ps : List C), i = .int .i64 (m : Int) ∧ m ≤ T ∧ Row wr w.heap.size 32 v (cvals ps) ∧ IsCs ps (cvFirst (zsOf x) (zsOf h) m) ∧ Below w.heap.size w wr) (fun _ i _ => T - (intOf i).toNat)
  case atStart => exact ⟨0, [], rfl, Nat.zero_le _, HR0.out, IsCs.nil, (Below.refl _ _).alloc (Nat.le_refl _) _⟩
  case round =>
    clear HR0
    obtain ⟨m, ps, rfl, hmL, hrow, hps, hB⟩ := hrel
    obtain ⟨va, vc, rfl⟩ := hrow.written (n := m) (by rw [cvals_length, hps.1, cvFirst_length])
    have HROW := Lib.hid hrow
    have HPS := Lib.hid hps
    have HB := Lib.hid hB
    have hpl : ps.length = m := by rw [hps.1, cvFirst_length]
    have HPL := Lib.hid hpl
    clear hrow hps hB hpl
    by_cases hlt : m < T
    · have g1 : decide (m < T) = true := decide_eq_true hlt
      go_wp2_with fail
      with_reducible refine (HLen.out _).mono ?_
      rintro e w' ⟨rfl, rfl⟩
      go_wp2_with fail
      with_reducible refine (HAT.out m hlt _ HB.out).mono ?_
      rintro e w2 ⟨p, q, rfl, hc, hb⟩
      have hB2 : Below w.heap.size w w2 := below_step HB.out hb HB.out.size
      have hR2 : Row w2 w.heap.size 32 (.slice va m vc) (cvals ps) := HROW.out.below hb (fun k e => (HROW.out.lt k e).2)
      have HFin : Hid (∀ (w1 : World) v' g cap tmp, v' = .slice (some ⟨g, 0, none⟩) (m + 1) cap → w1.ownsRow w.heap.size 32 1 v' (m + 1) (cvals ps ++ [.complex .f64 p q]) → (w2.alloc tmp).grownBy w1 (Value.slice va m vc).ownBlock →
          Row w1 w.heap.size 32 v' (cvals (ps ++ [(p, q)])) ∧ IsCs (ps ++ [(p, q)]) (cvFirst (zsOf x) (zsOf h) (m + 1)) ∧ Below w.heap.size w w1) := fun w1 v' g cap tmp hv' hown hgrow => by
        refine ⟨?_, ?_, (hB2.alloc hB2.size tmp).grown hgrow (by have := hB2.size; simp; omega) (fun k e => (hR2.lt k e).1)⟩
        · unfold Row
          rw [cvals_length, List.length_append, HPL.out, cvals_snoc]
          exact hown
        · rw [cvFirst_succ]
          exact HPS.out.snoc hc
      have hsz : w.heap.size ≤ w2.heap.size := hB2.size
      have HR := Lib.hid (show w2.ownsRow w.heap.size 32 1 (.slice va m vc) m (cvals ps) by
        have := hR2; unfold Row at this; rwa [cvals_length, HPL.out] at this)
      clear hB2 hR2 hb hc
      go_wp2_with (at_builtin; refine wpList_append_own _ rfl _ _ 24 rfl w.heap.size 32 i0 (.complex .f64 0 0) 1 16 Try.underlying24 hi hz0 hz1 hz2 rfl (by decide) _ _ _ rfl (HR.out.alloc _) ⟨w2.heap.size, 0, none⟩ 1 1 [.complex .f64 p q] rfl rfl (cell_one_new _ _ _) (by simp [Value.oneCell']) (by simp only [maxLen]; omega) (by omega) (by simp; omega) ?_; intro v' w1 hown' hgrow _; obtain ⟨g', cap', rfl⟩ := ownsRow_succ hown'; have Y3 := Lib.hid (HFin.out _ _ _ _ _ rfl hown' hgrow); clear hown' hgrow)
      go_roundw
      case rel => exact ⟨m + 1, ps ++ [(p, q)], by go_num, by omega, Y3.out.1, Y3.out.2.1, Y3.out.2.2⟩
      case measure => simp [intOf]; omega
    · obtain rfl : m = T := by omega
      have g1 : decide (m < m) = false := decide_eq_false (by omega)
      go_wp2_with fail
      with_reducible refine (HLen.out _).mono ?_
      rintro e w' ⟨rfl, rfl⟩
      go_wp2
      go_ret
      exact ⟨_, ps, rfl, HROW.out, by rw [HEND.out]; exact HPS.out, HB.out⟩

theorem convolve_spec (x h : List C) (v1 v2 : Value) (hx : x.length ≤ 256) (hh : h.length ≤ 256) (hl : cvLen x.length h.length ≤ 256) (hwx : WfC x) (hwh : WfC h) (w : World) (hrx : RdO w.heap.size w v1 x) (hrh : RdO w.heap.size w v2 h) :
    Calls Try.prog 18 #[v1, v2] w fun e w' =>
      ∃ v ps, e = .returned (.tuple #[v, .int .i64 0]) ∧ Row w' w.heap.size 32 v (cvals ps) ∧ IsCs ps (cvAll (zsOf x) (zsOf h)) ∧ Below w.heap.size w w' := by
  have K1 := Lib.hid (cvLong_spec x.length h.length hx hh hl w)
  have K2 := Lib.hid (cvConv_spec x h v1 v2 (by omega) (by omega) hwx hwh w hrx hrh)
  obtain ⟨a1, c1, e1, -, -, -⟩ := hrx.find
  obtain ⟨a2, c2, e2, -, -, -⟩ := hrh.find
  subst e1
  subst e2
  clear hrx hrh
  go_enter Try.func18, Try.ntmps18
  go_wp2_with fail
  with_reducible refine K1.out.mono ?_
  rintro e w' ⟨rfl, rfl⟩
  go_wp2_with fail
  with_reducible refine K2.out.mono ?_
  rintro e w1 ⟨v, ps, rfl, hr, hf, hb⟩
  obtain ⟨va, vc, rfl⟩ := hr.written rfl
  have HE := Lib.hid (And.intro hr (And.intro hf hb))
  clear hr hf hb
  go_wp2
  go_ret2
  exact ⟨_, ps, rfl, HE.out.1, HE.out.2.1, HE.out.2.2⟩

end Go.Proofs.Ytnbmbegjpkebmaa
