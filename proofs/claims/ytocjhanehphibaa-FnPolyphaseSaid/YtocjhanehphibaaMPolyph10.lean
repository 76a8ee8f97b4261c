/-
  Several texts of this claim, one behind the other; each says what it holds.
-/
import Derived.Test.YtocjhanehphibaaMPolyph9
import Derived.Deep.RegionHeld3
import Derived.Laws.CopyOwn
/-
  Convolve of the model.
-/
set_option linter.unusedVariables false
set_option linter.unusedSimpArgs false
namespace Go.Proofs.Ytocjhanehphibaa
open Go.RowKit Flt Fast
attribute [local go_sem] run_fadd run_fsub run_fmul run_fquo run_cadd run_csub

theorem cvLength_spec (a b : Nat) (ha : a ≤ 1000000) (hb : b ≤ 1000000) (w : World) :
    Calls Try.prog 41 #[.int .i64 a, .int .i64 b] w fun e w' => e = .returned (.int .i64 (cvLen a b)) ∧ w' = w := by
  by_cases hz : a = 0
  · subst hz
    rw [cvLen_nil]
    go_enter Try.func41, Try.ntmps41
    go_wp2
    go_ret
    exact ⟨rfl, rfl⟩
  · have g1 : ((a : Int) == 0) = false := by simp; omega
    by_cases hy : b = 0
    · subst hy
      rw [cvLen_nil']
      go_enter Try.func41, Try.ntmps41
      go_wp2
      go_ret
      exact ⟨rfl, rfl⟩
    · have g2 : ((b : Int) == 0) = false := by simp; omega
      obtain ⟨L, hL⟩ : ∃ L, cvLen a b = L := ⟨_, rfl⟩
      have hL2 : ((a : Int) + b - 1) = (L : Int) := by rw [← hL, cvLen_pos hz hy]; omega
      rw [hL]
      have HL := Lib.hid hL2
      clear hL hL2
      go_enter Try.func41, Try.ntmps41
      go_wp2
      go_ret
      exact ⟨by rw [HL.out]; rfl, rfl⟩

theorem cvLong_spec (a b : Nat) (ha : a ≤ 256) (hb : b ≤ 256) (hl : cvLen a b ≤ 256) (w : World) :
    Calls Try.prog 36 #[.int .i64 a, .int .i64 b] w fun e w' => e = .returned (.bool false) ∧ w' = w := by
  have K := Lib.hid (fun w => cvLength_spec a b (by omega) (by omega) w)
  obtain ⟨L, hL⟩ : ∃ L, cvLen a b = L := ⟨_, rfl⟩
  rw [hL] at K hl
  clear hL
  have g1 : decide ((256 : Int) < (a : Int)) = false := decide_eq_false (by omega)
  have g2 : decide ((256 : Int) < (b : Int)) = false := decide_eq_false (by omega)
  have g3 : decide ((256 : Int) < (L : Int)) = false := decide_eq_false (by omega)
  go_enter Try.func36, Try.ntmps36
  go_wp2_with (go_at_call 41; refine (K.out _).mono ?_; rintro e w' ⟨rfl, rfl⟩)
  go_ret
  exact ⟨rfl, rfl⟩

/-- The block of a sum that has begun or not. -/
def SumAt (w : World) (B : Nat) (a b : Nat) (g : Bool) : Prop := w.heap[B]? = some (.cells #[.complex .f64 a b, .bool g] 105 (0, 0))
theorem SumAt.c0 {w : World} {B a b : Nat} {g : Bool} (h : SumAt w B a b g) : w.cell? ⟨B, 0, none⟩ = some (.complex .f64 a b) := cell_of_heap h rfl
theorem SumAt.c1 {w : World} {B a b : Nat} {g : Bool} (h : SumAt w B a b g) : w.cell? ⟨B, 1, none⟩ = some (.bool g) := cell_of_heap h rfl
theorem SumAt.fr {w : World} {B a b : Nat} {g : Bool} (h : SumAt w B a b g) (k : Nat) : w.frozen? ⟨B, k, none⟩ = false := by
  have h' : w.heap[B]? = _ := h
  simp [World.frozen?, h']
theorem SumAt.drewN {w : World} {B a b : Nat} {g : Bool} (h : SumAt w B a b g) (n : Nat) : SumAt (w.drewN n) B a b g := h
theorem SumAt.set0 {w : World} {B a b : Nat} {g : Bool} (h : SumAt w B a b g) (a' b' : Nat) : SumAt (w.setCell ⟨B, 0, none⟩ (.complex .f64 a' b')) B a' b' g := by
  obtain ⟨hlt, hk⟩ := Array.getElem?_eq_some_iff.1 (show w.heap[B]? = _ from h)
  show (w.heap.modify B _)[B]? = _
  rw [Array.getElem?_eq_getElem (by rw [Array.size_modify]; exact hlt), Array.getElem_modify_self, hk]
  rfl
theorem SumAt.set1 {w : World} {B a b : Nat} {g : Bool} (h : SumAt w B a b g) (g' : Bool) : SumAt (w.setCell ⟨B, 1, none⟩ (.bool g')) B a b g' := by
  obtain ⟨hlt, hk⟩ := Array.getElem?_eq_some_iff.1 (show w.heap[B]? = _ from h)
  show (w.heap.modify B _)[B]? = _
  rw [Array.getElem?_eq_getElem (by rw [Array.size_modify]; exact hlt), Array.getElem_modify_self, hk]
  rfl
theorem grown_set (W : World) (b o : Nat) (v : Value) : W.grownBy (W.setCell ⟨b, o, none⟩ v) (some b) :=
  ⟨rfl, rfl, rfl, (KeepsWalks.setCell W _ v).size, fun k _ hk => Below.heap_setCell _ _ _ k (fun e => hk (by rw [e]))⟩
theorem grown_drew (W : World) (n : Nat) (row : Option Nat) : W.grownBy (W.drewN n) row := ⟨rfl, rfl, rfl, Nat.le_refl _, fun _ _ _ => rfl⟩

set_option maxRecDepth 100000 in
set_option maxHeartbeats 4000000 in
theorem add_spec (B a b p q : Nat) (g : Bool) (za zp : Z) (hab : g = true → IsC (a, b) za) (hp : IsC (p, q) zp) (w : World) (h : SumAt w B a b g) :
    Calls Try.prog 84 #[.pointer (some ⟨B, 0, none⟩), .complex .f64 p q] w fun e w' => (∃ v, e = .returned v) ∧ ∃ a' b', SumAt w' B a' b' true ∧ IsC (a', b') (if g then addZ za zp else zp) ∧ w.grownBy w' (some B) := by
  have d0 := h.c0
  have d1 := h.c1
  have f0 := h.fr 0
  have f1 := h.fr 1
  have H := Lib.hid h
  have HP := Lib.hid hp
  clear h hp
  cases g with
  | true =>
    have HA := Lib.hid (hab rfl)
    clear hab
    go_enter Try.func84, Try.ntmps84
    go_wp2
    go_end0
    exact ⟨⟨_, rfl⟩, _, _, (H.out.drewN _).set0 _ _, ⟨isF_fres HA.out.re HP.out.re _, isF_fres HA.out.im HP.out.im _⟩, (grown_drew w _ _).trans (grown_set _ B 0 _)⟩
  | false =>
    clear hab
    go_enter Try.func84, Try.ntmps84
    go_wp2
    go_end0
    exact ⟨⟨_, rfl⟩, p, q, (H.out.set0 p q).set1 true, by simpa using HP.out, (grown_set w B 0 _).trans (grown_set _ B 1 _)⟩

set_option maxRecDepth 100000 in
set_option maxHeartbeats 4000000 in
theorem cvAt_spec (x h : List C) (v1 v2 : Value) (n : Nat) (hx : x.length ≤ 1000) (hh : h.length ≤ 1000) (hn : n ≤ 2000) (hwx : WfC x) (hwh : WfC h) (w : World) (hrx : RdO w.heap.size w v1 x) (hrh : RdO w.heap.size w v2 h) :
    Calls Try.prog 66 #[v1, v2, .int .i64 n] w fun e w' => ∃ a b, e = .returned (.complex .f64 a b) ∧ (0 < cvCnt x.length h.length n → IsC (a, b) (cvAt (zsOf x) (zsOf h) n)) ∧ a < 18446744073709551616 ∧ b < 18446744073709551616 ∧ Below w.heap.size w w' := by
  have HRX := Lib.hid hrx
  have HRH := Lib.hid hrh
  obtain ⟨a1, c1, e1, -, -, -⟩ := hrx.find
  obtain ⟨a2, c2, e2, -, -, -⟩ := hrh.find
  subst e1
  subst e2
  clear hrx hrh
  obtain ⟨L, hL⟩ : ∃ L, x.length = L := ⟨_, rfl⟩
  obtain ⟨M, hM⟩ : ∃ M, h.length = M := ⟨_, rfl⟩
  rw [hL] at hx HRX ⊢
  rw [hM] at hh HRH ⊢
  have HXL := Lib.hid hL
  have HAL := Lib.hid hM
  obtain ⟨lo, hlo⟩ : ∃ k, cvLo L n = k := ⟨_, rfl⟩
  have hlo' : lo = n + 1 - L := by rw [← hlo]; rfl
  have HLO := Lib.hid hlo
  clear hL hM hlo
  obtain ⟨N, hN⟩ : ∃ N, w.heap.size = N := ⟨_, rfl⟩
  have hnew : SumAt (w.alloc (.cells #[.complex .f64 0 0, .bool false] 105)) N 0 0 false := by rw [← hN]; exact World.alloc_heap_new w _
  have HNEW := Lib.hid hnew
  have HN := Lib.hid hN
  clear hnew
  go_enter Try.func66, Try.ntmps66
  go_wp2
  go_loopw [8] (fun i wr => ∃ (k a b : Nat), i = .int .i64 (k : Int) ∧ k ≤ min M (n + 1) ∧ SumAt wr N a b (decide (lo < k)) ∧ (lo < k → IsC (a, b) (cvSum (zsOf x) (zsOf h) n (k - lo))) ∧ (¬ lo < k → a = 0 ∧ b = 0) ∧ Below w.heap.size w wr) (fun i _ => min M (n + 1) - (intOf i).toNat)
  case atStart => exact ⟨0, 0, 0, rfl, Nat.zero_le _, by rw [decide_eq_false (by omega)]; exact HNEW.out, fun h => by omega, fun _ => ⟨rfl, rfl⟩, (Below.refl _ _).alloc (Nat.le_refl _) _⟩
  case round =>
    clear HNEW
    obtain ⟨k, a, b, rfl, hk, hs, hc, hcz, hB⟩ := hrel
    have HS := Lib.hid hs
    have HC := Lib.hid hc
    have HCZ := Lib.hid hcz
    have HB := Lib.hid hB
    clear hs hc hcz hB
    by_cases hlt : k < min M (n + 1)
    · have g1 : decide (k < M) = true := decide_eq_true (by omega)
      have g2 : decide (k ≤ n) = true := decide_eq_true (by omega)
      obtain ⟨D, hD⟩ : ∃ D, n - k = D := ⟨_, rfl⟩
      have hDi : (n : Int) - (k : Int) = (D : Int) := by omega
      by_cases hin : D < L
      · have g3 : decide (D < L) = true := decide_eq_true hin
        have hkM : k < M := by omega
        obtain ⟨ga, oa, rfl, hga, hca, hcma, k2⟩ := (HRH.out.below HB.out).at hkM
        obtain ⟨gx, ox, rfl, hgx, hcx, hcmx, k3⟩ := (HRX.out.below HB.out).at hin
        obtain ⟨⟨r, s⟩, hq1⟩ : ∃ z, h.getD k (0, 0) = z := ⟨_, rfl⟩
        obtain ⟨⟨t, u⟩, hq2⟩ : ∃ z, x.getD D (0, 0) = z := ⟨_, rfl⟩
        rw [hq1] at k2
        rw [hq2] at k3
        have hza : IsC (r, s) ((zsOf h).getD k z0) := by rw [← hq1]; exact isC_getD hwh (by rw [HAL.out]; exact hkM)
        have hzy : IsC (t, u) ((zsOf x).getD D z0) := by rw [← hq2]; exact isC_getD hwx (by rw [HXL.out]; exact hin)
        have HMUL := Lib.hid (fun w => mul_spec r s t u _ _ hza hzy w)
        have HADD : Hid (∀ (p q nn : Nat), IsC (p, q) (mulZ ((zsOf h).getD k z0) ((zsOf x).getD D z0)) → Calls Try.prog 84 #[.pointer (some ⟨N, 0, none⟩), .complex .f64 p q] (wr.drewN nn) fun e w' => (∃ v, e = .returned v) ∧
            ∃ a' b', SumAt w' N a' b' (decide (lo < k + 1)) ∧ IsC (a', b') (cvSum (zsOf x) (zsOf h) n (k + 1 - lo)) ∧ Below w.heap.size w w') := fun p q nn hpq => by
          have hterm : cvTerm (zsOf x) (zsOf h) n (k - lo) = mulZ ((zsOf h).getD k z0) ((zsOf x).getD D z0) := by
            unfold cvTerm
            rw [zsOf_length, HXL.out, HLO.out, show lo + (k - lo) = k by omega, hD]
          refine (add_spec N a b p q (decide (lo < k)) _ _ (fun h => HC.out (of_decide_eq_true h)) hpq (wr.drewN nn) (HS.out.drewN nn)).mono ?_
          rintro e w' ⟨hv, a', b', hs', hc', hg'⟩
          refine ⟨hv, a', b', by rw [decide_eq_true (by omega)]; exact hs', ?_, (below_draws HB.out nn).grown hg' HB.out.size (fun j e => by cases e; rw [HN.out]; exact Nat.le_refl _)⟩
          by_cases hlk : lo < k
          · rw [decide_eq_true hlk, if_pos rfl] at hc'
            rw [show k + 1 - lo = (k - lo) + 1 by omega, cvSum_succ _ _ _ (by omega), hterm]
            exact hc'
          · rw [decide_eq_false hlk] at hc'
            obtain rfl : k = lo := by omega
            rw [show k + 1 - k = 1 by omega, cvSum_one, show 0 = k - k by omega, hterm]
            simpa using hc'
        have c2' : wr.drew.cell? ⟨ga, oa + k, none⟩ = some (.complex .f64 r s) := k2
        have c3' : wr.drew.cell? ⟨gx, ox + D, none⟩ = some (.complex .f64 t u) := k3
        have hgaN : ga < w.heap.size := hga
        have hgxN : gx < w.heap.size := hgx
        have HKK := Lib.hid (fun W (hW : Below w.heap.size w W) => (show W.cell? ⟨ga, oa + k, none⟩ = some (.complex .f64 r s) ∧ W.cell? ⟨gx, ox + D, none⟩ = some (.complex .f64 t u) from
          ⟨by rw [hW.cell hgaN, ← HB.out.cell hgaN]; exact k2, by rw [hW.cell hgxN, ← HB.out.cell hgxN]; exact k3⟩))
        have hmxa := maxLen_int (Nat.le_trans hca hcma)
        have hmxx := maxLen_int (Nat.le_trans hcx hcmx)
        clear hza hzy hq1 hq2 k2 k3 hD
        go_wp2_with fail
        have y0 : IntKind.i64.wrap (D : Int) = (D : Int) := IntWalk.i64_in _ (by omega)
        have y2' : IntKind.i64.wrap ((n : Int) - (k : Int)) = (D : Int) := by rw [hDi]; exact y0
        have y3' : (D : Int) < (L : Int) := by omega
        go_region_held3 (fun w' => w'.cell? ⟨ga, oa + k, none⟩ = some (.complex .f64 r s) ∧ w'.cell? ⟨gx, ox + D, none⟩ = some (.complex .f64 t u))
          (first | exact ⟨c2', c3'⟩ | exact HKK.out _ HB4.out | go_keep)
          (first
            | (go_at_call 71; refine (HMUL.out _).mono ?_; rintro e w3 ⟨x1, y1, rfl, hx1, hy1, nn, rfl⟩; have HXY : Hid (IsC (x1, y1) (mulZ ((zsOf h).getD k z0) ((zsOf x).getD D z0))) := ⟨hx1, hy1⟩; clear hx1 hy1)
            | (go_at_call 84; with_reducible refine (HADD.out _ _ (1 + nn) HXY.out).mono ?_; rintro e w4 ⟨⟨v, rfl⟩, a', b', hs', hc', hB'⟩; have HB4 := Lib.hid hB'; have HS4 := Lib.hid hs'; have HC4 := Lib.hid hc'; clear hB' hs' hc'))
        all_goals
          go_wp2
          go_roundw
          case rel => exact ⟨k + 1, a', b', by go_num, by omega, HS4.out, fun _ => HC4.out, fun h => absurd (show lo < k + 1 by omega) h, HB4.out⟩
          case measure => simp [intOf]; omega
      · have g3 : decide (D < L) = false := decide_eq_false hin
        clear hD
        go_wp2
        go_roundw
        case rel => exact ⟨k + 1, a, b, by go_num, by omega, by rw [decide_eq_false (by omega)]; have := HS.out; rwa [decide_eq_false (by omega)] at this, fun h => by omega, fun _ => HCZ.out (by omega), HB.out⟩
        case measure => simp [intOf]; omega
    · have hkk : k = min M (n + 1) := by omega
      have HFin : Hid ((0 < cvCnt L M n → IsC (a, b) (cvAt (zsOf x) (zsOf h) n)) ∧ a < 18446744073709551616 ∧ b < 18446744073709551616) := by
        refine ⟨fun h0 => ?_, ?_⟩
        · have : cvCnt L M n = k - lo := by unfold cvCnt; omega
          unfold cvAt
          rw [zsOf_length, zsOf_length, HXL.out, HAL.out, this]
          exact HC.out (by omega)
        · by_cases hl : lo < k
          · exact ⟨(HC.out hl).re.lt, (HC.out hl).im.lt⟩
          · obtain ⟨rfl, rfl⟩ := HCZ.out hl; omega
      have d0 := HS.out.c0
      clear hkk
      by_cases hc : k < M
      · have g1 : decide (k < M) = true := decide_eq_true hc
        have g2 : decide (k ≤ n) = false := decide_eq_false (by omega)
        go_wp2
        go_ret
        exact ⟨a, b, rfl, HFin.out.1, HFin.out.2.1, HFin.out.2.2, HB.out⟩
      · have g1 : decide (k < M) = false := decide_eq_false hc
        go_wp2
        go_ret
        exact ⟨a, b, rfl, HFin.out.1, HFin.out.2.1, HFin.out.2.2, HB.out⟩

/-- The first numbers of a convolution. -/
def cvFirst (x h : List Z) (n : Nat) : List Z := (List.range n).map (cvAt x h)
theorem cvFirst_succ (x h : List Z) (n : Nat) : cvFirst x h (n + 1) = cvFirst x h n ++ [cvAt x h n] := by simp [cvFirst, List.range_succ]
theorem cvFirst_length (x h : List Z) (n : Nat) : (cvFirst x h n).length = n := by simp [cvFirst]

set_option maxRecDepth 100000 in
set_option maxHeartbeats 4000000 in
theorem cvConv_spec (x h : List C) (v1 v2 : Value) (hx : x.length ≤ 1000) (hh : h.length ≤ 1000) (hwx : WfC x) (hwh : WfC h) (w : World) (hrx : RdO w.heap.size w v1 x) (hrh : RdO w.heap.size w v2 h) :
    Calls Try.prog 37 #[v1, v2] w fun e w' =>
      ∃ v ps, e = .returned v ∧ Row w' w.heap.size 30 v (cvals ps) ∧ IsCs ps (cvAll (zsOf x) (zsOf h)) ∧ Below w.heap.size w w' := by
  obtain ⟨i0, hi, hz0, hz1, hz2⟩ := info_parts info_c128
  have HRX := Lib.hid hrx
  have HRH := Lib.hid hrh
  obtain ⟨a1, c1, e1, -, -, -⟩ := hrx.find
  obtain ⟨a2, c2, e2, -, -, -⟩ := hrh.find
  subst e1
  subst e2
  clear hrx hrh
  have HLen := Lib.hid (fun w => cvLength_spec x.length h.length (by omega) (by omega) w)
  have HAT : Hid (∀ (n : Nat), n < cvLen x.length h.length → ∀ w1, Below w.heap.size w w1 → Calls Try.prog 66 #[.slice a1 x.length c1, .slice a2 h.length c2, .int .i64 n] w1 fun e w' => ∃ a b, e = .returned (.complex .f64 a b) ∧ IsC (a, b) (cvAt (zsOf x) (zsOf h) n) ∧ Below w1.heap.size w1 w') := fun n hn w1 hb => by
    refine (cvAt_spec x h _ _ n hx hh (by have := cvLen_le x.length h.length; omega) hwx hwh w1 ((HRX.out.below hb).base hb.size) ((HRH.out.below hb).base hb.size)).mono ?_
    rintro e w' ⟨a, b, rfl, hc, -, -, hB⟩
    exact ⟨a, b, rfl, hc (cvCnt_pos hn), hB⟩
  have HEND : Hid (cvAll (zsOf x) (zsOf h) = cvFirst (zsOf x) (zsOf h) (cvLen x.length h.length)) := by
    show cvAll _ _ = _
    unfold cvAll cvFirst
    rw [zsOf_length, zsOf_length]
  have hLle : cvLen x.length h.length ≤ 2000 := by have := cvLen_le x.length h.length; omega
  obtain ⟨T, hT⟩ : ∃ T, cvLen x.length h.length = T := ⟨_, rfl⟩
  rw [hT] at HLen HAT HEND hLle
  obtain ⟨L, hL⟩ : ∃ L, x.length = L := ⟨_, rfl⟩
  obtain ⟨M, hM⟩ : ∃ M, h.length = M := ⟨_, rfl⟩
  rw [hL] at hx HLen HAT ⊢
  rw [hM] at hh HLen HAT ⊢
  clear hL hM hT HRX HRH
  have HR0 : Hid (Row (w.alloc (.cells #[] 30)) w.heap.size 30 (.slice (some ⟨w.heap.size, 0, none⟩) 0 0) (cvals [])) := World.ownsRow_lit w #[] 0 (Nat.le_refl _) (by unfold maxLen; omega) rfl
  go_enter Try.func37, Try.ntmps37
  go_wp2
  go_loopw [5, 6] (fun v i wr => ∃ (m : Nat) (ps : List C), i = .int .i64 (m : Int) ∧ m ≤ T ∧ Row wr w.heap.size 30 v (cvals ps) ∧ IsCs ps (cvFirst (zsOf x) (zsOf h) m) ∧ Below w.heap.size w wr) (fun _ i _ => T - (intOf i).toNat)
  case atStart => exact ⟨0, [], rfl, Nat.zero_le _, HR0.out, IsCs.nil, (Below.refl _ _).alloc (Nat.le_refl _) _⟩
  case round =>
    clear HR0
    obtain ⟨m, ps, rfl, hmL, hrow, hps, hB⟩ := hrel
    obtain ⟨va, vc, rfl⟩ := hrow.written (n := m) (by rw [cvals_length, hps.1, cvFirst_length])
    have HROW := Lib.hid hrow
    have HPS := Lib.hid hps
    have HB := Lib.hid hB
    have hpl : ps.length = m := by rw [hps.1, cvFirst_length]
    have HPL := Lib.hid hpl
    clear hrow hps hB hpl
    by_cases hlt : m < T
    · have g1 : decide (m < T) = true := decide_eq_true hlt
      go_wp2_with fail
      with_reducible refine (HLen.out _).mono ?_
      rintro e w' ⟨rfl, rfl⟩
      go_wp2_with fail
      with_reducible refine (HAT.out m hlt _ HB.out).mono ?_
      rintro e w2 ⟨p, q, rfl, hc, hb⟩
      have hB2 : Below w.heap.size w w2 := below_step HB.out hb HB.out.size
      have hR2 : Row w2 w.heap.size 30 (.slice va m vc) (cvals ps) := HROW.out.below hb (fun k e => (HROW.out.lt k e).2)
      have HFin : Hid (∀ (w1 : World) v' g cap tmp, v' = .slice (some ⟨g, 0, none⟩) (m + 1) cap → w1.ownsRow w.heap.size 30 1 v' (m + 1) (cvals ps ++ [.complex .f64 p q]) → (w2.alloc tmp).grownBy w1 (Value.slice va m vc).ownBlock →
          Row w1 w.heap.size 30 v' (cvals (ps ++ [(p, q)])) ∧ IsCs (ps ++ [(p, q)]) (cvFirst (zsOf x) (zsOf h) (m + 1)) ∧ Below w.heap.size w w1) := fun w1 v' g cap tmp hv' hown hgrow => by
        refine ⟨?_, ?_, (hB2.alloc hB2.size tmp).grown hgrow (by have := hB2.size; simp; omega) (fun k e => (hR2.lt k e).1)⟩
        · unfold Row
          rw [cvals_length, List.length_append, HPL.out, cvals_snoc]
          exact hown
        · rw [cvFirst_succ]
          exact HPS.out.snoc hc
      have hsz : w.heap.size ≤ w2.heap.size := hB2.size
      have HR := Lib.hid (show w2.ownsRow w.heap.size 30 1 (.slice va m vc) m (cvals ps) by
        have := hR2; unfold Row at this; rwa [cvals_length, HPL.out] at this)
      clear hB2 hR2 hb hc
      go_wp2_with (at_builtin; refine wpList_append_own _ rfl _ _ 24 rfl w.heap.size 30 i0 (.complex .f64 0 0) 1 16 Try.underlying24 hi hz0 hz1 hz2 rfl (by decide) _ _ _ rfl (HR.out.alloc _) ⟨w2.heap.size, 0, none⟩ 1 1 [.complex .f64 p q] rfl rfl (cell_one_new _ _ _) (by simp [Value.oneCell']) (by simp only [maxLen]; omega) (by omega) (by simp; omega) ?_; intro v' w1 hown' hgrow _; obtain ⟨g', cap', rfl⟩ := ownsRow_succ hown'; have Y3 := Lib.hid (HFin.out _ _ _ _ _ rfl hown' hgrow); clear hown' hgrow)
      go_roundw
      case rel => exact ⟨m + 1, ps ++ [(p, q)], by go_num, by omega, Y3.out.1, Y3.out.2.1, Y3.out.2.2⟩
      case measure => simp [intOf]; omega
    · obtain rfl : m = T := by omega
      have g1 : decide (m < m) = false := decide_eq_false (by omega)
      go_wp2_with fail
      with_reducible refine (HLen.out _).mono ?_
      rintro e w' ⟨rfl, rfl⟩
      go_wp2
      go_ret
      exact ⟨_, ps, rfl, HROW.out, by rw [HEND.out]; exact HPS.out, HB.out⟩

theorem convolve_spec (x h : List C) (v1 v2 : Value) (hx : x.length ≤ 256) (hh : h.length ≤ 256) (hl : cvLen x.length h.length ≤ 256) (hwx : WfC x) (hwh : WfC h) (w : World) (hrx : RdO w.heap.size w v1 x) (hrh : RdO w.heap.size w v2 h) :
    Calls Try.prog 10 #[v1, v2] w fun e w' =>
      ∃ v ps, e = .returned (.tuple #[v, .int .i64 0]) ∧ Row w' w.heap.size 30 v (cvals ps) ∧ IsCs ps (cvAll (zsOf x) (zsOf h)) ∧ Below w.heap.size w w' := by
  have K1 := Lib.hid (cvLong_spec x.length h.length hx hh hl w)
  have K2 := Lib.hid (cvConv_spec x h v1 v2 (by omega) (by omega) hwx hwh w hrx hrh)
  obtain ⟨a1, c1, e1, -, -, -⟩ := hrx.find
  obtain ⟨a2, c2, e2, -, -, -⟩ := hrh.find
  subst e1
  subst e2
  clear hrx hrh
  go_enter Try.func10, Try.ntmps10
  go_wp2_with fail
  with_reducible refine K1.out.mono ?_
  rintro e w' ⟨rfl, rfl⟩
  go_wp2_with fail
  with_reducible refine K2.out.mono ?_
  rintro e w1 ⟨v, ps, rfl, hr, hf, hb⟩
  obtain ⟨va, vc, rfl⟩ := hr.written rfl
  have HE := Lib.hid (And.intro hr (And.intro hf hb))
  clear hr hf hb
  go_wp2
  go_ret2
  exact ⟨_, ps, rfl, HE.out.1, HE.out.2.1, HE.out.2.2⟩

end Go.Proofs.Ytocjhanehphibaa
/-
  An adder's tail and what it has told are the sums of all blocks: pure facts.
-/
set_option linter.unusedVariables false
set_option linter.unusedSimpArgs false
namespace Go.Proofs.Ytocjhanehphibaa
open Go.RowKit Flt Fast

section
variable {Y : Type} (add : Y → Y → Y) (d : Y)
theorem addAt_app (A X : List Y) (m : Nat) (p : Y) : addAt add d (A ++ X) (A.length + m) p = A ++ addAt add d X m p := by
  by_cases h : m < X.length
  · rw [addAt_lt add d (by simp; omega), addAt_lt add d h, List.set_append_right _ _ (by omega), Nat.add_sub_cancel_left]
    congr 3
    simp [List.getD, List.getElem?_append_right]
  · rw [addAt_ge add d (by simp; omega), addAt_ge add d h, List.append_assoc]
theorem addBlk_split {zs : List Y} {f : Nat} (q : Nat → Y) (hf : f ≤ zs.length) (m : Nat) : addBlk add d zs f q m = zs.take f ++ addBlk add d (zs.drop f) 0 q m := by
  have hl : (zs.take f).length = f := by simp; omega
  induction m with
  | zero => simp [addBlk]
  | succ m ih =>
    rw [addBlk, ih, addBlk, Nat.zero_add]
    have := addAt_app add d (zs.take f) (addBlk add d (zs.drop f) 0 q m) m (q m)
    rw [hl] at this
    exact this
theorem addBlk_list (T : List Y) (m : Nat) (hm : m ≤ T.length) : addBlk add d [] 0 (fun i => T.getD i d) m = T.take m := by
  induction m with
  | zero => simp [addBlk]
  | succ m ih =>
    rw [addBlk, ih (by omega), addAt_ge add d (by simp; omega), List.take_add_one]
    have : m < T.length := by omega
    simp [List.getD, this]
theorem addBlk_ext (zs : List Y) (f : Nat) (q q' : Nat → Y) (m : Nat) (h : ∀ i, i < m → q i = q' i) : addBlk add d zs f q m = addBlk add d zs f q' m := by
  induction m with
  | zero => rfl
  | succ m ih => rw [addBlk, addBlk, ih (fun i hi => h i (by omega)), h m (by omega)]
end

/-- What has been told after b blocks, and what is left. -/
def toldL (q : Nat → Nat → Z) (n h b : Nat) : List Z := (ovlL q n h b).take (b * h)
def tailL (q : Nat → Nat → Z) (n h b : Nat) : List Z := (ovlL q n h b).drop (b * h)
/-- The sums of a tail and a block. -/
def stepL (T : List Z) (q : Nat → Z) (n : Nat) : List Z := addBlk addZ z0 T 0 q n

theorem told_tail (q : Nat → Nat → Z) (n h b : Nat) : toldL q n h b ++ tailL q n h b = ovlL q n h b := List.take_append_drop _ _
theorem toldL_len (q : Nat → Nat → Z) {n h : Nat} (hh : h ≤ n) (b : Nat) : (toldL q n h b).length = b * h := by
  unfold toldL
  rw [List.length_take]
  have : b * h ≤ (ovlL q n h b).length := addAll_le _ _ _ _ _ hh b
  omega
theorem tailL_zero (q : Nat → Nat → Z) (n h : Nat) : tailL q n h 0 = [] := by simp [tailL, ovlL, addAll]
theorem tailL_len (q : Nat → Nat → Z) {n h : Nat} (hh : h ≤ n) (b : Nat) : (tailL q n h (b + 1)).length = n - h := by
  have e : (ovlL q n h (b + 1)).length = b * h + n := addAll_len _ _ _ _ _ hh b
  unfold tailL
  rw [List.length_drop, e, Nat.add_mul]
  omega
theorem ovl_succ (q : Nat → Nat → Z) {n h : Nat} (hh : h ≤ n) (b : Nat) : ovlL q n h (b + 1) = toldL q n h b ++ stepL (tailL q n h b) (q b) n := by
  have hl : b * h ≤ (ovlL q n h b).length := addAll_le _ _ _ _ _ hh b
  show addBlk addZ z0 (ovlL q n h b) (b * h) (q b) n = _
  rw [addBlk_split addZ z0 (q b) hl n]
  rfl
theorem stepL_len (T : List Z) (q : Nat → Z) (n : Nat) : (stepL T q n).length = max T.length n := by
  unfold stepL
  rw [addBlk_len addZ z0 q (Nat.zero_le _)]
  simp
theorem told_succ (q : Nat → Nat → Z) {n h : Nat} (hh : h ≤ n) (b : Nat) : toldL q n h (b + 1) = toldL q n h b ++ (stepL (tailL q n h b) (q b) n).take h := by
  have hl := toldL_len q hh b
  show (ovlL q n h (b + 1)).take ((b + 1) * h) = _
  rw [ovl_succ q hh b, Nat.add_mul, Nat.one_mul, ← hl, List.take_length_add_append]
theorem tail_succ (q : Nat → Nat → Z) {n h : Nat} (hh : h ≤ n) (b : Nat) : tailL q n h (b + 1) = (stepL (tailL q n h b) (q b) n).drop h := by
  have hl := toldL_len q hh b
  show (ovlL q n h (b + 1)).drop ((b + 1) * h) = _
  rw [ovl_succ q hh b, Nat.add_mul, Nat.one_mul, ← hl, List.drop_length_add_append]

theorem FitsC.take {fs : List C} {zs : List Z} (h : FitsC fs zs) (k : Nat) : FitsC (fs.take k) (zs.take k) := by
  refine ⟨by simp [h.len], fun i hi => ?_⟩
  rw [List.length_take] at hi
  have h1 : i < k := by omega
  rw [show (fs.take k).getD i (0, 0) = fs.getD i (0, 0) by simp [List.getD, List.getElem?_take, h1], show (zs.take k).getD i z0 = zs.getD i z0 by simp [List.getD, List.getElem?_take, h1]]
  exact h.good i (by omega)
theorem FitsC.drop {fs : List C} {zs : List Z} (h : FitsC fs zs) (k : Nat) : FitsC (fs.drop k) (zs.drop k) := by
  refine ⟨by simp [h.len], fun i hi => ?_⟩
  simp at hi
  rw [show (fs.drop k).getD i (0, 0) = fs.getD (k + i) (0, 0) by simp [List.getD, List.getElem?_drop], show (zs.drop k).getD i z0 = zs.getD (k + i) z0 by simp [List.getD, List.getElem?_drop]]
  exact h.good (k + i) (by omega)
theorem FitsC.app {fs gs : List C} {zs ys : List Z} (h : FitsC fs zs) (k : FitsC gs ys) : FitsC (fs ++ gs) (zs ++ ys) := by
  refine ⟨by simp [h.len, k.len], fun i hi => ?_⟩
  by_cases hl : i < fs.length
  · rw [show (fs ++ gs).getD i (0, 0) = fs.getD i (0, 0) by simp [List.getD, List.getElem?_append_left, hl], show (zs ++ ys).getD i z0 = zs.getD i z0 by simp [List.getD, List.getElem?_append_left, ← h.len, hl]]
    exact h.good i hl
  · have e1 : (fs ++ gs).getD i (0, 0) = gs.getD (i - fs.length) (0, 0) := by simp [List.getD, List.getElem?_append_right (Nat.le_of_not_lt hl)]
    have e2 : (zs ++ ys).getD i z0 = ys.getD (i - fs.length) z0 := by rw [h.len] at hl ⊢; simp [List.getD, List.getElem?_append_right (Nat.le_of_not_lt hl)]
    rw [e1, e2]
    exact k.good _ (by simp at hi; omega)

/-- The sums that sumsAtPlaces makes of a tail and a block. -/
theorem two_sums (T : List Z) (q : Nat → Z) (n : Nat) : addAll addZ z0 (fun b i => if b = 0 then T.getD i z0 else q i) (fun b => if b = 0 then T.length else n) 0 2 = stepL T q n := by
  show addBlk addZ z0 (addBlk addZ z0 [] (0 * 0) (fun i => if (0 : Nat) = 0 then T.getD i z0 else q i) (if (0 : Nat) = 0 then T.length else n)) (1 * 0) (fun i => if (1 : Nat) = 0 then T.getD i z0 else q i) (if (1 : Nat) = 0 then T.length else n) = _
  simp only [if_true, Nat.mul_zero]
  rw [if_neg (by omega), addBlk_list addZ z0 T T.length (Nat.le_refl _), List.take_length]
  exact addBlk_ext addZ z0 T 0 _ _ n (fun i _ => by rw [if_neg (by omega)])

end Go.Proofs.Ytocjhanehphibaa
/-
  Adders: valid ones, new ones.
-/
set_option linter.unusedVariables false
set_option linter.unusedSimpArgs false
namespace Go.Proofs.Ytocjhanehphibaa
open Go.RowKit Flt Fast

theorem wrap_in (x : Int) (h1 : -9223372036854775808 ≤ x) (h2 : x ≤ 9223372036854775807) : IntKind.i64.wrap x = x := by
  simp only [IntKind.wrap, IntKind.bits, IntKind.signed]
  simp
  omega

/-- An adder of this size and hop with t numbers in its tail is valid. -/
def AddOk (s h : Int) (t : Nat) : Prop := (1 ≤ s ∧ s ≤ 256) ∧ (1 ≤ h ∧ h ≤ s) ∧ (t = 0 ∨ (t : Int) = s - h)
instance (s h : Int) (t : Nat) : Decidable (AddOk s h t) := by unfold AddOk; infer_instance
def addB (s h : Int) (t : Nat) : Bool := decide (AddOk s h t)
theorem addB_t {s h : Int} {t : Nat} (k : AddOk s h t) : addB s h t = true := decide_eq_true k
theorem addB_f {s h : Int} {t : Nat} (k : ¬ AddOk s h t) : addB s h t = false := decide_eq_false k

end Go.Proofs.Ytocjhanehphibaa
/-
  slices.Clone of complex numbers.
-/
set_option linter.unusedVariables false
set_option linter.unusedSimpArgs false
namespace Go.Proofs.Ytocjhanehphibaa
open Go.RowKit Flt Fast

theorem addr_off (g o j : Nat) : (⟨g, o, none⟩ : Addr).add j = ⟨g, o + j, none⟩ := by unfold Addr.add; split <;> simp_all

end Go.Proofs.Ytocjhanehphibaa
/-
  append of complex numbers to a row of the call's own, guarded or not, whatever slice they come from.
-/
set_option linter.unusedVariables false
set_option linter.unusedSimpArgs false
namespace Go.Proofs.Ytocjhanehphibaa
open Go.RowKit Flt Fast

theorem app_eq {P : Program} (hu : P.underlying 24 = some (.slice 30)) (i : TypeInfo) (hi : P.info? 30 = some i) (hz : i.zero = some (.complex .f64 0 0)) (hsz : i.size = 1) (hby : i.bytes = 16) (ty : TypeId)
    {w : World} {B : Nat} {v u : Value} {xs ys : List C} (hv : Row w B 30 v (cvals xs)) (hr : RdC w u ys) (hB : B ≤ w.heap.size) (hl : xs.length + ys.length ≤ 1000000) :
    ∃ v' w', (Builtin.append_ #[24, 24] ty #[v, u]).run P w = .ok v' w' ∧ Row w' B 30 v' (cvals (xs ++ ys)) ∧ w.grownBy w' v.ownBlock := by
  obtain ⟨a, cap, rfl, h1, h2, h3⟩ := hr
  cases a with
  | none =>
    have h0 : ys.length = 0 := by
      apply Nat.eq_zero_of_not_pos
      intro hp
      obtain ⟨g, o, e, -⟩ := h3 0 hp
      cases e
    obtain rfl := List.eq_nil_of_length_eq_zero h0
    refine ⟨v, w, ?_, by simpa using hv, ⟨rfl, rfl, rfl, Nat.le_refl _, fun _ _ _ => rfl⟩⟩
    rcases hv.2 with ⟨rfl, h0'⟩ | ⟨g, cap', cur, rfl, -, hg, hnc, -⟩
    · simp [Builtin.append_, run_underlying hu, sizeOf, typeInfo, hi, Builtin.lenOf, Builtin.firstCells, loadCells, loadCellsFrom]
    · simp [Builtin.append_, run_underlying hu, sizeOf, typeInfo, hi, Builtin.lenOf, Builtin.firstCells, loadCells, loadCellsFrom, hnc, storeCells]
  | some x =>
    have hn : ∀ (j : Nat) (u : Value), (cvals ys)[j]? = some u → w.cell? (x.add j) = some u := by
      intro j u hu
      have hj : j < ys.length := by have := (List.getElem?_eq_some_iff.1 hu).1; rwa [cvals_length] at this
      obtain ⟨g, o, e, hg, hc⟩ := h3 j hj
      cases e
      rw [addr_off, hc]
      have e2 := cvals_getD hj
      have e3 : (cvals ys).getD j undef = u := by simp [List.getD, hu]
      rw [← e3, e2]
    have hone : ∀ u ∈ cvals ys, u.oneCell' = true := by
      intro u hu
      obtain ⟨p, -, rfl⟩ := List.mem_map.1 hu
      rfl
    obtain ⟨v', w', e1, e2, e3, -⟩ := run_append_own (P := P) w B 24 ty 30 i (.complex .f64 0 0) 1 16 hu hi hz hsz hby rfl (by decide) v (cvals xs).length (cvals xs) hv x ys.length cap (cvals ys) (by rw [cvals_length, Nat.mul_one]) hn hone
      (by rw [cvals_length]; simp only [maxLen]; omega) (by rw [cvals_length]; omega) hB
    refine ⟨v', w', e1, ?_, e3⟩
    show w'.ownsRow _ _ _ _ _ _
    have e4 : cvals (xs ++ ys) = cvals xs ++ cvals ys := by simp [cvals]
    rw [e4, List.length_append, cvals_length ys]
    exact e2

theorem wpList_app {P : Program} {w : World} {ops : Array Oper} {rest : List Oper} {o : Oper} {a : Act} {Q : Exit → Act → World → Prop} (hw : Region.wanted o (yielded ops a.tmps) = true) (s x : Operand)
    (ho : o.op = .call { callee := .builtin .append, args := #[s, x], argTypes := #[24, 24] })
    (hu : P.underlying 24 = some (.slice 30)) (i : TypeInfo) (hi : P.info? 30 = some i) (hz : i.zero = some (.complex .f64 0 0)) (hsz : i.size = 1) (hby : i.bytes = 16)
    (B : Nat) (v u : Value) (xs ys : List C) (hs : a.eval s = v) (hx : a.eval x = u) (hv : Row w B 30 v (cvals xs)) (hr : RdC w u ys) (hB : B ≤ w.heap.size) (hl : xs.length + ys.length ≤ 1000000)
    (h : ∀ v' w', Row w' B 30 v' (cvals (xs ++ ys)) → w.grownBy w' v.ownBlock → wpList P ops Q rest (a.put o.dst v') w') : wpList P ops Q (o :: rest) a w := by
  refine BigFrame.wpList_want hw fun K hK => ?_
  obtain ⟨v', w', hrun, h2, h3⟩ := app_eq hu i hi hz hsz hby o.type hv hr hB hl
  unfold Oper.wp execOp
  simp only [ho, resolve, invoke, builtin, Sem.run_bind, Sem.run_pure, Result.andThen_ok, List.map_toArray, List.map_cons, List.map_nil, hs, hx, hrun]
  exact hK _ _ (h v' w' h2 h3)

end Go.Proofs.Ytocjhanehphibaa
/-
  Convolve of the program.
-/
set_option linter.unusedVariables false
set_option linter.unusedSimpArgs false
namespace Go.Proofs.Ytocjhanehphibaa
open Go.RowKit Flt Fast

theorem run_max_word3 {P : Program} {w : World} (ts : Array TypeId) (t : TypeId) (k k' k'' : IntKind) (x y z : Int) : (Builtin.max_ ts t #[.int k x, .int k' y, .int k'' z]).run P w = .ok (.int k (maxI (maxI x y) z)) w := by
  simp [Builtin.max_, Builtin.max2, maxI]
attribute [local go_sem ↓] run_max_word run_max_word3
theorem maxI_le {x y z : Int} (hx : x ≤ z) (hy : y ≤ z) : maxI x y ≤ z := by unfold maxI; split <;> omega

set_option maxRecDepth 100000 in
set_option maxHeartbeats 4000000 in
theorem cvCheck_any (a1 a2 : Option Addr) (n1 c1 n2 c2 : Nat) (h1 : n1 ≤ 256) (h2 : n2 ≤ 256) (hl : cvLen n1 n2 ≤ 256) (w : World) :
    Calls Try.prog 56 #[.agg #[.slice a1 n1 c1, .slice a2 n2 c2]] w fun e w' => e = .returned (.int .i64 0) ∧ Below w.heap.size w w' := by
  have HLen := Lib.hid (fun w => cvLength_any a1 a2 n1 c1 n2 c2 (by omega) (by omega) w)
  obtain ⟨L, hL⟩ : ∃ L, cvLen n1 n2 = L := ⟨_, rfl⟩
  rw [hL] at HLen hl
  clear hL
  have hm : decide ((256 : Int) < maxI (maxI (n1 : Int) (n2 : Int)) (L : Int)) = false := decide_eq_false (by
    have : maxI (maxI (n1 : Int) (n2 : Int)) (L : Int) ≤ 256 := maxI_le (maxI_le (by omega) (by omega)) (by omega)
    omega)
  obtain ⟨N, hN⟩ : ∃ N, w.heap.size = N := ⟨_, rfl⟩
  have HC : Hid (∀ W, Below (N + 1) (w.alloc (.cells #[.slice a1 n1 c1, .slice a2 n2 c2] 65)) W → W.cell? ⟨N, 0, none⟩ = some (.slice a1 n1 c1) ∧ W.cell? ⟨N, 1, none⟩ = some (.slice a2 n2 c2)) := fun W hW => by
    subst hN
    have hn := World.alloc_heap_new w (.cells #[.slice a1 n1 c1, .slice a2 n2 c2] 65)
    exact ⟨by rw [hW.cell (by simp)]; exact cell_of_heap hn rfl, by rw [hW.cell (by simp)]; exact cell_of_heap hn rfl⟩
  obtain ⟨w1, hw1⟩ : ∃ w1, w.alloc (.cells #[.slice a1 n1 c1, .slice a2 n2 c2] 65) = w1 := ⟨_, rfl⟩
  have hs1 : w1.heap.size = N + 1 := by rw [← hw1, ← hN]; simp
  have HB1 : Hid (Below w.heap.size w w1) := by rw [← hw1]; exact (Below.refl _ _).alloc (Nat.le_refl _) _
  have HW1 := Lib.hid hw1
  rw [hw1] at HC
  have d := HC.out w1.drew (below_draws (Below.refl _ _) 1)
  have d0 := d.1
  have d1 := d.2
  have HS1 := Lib.hid hs1
  have HN := Lib.hid hN
  clear d hw1 hs1
  go_enter Try.func56, Try.ntmps56
  go_wp2_with fail
  rw [HW1.out]
  try rw [HN.out]
  clear hN
  go_region_held3 (fun w' => w'.cell? ⟨N, 0, none⟩ = some (.slice a1 n1 c1) ∧ w'.cell? ⟨N, 1, none⟩ = some (.slice a2 n2 c2))
    (first
      | exact ⟨d0, d1⟩
      | exact HC.out _ HB2.out
      | go_keep)
    (first
      | (go_at_call 57; refine (HLen.out _).mono ?_; rintro e w2 ⟨rfl, hb⟩; have HB2 : Hid (Below (N + 1) w1 w2) := (below_draws (Below.refl _ _) 1).trans (hb.mono (by rw [← HS1.out]; exact Nat.le_refl _)); clear hb))
  all_goals
    go_wp2
    go_ret
    exact ⟨rfl, HB1.out.trans (HB2.out.mono (by rw [HN.out]; omega))⟩

theorem cvPart_all (x h : List Z) : cvPart x h 0 (cvLen x.length h.length) = cvAll x h := by
  unfold cvPart cvAll
  rw [show min (cvLen x.length h.length) (max 0 (cvLen x.length h.length)) - 0 = cvLen x.length h.length by omega]
  simp

set_option maxRecDepth 100000 in
set_option maxHeartbeats 4000000 in
theorem convolved_any (x h : List C) (v1 v2 : Value) (hx : x.length ≤ 256) (hh : h.length ≤ 256) (hl : cvLen x.length h.length ≤ 256) (hwx : WfC x) (hwh : WfC h) (w : World) (hrx : RdO w.heap.size w v1 x) (hrh : RdO w.heap.size w v2 h) :
    Calls Try.prog 35 #[v1, v2] w fun e w' =>
      ∃ v ps, e = .returned (.tuple #[v, .int .i64 0]) ∧ Row w' w.heap.size 30 v (cvals ps) ∧ IsCs ps (cvAll (zsOf x) (zsOf h)) ∧ Below w.heap.size w w' := by
  have hnum : ∀ w1, Below w.heap.size w w1 → Calls Try.prog 46 #[.agg #[v1, v2], .int .i64 0, .int .i64 (cvLen x.length h.length)] w1 fun e w' =>
      ∃ v ps, e = .returned v ∧ Row w' w.heap.size 30 v (cvals ps) ∧ IsCs ps (cvAll (zsOf x) (zsOf h)) ∧ Below w1.heap.size w1 w' := fun w1 hb => by
    refine (numbers_any x h 0 (cvLen x.length h.length) v1 v2 (by omega) (by omega) (Nat.zero_le _) (by omega) hwx hwh w1 ((hrx.below hb).base hb.size) ((hrh.below hb).base hb.size)).mono ?_
    rintro e w' ⟨v, ps, rfl, hr, hf, hB⟩
    refine ⟨v, ps, rfl, hr.base hb.size, ?_, hB⟩
    rw [← cvPart_all, zsOf_length, zsOf_length]; exact hf
  have HNUM := Lib.hid hnum
  obtain ⟨a1, c1, e1, -, -, -⟩ := hrx.find
  obtain ⟨a2, c2, e2, -, -, -⟩ := hrh.find
  subst e1
  subst e2
  clear hrx hrh hnum
  have HCK := Lib.hid (fun w => cvCheck_any a1 a2 x.length c1 h.length c2 hx hh hl w)
  have HLen := Lib.hid (fun w => cvLength_any a1 a2 x.length c1 h.length c2 (by omega) (by omega) w)
  obtain ⟨T, hT⟩ : ∃ T, cvLen x.length h.length = T := ⟨_, rfl⟩
  rw [hT] at HNUM HLen
  clear hT hl
  obtain ⟨L, hL⟩ : ∃ L, x.length = L := ⟨_, rfl⟩
  obtain ⟨M, hM⟩ : ∃ M, h.length = M := ⟨_, rfl⟩
  rw [hL] at hx HNUM HCK HLen ⊢
  rw [hM] at hh HNUM HCK HLen ⊢
  clear hL hM
  have HC : Hid (∀ W, Below (w.heap.size + 1) (w.alloc (.cells #[.slice a1 L c1, .slice a2 M c2] 65)) W → W.cell? ⟨w.heap.size, 0, none⟩ = some (.slice a1 L c1) ∧ W.cell? ⟨w.heap.size, 1, none⟩ = some (.slice a2 M c2)) := fun W hW => by
    have hn := World.alloc_heap_new w (.cells #[.slice a1 L c1, .slice a2 M c2] 65)
    exact ⟨by rw [hW.cell (by simp)]; exact cell_of_heap hn rfl, by rw [hW.cell (by simp)]; exact cell_of_heap hn rfl⟩
  go_enter Try.func35, Try.ntmps35
  go_wp2_with fail
  with_reducible refine (HCK.out _).mono ?_
  rintro e w2 ⟨rfl, hb⟩
  have HB2 : Hid (Below (w.heap.size + 1) (w.alloc (.cells #[.slice a1 L c1, .slice a2 M c2] 65)) w2) := hb.mono (by simp)
  have HW2 : Hid (Below w.heap.size w w2) := ((Below.refl _ _).alloc (Nat.le_refl _) _).trans (HB2.out.mono (by omega))
  have hs2 : w.heap.size + 1 ≤ w2.heap.size := by have := hb.size; simpa using this
  have d := HC.out w2.drew (below_draws HB2.out 1)
  have d0 := d.1
  have d1 := d.2
  clear d hb
  go_wp2_with fail
  go_region_held3 (fun w' => w'.cell? ⟨w.heap.size, 0, none⟩ = some (.slice a1 L c1) ∧ w'.cell? ⟨w.heap.size, 1, none⟩ = some (.slice a2 M c2))
    (first
      | exact ⟨d0, d1⟩
      | exact HC.out _ HB3.out
      | exact HC.out _ HB4.out
      | go_keep)
    (first
      | (go_at_call 57; refine (HLen.out _).mono ?_; rintro e w3 ⟨rfl, hb⟩; have HB3 : Hid (Below (w.heap.size + 1) (w.alloc (.cells #[.slice a1 L c1, .slice a2 M c2] 65)) w3) := (below_draws HB2.out 1).trans (hb.mono hs2); have HW3 : Hid (Below w.heap.size w w3) := (below_draws HW2.out 1).trans (hb.mono (by show w.heap.size ≤ w2.heap.size; omega)); have hs3 : w.heap.size + 1 ≤ w3.heap.size := Nat.le_trans hs2 hb.size; clear hb)
      | (go_at_call 46; refine (HNUM.out _ HW3.out).mono ?_; rintro e w4 ⟨v, ps, rfl, hr, hf, hb⟩; obtain ⟨va, vc, rfl⟩ := hr.written rfl; have HE := Lib.hid (And.intro hr (And.intro hf (below_step HW3.out hb HW3.out.size))); have HB4 : Hid (Below (w.heap.size + 1) (w.alloc (.cells #[.slice a1 L c1, .slice a2 M c2] 65)) w4) := HB3.out.trans (hb.mono hs3); clear hr hf hb))
  all_goals
    go_wp2
    go_ret2
    exact ⟨_, ps, rfl, HE.out.1, HE.out.2.1, HE.out.2.2⟩

theorem convolve_impl (x h : List C) (v1 v2 : Value) (hx : x.length ≤ 256) (hh : h.length ≤ 256) (hl : cvLen x.length h.length ≤ 256) (hwx : WfC x) (hwh : WfC h) (w : World) (hrx : RdO w.heap.size w v1 x) (hrh : RdO w.heap.size w v2 h) :
    Calls Try.prog 9 #[v1, v2] w fun e w' =>
      ∃ v ps, e = .returned (.tuple #[v, .int .i64 0]) ∧ Row w' w.heap.size 30 v (cvals ps) ∧ IsCs ps (cvAll (zsOf x) (zsOf h)) ∧ Below w.heap.size w w' := by
  have K := Lib.hid (convolved_any x h v1 v2 hx hh hl hwx hwh w hrx hrh)
  obtain ⟨a1, c1, e1, -, -, -⟩ := hrx.find
  obtain ⟨a2, c2, e2, -, -, -⟩ := hrh.find
  subst e1
  subst e2
  clear hrx hrh
  go_enter Try.func9, Try.ntmps9
  go_wp2_with fail
  with_reducible refine K.out.mono ?_
  rintro e w1 ⟨v, ps, rfl, hr, hf, hb⟩
  obtain ⟨va, vc, rfl⟩ := hr.written rfl
  have HE := Lib.hid (And.intro hr (And.intro hf hb))
  clear hr hf hb
  go_wp2
  go_ret2
  exact ⟨_, ps, rfl, HE.out.1, HE.out.2.1, HE.out.2.2⟩

end Go.Proofs.Ytocjhanehphibaa
/-
  What the laws of chapters 4 and on begin with.
-/
set_option linter.unusedVariables false
set_option linter.unusedSimpArgs false
namespace Go.Proofs.Ytocjhanehphibaa
open Go.RowKit Flt Fast

set_option maxRecDepth 100000 in
theorem f6big_f (a : Option Addr) (n cap : Nat) (hn : n ≤ 4096) (w : World) : Calls Try.prog 6 #[.slice a n cap] w fun e w' => e = .returned (.bool false) ∧ w' = w := by
  have g : decide (4096 < (n : Int)) = false := decide_eq_false (by omega)
  go_enter Try.func6, Try.ntmps6
  go_wp2
  go_ret
  exact ⟨rfl, rfl⟩
set_option maxRecDepth 100000 in
theorem f6big_t (a : Option Addr) (n cap : Nat) (hn : 4096 < n) (hm : (n : Int) ≤ 9223372036854775807) (w : World) : Calls Try.prog 6 #[.slice a n cap] w fun e w' => e = .returned (.bool true) ∧ w' = w := by
  have g : decide (4096 < (n : Int)) = true := decide_eq_true (by omega)
  go_enter Try.func6, Try.ntmps6
  go_wp2
  go_ret
  exact ⟨rfl, rfl⟩

theorem Row.up {w w' : World} {B e : Nat} {v : Value} {cs : List Value} (h : Row w B e v cs) (hb : Below w.heap.size w w') : Row w' B e v cs := h.below hb (fun k e => (h.lt k e).2)

end Go.Proofs.Ytocjhanehphibaa
/-
  slices.Concat of two signals.
-/
set_option linter.unusedVariables false
set_option linter.unusedSimpArgs false
namespace Go.Proofs.Ytocjhanehphibaa
open Go.RowKit Flt Fast

theorem run_app_zeros {P : Program} {w : World} (t u ty e : TypeId) (i : TypeInfo) (z : Value) (ht : P.underlying t = some (.slice e)) (hu : P.underlying u = some (.int .i64)) (hi : P.info? e = some i) (hz : i.zero = some z) (hsz : i.size = 1) (hby : i.bytes = 16)
    (n : Nat) (h0 : 0 < n) (h1 : n ≤ 1000000) :
    (Builtin.append_ #[t, u] ty #[.slice none 0 0, .int .i64 n]).run P w =
      .ok (.slice (some ⟨w.heap.size, 0, none⟩) n (grownCap w n 0 e)) (w.drew.alloc (.cells (Builtin.zeroCells z.cells n ++ Builtin.zeroCells z.cells (grownCap w n 0 e - n)) e)) := by
  have hn : n ≠ 0 := by omega
  have h63' : ¬ (9223372036854775807 < (n : Int)) := by omega
  have h48' : ¬ (281474976710656 < Builtin.nextslicecap n 0 * i.bytes) := by rw [nextslicecap_zero h0, hby]; omega
  have h48'' : ¬ (281474976710656 < (n : Int) * (i.bytes : Int)) := by rw [hby]; omega
  have hw : IntKind.i64.wrap (n : Int) = (n : Int) := IntWalk.i64_in _ (by omega)
  have hneg : ¬ ((n : Int) < 0) := by omega
  have hle : ¬ ((n : Int) ≤ 0) := by omega
  have hmax : max (n : Int) 0 = (n : Int) := by omega
  simp [Builtin.append_, run_underlying ht, run_underlying hu, sizeOf, typeInfo, zeroValue, hi, hz, Builtin.lenOf, hn, h63', h48', h48'', hw, hneg, hsz, Question.forced, run_firstCells_none, newRow, grownCap, asInt, asIntOf, hle, hmax]

theorem row_room (w : World) (n : Nat) (cur : Array Value) (e : TypeId) (cap : Nat) (hcur : cur.size = cap) (hcap : cap ≤ maxLen) :
    Row (w.drew.alloc (.cells cur e)) w.heap.size e (.slice (some ⟨w.heap.size, 0, none⟩) 0 cap) [] :=
  ⟨by simp, .inr ⟨w.heap.size, cap, cur, rfl, Nat.le_refl _, World.alloc_heap_new w.drew _, Nat.zero_le _, hcap, by simpa using hcur, by simp⟩⟩

theorem under_int : Try.prog.underlying 3 = some (.int .i64) := by kernel_rfl

theorem wpList_zeros {P : Program} {w : World} {ops : Array Oper} {rest : List Oper} {o : Oper} {a : Act} {Q : Exit → Act → World → Prop} (hw : Region.wanted o (yielded ops a.tmps) = true) (s x : Operand)
    (ho : o.op = .call { callee := .builtin .append, args := #[s, x], argTypes := #[24, 3] }) (v u v' : Value) (w' : World) (hs : a.eval s = v) (hx : a.eval x = u)
    (hrun : ∀ ty, (Builtin.append_ #[24, 3] ty #[v, u]).run P w = .ok v' w') (h : wpList P ops Q rest (a.put o.dst v') w') : wpList P ops Q (o :: rest) a w := by
  refine BigFrame.wpList_want hw fun K hK => ?_
  unfold Oper.wp execOp
  simp only [ho, resolve, invoke, builtin, Sem.run_bind, Sem.run_pure, Result.andThen_ok, List.map_toArray, List.map_cons, List.map_nil, hs, hx, hrun]
  exact hK _ _ h

set_option maxRecDepth 100000 in
set_option maxHeartbeats 4000000 in
theorem grow_any (n : Nat) (hn : n ≤ 1000000) (w : World) :
    Calls Try.prog 72 #[.slice none 0 0, .int .i64 n] w fun e w' => ∃ a cap, e = .returned (.slice a 0 cap) ∧ Row w' w.heap.size 30 (.slice a 0 cap) (cvals []) ∧ Below w.heap.size w w' := by
  obtain ⟨i0, hi, hz0, hz1, hz2⟩ := info_parts info_c128
  by_cases h0 : n = 0
  · subst h0
    go_enter Try.func72, Try.ntmps72
    go_wp2
    go_ret
    exact ⟨none, 0, rfl, World.ownsRow_nil _ _ _ _, Below.refl _ _⟩
  · have hpos : decide ((0 : Int) < (n : Int)) = true := decide_eq_true (by omega)
    have hrun : ∀ (W : World) (ty : TypeId), (Builtin.append_ #[24, 3] ty #[.slice none 0 0, .int .i64 (n : Int)]).run Try.prog W = .ok (.slice (some ⟨W.heap.size, 0, none⟩) n (grownCap W n 0 30)) (W.drew.alloc (.cells (Builtin.zeroCells (Value.complex .f64 0 0).cells n ++ Builtin.zeroCells (Value.complex .f64 0 0).cells (grownCap W n 0 30 - n)) 30)) := fun W ty =>
      run_app_zeros _ _ ty _ i0 _ Try.underlying24 under_int hi hz0 hz1 hz2 n (by omega) hn
    have hge := grownCap_ge w n 0 30
    have hmx := grownCap_le_maxLen w n 0 30 (by simp only [maxLen]; omega)
    have HFin : Hid (Row (w.drew.alloc (.cells (Builtin.zeroCells (Value.complex .f64 0 0).cells n ++ Builtin.zeroCells (Value.complex .f64 0 0).cells (grownCap w n 0 30 - n)) 30)) w.heap.size 30 (.slice (some ⟨w.heap.size, 0, none⟩) 0 (grownCap w n 0 30)) (cvals []) ∧
        Below w.heap.size w (w.drew.alloc (.cells (Builtin.zeroCells (Value.complex .f64 0 0).cells n ++ Builtin.zeroCells (Value.complex .f64 0 0).cells (grownCap w n 0 30 - n)) 30))) :=
      ⟨row_room w n _ _ _ (by rw [Array.size_append, size_zeroCells, size_zeroCells]; simp [Value.cells]; omega) hmx, (below_draws (Below.refl _ _) 1).alloc (Nat.le_refl _) _⟩
    obtain ⟨cap, hcap⟩ : ∃ c, grownCap w n 0 30 = c := ⟨_, rfl⟩
    have hrun1 := hrun w
    rw [hcap] at hrun1 HFin hge hmx
    obtain ⟨W1, hW1⟩ : ∃ W1, w.drew.alloc (.cells (Builtin.zeroCells (Value.complex .f64 0 0).cells n ++ Builtin.zeroCells (Value.complex .f64 0 0).cells (cap - n)) 30) = W1 := ⟨_, rfl⟩
    rw [hW1] at hrun1 HFin
    clear hrun hcap hW1
    go_enter Try.func72, Try.ntmps72
    go_wp2_with (at_builtin; refine wpList_zeros rfl _ _ rfl _ _ _ _ rfl rfl hrun1 ?_)
    go_ret
    exact ⟨_, cap, rfl, HFin.out.1, HFin.out.2⟩

set_option maxRecDepth 100000 in
set_option maxHeartbeats 4000000 in
/-- Two signals, one behind the other. -/
theorem concat_any (x y : List C) (v1 v2 : Value) (hl : x.length + y.length ≤ 1000000) (g : Nat) (w : World) (hrx : RdO w.heap.size w v1 x) (hry : RdO w.heap.size w v2 y) (hg : g < w.heap.size)
    (hc0 : w.cell? ⟨g, 0, none⟩ = some v1) (hc1 : w.cell? ⟨g, 1, none⟩ = some v2) :
    Calls Try.prog 45 #[.slice (some ⟨g, 0, none⟩) 2 2] w fun e w' => ∃ v, e = .returned v ∧ Row w' w.heap.size 30 v (cvals (x ++ y)) ∧ Below w.heap.size w w' := by
  obtain ⟨i0, hi, hz0, hz1, hz2⟩ := info_parts info_c128
  have HRX := Lib.hid hrx
  have HRY := Lib.hid hry
  obtain ⟨a1, c1, e1, -, -, -⟩ := hrx.find
  obtain ⟨a2, c2, e2, -, -, -⟩ := hry.find
  subst e1
  subst e2
  clear hrx hry
  have hl0 : x.length ≤ 1000000 := by omega
  have HG := Lib.hid (fun w => grow_any (x.length + y.length) hl w)
  have n1 : ((x.length : Int) + (y.length : Int) < 0) = False := by first | (simp; done) | (simp; omega)
  have n2 : ((x.length : Int) < 0) = False := by first | (simp; done) | (simp; omega)
  have hsum : (x.length : Int) + (y.length : Int) = ((x.length + y.length : Nat) : Int) := by omega
  have HSUM := Lib.hid hsum
  clear hsum
  go_enter Try.func45, Try.ntmps45
  go_wp2
  refine wp_loop_rounds 3 ?_
  rw [rounds_succ]
  go_wp2
  rw [rounds_succ]
  go_wp2
  rw [rounds_succ]
  go_wp2_with fail
  rw [HSUM.out]
  with_reducible refine (HG.out _).mono ?_
  rintro e w1 ⟨b, cb, rfl, hr, hb⟩
  have hx1 := (HRX.out.below hb).rdC hb.size
  have hy1 := (HRY.out.below hb)
  have d0 : w1.cell? ⟨g, 0, none⟩ = some (.slice a1 x.length c1) := by rw [hb.cell hg]; exact hc0
  have d1 : w1.cell? ⟨g, 1, none⟩ = some (.slice a2 y.length c2) := by rw [hb.cell hg]; exact hc1
  have HR1 := Lib.hid hr
  have HX1 := Lib.hid hx1
  have HB1 := Lib.hid hb
  have hs1 := hb.size
  clear hr hb hx1 hy1 hc0 hc1
  go_wp2
  refine wp_loop_rounds 3 ?_
  rw [rounds_succ]
  go_wp2_with (at_builtin; refine wpList_app rfl _ _ rfl Try.underlying24 i0 hi hz0 hz1 hz2 w.heap.size _ _ [] x rfl rfl HR1.out HX1.out hs1 (by simp; omega) ?_; intro v' w2 hr2 hg2; obtain ⟨e1, e2, rfl⟩ := hr2.written rfl; have hb2 : Below w.heap.size w w2 := HB1.out.grown hg2 hs1 (fun k e => (HR1.out.lt k e).1); have hs2 := hb2.size; have HY2 := Lib.hid ((HRY.out.below hb2).rdC hs2); have HR2 := Lib.hid hr2; have HB2 := Lib.hid hb2; have d2 : w2.cell? ⟨g, 1, none⟩ = some (.slice a2 y.length c2) := (by rw [hb2.cell hg, ← HB1.out.cell hg]; exact d1); clear hr2 hg2 hb2)
  rw [rounds_succ]
  go_wp2_with (at_builtin; refine wpList_app rfl _ _ rfl Try.underlying24 i0 hi hz0 hz1 hz2 w.heap.size _ _ ([] ++ x) y rfl rfl HR2.out HY2.out hs2 (by simp; omega) ?_; intro v' w3 hr3 hg3; obtain ⟨e3, e4, rfl⟩ := hr3.written rfl; have HB3 := Lib.hid (HB2.out.grown hg3 hs2 (fun k e => (HR2.out.lt k e).1)); have HR3 := Lib.hid hr3; clear hr3 hg3)
  rw [rounds_succ]
  go_wp2
  go_ret
  exact ⟨_, rfl, HR3.out, HB3.out⟩

end Go.Proofs.Ytocjhanehphibaa
/-
  Expand of the model; withZeros; FilterDecimate.
-/
set_option linter.unusedVariables false
set_option linter.unusedSimpArgs false
namespace Go.Proofs.Ytocjhanehphibaa
open Go.RowKit Flt Fast

theorem addr_offP (g o j : Nat) : (⟨g, o, none⟩ : Addr).add j = ⟨g, o + j, none⟩ := by unfold Addr.add; split <;> simp_all
theorem row_of_heapP {w : World} {B c : Nat} {e : TypeId} {cs : List Value} (hl : cs.length = c) (hc : c ≤ maxLen) (h : w.heap[B]? = some (.cells cs.toArray e (0, 0))) : Row w B e (.slice (some ⟨B, 0, none⟩) c c) cs :=
  ⟨by simp, .inr ⟨B, c, cs.toArray, by rw [hl], Nat.le_refl _, h, by omega, hc, by simp [hl], by simp⟩⟩
theorem heap_of_rowP {w : World} {B c : Nat} {e : TypeId} {cs : List Value} (h : Row w B e (.slice (some ⟨B, 0, none⟩) c c) cs) : w.heap[B]? = some (.cells cs.toArray e (0, 0)) := by
  rcases h.2 with ⟨hv, -⟩ | ⟨g, cap, cur, hv, -, hg, -, -, hs, ht⟩
  · cases hv
  · simp only [Value.slice.injEq, Option.some.injEq, Addr.mk.injEq, and_true] at hv
    obtain ⟨rfl, e1, rfl⟩ := hv
    rw [hg]
    have hlen : cur.toList.length = c := by simp [hs]
    rw [List.take_of_length_le (by rw [hlen, ← e1]; simp)] at ht
    rw [← ht]

theorem cvals_repP (ts : List C) (m : Nat) : cvals (ts ++ List.replicate m (0, 0)) = cvals ts ++ List.replicate m (.complex .f64 0 0) := by
  simp [cvals, cval]

set_option maxRecDepth 100000 in
set_option maxHeartbeats 4000000 in
theorem expand_spec {v : Value} {xs : List C} {w : World} (h : Reads w v (cvals xs)) (m : Nat) (h1 : 1 ≤ m) (h2 : m ≤ 64) (hl : xs.length * m ≤ 256) :
    Calls Try.prog 26 #[v, .int .i64 m] w (ExpTo xs m w) := by
  obtain ⟨i0, hi, hz0, hz1, hz2⟩ := info_parts info_c128
  have K := Lib.hid (fun w => step_t m h1 h2 w)
  have hrd := c_readsR h
  obtain ⟨a, cap, rfl⟩ := cform h
  rw [cvals_length] at hrd ⊢
  replace hrd := hrd _ _ _ rfl
  have HZ0 := Lib.hid (expN_zero xs m)
  have HSET : Hid (∀ k, k < xs.length → (expN xs m k).set (k * m) (xs.getD k (0, 0)) = expN xs m (k + 1)) := Lib.hid fun k hk => expN_set (by omega) hk
  have HLEN := Lib.hid (fun k => expN_length xs m k)
  have HLT : Hid (∀ k, k < xs.length → k * m < xs.length * m) := Lib.hid fun k hk => (Nat.mul_lt_mul_right (by omega)).2 hk
  obtain ⟨f, hf⟩ : ∃ f, expN xs m = f := ⟨_, rfl⟩
  have HQ : Hid (ExpTo xs m w = fun e w' => ∃ v, e = .returned (.tuple #[v, .int .i64 0]) ∧ Row w' w.heap.size 30 v (cvals (f xs.length)) ∧ Below w.heap.size w w') := by rw [← hf]; exact Lib.hid rfl
  rw [HQ.out]
  rw [hf] at HZ0 HSET HLEN
  have hL2 : xs.length ≤ 256 := Nat.le_trans (Nat.le_mul_of_pos_right _ (by omega)) hl
  obtain ⟨T, hT⟩ : ∃ T, xs.length * m = T := ⟨_, rfl⟩
  rw [hT] at hl HZ0 HLEN HLT
  obtain ⟨L, hL⟩ : ∃ L, xs.length = L := ⟨_, rfl⟩
  rw [hL] at hrd HSET HLT hL2 hT ⊢
  have eT : (L : Int) * (m : Int) = (T : Int) := by rw [← hT]; simp
  have g1 : decide ((256 : Int) < (L : Int)) = false := by simp <;> omega
  have g2 : decide ((256 : Int) < (T : Int)) = false := by simp <;> omega
  have HRD := Lib.hid hrd
  clear h hL hT hf HQ hrd
  go_enter Try.func26, Try.ntmps26
  go_wp2_with fail
  refine (K.out _).mono ?_
  rintro e w' ⟨rfl, rfl⟩
  go_wp2_with fail
  refine (K.out _).mono ?_
  rintro e w' ⟨rfl, rfl⟩
  go_wp2_with (at_make; refine wpList_make_full _ rfl _ _ 24 rfl w'.heap.size 30 i0 (.complex .f64 0 0) 1 Try.underlying24 hi hz0 hz1 .i64 .i64 _ _ T rfl rfl rfl rfl (by rw [hz2]; omega) (by simp only [maxLen]; omega) (Nat.le_refl _) ?_)
  intro w1 hown hg1
  rw [toList_madeCells_one] at hown
  have HO : Hid (Row w1 w'.heap.size 30 (.slice (some ⟨w'.heap.size, 0, none⟩) T T) (cvals (f 0))) := by
    rw [HZ0.out]
    show w1.ownsRow _ _ _ _ _ _
    simpa [cvals, cval] using hown
  have HG := Lib.hid hg1
  clear hown hg1 hi hz0 hz1 hz2 HZ0
  go_wp2
  go_loopw [7] (fun i wr => ∃ (k : Nat), i = .int .i64 k ∧ k ≤ L ∧ Row wr w'.heap.size 30 (.slice (some ⟨w'.heap.size, 0, none⟩) T T) (cvals (f k)) ∧ w'.grownBy wr none) (fun i _ => L - (intOf i).toNat)
  case atStart => exact ⟨0, rfl, Nat.zero_le _, HO.out, HG.out⟩
  case round =>
    clear HO HG
    obtain ⟨k, rfl, hk, hrw, hg⟩ := hrel
    have HRW := Lib.hid hrw
    have HG := Lib.hid hg
    clear hrw hg
    by_cases hlt : k < L
    · obtain ⟨g, rfl, hgz, hcell⟩ := HRD.out k hlt
      have c1 : wr.cell? ⟨g, k, none⟩ = some (.complex .f64 (xs.getD k (0, 0)).1 (xs.getD k (0, 0)).2) := by
        rw [World.cell?_of_block (w := w') (HG.out.block _ (by show g < _; omega) (by simp))]; exact hcell
      obtain ⟨x, y, hxy⟩ : ∃ x y, xs.getD k (0, 0) = (x, y) := ⟨_, _, rfl⟩
      rw [hxy] at c1
      have hS0 := HSET.out k hlt
      have hlt2 := HLT.out k hlt
      rw [hxy] at hS0
      obtain ⟨I, hI⟩ : ∃ I, k * m = I := ⟨_, rfl⟩
      rw [hI] at hS0 hlt2
      have eI : (k : Int) * (m : Int) = (I : Int) := by rw [← hI]; simp
      have hr2 := HRW.out
      have hS := hr2.set I (cval (x, y))
      rw [cvals_set', hS0] at hS
      have c2 := hr2.cellAt hlt2
      have f2 := hr2.frozenAt I
      obtain ⟨u, hu⟩ : ∃ u, (cvals (f k)).getD I undef = u := ⟨_, rfl⟩
      rw [hu] at c2
      simp only [cval] at hS
      have HS := Lib.hid hS.1
      have HG3 := Lib.hid (grown_new HG.out hS.2 (Nat.le_refl _))
      clear hu hr2 hS hcell hxy hgz hS0 hI
      go_wp2
      go_roundw
      case rel => exact ⟨k + 1, by go_num, by omega, HS.out, HG3.out⟩
      case measure => simp [intOf]; omega
    · have e : k = L := by omega
      subst e
      go_wp2
      go_ret2
      exact ⟨_, rfl, HRW.out, ⟨HG.out.os, HG.out.tape, HG.out.output, HG.out.size, fun b hb => HG.out.block b hb (by simp)⟩⟩


set_option maxRecDepth 100000 in
set_option maxHeartbeats 4000000 in
theorem withZeros_any (ts : List C) (n : Nat) (hn : ts.length ≤ n) (hn2 : n ≤ 1000) (v : Value) (w : World) (h : RdC w v ts) :
    Calls Try.prog 59 #[v, .int .i64 n] w fun e w' => ∃ u, e = .returned u ∧ Row w' w.heap.size 30 u (cvals (ts ++ List.replicate (n - ts.length) (0, 0))) ∧ Below w.heap.size w w' := by
  obtain ⟨i0, hi, hz0, hz1, hz2⟩ := info_parts info_c128
  obtain ⟨a, cap, rfl, h1, h2, h3⟩ := h
  have hszE : (Try.prog.info? 30).map (·.size) = some 1 := by rw [hi]; simp [hz1]
  have hpos : ∀ w1, Below w.heap.size w w1 → 0 < (cvals ts).length → ∃ x, a = some x ∧ ∀ j u, (cvals ts)[j]? = some u → w1.cell? (x.add j) = some u := fun w1 hbW h0 => by
    rw [cvals_length] at h0
    obtain ⟨g, o, e, -⟩ := h3 0 h0
    refine ⟨_, e, fun j u hu => ?_⟩
    have hj : j < ts.length := by have := (List.getElem?_eq_some_iff.1 hu).1; rwa [cvals_length] at this
    obtain ⟨g', o', e', hg', hc⟩ := h3 j hj
    rw [e] at e'
    cases e'
    rw [addr_offP, hbW.cell hg', hc, ← hu]
    have e2 := cvals_getD hj
    have e3 : (cvals ts).getD j undef = u := by simp [List.getD, hu]
    rw [hu, ← e3, e2]
  have hmin : (cvals ts).length = Nat.min ts.length n := by rw [cvals_length]; exact (Nat.min_eq_left hn).symm
  have hfit : 0 + (cvals ts).length ≤ (List.replicate n (Value.complex .f64 0 0)).length := by rw [cvals_length, List.length_replicate]; omega
  have hone : ∀ u ∈ cvals ts, u.oneCell' = true := by
    intro u hu
    obtain ⟨q, -, rfl⟩ := List.mem_map.1 hu
    rfl
  have HMIN := Lib.hid hmin
  have HPOS := Lib.hid hpos
  have HFIT := Lib.hid hfit
  have HONE := Lib.hid hone
  have HLE := Lib.hid hn
  obtain ⟨L, hL⟩ : ∃ L, ts.length = L := ⟨_, rfl⟩
  have HL := Lib.hid hL
  rw [hL] at HMIN h1 hn ⊢
  clear hpos hmin hfit hone h3 hL
  go_enter Try.func59, Try.ntmps59
  go_wp2_with (at_make; refine wpList_make_full _ rfl _ _ 24 rfl w.heap.size 30 i0 (.complex .f64 0 0) 1 Try.underlying24 hi hz0 hz1 .i64 .i64 _ _ n rfl rfl rfl rfl (by rw [hz2]; omega) (by simp only [maxLen]; omega) (Nat.le_refl _) ?_)
  intro w1 hown hg1
  rw [toList_madeCells_one] at hown
  have HO : Hid (Row w1 w.heap.size 30 (.slice (some ⟨w.heap.size, 0, none⟩) n n) (List.replicate n (.complex .f64 0 0))) := by
    show w1.ownsRow _ _ _ _ _ _
    simpa using hown
  have hH := heap_of_rowP HO.out
  have hbW : Below w.heap.size w w1 := (Below.refl _ _).grown hg1 (Nat.le_refl _) (fun b e => by cases e)
  have HH := Lib.hid hH
  have HBW := Lib.hid hbW
  clear hown hg1 hH hbW
  go_wp2_with (refine wpList_copy_splice rfl (.tmp 8) (.tmp 9) 24 24 rfl 30 Try.underlying24 hszE _ _ _ _ _ _ rfl rfl w.heap.size 0 (List.replicate n (.complex .f64 0 0)) 30 HH.out (cvals ts) HMIN.out (fun h => ⟨rfl, HPOS.out _ HBW.out h⟩) HFIT.out HONE.out w.heap.size w HBW.out (Nat.le_refl _) ?_)
  intro w2 hH2 hb2'
  have hrow2 : Row w2 w.heap.size 30 (.slice (some ⟨w.heap.size, 0, none⟩) n n) (cvals (ts ++ List.replicate (n - L) (0, 0))) := by
    refine row_of_heapP (by rw [cvals_length, List.length_append, HL.out, List.length_replicate]; omega) (by simp only [maxLen]; omega) ?_
    have := hH2.out
    unfold splice at this
    rw [cvals_repP]
    rw [List.take_zero, List.nil_append, Nat.zero_add, cvals_length, List.drop_replicate, HL.out] at this
    exact this
  have HR2 := Lib.hid hrow2
  have HB2 := Lib.hid hb2'
  clear hrow2 hb2' hH2 HH HPOS HMIN HFIT HONE HBW
  go_wp2
  go_ret
  exact ⟨_, rfl, HR2.out, HB2.out⟩

end Go.Proofs.Ytocjhanehphibaa
