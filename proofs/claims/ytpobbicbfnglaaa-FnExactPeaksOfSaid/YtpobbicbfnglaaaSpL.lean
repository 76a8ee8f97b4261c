import Derived.Test.YtpobbicbfnglaaaSpK
/-
  PeaksOf of both.
-/
set_option linter.unusedVariables false
set_option linter.unusedSimpArgs false
namespace Go.Proofs.Ytpobbicbfnglaaa
open Go.RowKit Flt Fast

/-- At least. -/
def geO : Option Nat → Option Nat → Bool
  | some x, some y => FloatKind.f64.format.order x y == some .gt || FloatKind.f64.format.order x y == some .eq
  | _, _ => false
theorem ge_isF {a b : Nat} {x y : Option Nat} (ha : IsF a x) (hb : IsF b y) : (FloatKind.f64.format.order a b == some .gt || FloatKind.f64.format.order a b == some .eq) = geO x y := by
  rcases isF_cases ha with ⟨h, rfl⟩ | ⟨h, rfl⟩
  · rw [ordN_l h]; rfl
  · rcases isF_cases hb with ⟨k, rfl⟩ | ⟨k, rfl⟩
    · rw [ordN_r k]; rfl
    · rfl

/-- A place that is greater than both neighbours; and at least the floor. -/
def hiB (xs : List Nat) (k : Nat) : Bool := gtO (wO xs k) (wO xs (prv xs.length k)) && gtO (wO xs k) (wO xs (nxt xs.length k))
def pkB (xs : List Nat) (f : Option Nat) (k : Nat) : Bool := hiB xs k && geO (wO xs k) f
/-- The peaks ahead of the place k. -/
def pks (xs : List Nat) (f : Option Nat) : Nat → List Int
  | 0 => []
  | k + 1 => if pkB xs f k = true then pks xs f k ++ [(k : Int)] else pks xs f k
theorem pks_len (xs : List Nat) (f : Option Nat) (k : Nat) : (pks xs f k).length ≤ k := by
  induction k with
  | zero => exact Nat.le_refl _
  | succ k ih =>
    unfold pks
    split
    · simp; omega
    · omega
theorem info_i64P : (Try.prog.info? 2).map (fun i => (i.zero, i.size, i.bytes)) = some (some (.int .i64 0), 1, 8) := by kernel_rfl
theorem ints_snoc (zs : List Int) (a : Int) : ints (zs ++ [a]) = ints zs ++ [.int .i64 a] := by simp [ints]
/-- What PeaksOf answers. -/
def pksR (xs : List Nat) (f : Option Nat) : List Int := if ringK xs.length = 0 then pks xs f xs.length else []
def IntsTo (zs : List Int) (c : Int) (w : World) (e : Ending) (w' : World) : Prop :=
  ∃ v, e = .returned (.tuple #[v, .int .i64 c]) ∧ Row w' w.heap.size 2 v (ints zs) ∧ Below w.heap.size w w'

set_option maxRecDepth 100000 in
theorem isPeak_any (a b c : Nat) (x y z : Option Nat) (ha : IsF a x) (hb : IsF b y) (hc : IsF c z) (w : World) :
    Calls Try.prog 52 #[.agg #[.float .f64 a, .float .f64 b, .float .f64 c]] w fun e w' => e = .returned (.bool (gtO y x && gtO y z)) ∧ Below w.heap.size w w' := by
  have g1 := gt_isF hb ha
  have g2 := gt_isF hb hc
  generalize gtO y x = b1 at *
  generalize gtO y z = b2 at *
  clear ha hb hc
  cases b1 <;> cases b2
  all_goals
    go_enter Try.func52, Try.ntmps52
    go_wp2
    go_ret
    exact ⟨rfl, (Below.refl _ _).alloc (Nat.le_refl _) _⟩

set_option maxRecDepth 100000 in
set_option maxHeartbeats 4000000 in
theorem peaks_impl (xs : List Nat) (hz : ∀ z ∈ xs, z < 18446744073709551616) (fl : Nat) (f : Option Nat) (hfl : IsF fl f) (v : Value) (w : World) (h : Reads w v (flts xs)) :
    Calls Try.prog 20 #[v, .float .f64 fl] w (IntsTo (pksR xs f) (ringK xs.length) w) := by
  have hcap := fl_cap h
  have hfo := fl_form h
  have hR : pksR xs f = if ringK xs.length = 0 then pks xs f xs.length else [] := rfl
  have CK := Lib.hid (fun (a : Option Addr) (cap : Nat) (w : World) (hm : (xs.length : Int) ≤ 9223372036854775807) => hills_impl a xs.length cap hm w)
  by_cases hr : ringK xs.length = 0
  · obtain ⟨n3, n256⟩ := ringK_zero hr
    obtain ⟨i0, hi, hz0, hz1, hz2⟩ := info_parts info_i64P
    rw [hR, hr, if_pos rfl]
    rw [hr] at CK
    have hrd := fl_reads h
    have H := Lib.hid (fun (w1 : World) (hb : Below w.heap.size w w1) (j : Nat) (hj : j < xs.length) => hillAt_any xs xs.length rfl n256 j hj v w1 (h.below hb))
    have P := Lib.hid (fun (j : Nat) (hj : j < xs.length) (w : World) => isPeak_any (xs.getD (prv xs.length j) 0) (xs.getD j 0) (xs.getD (nxt xs.length j) 0) _ _ _ (wO_isF hz (prv_lt hj)) (wO_isF hz hj) (wO_isF hz (nxt_lt hj)) w)
    have G := Lib.hid (fun (j : Nat) (hj : j < xs.length) => ge_isF (wO_isF hz hj) hfl)
    have HPS : Hid (∀ j, pks xs f (j + 1) = if (hiB xs j && geO (wO xs j) f) = true then pks xs f j ++ [(j : Int)] else pks xs f j) := fun j => rfl
    have HPL := Lib.hid (fun j => pks_len xs f j)
    have HHI : Hid (∀ j, hiB xs j = (gtO (wO xs j) (wO xs (prv xs.length j)) && gtO (wO xs j) (wO xs (nxt xs.length j)))) := fun j => rfl
    obtain ⟨a, cap, rfl⟩ := hfo
    rw [flts_length] at *
    replace CK := Lib.hid (fun w => CK.out a cap w (hcap _ _ _ rfl))
    replace hrd := hrd _ _ _ rfl
    obtain ⟨n, hn⟩ : ∃ n, xs.length = n := ⟨_, rfl⟩
    rw [hn] at CK H P G HHI hrd n256 n3 ⊢
    have HRD := Lib.hid hrd
    have hmax : (n : Int) ≤ 9223372036854775807 := by omega
    clear h hz hR hr hn hcap hrd hfl
    go_enter Try.func20, Try.ntmps20
    go_wp2_with fail
    refine (CK.out _).mono ?_
    rintro e w' ⟨rfl, rfl⟩
    go_wp2
    go_loopw [7, 16] (fun v7 i wr => ∃ k : Nat, i = .int .i64 k ∧ k ≤ n ∧ Row wr w'.heap.size 2 v7 (ints (pks xs f k)) ∧ Below w'.heap.size w' wr) (fun _ i _ => n - (intOf i).toNat)
    case atStart => exact ⟨0, rfl, Nat.zero_le _, World.ownsRow_nil _ _ _ _, Below.refl _ _⟩
    case round =>
      obtain ⟨k, rfl, hk, hrw, hbw⟩ := hrel
      have HRW := Lib.hid hrw
      have HBW := Lib.hid hbw
      clear hrw hbw
      by_cases hlt : k < n
      · obtain ⟨g, rfl, hg, hc⟩ := HRD.out k hlt
        have HK := Lib.hid (H.out wr HBW.out k hlt)
        have PK := Lib.hid (P.out k hlt)
        have GK := G.out k hlt
        have e1 := HPS.out k
        have hl := HPL.out k
        have hgs : g < wr.heap.size := by have := HBW.out.size; omega
        have c1 : wr.cell? ⟨g, k, none⟩ = some (.float .f64 (xs.getD k 0)) := by rw [HBW.out.cell hg]; exact hc
        rw [← HHI.out k] at PK
        obtain ⟨y, hyy⟩ : ∃ y, xs.getD k 0 = y := ⟨_, rfl⟩
        rw [hyy] at HK PK GK c1
        obtain ⟨x, hxx⟩ : ∃ y, xs.getD (prv n k) 0 = y := ⟨_, rfl⟩
        obtain ⟨z, hzz⟩ : ∃ y, xs.getD (nxt n k) 0 = y := ⟨_, rfl⟩
        rw [hxx, hzz] at HK PK
        obtain ⟨b1, hb1⟩ : ∃ b, hiB xs k = b := ⟨_, rfl⟩
        obtain ⟨b2, hb2⟩ : ∃ b, geO (wO xs k) f = b := ⟨_, rfl⟩
        rw [hb1] at PK e1
        rw [hb2] at GK e1
        have i3 : (k : Int) < (n : Int) := by omega
        obtain ⟨zs, hzs⟩ : ∃ zs, pks xs f k = zs := ⟨_, rfl⟩
        rw [hzs] at HRW e1 hl
        have HE1 := Lib.hid e1
        have hli : (ints zs).length ≤ 256 := by rw [ints_length]; omega
        clear hyy hxx hzz hb1 hb2 hzs hc e1
        go_wp2_with fail
        refine HK.out.mono ?_
        rintro e w2 ⟨rfl, hbb⟩
        have HB2 := Lib.hid (below_step HBW.out hbb HBW.out.size)
        have HR2 := Lib.hid (HRW.out.below hbb (fun j hj => (HRW.out.lt j hj).2))
        have c2 : w2.cell? ⟨g, k, none⟩ = some (.float .f64 y) := by rw [hbb.cell hgs]; exact c1
        have hgs2 : g < w2.heap.size := Nat.lt_of_lt_of_le hgs hbb.size
        clear hbb c1 HK HRW HBW
        go_wp2_with fail
        refine (PK.out _).mono ?_
        rintro e w3 ⟨rfl, hbb⟩
        have HB3 := Lib.hid (below_step HB2.out hbb HB2.out.size)
        have HR3 := Lib.hid (HR2.out.below hbb (fun j hj => (HR2.out.lt j hj).2))
        have c3 : w3.cell? ⟨g, k, none⟩ = some (.float .f64 y) := by rw [hbb.cell hgs2]; exact c2
        clear hbb c2 HB2 HR2 PK
        have notPeak : ∀ (hb : (b1 && b2) = false), Hid (Row w3 w'.heap.size 2 u7 (ints (pks xs f (k + 1)))) := fun hb => by
          have e := HE1.out
          rw [hb] at e
          rw [e]
          exact HR3.out
        have isPeak : ∀ (hb : (b1 && b2) = true), Hid (pks xs f (k + 1) = zs ++ [(k : Int)]) := fun hb => by
          have e := HE1.out
          rw [hb] at e
          exact e
        cases b1 <;> cases b2
        · have HN := notPeak rfl
          clear notPeak isPeak
          go_wp2
          go_roundw
          case rel => exact ⟨k + 1, by go_num, by omega, HN.out, HB3.out⟩
          case measure => simp [intOf]; omega
        · have HN := notPeak rfl
          clear notPeak isPeak
          go_wp2
          go_roundw
          case rel => exact ⟨k + 1, by go_num, by omega, HN.out, HB3.out⟩
          case measure => simp [intOf]; omega
        · have HN := notPeak rfl
          clear notPeak isPeak
          go_wp2
          go_roundw
          case rel => exact ⟨k + 1, by go_num, by omega, HN.out, HB3.out⟩
          case measure => simp [intOf]; omega
        · have HN := isPeak rfl
          clear notPeak isPeak
          go_wp2_with (at_builtin; refine wpList_append_own _ rfl _ _ 30 rfl w'.heap.size 2 i0 (.int .i64 0) 1 8 Try.underlying30 hi hz0 hz1 hz2 rfl (by decide) _ _ _ rfl (HR3.out.alloc _) ⟨_, 0, none⟩ 1 1 [.int .i64 (k : Int)] rfl rfl (cell_one_new _ _ _) (by intro u hu; simp at hu; subst hu; rfl) (by simp only [maxLen]; omega) (by omega) (by have := HB3.out.size; simp; omega) ?_)
          intro v' w1 hown' hgrow _
          have hlt' := (HR3.out.alloc (.cells #[.int .i64 (k : Int)] 2)).lt
          have hb' : Below w'.heap.size w' w1 := (HB3.out.alloc HB3.out.size _).grown hgrow (by have := HB3.out.size; simp; omega) (fun b e => (hlt' b e).1)
          have HO' : Hid (Row w1 w'.heap.size 2 v' (ints (pks xs f (k + 1)))) := by
            show w1.ownsRow _ _ _ _ _ _
            rw [HN.out, ints_snoc, List.length_append]
            exact hown'
          have HX' := Lib.hid hb'
          clear hown' hgrow hlt' hb' HR3 HB3 HN
          go_wp2
          go_roundw
          case rel => first | exact ⟨k + 1, by go_num, by omega, HO'.out, HX'.out⟩ | ((repeat apply Exists.intro); refine ⟨?_, rfl⟩; exact ⟨k + 1, by go_num, by omega, HO'.out, HX'.out⟩)
          case measure => simp [intOf]; omega
      · have e : k = n := by omega
        subst e
        go_wp2
        go_ret2
        exact ⟨_, rfl, HRW.out, HBW.out⟩
  · rw [hR, if_neg hr]
    obtain ⟨a, cap, rfl⟩ := hfo
    rw [flts_length] at *
    replace hcap := hcap _ _ _ rfl
    replace CK := Lib.hid (fun w => CK.out a cap w hcap)
    obtain ⟨n, hn⟩ : ∃ n, xs.length = n := ⟨_, rfl⟩
    rw [hn] at CK hr hcap ⊢
    obtain ⟨K, hKK⟩ : ∃ K, ringK n = K := ⟨_, rfl⟩
    rw [hKK] at CK hr ⊢
    have g0 : (K == 0) = false := by simpa using hr
    clear h hz hR hn hKK hfl
    go_enter Try.func20, Try.ntmps20
    go_wp2_with fail
    refine (CK.out _).mono ?_
    rintro e w' ⟨rfl, rfl⟩
    go_wp2
    go_ret2
    exact ⟨_, rfl, World.ownsRow_nil _ _ _ _, Below.refl _ _⟩

set_option maxRecDepth 100000 in
set_option maxHeartbeats 8000000 in
theorem peaks_spec (xs : List Nat) (hz : ∀ z ∈ xs, z < 18446744073709551616) (fl : Nat) (f : Option Nat) (hfl : IsF fl f) (v : Value) (w : World) (h : Reads w v (flts xs)) :
    Calls Try.prog 19 #[v, .float .f64 fl] w (IntsTo (pksR xs f) (ringK xs.length) w) := by
  have hcap := fl_cap h
  have hfo := fl_form h
  have hR : pksR xs f = if ringK xs.length = 0 then pks xs f xs.length else [] := rfl
  have CK := Lib.hid (fun (a : Option Addr) (cap : Nat) (w : World) (hm : (xs.length : Int) ≤ 9223372036854775807) => hills_spec a xs.length cap hm w)
  by_cases hr : ringK xs.length = 0
  · obtain ⟨n3, n256⟩ := ringK_zero hr
    obtain ⟨i0, hi, hz0, hz1, hz2⟩ := info_parts info_i64P
    rw [hR, hr, if_pos rfl]
    rw [hr] at CK
    have hrd := fl_reads h
    have G1 := Lib.hid (fun (j : Nat) (hj : j < xs.length) => gt_isF (wO_isF hz hj) (wO_isF hz (prv_lt hj)))
    have G2 := Lib.hid (fun (j : Nat) (hj : j < xs.length) => gt_isF (wO_isF hz hj) (wO_isF hz (nxt_lt hj)))
    have G3 := Lib.hid (fun (j : Nat) (hj : j < xs.length) => ge_isF (wO_isF hz hj) hfl)
    have HPS : Hid (∀ j, pks xs f (j + 1) = if ((gtO (wO xs j) (wO xs (prv xs.length j)) && gtO (wO xs j) (wO xs (nxt xs.length j))) && geO (wO xs j) f) = true then pks xs f j ++ [(j : Int)] else pks xs f j) := fun j => rfl
    have HPL := Lib.hid (fun j => pks_len xs f j)
    obtain ⟨a, cap, rfl⟩ := hfo
    rw [flts_length] at *
    replace CK := Lib.hid (fun w => CK.out a cap w (hcap _ _ _ rfl))
    replace hrd := hrd _ _ _ rfl
    obtain ⟨n, hn⟩ : ∃ n, xs.length = n := ⟨_, rfl⟩
    rw [hn] at CK G1 G2 G3 HPS hrd n256 n3 ⊢
    have HRD := Lib.hid hrd
    have hmax : (n : Int) ≤ 9223372036854775807 := by omega
    have hnz : ¬ (n : Int) = 0 := by omega
    have hnz' : ¬ n = 0 := by omega
    clear h hz hR hr hn hcap hrd hfl
    go_enter Try.func19, Try.ntmps19
    go_wp2_with fail
    refine (CK.out _).mono ?_
    rintro e w' ⟨rfl, rfl⟩
    have HLIT := Lib.hid (World.ownsRow_lit w' (e := 2) (base := w'.heap.size) (size := 1) #[] 0 (Nat.le_refl _) (by unfold maxLen; omega) rfl)
    go_wp2
    go_loopw [8, 9] (fun v7 i wr => ∃ k : Nat, i = .int .i64 k ∧ k ≤ n ∧ Row wr w'.heap.size 2 v7 (ints (pks xs f k)) ∧ Below w'.heap.size w' wr) (fun _ i _ => n - (intOf i).toNat)
    case atStart => exact ⟨0, rfl, Nat.zero_le _, HLIT.out, (Below.refl _ _).alloc (Nat.le_refl _) _⟩
    case round =>
      obtain ⟨k, rfl, hk, hrw, hbw⟩ := hrel
      have HRW := Lib.hid hrw
      have HBW := Lib.hid hbw
      clear hrw hbw
      by_cases hlt : k < n
      · obtain ⟨g, rfl, hg, hc⟩ := HRD.out k hlt
        have p1 := prv_lt hlt
        have p2 := nxt_lt hlt
        obtain ⟨g', e', -, hc1⟩ := HRD.out _ p1
        simp only [Option.some.injEq, Addr.mk.injEq, and_true] at e'
        subst e'
        obtain ⟨g', e', -, hc2⟩ := HRD.out _ p2
        simp only [Option.some.injEq, Addr.mk.injEq, and_true] at e'
        subst e'
        have g1 := G1.out k hlt
        have g2 := G2.out k hlt
        have g3 := G3.out k hlt
        have e1 := HPS.out k
        have hl := HPL.out k
        have c1 : wr.cell? ⟨g, k, none⟩ = some (.float .f64 (xs.getD k 0)) := by rw [HBW.out.cell hg]; exact hc
        have c2 : wr.cell? ⟨g, prv n k, none⟩ = some (.float .f64 (xs.getD (prv n k) 0)) := by rw [HBW.out.cell hg]; exact hc1
        have c3 : wr.cell? ⟨g, nxt n k, none⟩ = some (.float .f64 (xs.getD (nxt n k) 0)) := by rw [HBW.out.cell hg]; exact hc2
        have q1 : ((k : Int) + (n : Int) - 1) % (n : Int) = (prv n k : Int) := by
          rw [show (k : Int) + (n : Int) - 1 = (k : Int) - 1 + (n : Int) by omega, Int.add_emod_right]; exact prv_rest hlt
        have q2 := nxt_rest hlt
        obtain ⟨y, hyy⟩ : ∃ y, xs.getD k 0 = y := ⟨_, rfl⟩
        obtain ⟨x, hxx⟩ : ∃ y, xs.getD (prv n k) 0 = y := ⟨_, rfl⟩
        obtain ⟨z, hzz⟩ : ∃ y, xs.getD (nxt n k) 0 = y := ⟨_, rfl⟩
        rw [hyy] at c1 g1 g2 g3
        rw [hxx] at c2 g1
        rw [hzz] at c3 g2
        obtain ⟨b1, hb1⟩ : ∃ b, gtO (wO xs k) (wO xs (prv n k)) = b := ⟨_, rfl⟩
        obtain ⟨b2, hb2⟩ : ∃ b, gtO (wO xs k) (wO xs (nxt n k)) = b := ⟨_, rfl⟩
        obtain ⟨b3, hb3⟩ : ∃ b, geO (wO xs k) f = b := ⟨_, rfl⟩
        rw [hb1] at g1 e1
        rw [hb2] at g2 e1
        rw [hb3] at g3 e1
        obtain ⟨P, hP⟩ : ∃ P, prv n k = P := ⟨_, rfl⟩
        obtain ⟨Q, hQ⟩ : ∃ Q, nxt n k = Q := ⟨_, rfl⟩
        rw [hP] at c2 p1 q1
        rw [hQ] at c3 p2 q2
        obtain ⟨zs, hzs⟩ : ∃ zs, pks xs f k = zs := ⟨_, rfl⟩
        rw [hzs] at HRW e1 hl
        have HE1 := Lib.hid e1
        have hli : (ints zs).length ≤ 256 := by rw [ints_length]; omega
        clear hyy hxx hzz hb1 hb2 hb3 hzs hc hc1 hc2 e1 hP hQ
        have q1' : ((k : Int) + (n : Int) - 1).tmod (n : Int) = (P : Int) := by rw [Int.tmod_eq_emod_of_nonneg (by omega)]; exact q1
        have q2' : ((k : Int) + 1).tmod (n : Int) = (Q : Int) := by rw [Int.tmod_eq_emod_of_nonneg (by omega)]; exact q2
        have i1 : (P : Int) < (n : Int) := by omega
        have i2 : (Q : Int) < (n : Int) := by omega
        have i3 : (k : Int) < (n : Int) := by omega
        have eW1 : IntKind.i64.wrap ((k : Int) + (n : Int)) = (k : Int) + (n : Int) := IntWalk.i64_in _ (by omega)
        have eW2 : IntKind.i64.wrap ((k : Int) + 1) = (k : Int) + 1 := IntWalk.i64_in _ (by omega)
        have eW3 : IntKind.i64.wrap ((k : Int) + (n : Int) - 1) = (k : Int) + (n : Int) - 1 := IntWalk.i64_in _ (by omega)
        have notPeak : ∀ (hb : ((b1 && b2) && b3) = false), Hid (∀ m, Row (wr.drewN m) w'.heap.size 2 u8 (ints (pks xs f (k + 1)))) := fun hb m => by
          have e := HE1.out
          rw [hb] at e
          rw [e]
          exact HRW.out.drewN m
        have isPeak : ∀ (hb : ((b1 && b2) && b3) = true), Hid (pks xs f (k + 1) = zs ++ [(k : Int)]) := fun hb => by
          have e := HE1.out
          rw [hb] at e
          exact e
        by_cases hall : ((b1 && b2) && b3) = true
        · have HN := isPeak hall
          obtain ⟨rfl, rfl, rfl⟩ : b1 = true ∧ b2 = true ∧ b3 = true := by
            cases b1 <;> cases b2 <;> cases b3 <;> simp at hall ⊢
          clear notPeak isPeak hall
          go_wp2
          go_quiet (fail)
          have HR3 := Lib.hid (HRW.out.drewN nq)
          have HB3 := Lib.hid (below_draws HBW.out nq)
          go_wp2_with (at_builtin; refine wpList_append_own _ rfl _ _ 30 rfl w'.heap.size 2 i0 (.int .i64 0) 1 8 Try.underlying30 hi hz0 hz1 hz2 rfl (by decide) _ _ _ rfl (HR3.out.alloc _) ⟨_, 0, none⟩ 1 1 [.int .i64 (k : Int)] rfl rfl (cell_one_new _ _ _) (by intro u hu; simp at hu; subst hu; rfl) (by simp only [maxLen]; omega) (by omega) (by have := HB3.out.size; simp at this; simp; omega) ?_)
          intro v' w1 hown' hgrow _
          have hlt' := (HR3.out.alloc (.cells #[.int .i64 (k : Int)] 2)).lt
          have hb' : Below w'.heap.size w' w1 := (HB3.out.alloc HB3.out.size _).grown hgrow (by have := HB3.out.size; simp at this; simp; omega) (fun b e => (hlt' b e).1)
          have HO' : Hid (Row w1 w'.heap.size 2 v' (ints (pks xs f (k + 1)))) := by
            show w1.ownsRow _ _ _ _ _ _
            rw [HN.out, ints_snoc, List.length_append]
            exact hown'
          have HX' := Lib.hid hb'
          clear hown' hgrow hlt' hb' HR3 HB3 HN
          go_wp2
          go_roundw
          case rel => first | exact ⟨k + 1, by go_num, by omega, HO'.out, HX'.out⟩ | ((repeat apply Exists.intro); refine ⟨?_, rfl⟩; exact ⟨k + 1, by go_num, by omega, HO'.out, HX'.out⟩)
          case measure => simp [intOf]; omega
        · have HN := notPeak (by simpa using hall)
          clear notPeak isPeak
          cases b1 <;> cases b2 <;> cases b3
          all_goals first
            | (exfalso; simp at hall; done)
            | (clear hall
               go_wp2
               go_quiet (fail)
               go_wp2
               go_roundw
               case rel => exact ⟨k + 1, by go_num, by omega, HN.out _, below_draws HBW.out _⟩
               case measure => simp [intOf]; omega)
      · have e : k = n := by omega
        subst e
        go_wp2
        go_ret2
        exact ⟨_, rfl, HRW.out, HBW.out⟩
  · rw [hR, if_neg hr]
    obtain ⟨a, cap, rfl⟩ := hfo
    rw [flts_length] at *
    replace hcap := hcap _ _ _ rfl
    replace CK := Lib.hid (fun w => CK.out a cap w hcap)
    obtain ⟨n, hn⟩ : ∃ n, xs.length = n := ⟨_, rfl⟩
    rw [hn] at CK hr hcap ⊢
    obtain ⟨K, hKK⟩ : ∃ K, ringK n = K := ⟨_, rfl⟩
    rw [hKK] at CK hr ⊢
    have g0 : (K == 0) = false := by simpa using hr
    clear h hz hR hn hKK hfl
    go_enter Try.func19, Try.ntmps19
    go_wp2_with fail
    refine (CK.out _).mono ?_
    rintro e w' ⟨rfl, rfl⟩
    go_wp2
    go_ret2
    exact ⟨_, rfl, World.ownsRow_lit w' #[] 0 (Nat.le_refl _) (by unfold maxLen; omega) rfl, (Below.refl _ _).alloc (Nat.le_refl _) _⟩

end Go.Proofs.Ytpobbicbfnglaaa
