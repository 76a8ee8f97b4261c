import Derived.Test.YtcoieclecmefiaaWinG
import Derived.Deep.RegionLaw
import Derived.Deep.AppendLies
/-
  FlatWindow of both.
-/
set_option linter.unusedVariables false
set_option linter.unusedSimpArgs false
namespace Go.Proofs.Ytcoieclecmefiaa
open Go.RowKit Flt Fast
attribute [local go_sem] run_fadd run_fsub run_fmul run_fquo run_cadd run_csub

/-- A number of a flat window. -/
def flatZ (xs : List Nat) (p i : Nat) : Option Nat := fop .quo .f64 (wO xs i) (ovS xs p (i % p))
def flatN (n : Nat) (h : Int) : Nat := if hopK n h = 0 then n else 0
theorem flatN_le (n : Nat) (h : Int) : flatN n h ≤ 100000000 := by
  unfold flatN
  split
  · rename_i hk
    have := hopK_zero hk
    omega
  · omega

theorem single_one (k : FloatKind) (a : Nat) : ∀ u ∈ [Value.float k a], u.oneCell' = true := by intro u hu; simp at hu; subst hu; rfl
theorem fmod_int (i p : Nat) : ((i : Int)).tmod (p : Int) = ((i % p : Nat) : Int) ∧ ((i : Int)) % (p : Int) = ((i % p : Nat) : Int) := ⟨rfl, rfl⟩

set_option maxRecDepth 100000 in
set_option maxHeartbeats 4000000 in
theorem flat_spec (xs : List Nat) (hz : ∀ z ∈ xs, z < 18446744073709551616) (h1 : Int) (v : Value) (w : World) (h : Reads w v (flts xs)) :
    Calls Try.prog 26 #[v, .int .i64 h1] w (FloatsTo (flatN xs.length h1) (flatZ xs h1.toNat) (hopK xs.length h1) w) := by
  have hcap := fl_cap h
  by_cases hk : hopK xs.length h1 = 0
  · have hh := hopK_zero hk
    obtain ⟨p, rfl⟩ : ∃ p : Nat, h1 = p := ⟨h1.toNat, by omega⟩
    have e1 : flatN xs.length p = xs.length := by unfold flatN; rw [if_pos hk]
    have C := Lib.hid (sums_spec xs hz p (by omega) (by omega) (by omega) v w h)
    obtain ⟨i0, hi, hz0, hz1, hz2⟩ := info_parts info_f64'
    have hrd := fl_reads h
    have hW : ∀ i, i < xs.length → IsF (xs.getD i 0) (wO xs i) := fun i hi => wO_isF hz hi
    have hp6 : 0 < p ∧ p ≤ 256 ∧ xs.length ≤ 256 := by omega
    rw [e1, hk, show ((p : Int)).toNat = p from rfl]
    obtain ⟨a, cap, rfl⟩ := fl_form h
    rw [flts_length] at *
    have D := Lib.hid (hop_spec a xs.length cap p (hcap _ _ _ rfl) w)
    rw [hk] at D
    replace hrd := hrd _ _ _ rfl
    obtain ⟨hp0, hp256, hn256⟩ := hp6
    obtain ⟨n, hn⟩ : ∃ n, xs.length = n := ⟨_, rfl⟩
    rw [hn] at hrd hW hn256 C D ⊢
    have HRD := Lib.hid hrd
    have HW := Lib.hid hW
    clear hh e1 hk h hcap hz hrd hW hn
    go_enter Try.func26, Try.ntmps26
    go_wp2_with fail
    refine D.out.mono ?_
    rintro e w' ⟨rfl, rfl⟩
    go_wp2_with fail
    refine C.out.mono ?_
    rintro e w2 ⟨u, ss, rfl, hr, hl, hg, hb⟩
    have hrs := fl_reads hr.reads
    obtain ⟨a2, cap2, rfl⟩ := fl_form hr.reads
    rw [flts_length, hl] at hrs ⊢
    have HRS := Lib.hid (hrs _ _ _ rfl)
    have HG := Lib.hid hg
    have HB := Lib.hid hb
    have hlit := World.ownsRow_lit w2 (e := 29) (base := w2.heap.size) (size := 1) #[] 0 (Nat.le_refl _) (by unfold maxLen; omega) rfl
    have HLIT := Lib.hid hlit
    clear hr hl hg hb hrs hlit C D
    go_wp2
    go_loopw [8, 9] (fun v8 i wr => ∃ (k : Nat) (fs : List Nat), i = .int .i64 k ∧ k ≤ n ∧ Row wr w2.heap.size 29 v8 (flts fs) ∧ fs.length = k ∧ (∀ j, j < k → IsF (fs.getD j 0) (flatZ xs p j)) ∧ Below w2.heap.size w2 wr) (fun _ i _ => n - (intOf i).toNat)
    case atStart => exact ⟨0, [], rfl, Nat.zero_le _, HLIT.out, rfl, fun j hj => by omega, (Below.refl _ _).alloc (Nat.le_refl _) _⟩
    case round =>
      obtain ⟨k, fs, rfl, hk, hrw, hfs, hgd, hbw⟩ := hrel
      have HRW := Lib.hid hrw
      have HFS := Lib.hid hfs
      have HGD := Lib.hid hgd
      have HBW := Lib.hid hbw
      clear hrw hfs hgd hbw
      by_cases hlt : k < n
      · obtain ⟨g, rfl, hg, hc⟩ := HRD.out k hlt
        have hsz := HB.out.size
        have c1 : wr.cell? ⟨g, k, none⟩ = some (.float .f64 (xs.getD k 0)) := by rw [HBW.out.cell (show g < w2.heap.size by omega), HB.out.cell hg]; exact hc
        obtain ⟨q, hq⟩ : ∃ q, k % p = q := ⟨_, rfl⟩
        have hqp : q < p := by rw [← hq]; exact Nat.mod_lt _ hp0
        obtain ⟨hq1, hq2⟩ := fmod_int k p
        rw [hq] at hq1 hq2
        obtain ⟨g2, rfl, hg2, hc2⟩ := HRS.out q hqp
        have c2 : wr.cell? ⟨g2, q, none⟩ = some (.float .f64 (ss.getD q 0)) := by rw [HBW.out.cell hg2]; exact hc2
        have hx := HW.out k hlt
        have hy := HG.out q hqp
        obtain ⟨x, hxx⟩ : ∃ x, xs.getD k 0 = x := ⟨_, rfl⟩
        obtain ⟨y, hyy⟩ : ∃ y, ss.getD q 0 = y := ⟨_, rfl⟩
        rw [hxx] at c1 hx
        rw [hyy] at c2 hy
        have HN : Hid (∀ r, IsF r (fop .quo .f64 (wO xs k) (ovS xs p q)) → IsF r (flatZ xs p k)) := fun r hr => by unfold flatZ; rw [hq]; exact hr
        have HX := Lib.hid hx
        have HY := Lib.hid hy
        have hcz : ¬ (p : Int) = 0 := by omega
        have hpz : ¬ p = 0 := by omega
        have hl8 : (flts fs).length = k := by rw [flts_length, HFS.out]
        have HROW2 : Hid (∀ (nn : Nat) (o : Obj), ((wr.drewN nn).alloc o).ownsRow w2.heap.size 29 1 u8 k (flts fs)) := fun nn o => by
          have := (HRW.out.drewN nn).alloc o
          unfold Row at this
          rwa [hl8] at this
        have hs63 : k + 1 ≤ maxLen := by simp only [maxLen]; omega
        have hsby : (k + 1) * 8 ≤ 140737488355328 := by omega
        have hsba : ∀ (nn : Nat) (o : Obj), w2.heap.size ≤ ((wr.drewN nn).alloc o).heap.size := fun nn o => by
          have := HBW.out.size
          show _ ≤ (wr.alloc o).heap.size
          simp; omega
        have HNX : Hid (∀ (nn : Nat) (o : Obj) (v' : Value) (w3 : World) (r : Nat), IsF r (fop .quo .f64 (wO xs k) (ovS xs p q)) → w3.ownsRow w2.heap.size 29 1 v' (k + 1) (flts fs ++ [.float .f64 r]) → ((wr.drewN nn).alloc o).grownBy w3 u8.ownBlock →
            ∃ fs', Row w3 w2.heap.size 29 v' (flts fs') ∧ fs'.length = k + 1 ∧ (∀ j, j < k + 1 → IsF (fs'.getD j 0) (flatZ xs p j)) ∧ Below w2.heap.size w2 w3) := fun nn o v' w3 r hr h1 h2 => by
          have hF := snocGood (d := (0 : Nat)) (G := fun i p' => IsF p' (flatZ xs p i)) HFS.out HGD.out (HN.out r hr)
          refine ⟨fs ++ [r], ?_, hF.1, hF.2, ((below_draws HBW.out nn).alloc HBW.out.size o).grown h2 (hsba nn o) (fun b e => (HRW.out.lt b e).1)⟩
          show w3.ownsRow _ _ _ _ _ _
          rw [flts_snoc, List.length_append, hl8]
          exact h1
        clear hxx hyy hx hy hc hc2 hl8 hg hg2 hq
        go_wp2
        go_region_law (first
          | (refine step_append_lies _ rfl (.tmp 27) (.tmp 39) 49 rfl w2.heap.size 29 i0 (.float .f64 0) 1 8 Try.underlying49 hi hz0 hz1 hz2 rfl (by decide) u8 k (flts fs) rfl (HROW2.out _ _) ⟨wr.heap.size, 0, none⟩ 1 1 [.float .f64 _] rfl rfl (cell_one_new _ _ _) (single_one _ _) (by decide) hs63 hsby (hsba _ _) _ rfl ?_; intro g' cap' w3 hown hgrow hor hlt2; obtain ⟨fs', hrn, hfn, hgn, hbn⟩ := HNX.out _ _ _ _ _ (isF_fres HX.out HY.out _) hown hgrow; have HRN := Lib.hid hrn; have HFN := Lib.hid hfn; have HGN := Lib.hid hgn; have HBN := Lib.hid hbn; clear hown hgrow hor hlt2 hrn hfn hgn hbn)
          | (trace_state; fail))
        all_goals
          go_wp2
          go_roundw
          case rel => first | exact ⟨k + 1, fs', by go_num, by omega, HRN.out, HFN.out, HGN.out, HBN.out⟩ | ((repeat apply Exists.intro); refine ⟨?_, rfl⟩; exact ⟨k + 1, fs', by go_num, by omega, HRN.out, HFN.out, HGN.out, HBN.out⟩)
          case measure => simp [intOf]; omega
      · have e : k = n := by omega
        subst e
        go_wp2
        go_ret2
        exact ⟨_, fs, rfl, HRW.out.base HB.out.size, HFS.out, HGD.out, below_step HB.out HBW.out HB.out.size⟩
  · have e1 : flatN xs.length h1 = 0 := by unfold flatN; rw [if_neg hk]
    rw [e1]
    obtain ⟨a, cap, rfl⟩ := fl_form h
    rw [flts_length] at *
    have D := Lib.hid (hop_spec a xs.length cap h1 (hcap _ _ _ rfl) w)
    obtain ⟨k, hkk⟩ : ∃ k, hopK xs.length h1 = k := ⟨_, rfl⟩
    rw [hkk] at D hk ⊢
    clear h hcap hz e1 hkk
    go_enter Try.func26, Try.ntmps26
    go_wp2_with fail
    refine D.out.mono ?_
    rintro e w' ⟨rfl, rfl⟩
    go_wp2
    go_ret2
    exact ⟨_, [], rfl, World.ownsRow_lit w' #[] 0 (Nat.le_refl _) (by unfold maxLen; omega) rfl, rfl, fun i hi => by omega, (Below.refl _ _).alloc (Nat.le_refl _) _⟩

theorem enter_flat1 (args : Array Value) (w : World) : (callFunc 64 args).run Try.prog w = .ok (.enter 64 args) w := by kernel_rfl

set_option maxRecDepth 100000 in
set_option maxHeartbeats 4000000 in
theorem flat1_any (xs ss : List Nat) (hz : ∀ z ∈ xs, z < 18446744073709551616) (p : Nat) (hp : 0 < p) (hss : ss.length = p) (hgs : ∀ i, i < p → IsF (ss.getD i 0) (ovS xs p i)) (hl : xs.length ≤ 256) (v vs : Value) (i b c d : Nat) (hi : i < xs.length) (w : World) (h : Reads w v (flts xs)) (hs : Reads w vs (flts ss))
    (hb : w.cell? ⟨b, 0, none⟩ = some v) (hd : w.cell? ⟨d, 0, none⟩ = some vs) (hc : w.cell? ⟨c, 0, none⟩ = some (.int .i64 p)) :
    Calls Try.prog 64 #[.int .i64 i, .pointer (some ⟨b, 0, none⟩), .pointer (some ⟨d, 0, none⟩), .pointer (some ⟨c, 0, none⟩)] w fun e w' => ∃ q, e = .returned (fval q) ∧ IsF q (flatZ xs p i) ∧ Below w.heap.size w w' := by
  have hrd := fl_reads h
  have hrs := fl_reads hs
  have hcap := fl_cap h
  have hcaps := fl_cap hs
  obtain ⟨a, cap, rfl⟩ := fl_form h
  obtain ⟨a2, cap2, rfl⟩ := fl_form hs
  rw [flts_length] at *
  rw [hss] at *
  obtain ⟨g, rfl, -, c1⟩ := hrd _ _ _ rfl i hi
  obtain ⟨q, hq⟩ : ∃ q, i % p = q := ⟨_, rfl⟩
  have hqp : q < p := by rw [← hq]; exact Nat.mod_lt _ hp
  obtain ⟨hq1, hq2⟩ := fmod_int i p
  rw [hq] at hq1 hq2
  obtain ⟨g2, rfl, -, c2⟩ := hrs _ _ _ rfl q hqp
  have hx := wO_isF hz hi
  have hy := hgs q hqp
  replace hcap := hcap _ _ _ rfl
  replace hcaps := hcaps _ _ _ rfl
  obtain ⟨x, hxx⟩ : ∃ x, xs.getD i 0 = x := ⟨_, rfl⟩
  obtain ⟨y, hyy⟩ : ∃ y, ss.getD q 0 = y := ⟨_, rfl⟩
  obtain ⟨n, hn⟩ : ∃ n, xs.length = n := ⟨_, rfl⟩
  rw [hxx] at c1 hx
  rw [hyy] at c2 hy
  rw [hn] at hb hi hcap
  have HN : Hid (∀ r, IsF r (fop .quo .f64 (wO xs i) (ovS xs p q)) → IsF r (flatZ xs p i)) := fun r hr => by unfold flatZ; rw [hq]; exact hr
  have HX := Lib.hid hx
  have HY := Lib.hid hy
  have hcz : ¬ (p : Int) = 0 := by omega
  have hpz : ¬ p = 0 := by omega
  clear h hs hz hgs hss hrd hrs hxx hyy hx hy hn hq hl
  go_enter Try.func64, Try.ntmps64
  go_wp2
  go_region
  go_wp2
  go_ret
  exact ⟨_, rfl, HN.out _ (isF_fres HX.out HY.out _), below_draws (Below.refl _ _) _⟩

set_option maxRecDepth 100000 in
set_option maxHeartbeats 4000000 in
theorem flat_impl (xs : List Nat) (hz : ∀ z ∈ xs, z < 18446744073709551616) (h1 : Int) (v : Value) (w : World) (h : Reads w v (flts xs)) :
    Calls Try.prog 25 #[v, .int .i64 h1] w (FloatsTo (flatN xs.length h1) (flatZ xs h1.toNat) (hopK xs.length h1) w) := by
  have hcap := fl_cap h
  have hform := fl_form h
  have hb0 : Below w.heap.size w ((w.alloc (.cells #[v] 49)).alloc (.cells #[.int .i64 h1] 2)) := ((Below.refl _ _).alloc (Nat.le_refl _) _).alloc (by simp) _
  have D := Lib.hid (fun w1 (hb : Below w.heap.size w w1) => overlap_impl xs hz h1 v w1 (h.below hb))
  have HRV := Lib.hid (fun w1 (hb : Below w.heap.size w w1) => h.below hb)
  have HB0 := Lib.hid hb0
  by_cases hk : hopK xs.length h1 = 0
  · have hh := hopK_zero hk
    obtain ⟨p, rfl⟩ : ∃ p : Nat, h1 = p := ⟨h1.toNat, by omega⟩
    have e1 : flatN xs.length p = xs.length := by unfold flatN; rw [if_pos hk]
    have e2 : ovN xs.length p = p := by unfold ovN; rw [if_pos hk]; rfl
    have hp0 : 0 < p := by omega
    have hn6 : xs.length ≤ 1000000 := by omega
    have F := Lib.hid (fun (ss : List Nat) (hss : ss.length = p) (hgs : ∀ i, i < p → IsF (ss.getD i 0) (ovS xs p i)) (vs : Value) (i b c d : Nat) (hi : i < xs.length) (w1 : World) (hr : Reads w1 v (flts xs)) => flat1_any xs ss hz p hp0 hss hgs (by omega) v vs i b c d hi w1 hr)
    rw [e2, hk, show ((p : Int)).toNat = p from rfl] at D
    rw [e1, hk, show ((p : Int)).toNat = p from rfl]
    obtain ⟨a, cap, rfl⟩ := hform
    rw [flts_length] at *
    replace hcap := hcap _ _ _ rfl
    obtain ⟨n, hn⟩ : ∃ n, xs.length = n := ⟨_, rfl⟩
    rw [hn] at D F HRV HB0 hcap hn6 ⊢
    clear h hz hh e1 e2 hk hb0 hn
    go_enter Try.func25, Try.ntmps25
    go_wp2_with fail
    refine (D.out _ HB0.out).mono ?_
    rintro e w2 ⟨u, ss, rfl, hr, hl, hg, hb2⟩
    obtain ⟨au, cu, rfl⟩ := fl_form hr.reads
    obtain ⟨u, hu⟩ : ∃ u, Value.slice au (flts ss).length cu = u := ⟨_, rfl⟩
    have HU := Lib.hid hu
    obtain ⟨lu, hlu⟩ : ∃ l, (flts ss).length = l := ⟨_, rfl⟩
    rw [hlu] at hr hu ⊢
    subst hu
    clear HU hlu
    have c0 : w2.cell? ⟨w.heap.size, 0, none⟩ = some (.slice a n cap) := by rw [hb2.cell (by simp; omega)]; go_simp
    have c1 : w2.cell? ⟨w.heap.size + 1, 0, none⟩ = some (.int .i64 p) := by rw [hb2.cell (by simp)]; go_simp
    have hbs := below_step HB0.out hb2 HB0.out.size
    have HB2 := Lib.hid hbs
    have hs2 : w.heap.size + 2 ≤ w2.heap.size := by have := hb2.size; simp at this; omega
    have HR := Lib.hid hr
    have HL := Lib.hid hl
    have HG := Lib.hid hg
    have d0 : (w2.alloc (.cells #[.slice au lu cu] 49)).cell? ⟨w.heap.size, 0, none⟩ = some (.slice a n cap) := by rw [((Below.refl w2.heap.size w2).alloc (Nat.le_refl _) _).cell (by show w.heap.size < _; omega)]; exact c0
    have d1 : (w2.alloc (.cells #[.slice au lu cu] 49)).cell? ⟨w.heap.size + 1, 0, none⟩ = some (.int .i64 p) := by rw [((Below.refl w2.heap.size w2).alloc (Nat.le_refl _) _).cell (by show w.heap.size + 1 < _; omega)]; exact c1
    have d2 : (w2.alloc (.cells #[.slice au lu cu] 49)).cell? ⟨w2.heap.size, 0, none⟩ = some (.slice au lu cu) := by go_simp
    have hb3 : Below w.heap.size w (w2.alloc (.cells #[.slice au lu cu] 49)) := hbs.alloc hbs.size _
    have HB3 := Lib.hid hb3
    have hsz3 : (w2.alloc (.cells #[.slice au lu cu] 49)).heap.size = w2.heap.size + 1 := by simp
    have L := Lib.hid (listOf_f64' 64 #[.pointer (some ⟨w.heap.size, 0, none⟩), .pointer (some ⟨w2.heap.size, 0, none⟩), .pointer (some ⟨w.heap.size + 1, 0, none⟩)] n hn6 (flatZ xs p) (w2.alloc (.cells #[.slice au lu cu] 49)) enter_flat1
      (fun i w1 hi hb => F.out ss HL.out HG.out (.slice au lu cu) i w.heap.size (w.heap.size + 1) w2.heap.size hi w1 (HRV.out w1 (below_step HB3.out hb HB3.out.size)) ((HR.out.alloc _).below hb (fun k e => ((HR.out.alloc _).lt k e).2)).reads
        (by rw [hb.cell (by rw [hsz3]; show w.heap.size < _; omega)]; exact d0) (by rw [hb.cell (by rw [hsz3]; show w2.heap.size < _; omega)]; exact d2) (by rw [hb.cell (by rw [hsz3]; show w.heap.size + 1 < _; omega)]; exact d1)))
    clear hb2 D F HRV hr hl hg hbs hb3 hsz3
    go_wp2_with fail
    refine L.out.mono ?_
    rintro e w3 ⟨t, fs, rfl, hr, hl, hg, hb⟩
    have HX := Lib.hid (And.intro (hr.base HB3.out.size) (And.intro hl (And.intro hg (below_step HB3.out hb HB3.out.size))))
    clear hr hl hg hb
    go_wp2
    go_ret2
    exact ⟨t, fs, rfl, HX.out⟩
  · have e1 : flatN xs.length h1 = 0 := by unfold flatN; rw [if_neg hk]
    rw [e1]
    obtain ⟨a, cap, rfl⟩ := hform
    rw [flts_length] at *
    obtain ⟨k, hkk⟩ : ∃ k, hopK xs.length h1 = k := ⟨_, rfl⟩
    rw [hkk] at D hk ⊢
    clear h hcap hz e1 hkk hb0 HRV
    go_enter Try.func25, Try.ntmps25
    go_wp2_with fail
    refine (D.out _ HB0.out).mono ?_
    rintro e w2 ⟨u, ss, rfl, hr, hl, hg, hb2⟩
    obtain ⟨au, cu, rfl⟩ := fl_form hr.reads
    have HB2 := Lib.hid (below_step HB0.out hb2 HB0.out.size)
    clear hb2 hr hl hg
    go_wp2
    go_ret2
    exact ⟨_, [], rfl, World.ownsRow_nil _ _ _ _, rfl, fun i hi => by omega, HB2.out.alloc HB2.out.size _⟩

end Go.Proofs.Ytcoieclecmefiaa
