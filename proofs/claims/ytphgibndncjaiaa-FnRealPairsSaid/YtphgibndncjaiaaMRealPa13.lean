/-
  Several texts of this claim, one behind the other; each says what it holds.
-/
import Derived.Test.YtphgibndncjaiaaMRealPa12
import Derived.Maps.AppendAt
import Derived.Deep.CutRange
/-
  The walk of the law FnRealPairs.
-/
set_option linter.unusedVariables false
set_option linter.unusedSimpArgs false
namespace Go.Proofs.Ytphgibndncjaiaa
open Go.RowKit Flt Turn Fast

theorem run_neqP {P : Program} (w : World) (t : TypeId) (k : FloatKind) (a b c d : Nat) : (binOp .neq t (.complex k a b) (.complex k c d)).run P w = .ok (.bool (!eqC k a b c d)) w := run_neq_complex w t k a b c d
attribute [local go_sem ↓] run_neqP

theorem conjP_any (a b : Nat) (w : World) :
    Calls Try.prog 17 #[.complex .f64 a b] w fun e w' => e = .returned (.complex .f64 a (Op.negFloat .f64 b)) ∧ w' = w := by
  go_enter Try.func17, Try.ntmps17
  go_wp2_with (go_at_call 37; go_in)
  go_ret
  exact ⟨rfl, rfl⟩

def reN (zs : List C) (j : Nat) : List Nat := (List.range j).map fun i => (zs.getD i (0, 0)).1
def imN (zs : List C) (j : Nat) : List Nat := (List.range j).map fun i => (zs.getD i (0, 0)).2
theorem reN_length (zs : List C) (j : Nat) : (reN zs j).length = j := by simp [reN]
theorem imN_length (zs : List C) (j : Nat) : (imN zs j).length = j := by simp [imN]
theorem reN_succ (zs : List C) (j : Nat) : reN zs (j + 1) = reN zs j ++ [(zs.getD j (0, 0)).1] := by simp [reN, List.range_succ]
theorem imN_succ (zs : List C) (j : Nat) : imN zs (j + 1) = imN zs j ++ [(zs.getD j (0, 0)).2] := by simp [imN, List.range_succ]
theorem reN_wf {zs : List C} (h : WfC zs) : ∀ z ∈ reN zs zs.length, z < 18446744073709551616 := fun z hz => by
  obtain ⟨i, hi, rfl⟩ := List.mem_map.1 hz
  exact (h _ (getD_memC (List.mem_range.1 hi))).1
theorem imN_wf {zs : List C} (h : WfC zs) : ∀ z ∈ imN zs zs.length, z < 18446744073709551616 := fun z hz => by
  obtain ⟨i, hi, rfl⟩ := List.mem_map.1 hz
  exact (h _ (getD_memC (List.mem_range.1 hi))).2
theorem both_self (zs : List C) : bothN (reN zs zs.length) (imN zs zs.length) zs.length = zs := by
  apply List.ext_getElem (by rw [bothN_length])
  intro i h1 h2
  simp [bothN, reN, imN, List.getD, h2]
theorem both_real (zs : List C) : bothN (reN zs zs.length) (zeros zs.length) zs.length = partN1 zs zs.length := by
  apply List.ext_getElem (by rw [bothN_length, partN1_length])
  intro i h1 h2
  rw [bothN_length] at h1
  simp [bothN, reN, zeros, partN1, List.getD, h1]

theorem part1_wf {zs : List C} {n : Nat} (h : FewC zs) (hl : zs.length = n) : WfC (partN1 zs n) := by subst hl; exact (part1_few h).wf
theorem part2_wf {zs : List C} {n : Nat} (h : FewC zs) (hl : zs.length = n) : WfC (partN2 zs n) := by subst hl; exact (part2_few h).wf
theorem pairN {zs : List C} {n : Nat} {v0 v1 : Value} {w : World} (h : FewC zs) (hl : zs.length = n) (hn : n ≤ 20) (h0 : Reads w v0 (flts (reN zs n))) (h1 : Reads w v1 (flts (imN zs n))) :
    Calls Try.prog 15 #[v0, v1] w fun e w' => ∃ u1 u2 f s zf, e = .returned (.tuple #[u1, u2, .int .i64 0]) ∧ Row w' w.heap.size 26 u1 (cvals f) ∧ Row w' w.heap.size 26 u2 (cvals s) ∧ Below w.heap.size w w' ∧ Fast (zsOf zs) zf ∧ f.length = n ∧ s.length = n ∧ (∀ k, k < n → IsC (f.getD k (0, 0)) (firstZ zf n k)) ∧ (∀ k, k < n → IsC (s.getD k (0, 0)) (secondZ zf n k)) := by
  subst hl
  refine (pair_impl (reN zs zs.length) (imN zs zs.length) v0 v1 w (reN_wf h.wf) (imN_wf h.wf) h0 h1).mono ?_
  rintro e w' ⟨u1, u2, f, s, c, rfl, r1, r2, -, hb, hD⟩
  rw [reN_length, imN_length] at hD
  rcases hD with ⟨h, -⟩ | ⟨-, h, -⟩ | ⟨-, -, rfl, zf, hz, hf, hs, hg⟩
  · omega
  · exact absurd rfl h
  · rw [both_self] at hz
    exact ⟨u1, u2, f, s, zf, rfl, r1, r2, hb, hz, hf, hs, fun k hk => (hg k hk).1, fun k hk => (hg k hk).2⟩
theorem realN {zs : List C} {n : Nat} {v0 : Value} {w : World} (h : FewC zs) (hl : zs.length = n) (hn : n ≤ 20) (h0 : Reads w v0 (flts (reN zs n))) :
    Calls Try.prog 16 #[v0] w fun e w' => ∃ u1 f zf, e = .returned (.tuple #[u1, .int .i64 0]) ∧ Row w' w.heap.size 26 u1 (cvals f) ∧ Below w.heap.size w w' ∧ Fast (zsOf (partN1 zs n)) zf ∧ f.length = n ∧ (∀ k, k < n → IsC (f.getD k (0, 0)) (firstZ zf n k)) := by
  subst hl
  refine (realT_impl (reN zs zs.length) v0 w (reN_wf h.wf) (by rw [reN_length]; omega) h0).mono ?_
  rintro e w' ⟨u1, f, s, c, rfl, r1, hb, hD⟩
  rw [reN_length] at hD
  rcases hD with ⟨h, -⟩ | ⟨-, h, -⟩ | ⟨-, -, rfl, zf, hz, hf, hs, hg⟩
  · omega
  · exact absurd rfl h
  · rw [both_real] at hz
    exact ⟨u1, f, zf, rfl, r1, hb, hz, hf, fun k hk => (hg k hk).1⟩

/-- Rows that lie apart. -/
def Ap (u v : Value) : Prop := ∀ b, u.ownBlock = some b → v.ownBlock ≠ some b
theorem Ap.symm {u v : Value} (h : Ap u v) : Ap v u := fun b h1 h2 => h b h2 h1
theorem other_row {wr w5 : World} {B : Nat} {O : Obj} {e : TypeId} {v v2 v' : Value} {cs2 : List Value} (h2 : Row wr B e v2 cs2) (hd : Ap v v2)
    (hg : (wr.alloc O).grownBy w5 v.ownBlock) (hat : v'.ownBlock = v.ownBlock ∨ v'.ownBlock = some (wr.heap.size + 1)) : Row w5 B e v2 cs2 ∧ Ap v' v2 := by
  constructor
  · refine (h2.alloc O).kept hg ?_
    cases h1 : v2.ownBlock with
    | none => exact .inl rfl
    | some b => exact .inr (fun e => hd b e.symm h1)
  · intro b hb h1
    rcases hat with e | e
    · exact hd b (e ▸ hb) h1
    · have := (h2.lt b h1).2
      rw [hb] at e
      have e2 := Option.some.inj e
      omega

/-- The four lists of the law. -/
structure Rows4 (B : Nat) (zs : List C) (a b c d : Nat) (v6 v7 v8 v9 : Value) (w : World) : Prop where
  r6 : Row w B 28 v6 (flts (reN zs a))
  r7 : Row w B 28 v7 (flts (imN zs b))
  r8 : Row w B 26 v8 (cvals (partN1 zs c))
  r9 : Row w B 26 v9 (cvals (partN2 zs d))
  a67 : Ap v6 v7
  a68 : Ap v6 v8
  a69 : Ap v6 v9
  a78 : Ap v7 v8
  a79 : Ap v7 v9
  a89 : Ap v8 v9
theorem Rows4.start (w : World) (zs : List C) : Rows4 w.heap.size zs 0 0 0 0 (.slice (some ⟨w.heap.size, 0, none⟩) 0 0) (.slice (some ⟨w.heap.size + 1, 0, none⟩) 0 0) (.slice (some ⟨w.heap.size + 1 + 1, 0, none⟩) 0 0) (.slice (some ⟨w.heap.size + 1 + 1 + 1, 0, none⟩) 0 0)
    ((((w.alloc (.cells #[] 28)).alloc (.cells #[] 28)).alloc (.cells #[] 26)).alloc (.cells #[] 26)) ∧ Below w.heap.size w ((((w.alloc (.cells #[] 28)).alloc (.cells #[] 28)).alloc (.cells #[] 26)).alloc (.cells #[] 26)) := by
  have hne : ∀ a b : Nat, a ≠ b → Ap (.slice (some ⟨a, 0, none⟩) 0 0) (.slice (some ⟨b, 0, none⟩) 0 0) := fun a b h c e e' => by
    simp only [Value.ownBlock, Option.some.injEq] at e e'
    omega
  have r : ∀ (W : World) (e : TypeId) (H : Nat), w.heap.size ≤ W.heap.size → W.heap.size = H → Row (W.alloc (.cells #[] e)) w.heap.size e (.slice (some ⟨H, 0, none⟩) 0 0) [] := fun W e H hW hH => by
    subst hH
    have := World.ownsRow_lit W (e := e) (base := w.heap.size) (size := 1) #[] 0 hW (by unfold maxLen; omega) rfl
    unfold Row
    simpa using this
  exact ⟨⟨(((r w _ _ (Nat.le_refl _) rfl).alloc _).alloc _).alloc _, ((r (w.alloc _) _ _ (by simp) (by simp)).alloc _).alloc _, (r ((w.alloc _).alloc _) _ _ (by simp; omega) (by simp)).alloc _, r (((w.alloc _).alloc _).alloc _) _ _ (by simp; omega) (by simp), hne _ _ (by omega), hne _ _ (by omega), hne _ _ (by omega), hne _ _ (by omega), hne _ _ (by omega), hne _ _ (by omega)⟩,
    ((((Below.refl _ _).alloc (Nat.le_refl _) _).alloc (by simp) _).alloc (by simp; omega) _).alloc (by simp; omega) _⟩

set_option maxRecDepth 100000 in
set_option maxHeartbeats 16000000 in
theorem fnRp_law (a0 : Option Addr) (len0 cap0 : Nat) (z0' : List Int) (a1 : Option Addr) (len1 cap1 : Nat) (z1 : List Int) (w : World) (h0 : IsRow .u8 w a0 len0 cap0 z0') (h1 : IsRow .u8 w a1 len1 cap1 z1) :
    Calls Try.prog 4 #[.slice a0 len0 cap0, .slice a1 len1 cap1] w fun e w' => e = .returned (.bool true) ∧ Below w.heap.size w w' := by
  obtain ⟨i0, hi, hy0, hy1, hy2⟩ := info_parts info_c128
  obtain ⟨j0, hj, hu0, hu1, hu2⟩ := info_parts info_f64
  by_cases hl0 : len0 ≤ 3000
  · by_cases hl1 : len1 ≤ 3000
    · go_enter Try.func4, Try.ntmps4
      go_wp2_with (first | (go_at_call 5; go_in))
      refine (a2Signal_any a0 len0 cap0 z0' 16 (by omega) (by omega) w h0).mono ?_
      rintro e w1 ⟨v1, zs, rfl, hx, hxl, hxf, hb1⟩
      obtain ⟨ax, cx, rfl⟩ := writtenM hx
      obtain ⟨n, hn⟩ : ∃ n, zs.length = n := ⟨_, rfl⟩
      have RD := readsAt' hx.reads
      rw [cvals_length, hn] at hx RD ⊢
      rw [hn] at hxl
      have HC : Hid (∀ k, k < n → ∃ g, ax = some ⟨g, 0, none⟩ ∧ g < w1.heap.size ∧ w1.cell? ⟨g, k, none⟩ = some (.complex .f64 (zs.getD k (0, 0)).1 (zs.getD k (0, 0)).2)) := RD _ _ _ rfl
      have hmax := maxLen_int (by have := readsMaxN (n := n) hx.reads; exact this)
      have HRX := Lib.hid hx
      have HXF := Lib.hid hxf
      have HN := Lib.hid hn
      have HB1 := Lib.hid hb1
      have hz1 := hb1.size
      obtain ⟨st1, st2⟩ := Rows4.start w1 zs
      have ST1 := Lib.hid st1
      have ST2 := Lib.hid st2
      clear hx hxf hb1 h0 h1 hl0 hl1 hn RD st1 st2
      go_wp2
      go_loopw [6, 7, 8, 9, 10] (fun v6 v7 v8 v9 i wr => ∃ k : Nat, i = .int .i64 k ∧ k ≤ n ∧ Rows4 w1.heap.size zs k k k k v6 v7 v8 v9 wr ∧ Below w1.heap.size w1 wr) (fun _ _ _ _ i _ => n - (intOf i).toNat)
      case atStart => exact ⟨0, rfl, Nat.zero_le _, ST1.out, ST2.out⟩
      case round =>
        clear ST1 ST2
        obtain ⟨k, rfl, hk, hrows, hbr⟩ := hrel
        obtain ⟨wt, rfl⟩ : ∃ x, x = wr := ⟨_, rfl⟩
        by_cases hlt : k < n
        · obtain ⟨g, rfl, hg, hc⟩ := HC.out k hlt
          have e1 := reN_succ zs k
          have e2 := imN_succ zs k
          have e3 := partN1_succ zs k
          have e4 := partN2_succ zs k
          obtain ⟨⟨x, y⟩, hxy⟩ : ∃ q, zs.getD k (0, 0) = q := ⟨_, rfl⟩
          rw [hxy] at hc e1 e2 e3 e4
          have HE1 := Lib.hid e1
          have HE2 := Lib.hid e2
          have HE3 := Lib.hid e3
          have HE4 := Lib.hid e4
          have HCC : Hid (∀ W, Below w1.heap.size w1 W → W.cell? ⟨g, k, none⟩ = some (.complex .f64 x y)) := Lib.hid fun W hb => by rw [hb.cell hg]; exact hc
          have c1 := HCC.out _ hbr
          have HR := Lib.hid hrows
          have HBR := Lib.hid hbr
          have l6 : Hid ((flts (reN zs k)).length = k) := by show _ = _; rw [flts_length, reN_length]
          have l7 : Hid ((flts (imN zs k)).length = k) := by show _ = _; rw [flts_length, imN_length]
          have l8 : Hid ((cvals (partN1 zs k)).length = k) := by show _ = _; rw [cvals_length, partN1_length]
          have l9 : Hid ((cvals (partN2 zs k)).length = k) := by show _ = _; rw [cvals_length, partN2_length]
          have hzr := hbr.size
          clear hxy hc e1 e2 e3 e4 hrows hbr hg
          go_wp2_with (at_builtin; refine wpList_append_own_at _ rfl _ _ 37 rfl w1.heap.size 28 j0 (.float .f64 0) 1 8 Try.underlying37 hj hu0 hu1 hu2 rfl (by decide) _ _ _ rfl (HR.out.r6.alloc _) ⟨_, 0, none⟩ 1 1 [.float .f64 x] rfl rfl (cell_one_new _ _ _) (by intro u hu; simp at hu; subst hu; rfl) (by rw [l6.out]; simp only [maxLen]; omega) (by rw [l6.out]; omega) (by simp; omega) ?_)
          intro va0 wa0 hown hgrow _ hat
          obtain ⟨nr7, mr7⟩ := other_row HR.out.r7 HR.out.a67 hgrow hat
          obtain ⟨nr8, mr8⟩ := other_row HR.out.r8 HR.out.a68 hgrow hat
          obtain ⟨nr9, mr9⟩ := other_row HR.out.r9 HR.out.a69 hgrow hat
          have hnew : Row wa0 w1.heap.size 28 va0 (flts (reN zs (k + 1))) := by
            show wa0.ownsRow _ _ _ _ _ _
            have e : flts (reN zs (k + 1)) = flts (reN zs k) ++ [.float .f64 x] := by rw [HE1.out]; simp [flts, cval]
            rw [e, List.length_append]
            exact hown
          have hbn : Below w1.heap.size w1 wa0 := (HBR.out.alloc hzr _).grown hgrow (by simp; omega) (fun b e => (HR.out.r6.lt b e).1)
          replace HR := Lib.hid (show Rows4 w1.heap.size zs (k + 1) k k k _ _ _ _ wa0 from ⟨hnew, nr7, nr8, nr9, mr7, mr8, mr9, HR.out.a78, HR.out.a79, HR.out.a89⟩)
          replace HBR := Lib.hid hbn
          replace hzr := hbn.size
          replace c1 := HCC.out _ hbn
          clear hown hgrow hat hnew hbn nr7 mr7 nr8 mr8 nr9 mr9
          go_wp2_with (at_builtin; refine wpList_append_own_at _ rfl _ _ 37 rfl w1.heap.size 28 j0 (.float .f64 0) 1 8 Try.underlying37 hj hu0 hu1 hu2 rfl (by decide) _ _ _ rfl (HR.out.r7.alloc _) ⟨_, 0, none⟩ 1 1 [.float .f64 y] rfl rfl (cell_one_new _ _ _) (by intro u hu; simp at hu; subst hu; rfl) (by rw [l7.out]; simp only [maxLen]; omega) (by rw [l7.out]; omega) (by simp; omega) ?_)
          intro va1 wa1 hown hgrow _ hat
          obtain ⟨nr6, mr6⟩ := other_row HR.out.r6 HR.out.a67.symm hgrow hat
          obtain ⟨nr8, mr8⟩ := other_row HR.out.r8 HR.out.a78 hgrow hat
          obtain ⟨nr9, mr9⟩ := other_row HR.out.r9 HR.out.a79 hgrow hat
          have hnew : Row wa1 w1.heap.size 28 va1 (flts (imN zs (k + 1))) := by
            show wa1.ownsRow _ _ _ _ _ _
            have e : flts (imN zs (k + 1)) = flts (imN zs k) ++ [.float .f64 y] := by rw [HE2.out]; simp [flts, cval]
            rw [e, List.length_append]
            exact hown
          have hbn : Below w1.heap.size w1 wa1 := (HBR.out.alloc hzr _).grown hgrow (by simp; omega) (fun b e => (HR.out.r7.lt b e).1)
          replace HR := Lib.hid (show Rows4 w1.heap.size zs (k + 1) (k + 1) k k _ _ _ _ wa1 from ⟨nr6, hnew, nr8, nr9, mr6.symm, HR.out.a68, HR.out.a69, mr8, mr9, HR.out.a89⟩)
          replace HBR := Lib.hid hbn
          replace hzr := hbn.size
          replace c1 := HCC.out _ hbn
          clear hown hgrow hat hnew hbn nr6 mr6 nr8 mr8 nr9 mr9
          go_wp2_with (at_builtin; refine wpList_append_own_at _ rfl _ _ 24 rfl w1.heap.size 26 i0 (.complex .f64 0 0) 1 16 Try.underlying24 hi hy0 hy1 hy2 rfl (by decide) _ _ _ rfl (HR.out.r8.alloc _) ⟨_, 0, none⟩ 1 1 [.complex .f64 x 0] rfl rfl (cell_one_new _ _ _) (by intro u hu; simp at hu; subst hu; rfl) (by rw [l8.out]; simp only [maxLen]; omega) (by rw [l8.out]; omega) (by simp; omega) ?_)
          intro va2 wa2 hown hgrow _ hat
          obtain ⟨nr6, mr6⟩ := other_row HR.out.r6 HR.out.a68.symm hgrow hat
          obtain ⟨nr7, mr7⟩ := other_row HR.out.r7 HR.out.a78.symm hgrow hat
          obtain ⟨nr9, mr9⟩ := other_row HR.out.r9 HR.out.a89 hgrow hat
          have hnew : Row wa2 w1.heap.size 26 va2 (cvals (partN1 zs (k + 1))) := by
            show wa2.ownsRow _ _ _ _ _ _
            have e : cvals (partN1 zs (k + 1)) = cvals (partN1 zs k) ++ [.complex .f64 x 0] := by rw [HE3.out]; simp [cvals, cval]
            rw [e, List.length_append]
            exact hown
          have hbn : Below w1.heap.size w1 wa2 := (HBR.out.alloc hzr _).grown hgrow (by simp; omega) (fun b e => (HR.out.r8.lt b e).1)
          replace HR := Lib.hid (show Rows4 w1.heap.size zs (k + 1) (k + 1) (k + 1) k _ _ _ _ wa2 from ⟨nr6, nr7, hnew, nr9, HR.out.a67, mr6.symm, HR.out.a69, mr7.symm, HR.out.a79, mr9⟩)
          replace HBR := Lib.hid hbn
          replace hzr := hbn.size
          replace c1 := HCC.out _ hbn
          clear hown hgrow hat hnew hbn nr6 mr6 nr7 mr7 nr9 mr9
          go_wp2_with (at_builtin; refine wpList_append_own_at _ rfl _ _ 24 rfl w1.heap.size 26 i0 (.complex .f64 0 0) 1 16 Try.underlying24 hi hy0 hy1 hy2 rfl (by decide) _ _ _ rfl (HR.out.r9.alloc _) ⟨_, 0, none⟩ 1 1 [.complex .f64 y 0] rfl rfl (cell_one_new _ _ _) (by intro u hu; simp at hu; subst hu; rfl) (by rw [l9.out]; simp only [maxLen]; omega) (by rw [l9.out]; omega) (by simp; omega) ?_)
          intro va3 wa3 hown hgrow _ hat
          obtain ⟨nr6, mr6⟩ := other_row HR.out.r6 HR.out.a69.symm hgrow hat
          obtain ⟨nr7, mr7⟩ := other_row HR.out.r7 HR.out.a79.symm hgrow hat
          obtain ⟨nr8, mr8⟩ := other_row HR.out.r8 HR.out.a89.symm hgrow hat
          have hnew : Row wa3 w1.heap.size 26 va3 (cvals (partN2 zs (k + 1))) := by
            show wa3.ownsRow _ _ _ _ _ _
            have e : cvals (partN2 zs (k + 1)) = cvals (partN2 zs k) ++ [.complex .f64 y 0] := by rw [HE4.out]; simp [cvals, cval]
            rw [e, List.length_append]
            exact hown
          have hbn : Below w1.heap.size w1 wa3 := (HBR.out.alloc hzr _).grown hgrow (by simp; omega) (fun b e => (HR.out.r9.lt b e).1)
          replace HR := Lib.hid (show Rows4 w1.heap.size zs (k + 1) (k + 1) (k + 1) (k + 1) _ _ _ _ wa3 from ⟨nr6, nr7, nr8, hnew, HR.out.a67, HR.out.a68, mr6.symm, HR.out.a78, mr7.symm, mr8.symm⟩)
          replace HBR := Lib.hid hbn
          replace hzr := hbn.size
          replace c1 := HCC.out _ hbn
          clear hown hgrow hat hnew hbn nr6 mr6 nr7 mr7 nr8 mr8
          go_wp2
          go_roundw
          case rel => first | exact ⟨k + 1, by go_num, by omega, HR.out, HBR.out⟩ | ((repeat apply Exists.intro); refine ⟨?_, rfl⟩; exact ⟨k + 1, by go_num, by omega, HR.out, HBR.out⟩)
          case measure => simp [intOf]; omega
        · have e : k = n := by omega
          subst e
          have HB := Lib.hid (HB1.out.trans (hbr.mono hz1))
          have RX := Lib.hid (rowB HRX.out hbr)
          have R6 := Lib.hid (hrows.r6.base hz1)
          have R7 := Lib.hid (hrows.r7.base hz1)
          have R8 := Lib.hid (hrows.r8.base hz1)
          have R9 := Lib.hid (hrows.r9.base hz1)
          have XN := Lib.hid HN.out
          have XF := Lib.hid HXF.out
          clear hrows hbr HRX HB1 HC hz1 hk hlt hi hy0 hy1 hy2 hj hu0 hu1 hu2 HN HXF
          have HS := Lib.hid (boundOf_any RX.out.reads (by rw [XN.out]; omega) XF.out)
          go_wp2_with fail
          refine HS.out.mono ?_
          rintro e w31 ⟨o1, rfl, ho, hb⟩
          replace HB := Lib.hid (below_step HB.out hb HB.out.size)
          replace RX := Lib.hid (rowB RX.out hb)
          replace R6 := Lib.hid (rowB R6.out hb)
          replace R7 := Lib.hid (rowB R7.out hb)
          replace R8 := Lib.hid (rowB R8.out hb)
          replace R9 := Lib.hid (rowB R9.out hb)
          have HO1 := Lib.hid (ho)
          clear hb HS ho
          have HB0 := HB.out.size
          have HS := Lib.hid (pairN XF.out XN.out (by omega) R6.out.reads R7.out.reads)
          go_wp2_with fail
          refine HS.out.mono ?_
          rintro e w32 ⟨u1, u2, f, s, zf, rfl, hr1, hr2, hb, hzf, hlf, hls, hgf, hgs⟩
          replace HB := Lib.hid (below_step HB.out hb HB.out.size)
          replace RX := Lib.hid (rowB RX.out hb)
          replace R6 := Lib.hid (rowB R6.out hb)
          replace R7 := Lib.hid (rowB R7.out hb)
          replace R8 := Lib.hid (rowB R8.out hb)
          replace R9 := Lib.hid (rowB R9.out hb)
          have RP := Lib.hid (Row.base hr1 HB0)
          have RQ := Lib.hid (Row.base hr2 HB0)
          have FZ := Lib.hid (hzf)
          have LP := Lib.hid (hlf)
          have LQ := Lib.hid (hls)
          have GP := Lib.hid (hgf)
          have GQ := Lib.hid (hgs)
          clear hb HS hr1 hr2 hzf hlf hls hgf hgs HB0
          have HB0 := HB.out.size
          have HS := Lib.hid (transformOf_any _ _ _ _ (by rw [partN1_length]; omega) (part1_wf XF.out XN.out) R8.out)
          go_wp2_with fail
          refine HS.out.mono ?_
          rintro e w33 ⟨vT, qT, rfl, hr, hwf, hf, hb⟩
          replace HB := Lib.hid (below_step HB.out hb HB.out.size)
          replace RX := Lib.hid (rowB RX.out hb)
          replace R6 := Lib.hid (rowB R6.out hb)
          replace R7 := Lib.hid (rowB R7.out hb)
          replace R8 := Lib.hid (rowB R8.out hb)
          replace R9 := Lib.hid (rowB R9.out hb)
          replace RP := Lib.hid (rowB RP.out hb)
          replace RQ := Lib.hid (rowB RQ.out hb)
          have RT := Lib.hid (Row.base hr HB0)
          have WT := Lib.hid (hwf)
          have FT := Lib.hid (hf)
          have LT := Lib.hid (show qT.length = k by have := hf.length; rw [zsOf_length, zsOf_length, partN1_length] at this; exact this)
          clear hb HS hr hwf hf HB0
          have HB0 := HB.out.size
          have HS := Lib.hid (transformOf_any _ _ _ _ (by rw [partN2_length]; omega) (part2_wf XF.out XN.out) R9.out)
          go_wp2_with fail
          refine HS.out.mono ?_
          rintro e w34 ⟨vU, qU, rfl, hr, hwf, hf, hb⟩
          replace HB := Lib.hid (below_step HB.out hb HB.out.size)
          replace RX := Lib.hid (rowB RX.out hb)
          replace R6 := Lib.hid (rowB R6.out hb)
          replace R7 := Lib.hid (rowB R7.out hb)
          replace R8 := Lib.hid (rowB R8.out hb)
          replace R9 := Lib.hid (rowB R9.out hb)
          replace RP := Lib.hid (rowB RP.out hb)
          replace RQ := Lib.hid (rowB RQ.out hb)
          replace RT := Lib.hid (rowB RT.out hb)
          have RU := Lib.hid (Row.base hr HB0)
          have WU := Lib.hid (hwf)
          have FU := Lib.hid (hf)
          have LU := Lib.hid (show qU.length = k by have := hf.length; rw [zsOf_length, zsOf_length, partN2_length] at this; exact this)
          clear hb HS hr hwf hf HB0
          have HB0 := HB.out.size
          have HS := Lib.hid (realN XF.out XN.out (by omega) R6.out.reads)
          go_wp2_with fail
          refine HS.out.mono ?_
          rintro e w35 ⟨u3, g, zg, rfl, hr1, hb, hzf, hlf, hgf⟩
          replace HB := Lib.hid (below_step HB.out hb HB.out.size)
          replace RX := Lib.hid (rowB RX.out hb)
          replace R6 := Lib.hid (rowB R6.out hb)
          replace R7 := Lib.hid (rowB R7.out hb)
          replace R8 := Lib.hid (rowB R8.out hb)
          replace R9 := Lib.hid (rowB R9.out hb)
          replace RP := Lib.hid (rowB RP.out hb)
          replace RQ := Lib.hid (rowB RQ.out hb)
          replace RT := Lib.hid (rowB RT.out hb)
          replace RU := Lib.hid (rowB RU.out hb)
          have RG := Lib.hid (Row.base hr1 HB0)
          have FG := Lib.hid (hzf)
          have LG := Lib.hid (hlf)
          have GG := Lib.hid (hgf)
          clear hb HS hr1 hzf hlf hgf HB0
          have N1 := Lib.hid (rp_first XF.out XN.out (by omega) FZ.out LP.out GP.out FT.out WT.out LT.out)
          have N2 := Lib.hid (rp_second XF.out XN.out (by omega) FZ.out LQ.out GQ.out FU.out WU.out LU.out)
          have N3 := Lib.hid (rp_real XF.out XN.out (by omega) FG.out LG.out GG.out FT.out WT.out LT.out)
          have CJ := Lib.hid (fun (j : Nat) (hj : j < k) => rp_conj XF.out XN.out (by omega) FZ.out GP.out GQ.out hj)
          have hsm : sumS zs / 68719476736 ≤ 1152921504606846976 := by
            have := bnd_small (bnd_dy XF.out) (by rw [XN.out]; omega)
            have h0 := sumS_nonneg zs
            grind
          have S1 := Lib.hid hsm
          have c1 : ∃ a c, u1 = .slice a k c := by obtain ⟨a, c, e⟩ := writtenM RP.out; rw [cvals_length, LP.out] at e; exact ⟨a, c, e⟩
          obtain ⟨ap, cp, rfl⟩ := c1
          have c2 : ∃ a c, u2 = .slice a k c := by obtain ⟨a, c, e⟩ := writtenM RQ.out; rw [cvals_length, LQ.out] at e; exact ⟨a, c, e⟩
          obtain ⟨aq, cq', rfl⟩ := c2
          obtain ⟨a6, c6, e6⟩ := writtenM R6.out
          rw [flts_length, reN_length] at e6
          subst e6
          clear hsm GP GQ GG FZ FG FT FU WT WU XF R7 R8 R9 RX
          go_wp2_with fail
          refine (isNear_any RP.out.reads RT.out.reads (LP.out.trans LT.out.symm) (by rw [LP.out]; omega) S1.out HO1.out N1.out).mono ?_
          rintro e wx ⟨rfl, d1, rfl⟩
          go_wp2_with fail
          refine (isNear_any (RQ.out.reads.drewN d1) (RU.out.reads.drewN d1) (LQ.out.trans LU.out.symm) (by rw [LQ.out]; omega) S1.out HO1.out N2.out).mono ?_
          rintro e wx ⟨rfl, d2, rfl⟩
          go_wp2_with fail
          refine (isNear_any (RG.out.reads.drewN (d1 + d2)) (RT.out.reads.drewN (d1 + d2)) (LG.out.trans LT.out.symm) (by rw [LG.out]; omega) S1.out HO1.out N3.out).mono ?_
          rintro e wx ⟨rfl, d3, rfl⟩
          have CP : Hid (∀ j, j < k → ∃ g, ap = some ⟨g, 0, none⟩ ∧ w35.cell? ⟨g, j, none⟩ = some (.complex .f64 (f.getD j (0, 0)).1 (f.getD j (0, 0)).2)) := fun j hj => by
            obtain ⟨g, e, -, hc⟩ := readsAt' RP.out.reads _ _ _ rfl j hj
            exact ⟨g, e, hc⟩
          have CQ : Hid (∀ j, j < k → ∃ g, aq = some ⟨g, 0, none⟩ ∧ w35.cell? ⟨g, j, none⟩ = some (.complex .f64 (s.getD j (0, 0)).1 (s.getD j (0, 0)).2)) := fun j hj => by
            obtain ⟨g, e, -, hc⟩ := readsAt' RQ.out.reads _ _ _ rfl j hj
            exact ⟨g, e, hc⟩
          clear N1 N2 N3 RP RQ RT RU RG LP LQ LT LU LG S1 HO1 R6 XN
          go_wp2
          go_loopw [28] (fun i wr => ∃ j m : Nat, i = .int .i64 j ∧ j ≤ k ∧ wr = w35.drewN m) (fun i _ => k - (intOf i).toNat)
          case atStart => exact ⟨0, _, rfl, Nat.zero_le _, rfl⟩
          case round =>
            obtain ⟨j, m, rfl, hj, hw⟩ := hrel
            have HW := Lib.hid hw
            clear hw
            by_cases hlt : j < k
            · obtain ⟨r, hr⟩ : ∃ r, (k - j) % k = r := ⟨_, rfl⟩
              have hrk : r < k := by rw [← hr]; exact Nat.mod_lt _ (by omega)
              have hq0 : ((k - j : Nat) : Int) = (k : Int) - (j : Int) := by omega
              have hq1 : ((k : Int) - (j : Int)).tmod (k : Int) = (r : Int) := by rw [← hq0, ← hr]; rfl
              have hq2 : ((k : Int) - (j : Int)) % (k : Int) = (r : Int) := by rw [← hq0, ← hr]; rfl
              have g4 : ¬ (k : Int) = 0 := by omega
              have g5 : ¬ k = 0 := by omega
              obtain ⟨cj1, cj2⟩ := CJ.out j hlt
              rw [hr] at cj1 cj2
              obtain ⟨gp, rfl, p1⟩ := CP.out j hlt
              obtain ⟨gp', e2, p2⟩ := CP.out r hrk
              simp only [Option.some.injEq, Addr.mk.injEq, true_and, and_true] at e2
              subst e2
              obtain ⟨gq, rfl, q1⟩ := CQ.out j hlt
              obtain ⟨gq', e2, q2⟩ := CQ.out r hrk
              simp only [Option.some.injEq, Addr.mk.injEq, true_and, and_true] at e2
              subst e2
              generalize f.getD j (0, 0) = x1 at *
              generalize f.getD r (0, 0) = x2 at *
              generalize s.getD j (0, 0) = x3 at *
              generalize s.getD r (0, 0) = x4 at *
              obtain ⟨a1, b1⟩ := x1
              obtain ⟨a2, b2⟩ := x2
              obtain ⟨a3, b3⟩ := x3
              obtain ⟨a4, b4⟩ := x4
              replace p1 : wr.cell? ⟨gp, j, none⟩ = some (.complex .f64 a1 b1) := by rw [HW.out]; exact p1
              replace p2 : wr.cell? ⟨gp, r, none⟩ = some (.complex .f64 a2 b2) := by rw [HW.out]; exact p2
              replace q1 : wr.cell? ⟨gq, j, none⟩ = some (.complex .f64 a3 b3) := by rw [HW.out]; exact q1
              replace q2 : wr.cell? ⟨gq, r, none⟩ = some (.complex .f64 a4 b4) := by rw [HW.out]; exact q2
              have K1 := Lib.hid (fun w => conjP_any a2 b2 w)
              have K2 := Lib.hid (fun w => conjP_any a4 b4 w)
              clear hr hq0
              simp only at cj1 cj2
              go_wp2
              go_quiet ((go_at_call 17; (first | with_reducible exact Calls.quiet_of_same (K1.out _) | with_reducible exact Calls.quiet_of_same (K2.out _))))
              go_wp2
              go_roundw
              case rel => first | exact ⟨j + 1, m + nq, by go_num, by omega, by rw [HW.out, World.drewN_drewN]⟩ | ((repeat apply Exists.intro); refine ⟨?_, rfl⟩; exact ⟨j + 1, m + nq, by go_num, by omega, by rw [HW.out, World.drewN_drewN]⟩)
              case measure => simp [intOf]; omega
            · have e : j = k := by omega
              subst e
              go_wp2
              go_ret
              exact ⟨rfl, by rw [HW.out]; exact below_draws HB.out _⟩
    · have g : decide ((3000 : Int) < (len1 : Int)) = true := decide_eq_true (by omega)
      clear hi hy0 hy1 hy2 hj hu0 hu1 hu2 hl1 h0 h1
      go_enter Try.func4, Try.ntmps4
      go_wp2_with (first | (go_at_call 5; go_in))
      go_ret
      exact ⟨rfl, Below.refl _ _⟩
  · have g : decide ((3000 : Int) < (len0 : Int)) = true := decide_eq_true (by omega)
    clear hi hy0 hy1 hy2 hj hu0 hu1 hu2 hl0 h0 h1
    go_enter Try.func4, Try.ntmps4
    go_wp2_with (first | (go_at_call 5; go_in))
    go_ret
    exact ⟨rfl, Below.refl _ _⟩

end Go.Proofs.Ytphgibndncjaiaa
