import Derived.Test.YtcoieclecmefiaaSums
import Derived.Test.YtcoieclecmefiaaPlace
import Derived.Deep.RegionLaw
/-
  Sums at places over wide complex numbers: sumsAtPlaces of the program; blocks that are read wherever they lie.
-/
set_option linter.unusedVariables false
set_option linter.unusedSimpArgs false
namespace Go.Proofs.Ytcoieclecmefiaa
open Go.RowKit Flt Fast
attribute [local go_sem] run_fadd run_fsub run_fmul run_fquo run_cadd run_csub

/-- A slice of complex numbers as the walk reads it, at whatever place of a block it begins. -/
def RdC (w : World) (v : Value) (xs : List C) : Prop :=
  ∃ a cap, v = .slice a xs.length cap ∧ xs.length ≤ cap ∧ cap ≤ maxLen ∧ ∀ j, j < xs.length → ∃ g o, a = some ⟨g, o, none⟩ ∧ g < w.heap.size ∧ w.cell? ⟨g, o + j, none⟩ = some (.complex .f64 (xs.getD j (0, 0)).1 (xs.getD j (0, 0)).2)

theorem RdC.below {w w' : World} {v : Value} {xs : List C} (h : RdC w v xs) (hb : Below w.heap.size w w') : RdC w' v xs := by
  obtain ⟨a, cap, rfl, h1, h2, h3⟩ := h
  refine ⟨a, cap, rfl, h1, h2, fun j hj => ?_⟩
  obtain ⟨g, o, rfl, hg, hc⟩ := h3 j hj
  exact ⟨g, o, rfl, Nat.lt_of_lt_of_le hg hb.size, by rw [hb.cell hg]; exact hc⟩
theorem RdC.draws {w : World} {v : Value} {xs : List C} (h : RdC w v xs) (n : Nat) : RdC (w.drewN n) v xs := h
theorem RdC.of_row {w : World} {B : Nat} {e : TypeId} {v : Value} {xs : List C} (h : Row w B e v (cvals xs)) : RdC w v xs := by
  have h' := h
  rcases h.shape with ⟨a, cap, rfl, h0⟩ | ⟨g, cap, rfl, h0, hB, hg, h1, h2⟩
  · have e0 : xs = [] := by
      have := congrArg List.length h0
      rw [cvals_length] at this
      exact List.eq_nil_of_length_eq_zero (by simpa using this)
    subst e0
    rcases h.2 with ⟨e1, -⟩ | ⟨g, cap', cur, e1, -, -, h3, h4, -⟩
    · simp only [Value.slice.injEq] at e1
      obtain ⟨rfl, -, rfl⟩ := e1
      exact ⟨none, 0, rfl, Nat.le_refl _, Nat.zero_le _, fun j hj => by simp at hj⟩
    · simp only [Value.slice.injEq] at e1
      obtain ⟨rfl, -, rfl⟩ := e1
      exact ⟨_, cap, rfl, Nat.zero_le _, h4, fun j hj => by simp at hj⟩
  · rw [cvals_length] at h0 h1 h' ⊢
    refine ⟨_, cap, rfl, h1, h2, fun j hj => ⟨g, 0, rfl, hg, ?_⟩⟩
    rw [Nat.zero_add, h'.cellAt hj, cvals_getD hj]

/-- Complex numbers that are these. -/
structure FitsC (fs : List C) (zs : List Z) : Prop where
  len : fs.length = zs.length
  good : ∀ i, i < fs.length → IsC (fs.getD i (0, 0)) (zs.getD i z0)

theorem FitsC.nil : FitsC [] [] := ⟨rfl, fun i hi => by simp at hi⟩
theorem FitsC.snoc {fs : List C} {zs : List Z} (h : FitsC fs zs) {a : C} {z : Z} (ha : IsC a z) : FitsC (fs ++ [a]) (zs ++ [z]) := by
  refine ⟨by simp [h.len], fun i hi => ?_⟩
  by_cases hl : i < fs.length
  · rw [show (fs ++ [a]).getD i (0, 0) = fs.getD i (0, 0) by simp [List.getD, List.getElem?_append_left, hl], show (zs ++ [z]).getD i z0 = zs.getD i z0 by simp [List.getD, List.getElem?_append_left, ← h.len, hl]]
    exact h.good i hl
  · have e : i = fs.length := by simp at hi; omega
    subst e
    rw [show (fs ++ [a]).getD fs.length (0, 0) = a by simp [List.getD], show (zs ++ [z]).getD fs.length z0 = z by simp [List.getD, h.len]]
    exact ha
theorem FitsC.set {fs : List C} {zs : List Z} (h : FitsC fs zs) {k : Nat} {a : C} {z : Z} (ha : IsC a z) : FitsC (fs.set k a) (zs.set k z) := by
  refine ⟨by simp [h.len], fun i hi => ?_⟩
  simp at hi
  by_cases hk : k = i
  · subst hk
    rw [show (fs.set k a).getD k (0, 0) = a by simp [List.getD, hi], show (zs.set k z).getD k z0 = z by simp [List.getD, ← h.len, hi]]
    exact ha
  · rw [show (fs.set k a).getD i (0, 0) = fs.getD i (0, 0) by simp [List.getD, List.getElem?_set, hk], show (zs.set k z).getD i z0 = zs.getD i z0 by simp [List.getD, List.getElem?_set, hk]]
    exact h.good i hi

theorem cvals_set (fs : List C) (k : Nat) (a b : Nat) : (cvals fs).set k (.complex .f64 a b) = cvals (fs.set k (a, b)) := by simp [cvals, List.map_set, cval]

/-- A row of complex numbers with sums at places, in the world wr, made behind w. -/
structure SumsC (w wr : World) (v : Value) (zs : List Z) (fs : List C) : Prop where
  row : Row wr w.heap.size 26 v (cvals fs)
  fits : FitsC fs zs
  below : Below w.heap.size w wr

theorem SumsC.draws {w wr : World} {v : Value} {zs : List Z} {fs : List C} (h : SumsC w wr v zs fs) (n : Nat) : SumsC w (wr.drewN n) v zs fs := ⟨h.row.drewN n, h.fits, below_draws h.below n⟩
theorem SumsC.store {w wr : World} {g cap L : Nat} {zs : List Z} {fs : List C} (h : SumsC w wr (.slice (some ⟨g, 0, none⟩) L cap) zs fs) {k x y : Nat} {q : Z} (hk : k < L)
    (hx : IsC (x, y) (addZ (zs.getD k z0) q)) : SumsC w (wr.setCell ⟨g, k, none⟩ (.complex .f64 x y)) (.slice (some ⟨g, 0, none⟩) L cap) (addAt addZ z0 zs k q) (fs.set k (x, y)) := by
  have hl : fs.length = L := by have := h.row.len; rwa [cvals_length] at this
  have hS := h.row.set k (.complex .f64 x y)
  rw [cvals_set] at hS
  have hg : w.heap.size ≤ g := (h.row.lt g rfl).1
  rw [addAt_lt addZ z0 (by rw [← h.fits.len, hl]; exact hk)]
  exact ⟨hS.1, h.fits.set hx, h.below.setCell (p := ⟨g, k, none⟩) hg _⟩

theorem cform {w : World} {v : Value} {cs : List Value} (h : Reads w v cs) : ∃ a cap, v = .slice a cs.length cap := by
  cases h with
  | none a cap => exact ⟨a, cap, rfl⟩
  | row g cap L cs hL => subst hL; exact ⟨_, cap, rfl⟩

set_option maxRecDepth 100000 in
set_option maxHeartbeats 8000000 in
theorem sumsAt_c128 {V : Value} {vs : List Value} {w : World} (h : Reads w V vs) (bs : Nat → List C) (q : Nat → Nat → Z) (ln : Nat → Nat) (hp : Nat)
    (hv : ∀ b, b < vs.length → RdC w (vs.getD b undef) (bs b) ∧ (bs b).length = ln b ∧ ∀ i, i < ln b → IsC ((bs b).getD i (0, 0)) (q b i)) (hln : ∀ b, ln b ≤ 256) (hvs : vs.length ≤ 64) (hhp : hp ≤ 256) :
    Calls Try.prog 86 #[V, .int .i64 hp] w fun e w' => ∃ u fs, e = .returned u ∧ SumsC w w' u (addAll addZ z0 q ln hp vs.length) fs := by
  obtain ⟨i0, hi, hz0, hz1, hz2⟩ := info_parts info_c128
  obtain ⟨a, cap, rfl⟩ := cform h
  obtain ⟨c, hc⟩ : ∃ c, vs.length = c := ⟨_, rfl⟩
  have hrd : ∀ b, b < c → ∃ g, a = some ⟨g, 0, none⟩ ∧ g < w.heap.size ∧ w.cell? ⟨g, b, none⟩ = some (vs.getD b undef) := by
    intro b hb
    generalize hV : Value.slice a vs.length cap = V at h
    cases h with
    | none a cap => simp at hc; omega
    | row g cap L cs hL h0 hcc hm hh =>
      simp only [Value.slice.injEq] at hV
      have := hh b (by omega)
      exact ⟨g, hV.1, World.block_lt_of_cell? _ _ this, this⟩
  have hlen : ∀ b, (addAll addZ z0 q ln hp b).length ≤ b * 256 := fun b => addAll_len_le _ _ q ln hp 256 hln b
  rw [hc] at hv hvs ⊢
  have HRD := Lib.hid hrd
  have HV := Lib.hid hv
  have HLN := Lib.hid hln
  have HLEN := Lib.hid hlen
  clear h hrd hv hln hlen hc
  go_enter Try.func86, Try.ntmps86
  go_wp2
  go_loopw [5, 13] (fun v5 i wr => ∃ (b : Nat) (fs : List C), i = .int .i64 b ∧ b ≤ c ∧ SumsC w wr v5 (addAll addZ z0 q ln hp b) fs) (fun _ i _ => c - (intOf i).toNat)
  case atStart => exact ⟨0, [], rfl, Nat.zero_le _, World.ownsRow_nil _ _ _ _, FitsC.nil, Below.refl _ _⟩
  case round =>
    obtain ⟨b, fs, rfl, hb, hS⟩ := hrel
    have HS := Lib.hid hS
    clear hS
    by_cases hbc : b < c
    · obtain ⟨g, rfl, hg, hcb⟩ := HRD.out b hbc
      have c1 : wr.cell? ⟨g, b, none⟩ = some (vs.getD b undef) := by rw [HS.out.below.cell hg]; exact hcb
      obtain ⟨hr, hl, hq⟩ := HV.out b hbc
      obtain ⟨vb, hvb⟩ : ∃ u, vs.getD b undef = u := ⟨_, rfl⟩
      rw [hvb] at c1 hr
      obtain ⟨ab, capb, rfl, hcb1, hcb2, hrb⟩ := hr
      rw [hl] at hrb hcb1 c1
      have HRB := Lib.hid hrb
      have hcapb := maxLen_int (Nat.le_trans hcb1 hcb2)
      have HQ := Lib.hid hq
      obtain ⟨m, hm⟩ : ∃ m, ln b = m := ⟨_, rfl⟩
      have hm256 : m ≤ 256 := by rw [← hm]; exact HLN.out b
      obtain ⟨F, hF⟩ : ∃ F, b * hp = F := ⟨_, rfl⟩
      have hF2 : F ≤ 64 * 256 := by rw [← hF]; exact Nat.mul_le_mul (by omega) hhp
      have hFI : (b : Int) * (hp : Int) = (F : Int) := by rw [← hF]; simp
      have hlen := HLEN.out b
      have eAll : addAll addZ z0 q ln hp (b + 1) = addBlk addZ z0 (addAll addZ z0 q ln hp b) F (q b) m := by rw [addAll, hF, hm]
      obtain ⟨zs, hzs⟩ : ∃ zs, addAll addZ z0 q ln hp b = zs := ⟨_, rfl⟩
      rw [hzs] at HS hlen eAll
      rw [hm] at hl HRB HQ c1 hcapb
      have HE := Lib.hid eAll
      have hzl : zs.length ≤ 16384 := by omega
      clear hrb hq hl hvb hcb hlen eAll hzs hm hF hcb1 hcb2
      go_wp2
      go_loopw [5, 23] (fun v5 i wq => ∃ (k : Nat) (fs : List C), i = .int .i64 k ∧ k ≤ m ∧ SumsC w wq v5 (addBlk addZ z0 zs F (q b) k) fs) (fun _ i _ => m - (intOf i).toNat)
      case atStart => exact ⟨0, fs, rfl, Nat.zero_le _, HS.out⟩
      case round =>
        obtain ⟨k, ts, rfl, hk, hT⟩ := hrel
        have HT := Lib.hid hT
        clear hT
        by_cases hkm : k < m
        · obtain ⟨gb, ob, rfl, hgb, hck⟩ := HRB.out k hkm
          have c2 : wr.cell? ⟨gb, ob + k, none⟩ = some (.complex .f64 ((bs b).getD k (0, 0)).1 ((bs b).getD k (0, 0)).2) := by rw [HT.out.below.cell hgb]; exact hck
          have hx := HQ.out k hkm
          obtain ⟨⟨x, x'⟩, hxx⟩ : ∃ x, (bs b).getD k (0, 0) = x := ⟨_, rfl⟩
          rw [hxx] at c2 hx
          have HX := Lib.hid hx
          have hlk := addBlk_len_le addZ z0 zs F (q b) k
          have eK : addBlk addZ z0 zs F (q b) (k + 1) = addAt addZ z0 (addBlk addZ z0 zs F (q b) k) (F + k) (q b k) := rfl
          obtain ⟨us, hus⟩ : ∃ us, addBlk addZ z0 zs F (q b) k = us := ⟨_, rfl⟩
          rw [hus] at HT hlk eK
          have HK := Lib.hid eK
          have htl : ts.length = us.length := HT.out.fits.len
          clear hxx hx hck hus eK
          by_cases hat : F + k < ts.length
          · rcases HT.out.row.shape with ⟨a5, cap5, rfl, h0⟩ | ⟨g5, cap5, e5, h0, hB5, hlt5, hc5, hm5⟩
            · have : ts.length = 0 := by have := congrArg List.length h0; rwa [cvals_length] at this
              omega
            · rw [cvals_length] at e5
              obtain ⟨L, hL⟩ : ∃ L, ts.length = L := ⟨_, rfl⟩
              rw [hL] at e5 hat htl
              subst e5
              have c3 := HT.out.row.cellAt hat
              rw [cvals_getD (by omega)] at c3
              have f3 := HT.out.row.frozenAt (F + k)
              have hy := HT.out.fits.good (F + k) (by omega)
              obtain ⟨⟨y, y'⟩, hyy⟩ : ∃ y, ts.getD (F + k) (0, 0) = y := ⟨_, rfl⟩
              rw [hyy] at c3 hy
              have hL2 : L ≤ 17000 := by omega
              have HN : Hid (∀ n r s, IsC (r, s) (addZ (us.getD (F + k) z0) (q b k)) → SumsC w ((wr.drewN n).setCell ⟨g5, F + k, none⟩ (.complex .f64 r s)) (.slice (some ⟨g5, 0, none⟩) L cap5) (addBlk addZ z0 zs F (q b) (k + 1)) (ts.set (F + k) (r, s))) := fun n r s hr => by
                rw [HK.out]
                exact (HT.out.draws n).store hat hr
              have HY := Lib.hid hy
              clear hy hyy h0 hB5 hlt5 hc5 hm5 htl hL
              go_wp2
              go_roundw
              case rel => first | exact ⟨k + 1, _, by go_num, by omega, HN.out _ _ _ ⟨isF_fres HY.out.re HX.out.re _, isF_fres HY.out.im HX.out.im _⟩⟩ | ((repeat apply Exists.intro); refine ⟨?_, rfl⟩; exact ⟨k + 1, _, by go_num, by omega, HN.out _ _ _ ⟨isF_fres HY.out.re HX.out.re _, isF_fres HY.out.im HX.out.im _⟩⟩)
              case measure => simp [intOf]; omega
          · have hrow := HT.out.row
            obtain ⟨a5, cap5, rfl⟩ := cform hrow.reads
            rw [cvals_length] at *
            obtain ⟨L, hL⟩ : ∃ L, ts.length = L := ⟨_, rfl⟩
            have hl8 : (cvals ts).length = L := by rw [cvals_length, hL]
            rw [hL] at hrow hat htl ⊢
            have HRW := Lib.hid hrow
            have HL8 := Lib.hid hl8
            have HB2 := Lib.hid HT.out.below
            have HF2 : Hid (FitsC (ts ++ [(x, x')]) (addBlk addZ z0 zs F (q b) (k + 1))) := by
              rw [HK.out, addAt_ge addZ z0 (by omega)]
              exact HT.out.fits.snoc HX.out
            have hL2 : L ≤ 17000 := by omega
            clear hrow hl8 hL HT htl
            go_wp2_with (at_builtin; refine wpList_append_own _ rfl _ _ 24 rfl w.heap.size 26 i0 (.complex .f64 0 0) 1 16 Try.underlying24 hi hz0 hz1 hz2 rfl (by decide) _ _ _ rfl (HRW.out.alloc _) ⟨_, 0, none⟩ 1 1 [.complex .f64 x x'] rfl rfl (cell_one_new _ _ _) (by intro u hu; simp at hu; subst hu; rfl) (by rw [HL8.out]; simp only [maxLen]; omega) (by rw [HL8.out]; omega) (by have := HB2.out.size; simp; omega) ?_)
            intro v' w1 hown' hgrow _
            have hlt' := (HRW.out.alloc (.cells #[.complex .f64 x x'] 26)).lt
            have HB' : Hid (Below w.heap.size w w1) := (HB2.out.alloc HB2.out.size _).grown hgrow (by have := HB2.out.size; simp; omega) (fun b e => (hlt' b e).1)
            have HO' : Hid (Row w1 w.heap.size 26 v' (cvals (ts ++ [(x, x')]))) := by
              show w1.ownsRow _ _ _ _ _ _
              rw [cvals_snoc, List.length_append]
              exact hown'
            clear hown' hgrow hlt'
            go_wp2
            go_roundw
            case rel => first | exact ⟨k + 1, _, by go_num, by omega, HO'.out, HF2.out, HB'.out⟩ | ((repeat apply Exists.intro); refine ⟨?_, rfl⟩; exact ⟨k + 1, _, by go_num, by omega, HO'.out, HF2.out, HB'.out⟩)
            case measure => simp [intOf]; omega
        · have e : k = m := by omega
          subst e
          go_wp2
          go_roundw
          case rel => first | exact ⟨b + 1, ts, by go_num, by omega, by rw [HE.out]; exact HT.out⟩ | ((repeat apply Exists.intro); refine ⟨?_, rfl⟩; exact ⟨b + 1, ts, by go_num, by omega, by rw [HE.out]; exact HT.out⟩)
          case measure => simp [intOf]; omega
    · have e : b = c := by omega
      subst e
      go_wp2
      go_ret
      exact ⟨_, fs, rfl, HS.out⟩

end Go.Proofs.Ytcoieclecmefiaa
