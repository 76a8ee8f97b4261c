import Derived.Test.YtnhhmgnceicpkabPlcC
import Derived.Test.YtnhhmgnceicpkabWinC
/-
  l03Add, l03Many, l03Joined and OverlapAdd of the model.
-/
set_option linter.unusedVariables false
set_option linter.unusedSimpArgs false
namespace Go.Proofs.Ytnhhmgnceicpkab
open Go.RowKit Flt Fast
attribute [local go_sem] run_fadd run_fsub run_fmul run_fquo run_cadd run_csub

/-- Blocks of one size, in a row. -/
structure Blks (w : World) (V : Value) (vs : List Value) (bs : Nat → List C) (q : Nat → Nat → Z) (n : Nat) : Prop where
  row : Reads w V vs
  each : ∀ b, b < vs.length → RdC w (vs.getD b undef) (bs b) ∧ (bs b).length = n ∧ ∀ i, i < n → IsC ((bs b).getD i (0, 0)) (q b i)

theorem Blks.below {w w' : World} {V : Value} {vs : List Value} {bs : Nat → List C} {q : Nat → Nat → Z} {n : Nat} (h : Blks w V vs bs q n) (hb : Below w.heap.size w w') : Blks w' V vs bs q n :=
  ⟨h.row.below hb, fun b hb' => ⟨(h.each b hb').1.below hb, (h.each b hb').2⟩⟩

/-- How the walk finds a block. -/
theorem Blks.find {w : World} {V : Value} {vs : List Value} {bs : Nat → List C} {q : Nat → Nat → Z} {n : Nat} (h : Blks w V vs bs q n) :
    ∃ a cap, V = .slice a vs.length cap ∧ (vs.length : Int) ≤ 9223372036854775807 ∧ ∀ b, b < vs.length → ∃ g ab cb, a = some ⟨g, 0, none⟩ ∧ g < w.heap.size ∧ w.cell? ⟨g, b, none⟩ = some (.slice ab n cb) ∧ (n : Int) ≤ 9223372036854775807 ∧
      ∀ j, j < n → ∃ gb ob, ab = some ⟨gb, ob, none⟩ ∧ gb < w.heap.size ∧ w.cell? ⟨gb, ob + j, none⟩ = some (.complex .f64 ((bs b).getD j (0, 0)).1 ((bs b).getD j (0, 0)).2) ∧ IsC ((bs b).getD j (0, 0)) (q b j) := by
  have key : ∀ (g cap : Nat) (b : Nat), b < vs.length → w.cell? ⟨g, b, none⟩ = some (vs.getD b undef) → ∃ ab cb, g < w.heap.size ∧ w.cell? ⟨g, b, none⟩ = some (.slice ab n cb) ∧ (n : Int) ≤ 9223372036854775807 ∧
      ∀ j, j < n → ∃ gb ob, ab = some ⟨gb, ob, none⟩ ∧ gb < w.heap.size ∧ w.cell? ⟨gb, ob + j, none⟩ = some (.complex .f64 ((bs b).getD j (0, 0)).1 ((bs b).getD j (0, 0)).2) ∧ IsC ((bs b).getD j (0, 0)) (q b j) := by
    intro g cap b hb hc
    obtain ⟨⟨ab, cb, e, h1, h2, h3⟩, h4, h5⟩ := h.each b hb
    rw [h4] at e h1 h3
    refine ⟨ab, cb, World.block_lt_of_cell? _ _ hc, by rw [hc, e], maxLen_int (Nat.le_trans h1 h2), fun j hj => ?_⟩
    obtain ⟨gb, ob, e1, e2, e3⟩ := h3 j hj
    exact ⟨gb, ob, e1, e2, e3, h5 j hj⟩
  have hr := h.row
  generalize hvs : vs = cs at hr
  cases hr with
  | none a cap => subst hvs; exact ⟨a, cap, rfl, by simp, fun b hb => by simp at hb⟩
  | row g cap L cs hL h0 hcc hm hh =>
    subst hvs
    subst hL
    refine ⟨_, cap, rfl, maxLen_int (Nat.le_trans hcc hm), fun b hb => ?_⟩
    obtain ⟨ab, cb, k1, k2, k3, k4⟩ := key g cap b hb (hh b hb)
    exact ⟨g, ab, cb, rfl, k1, k2, k3, k4⟩

/-- The sums of blocks of the size n, h places apart. -/
def ovlL (q : Nat → Nat → Z) (n h c : Nat) : List Z := addAll addZ z0 q (fun _ => n) h c

set_option maxRecDepth 100000 in
set_option maxHeartbeats 8000000 in
theorem l03Add_spec {V : Value} {vs : List Value} {w : World} {bs : Nat → List C} {q : Nat → Nat → Z} {n : Nat} (h : Blks w V vs bs q n) (p : Nat) (hpn : p ≤ n) (hn : n ≤ 256) (hvs : vs.length ≤ 64) :
    Calls Try.prog 85 #[V, .int .i64 p] w fun e w' => ∃ u fs, e = .returned u ∧ SumsC w w' u (ovlL q n p vs.length) fs := by
  obtain ⟨i0, hi, hz0, hz1, hz2⟩ := info_parts info_c128
  obtain ⟨a, cap, rfl, hcap, hrd⟩ := h.find
  obtain ⟨c, hc⟩ : ∃ c, vs.length = c := ⟨_, rfl⟩
  rw [hc] at hvs hrd hcap ⊢
  have hAll : ∀ b, ovlL q n p (b + 1) = addBlk addZ z0 (ovlL q n p b) (b * p) (q b) n := fun b => rfl
  have hGe : ∀ b, b * p ≤ (ovlL q n p b).length := fun b => addAll_le _ _ _ _ _ hpn b
  have hLe : ∀ b, (ovlL q n p b).length ≤ b * 256 := fun b => addAll_len_le _ _ _ _ _ 256 (fun _ => hn) b
  have hw0 : ovlL q n p 0 = [] := rfl
  have HRD := Lib.hid hrd
  have HALL := Lib.hid hAll
  have HGE := Lib.hid hGe
  have HLE := Lib.hid hLe
  have HW0 := Lib.hid hw0
  have hlit := World.ownsRow_lit w (e := 45) (base := w.heap.size) (size := 1) #[] 0 (Nat.le_refl _) (by unfold maxLen; omega) rfl
  have HLIT := Lib.hid hlit
  clear h hrd hc hAll hGe hLe hlit hw0
  go_enter Try.func85, Try.ntmps85
  go_wp2
  go_loopw [5, 6] (fun v5 i wr => ∃ (b : Nat) (fs : List C), i = .int .i64 b ∧ b ≤ c ∧ SumsC w wr v5 (ovlL q n p b) fs) (fun _ i _ => c - (intOf i).toNat)
  case atStart => exact ⟨0, [], rfl, Nat.zero_le _, HLIT.out, by rw [HW0.out]; exact FitsC.nil, (Below.refl _ _).alloc (Nat.le_refl _) _⟩
  case round =>
    obtain ⟨b, fs, rfl, hb, hS⟩ := hrel
    have HS := Lib.hid hS
    clear hS
    by_cases hbc : b < c
    · obtain ⟨g, ab, cb, rfl, hg, hcb, hnI, hel⟩ := HRD.out b hbc
      obtain ⟨F, hF⟩ : ∃ F, b * p = F := ⟨_, rfl⟩
      have hF2 : F ≤ 64 * 256 := by rw [← hF]; exact Nat.mul_le_mul (by omega) (by omega)
      have hFI : (b : Int) * (p : Int) = (F : Int) := by rw [← hF]; simp
      have hlen := HLE.out b
      have hge := HGE.out b
      have eAll := HALL.out b
      obtain ⟨zs, hzs⟩ : ∃ zs, ovlL q n p b = zs := ⟨_, rfl⟩
      rw [hF] at eAll hge
      rw [hzs] at HS hlen eAll hge
      have HE := Lib.hid eAll
      have hzl : zs.length ≤ 16384 := by omega
      have HGZ := Lib.hid hge
      have HEL := Lib.hid hel
      have HCB := Lib.hid hcb
      have HG := Lib.hid hg
      clear hlen eAll hzs hF hge hel hcb hg
      go_wp2
      go_loopw [5, 7] (fun v7 i wq => ∃ (k : Nat) (ts : List C), i = .int .i64 k ∧ k ≤ n ∧ SumsC w wq v7 (addBlk addZ z0 zs F (q b) k) ts) (fun _ i _ => n - (intOf i).toNat)
      case atStart => exact ⟨0, fs, rfl, Nat.zero_le _, HS.out⟩
      case round =>
        obtain ⟨k, ts, rfl, hk, hT⟩ := hrel
        have HT := Lib.hid hT
        clear hT
        have c1 : wr.cell? ⟨g, b, none⟩ = some (.slice ab n cb) := by rw [HT.out.below.cell HG.out]; exact HCB.out
        by_cases hkm : k < n
        · obtain ⟨gb, ob, rfl, hgb, hck, hx⟩ := HEL.out k hkm
          have c2 : wr.cell? ⟨gb, ob + k, none⟩ = some (.complex .f64 ((bs b).getD k (0, 0)).1 ((bs b).getD k (0, 0)).2) := by rw [HT.out.below.cell hgb]; exact hck
          obtain ⟨⟨x, x'⟩, hxx⟩ : ∃ x, (bs b).getD k (0, 0) = x := ⟨_, rfl⟩
          rw [hxx] at c2 hx
          have HX := Lib.hid hx
          have hlk := addBlk_len addZ z0 (q b) HGZ.out k
          have eK : addBlk addZ z0 zs F (q b) (k + 1) = addAt addZ z0 (addBlk addZ z0 zs F (q b) k) (F + k) (q b k) := rfl
          obtain ⟨us, hus⟩ : ∃ us, addBlk addZ z0 zs F (q b) k = us := ⟨_, rfl⟩
          rw [hus] at HT hlk eK
          have HK := Lib.hid eK
          have htl : ts.length = us.length := HT.out.fits.len
          have hmx : F + k ≤ us.length ∧ us.length ≤ 17000 := by rw [hlk]; omega
          clear hxx hx hck hus eK hlk
          by_cases hat : F + k < ts.length
          · rcases HT.out.row.shape with ⟨a5, cap5, rfl, h0⟩ | ⟨g5, cap5, e5, h0, hB5, hlt5, hc5, hm5⟩
            · have : ts.length = 0 := by have := congrArg List.length h0; rwa [cvals_length] at this
              omega
            · rw [cvals_length] at e5
              obtain ⟨L, hL⟩ : ∃ L, ts.length = L := ⟨_, rfl⟩
              rw [hL] at e5 hat htl
              subst e5
              have c3 := HT.out.row.cellAt hat
              rw [cvals_getD (by omega)] at c3
              have f3 := HT.out.row.frozenAt (F + k)
              have hy := HT.out.fits.good (F + k) (by omega)
              obtain ⟨⟨y, y'⟩, hyy⟩ : ∃ y, ts.getD (F + k) (0, 0) = y := ⟨_, rfl⟩
              rw [hyy] at c3 hy
              have hL2 : L ≤ 17000 := by omega
              have HN : Hid (∀ n' r s, IsC (r, s) (addZ (us.getD (F + k) z0) (q b k)) → SumsC w ((wr.drewN n').setCell ⟨g5, F + k, none⟩ (.complex .f64 r s)) (.slice (some ⟨g5, 0, none⟩) L cap5) (addBlk addZ z0 zs F (q b) (k + 1)) (ts.set (F + k) (r, s))) := fun n' r s hr => by
                rw [HK.out]
                exact (HT.out.draws n').store hat hr
              have HY := Lib.hid hy
              have hne : ¬ F + k = L := by omega
              have hneI : ¬ (F : Int) + (k : Int) = (L : Int) := by omega
              clear hy hyy h0 hB5 hlt5 hc5 hm5 htl hL hmx
              go_wp2
              go_region
              go_wp2
              go_roundw
              case rel => first | exact ⟨k + 1, _, by go_num, by omega, HN.out _ _ _ ⟨isF_fres HY.out.re HX.out.re _, isF_fres HY.out.im HX.out.im _⟩⟩ | ((repeat apply Exists.intro); refine ⟨?_, rfl⟩; exact ⟨k + 1, _, by go_num, by omega, HN.out _ _ _ ⟨isF_fres HY.out.re HX.out.re _, isF_fres HY.out.im HX.out.im _⟩⟩)
              case measure => simp [intOf]; omega
          · have hrow := HT.out.row
            obtain ⟨a5, cap5, rfl⟩ := cform hrow.reads
            rw [cvals_length] at *
            obtain ⟨L, hL⟩ : ∃ L, ts.length = L := ⟨_, rfl⟩
            have hl8 : (cvals ts).length = L := by rw [cvals_length, hL]
            rw [hL] at hrow hat htl ⊢
            have HRW := Lib.hid hrow
            have HL8 := Lib.hid hl8
            have HB2 := Lib.hid HT.out.below
            have HF2 : Hid (FitsC (ts ++ [(x, x')]) (addBlk addZ z0 zs F (q b) (k + 1))) := by
              rw [HK.out, addAt_ge addZ z0 (by omega)]
              exact HT.out.fits.snoc HX.out
            have hL2 : L ≤ 17000 := by omega
            obtain rfl : F + k = L := by omega
            clear hrow hl8 hL HT htl hmx
            go_wp2_with (at_builtin; refine wpList_append_own _ rfl _ _ 36 rfl w.heap.size 45 i0 (.complex .f64 0 0) 1 16 Try.underlying36 hi hz0 hz1 hz2 rfl (by decide) _ _ _ rfl (HRW.out.alloc _) ⟨_, 0, none⟩ 1 1 [.complex .f64 x x'] rfl rfl (cell_one_new _ _ _) (by intro u hu; simp at hu; subst hu; rfl) (by rw [HL8.out]; simp only [maxLen]; omega) (by rw [HL8.out]; omega) (by have := HB2.out.size; simp; omega) ?_)
            intro v' w1 hown' hgrow _
            have hlt' := (HRW.out.alloc (.cells #[.complex .f64 x x'] 45)).lt
            have HB' : Hid (Below w.heap.size w w1) := (HB2.out.alloc HB2.out.size _).grown hgrow (by have := HB2.out.size; simp; omega) (fun b e => (hlt' b e).1)
            have HO' : Hid (Row w1 w.heap.size 45 v' (cvals (ts ++ [(x, x')]))) := by
              show w1.ownsRow _ _ _ _ _ _
              rw [cvals_snoc, List.length_append]
              exact hown'
            clear hown' hgrow hlt'
            go_wp2
            go_roundw
            case rel => first | exact ⟨k + 1, _, by go_num, by omega, HO'.out, HF2.out, HB'.out⟩ | ((repeat apply Exists.intro); refine ⟨?_, rfl⟩; exact ⟨k + 1, _, by go_num, by omega, HO'.out, HF2.out, HB'.out⟩)
            case measure => simp [intOf]; omega
        · have e : k = n := by omega
          subst e
          go_wp2
          go_roundw
          case rel => first | exact ⟨b + 1, ts, by go_num, by omega, by rw [HE.out]; exact HT.out⟩ | ((repeat apply Exists.intro); refine ⟨?_, rfl⟩; exact ⟨b + 1, ts, by go_num, by omega, by rw [HE.out]; exact HT.out⟩)
          case measure => simp [intOf]; omega
    · have e : b = c := by omega
      subst e
      go_wp2
      go_ret
      exact ⟨_, fs, rfl, HS.out⟩

end Go.Proofs.Ytnhhmgnceicpkab
