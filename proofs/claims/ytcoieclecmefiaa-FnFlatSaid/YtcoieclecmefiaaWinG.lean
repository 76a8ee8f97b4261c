import Derived.Test.YtcoieclecmefiaaWinF
import Derived.Test.YtcoieclecmefiaaPlace
/-
  Sums at places over floats: l03Weights of the model, sumsAtPlaces of the program.
-/
set_option linter.unusedVariables false
set_option linter.unusedSimpArgs false
namespace Go.Proofs.Ytcoieclecmefiaa
open Go.RowKit Flt Fast
attribute [local go_sem] run_fadd run_fsub run_fmul run_fquo run_cadd run_csub

abbrev addO (a b : Option Nat) : Option Nat := fop .add .f64 a b
/-- Floats that are these numbers. -/
structure FitsF (fs : List Nat) (zs : List (Option Nat)) : Prop where
  len : fs.length = zs.length
  good : ∀ i, i < fs.length → IsF (fs.getD i 0) (zs.getD i none)

theorem FitsF.nil : FitsF [] [] := ⟨rfl, fun i hi => by simp at hi⟩
theorem FitsF.snoc {fs : List Nat} {zs : List (Option Nat)} (h : FitsF fs zs) {a : Nat} {z : Option Nat} (ha : IsF a z) : FitsF (fs ++ [a]) (zs ++ [z]) := by
  refine ⟨by simp [h.len], fun i hi => ?_⟩
  by_cases hl : i < fs.length
  · rw [show (fs ++ [a]).getD i 0 = fs.getD i 0 by simp [List.getD, List.getElem?_append_left, hl], show (zs ++ [z]).getD i none = zs.getD i none by simp [List.getD, List.getElem?_append_left, ← h.len, hl]]
    exact h.good i hl
  · have e : i = fs.length := by simp at hi; omega
    subst e
    rw [show (fs ++ [a]).getD fs.length 0 = a by simp [List.getD], show (zs ++ [z]).getD fs.length none = z by simp [List.getD, h.len]]
    exact ha
theorem FitsF.set {fs : List Nat} {zs : List (Option Nat)} (h : FitsF fs zs) {k a : Nat} {z : Option Nat} (ha : IsF a z) : FitsF (fs.set k a) (zs.set k z) := by
  refine ⟨by simp [h.len], fun i hi => ?_⟩
  simp at hi
  by_cases hk : k = i
  · subst hk
    rw [show (fs.set k a).getD k 0 = a by simp [List.getD, hi], show (zs.set k z).getD k none = z by simp [List.getD, ← h.len, hi]]
    exact ha
  · rw [show (fs.set k a).getD i 0 = fs.getD i 0 by simp [List.getD, List.getElem?_set, hk], show (zs.set k z).getD i none = zs.getD i none by simp [List.getD, List.getElem?_set, hk]]
    exact h.good i hi

theorem flts_set (fs : List Nat) (k a : Nat) : (flts fs).set k (.float .f64 a) = flts (fs.set k a) := by simp [flts, List.map_set]

/-- A row of floats with sums at places, in the world wr, made behind w. -/
structure SumsF (w wr : World) (v : Value) (zs : List (Option Nat)) (fs : List Nat) : Prop where
  row : Row wr w.heap.size 29 v (flts fs)
  fits : FitsF fs zs
  below : Below w.heap.size w wr

theorem SumsF.draws {w wr : World} {v : Value} {zs : List (Option Nat)} {fs : List Nat} (h : SumsF w wr v zs fs) (n : Nat) : SumsF w (wr.drewN n) v zs fs := ⟨h.row.drewN n, h.fits, below_draws h.below n⟩
theorem SumsF.store {w wr : World} {g cap L : Nat} {zs : List (Option Nat)} {fs : List Nat} (h : SumsF w wr (.slice (some ⟨g, 0, none⟩) L cap) zs fs) {k x : Nat} {q : Option Nat} (hk : k < L)
    (hx : IsF x (addO (zs.getD k none) q)) : SumsF w (wr.setCell ⟨g, k, none⟩ (.float .f64 x)) (.slice (some ⟨g, 0, none⟩) L cap) (addAt addO none zs k q) (fs.set k x) := by
  have hl : fs.length = L := by have := h.row.len; rwa [flts_length] at this
  have hS := h.row.set k (.float .f64 x)
  rw [flts_set] at hS
  have hg : w.heap.size ≤ g := (h.row.lt g rfl).1
  rw [addAt_lt addO none (by rw [← h.fits.len, hl]; exact hk)]
  exact ⟨hS.1, h.fits.set hx, h.below.setCell (p := ⟨g, k, none⟩) hg _⟩

set_option maxRecDepth 100000 in
set_option maxHeartbeats 8000000 in
theorem sumsAt_f64 {V : Value} {vs : List Value} {w : World} (h : Reads w V vs) (bs : Nat → List Nat) (q : Nat → Nat → Option Nat) (ln : Nat → Nat) (hp : Nat)
    (hv : ∀ b, b < vs.length → Reads w (vs.getD b undef) (flts (bs b)) ∧ (bs b).length = ln b ∧ ∀ i, i < ln b → IsF ((bs b).getD i 0) (q b i)) (hln : ∀ b, ln b ≤ 256) (hvs : vs.length ≤ 64) (hhp : hp ≤ 256) :
    Calls Try.prog 102 #[V, .int .i64 hp] w fun e w' => ∃ u fs, e = .returned u ∧ SumsF w w' u (addAll addO none q ln hp vs.length) fs := by
  obtain ⟨i0, hi, hz0, hz1, hz2⟩ := info_parts info_f64'
  obtain ⟨a, cap, rfl⟩ := fl_form h
  obtain ⟨c, hc⟩ : ∃ c, vs.length = c := ⟨_, rfl⟩
  have hrd : ∀ b, b < c → ∃ g, a = some ⟨g, 0, none⟩ ∧ g < w.heap.size ∧ w.cell? ⟨g, b, none⟩ = some (vs.getD b undef) := by
    intro b hb
    generalize hV : Value.slice a vs.length cap = V at h
    cases h with
    | none a cap => simp at hc; omega
    | row g cap L cs hL h0 hcc hm hh =>
      simp only [Value.slice.injEq] at hV
      have := hh b (by omega)
      exact ⟨g, hV.1, World.block_lt_of_cell? _ _ this, this⟩
  have hlen : ∀ b, (addAll addO none q ln hp b).length ≤ b * 256 := fun b => addAll_len_le _ _ q ln hp 256 hln b
  rw [hc] at hv hvs ⊢
  have HRD := Lib.hid hrd
  have HV := Lib.hid hv
  have HLN := Lib.hid hln
  have HLEN := Lib.hid hlen
  clear h hrd hv hln hlen hc
  go_enter Try.func102, Try.ntmps102
  go_wp2
  go_loopw [5, 13] (fun v5 i wr => ∃ (b : Nat) (fs : List Nat), i = .int .i64 b ∧ b ≤ c ∧ SumsF w wr v5 (addAll addO none q ln hp b) fs) (fun _ i _ => c - (intOf i).toNat)
  case atStart => exact ⟨0, [], rfl, Nat.zero_le _, World.ownsRow_nil _ _ _ _, FitsF.nil, Below.refl _ _⟩
  case round =>
    obtain ⟨b, fs, rfl, hb, hS⟩ := hrel
    have HS := Lib.hid hS
    clear hS
    by_cases hbc : b < c
    · obtain ⟨g, rfl, hg, hcb⟩ := HRD.out b hbc
      have c1 : wr.cell? ⟨g, b, none⟩ = some (vs.getD b undef) := by rw [HS.out.below.cell hg]; exact hcb
      obtain ⟨hr, hl, hq⟩ := HV.out b hbc
      obtain ⟨vb, hvb⟩ : ∃ u, vs.getD b undef = u := ⟨_, rfl⟩
      rw [hvb] at c1 hr
      have hrb := fl_reads hr
      have hcapb := fl_cap hr
      obtain ⟨ab, capb, rfl⟩ := fl_form hr
      rw [flts_length, hl] at hrb hcapb c1
      have HRB := Lib.hid (hrb _ _ _ rfl)
      replace hcapb := hcapb _ _ _ rfl
      have HQ := Lib.hid hq
      obtain ⟨m, hm⟩ : ∃ m, ln b = m := ⟨_, rfl⟩
      have hm256 : m ≤ 256 := by rw [← hm]; exact HLN.out b
      obtain ⟨F, hF⟩ : ∃ F, b * hp = F := ⟨_, rfl⟩
      have hF2 : F ≤ 64 * 256 := by rw [← hF]; exact Nat.mul_le_mul (by omega) hhp
      have hFI : (b : Int) * (hp : Int) = (F : Int) := by rw [← hF]; simp
      have hlen := HLEN.out b
      have eAll : addAll addO none q ln hp (b + 1) = addBlk addO none (addAll addO none q ln hp b) F (q b) m := by rw [addAll, hF, hm]
      obtain ⟨zs, hzs⟩ : ∃ zs, addAll addO none q ln hp b = zs := ⟨_, rfl⟩
      rw [hzs] at HS hlen eAll
      rw [hm] at hl HRB HQ c1 hcapb
      have HE := Lib.hid eAll
      have hzl : zs.length ≤ 16384 := by omega
      clear hr hrb hq hl hvb hcb hlen eAll hzs hm hF
      go_wp2
      go_loopw [5, 23] (fun v5 i wq => ∃ (k : Nat) (fs : List Nat), i = .int .i64 k ∧ k ≤ m ∧ SumsF w wq v5 (addBlk addO none zs F (q b) k) fs) (fun _ i _ => m - (intOf i).toNat)
      case atStart => exact ⟨0, fs, rfl, Nat.zero_le _, HS.out⟩
      case round =>
        obtain ⟨k, ts, rfl, hk, hT⟩ := hrel
        have HT := Lib.hid hT
        clear hT
        by_cases hkm : k < m
        · obtain ⟨gb, rfl, hgb, hck⟩ := HRB.out k hkm
          have c2 : wr.cell? ⟨gb, k, none⟩ = some (.float .f64 ((bs b).getD k 0)) := by rw [HT.out.below.cell hgb]; exact hck
          have hx := HQ.out k hkm
          obtain ⟨x, hxx⟩ : ∃ x, (bs b).getD k 0 = x := ⟨_, rfl⟩
          rw [hxx] at c2 hx
          have HX := Lib.hid hx
          have hlk := addBlk_len_le addO none zs F (q b) k
          have eK : addBlk addO none zs F (q b) (k + 1) = addAt addO none (addBlk addO none zs F (q b) k) (F + k) (q b k) := rfl
          obtain ⟨us, hus⟩ : ∃ us, addBlk addO none zs F (q b) k = us := ⟨_, rfl⟩
          rw [hus] at HT hlk eK
          have HK := Lib.hid eK
          have htl : ts.length = us.length := HT.out.fits.len
          clear hxx hx hck hus eK
          by_cases hat : F + k < ts.length
          · rcases HT.out.row.shape with ⟨a5, cap5, rfl, h0⟩ | ⟨g5, cap5, e5, h0, hB5, hlt5, hc5, hm5⟩
            · have : ts.length = 0 := by have := congrArg List.length h0; rwa [flts_length] at this
              omega
            · rw [flts_length] at e5
              obtain ⟨L, hL⟩ : ∃ L, ts.length = L := ⟨_, rfl⟩
              rw [hL] at e5 hat htl
              subst e5
              have c3 := HT.out.row.cellAt hat
              rw [flts_getD (by omega)] at c3
              have f3 := HT.out.row.frozenAt (F + k)
              have hy := HT.out.fits.good (F + k) (by omega)
              obtain ⟨y, hyy⟩ : ∃ y, ts.getD (F + k) 0 = y := ⟨_, rfl⟩
              rw [hyy] at c3 hy
              have hL2 : L ≤ 17000 := by omega
              have HN : Hid (∀ n r, IsF r (addO (us.getD (F + k) none) (q b k)) → SumsF w ((wr.drewN n).setCell ⟨g5, F + k, none⟩ (.float .f64 r)) (.slice (some ⟨g5, 0, none⟩) L cap5) (addBlk addO none zs F (q b) (k + 1)) (ts.set (F + k) r)) := fun n r hr => by
                rw [HK.out]
                exact (HT.out.draws n).store hat hr
              have HY := Lib.hid hy
              clear hy hyy h0 hB5 hlt5 hc5 hm5 htl hL
              go_wp2
              go_roundw
              case rel => first | exact ⟨k + 1, _, by go_num, by omega, HN.out _ _ (isF_fres HY.out HX.out _)⟩ | ((repeat apply Exists.intro); refine ⟨?_, rfl⟩; exact ⟨k + 1, _, by go_num, by omega, HN.out _ _ (isF_fres HY.out HX.out _)⟩)
              case measure => simp [intOf]; omega
          · have hrow := HT.out.row
            obtain ⟨a5, cap5, rfl⟩ := fl_form hrow.reads
            rw [flts_length] at *
            obtain ⟨L, hL⟩ : ∃ L, ts.length = L := ⟨_, rfl⟩
            have hl8 : (flts ts).length = L := by rw [flts_length, hL]
            rw [hL] at hrow hat htl ⊢
            have HRW := Lib.hid hrow
            have HL8 := Lib.hid hl8
            have HB2 := Lib.hid HT.out.below
            have HF2 : Hid (FitsF (ts ++ [x]) (addBlk addO none zs F (q b) (k + 1))) := by
              rw [HK.out, addAt_ge addO none (by omega)]
              exact HT.out.fits.snoc HX.out
            have hL2 : L ≤ 17000 := by omega
            clear hrow hl8 hL HT htl
            go_wp2_with (at_builtin; refine wpList_append_own _ rfl _ _ 49 rfl w.heap.size 29 i0 (.float .f64 0) 1 8 Try.underlying49 hi hz0 hz1 hz2 rfl (by decide) _ _ _ rfl (HRW.out.alloc _) ⟨_, 0, none⟩ 1 1 [.float .f64 x] rfl rfl (cell_one_new _ _ _) (by intro u hu; simp at hu; subst hu; rfl) (by rw [HL8.out]; simp only [maxLen]; omega) (by rw [HL8.out]; omega) (by have := HB2.out.size; simp; omega) ?_)
            intro v' w1 hown' hgrow _
            have hlt' := (HRW.out.alloc (.cells #[.float .f64 x] 29)).lt
            have HB' : Hid (Below w.heap.size w w1) := (HB2.out.alloc HB2.out.size _).grown hgrow (by have := HB2.out.size; simp; omega) (fun b e => (hlt' b e).1)
            have HO' : Hid (Row w1 w.heap.size 29 v' (flts (ts ++ [x]))) := by
              show w1.ownsRow _ _ _ _ _ _
              rw [flts_snoc, List.length_append]
              exact hown'
            clear hown' hgrow hlt'
            go_wp2
            go_roundw
            case rel => first | exact ⟨k + 1, _, by go_num, by omega, HO'.out, HF2.out, HB'.out⟩ | ((repeat apply Exists.intro); refine ⟨?_, rfl⟩; exact ⟨k + 1, _, by go_num, by omega, HO'.out, HF2.out, HB'.out⟩)
            case measure => simp [intOf]; omega
        · have e : k = m := by omega
          subst e
          go_wp2
          go_roundw
          case rel => first | exact ⟨b + 1, ts, by go_num, by omega, by rw [HE.out]; exact HT.out⟩ | ((repeat apply Exists.intro); refine ⟨?_, rfl⟩; exact ⟨b + 1, ts, by go_num, by omega, by rw [HE.out]; exact HT.out⟩)
          case measure => simp [intOf]; omega
    · have e : b = c := by omega
      subst e
      go_wp2
      go_ret
      exact ⟨_, fs, rfl, HS.out⟩

end Go.Proofs.Ytcoieclecmefiaa
