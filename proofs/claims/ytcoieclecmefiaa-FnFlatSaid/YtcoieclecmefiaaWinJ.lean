import Derived.Test.YtcoieclecmefiaaWinI
/-
  WindowWeights of both.
-/
set_option linter.unusedVariables false
set_option linter.unusedSimpArgs false
namespace Go.Proofs.Ytcoieclecmefiaa
open Go.RowKit Flt Fast
attribute [local go_sem] run_fadd run_fsub run_fmul run_fquo run_cadd run_csub

/-- The weights of c blocks. -/
def wgtL (xs : List Nat) (p c : Nat) : List (Option Nat) := addAll addO none (fun _ => sqO xs) (fun _ => xs.length) p c

set_option maxRecDepth 100000 in
set_option maxHeartbeats 8000000 in
theorem weights_spec (xs : List Nat) (hz : ∀ z ∈ xs, z < 18446744073709551616) (p c : Nat) (hp : 0 < p) (hpn : p ≤ xs.length) (hl : xs.length ≤ 256) (hc64 : c ≤ 64) (v : Value) (w : World) (h : Reads w v (flts xs)) :
    Calls Try.prog 76 #[v, .int .i64 c, .int .i64 p] w fun e w' => ∃ u fs, e = .returned u ∧ SumsF w w' u (wgtL xs p c) fs := by
  obtain ⟨i0, hi, hz0, hz1, hz2⟩ := info_parts info_f64'
  have hrd := fl_reads h
  obtain ⟨a, cap, rfl⟩ := fl_form h
  rw [flts_length] at *
  replace hrd := hrd _ _ _ rfl
  have hW : ∀ i, i < xs.length → IsF (xs.getD i 0) (wO xs i) := fun i hi => wO_isF hz hi
  have hAll : ∀ b, wgtL xs p (b + 1) = addBlk addO none (wgtL xs p b) (b * p) (sqO xs) xs.length := fun b => rfl
  have hGe : ∀ b, b * p ≤ (wgtL xs p b).length := fun b => addAll_le _ _ _ _ _ hpn b
  have hLe : ∀ b, (wgtL xs p b).length ≤ b * 256 := fun b => addAll_len_le _ _ _ _ _ 256 (fun _ => hl) b
  have hw0 : wgtL xs p 0 = [] := rfl
  obtain ⟨n, hn⟩ : ∃ n, xs.length = n := ⟨_, rfl⟩
  rw [hn] at hrd hW hpn hl hAll ⊢
  have HRD := Lib.hid hrd
  have HW := Lib.hid hW
  have HALL := Lib.hid hAll
  have HGE := Lib.hid hGe
  have HLE := Lib.hid hLe
  have HW0 := Lib.hid hw0
  have hlit := World.ownsRow_lit w (e := 29) (base := w.heap.size) (size := 1) #[] 0 (Nat.le_refl _) (by unfold maxLen; omega) rfl
  have HLIT := Lib.hid hlit
  clear h hrd hW hz hn hAll hGe hLe hlit hw0
  go_enter Try.func76, Try.ntmps76
  go_wp2
  go_loopw [7, 8] (fun v7 i wr => ∃ (b : Nat) (fs : List Nat), i = .int .i64 b ∧ b ≤ c ∧ SumsF w wr v7 (wgtL xs p b) fs) (fun _ i _ => c - (intOf i).toNat)
  case atStart => exact ⟨0, [], rfl, Nat.zero_le _, HLIT.out, by rw [HW0.out]; exact FitsF.nil, (Below.refl _ _).alloc (Nat.le_refl _) _⟩
  case round =>
    obtain ⟨b, fs, rfl, hb, hS⟩ := hrel
    have HS := Lib.hid hS
    clear hS
    by_cases hbc : b < c
    · obtain ⟨F, hF⟩ : ∃ F, b * p = F := ⟨_, rfl⟩
      have hF2 : F ≤ 64 * 256 := by rw [← hF]; exact Nat.mul_le_mul (by omega) (by omega)
      have hFI : (b : Int) * (p : Int) = (F : Int) := by rw [← hF]; simp
      have hlen := HLE.out b
      have hge := HGE.out b
      have eAll := HALL.out b
      obtain ⟨zs, hzs⟩ : ∃ zs, wgtL xs p b = zs := ⟨_, rfl⟩
      rw [hF] at eAll hge
      rw [hzs] at HS hlen eAll hge
      have HE := Lib.hid eAll
      have hzl : zs.length ≤ 16384 := by omega
      have HGZ := Lib.hid hge
      clear hlen eAll hzs hF hge
      go_wp2
      go_loopw [7, 9] (fun v7 i wq => ∃ (k : Nat) (ts : List Nat), i = .int .i64 k ∧ k ≤ n ∧ SumsF w wq v7 (addBlk addO none zs F (sqO xs) k) ts) (fun _ i _ => n - (intOf i).toNat)
      case atStart => exact ⟨0, fs, rfl, Nat.zero_le _, HS.out⟩
      case round =>
        obtain ⟨k, ts, rfl, hk, hT⟩ := hrel
        have HT := Lib.hid hT
        clear hT
        by_cases hkm : k < n
        · obtain ⟨g, rfl, hg, hck⟩ := HRD.out k hkm
          have c2 : wr.cell? ⟨g, k, none⟩ = some (.float .f64 (xs.getD k 0)) := by rw [HT.out.below.cell hg]; exact hck
          have hx := HW.out k hkm
          obtain ⟨x, hxx⟩ : ∃ x, xs.getD k 0 = x := ⟨_, rfl⟩
          rw [hxx] at c2 hx
          have HX := Lib.hid hx
          have HSQ : Hid (∀ r, IsF r (fop .mul .f64 (wO xs k) (wO xs k)) → IsF r (sqO xs k)) := fun r hr => hr
          have hlk := addBlk_len addO none (sqO xs) HGZ.out k
          have eK : addBlk addO none zs F (sqO xs) (k + 1) = addAt addO none (addBlk addO none zs F (sqO xs) k) (F + k) (sqO xs k) := rfl
          obtain ⟨us, hus⟩ : ∃ us, addBlk addO none zs F (sqO xs) k = us := ⟨_, rfl⟩
          rw [hus] at HT hlk eK
          have HK := Lib.hid eK
          have htl : ts.length = us.length := HT.out.fits.len
          have hmx : F + k ≤ us.length ∧ us.length ≤ 17000 := by rw [hlk]; omega
          clear hxx hx hck hus eK hlk
          by_cases hat : F + k < ts.length
          · rcases HT.out.row.shape with ⟨a5, cap5, rfl, h0⟩ | ⟨g5, cap5, e5, h0, hB5, hlt5, hc5, hm5⟩
            · have : ts.length = 0 := by have := congrArg List.length h0; rwa [flts_length] at this
              omega
            · rw [flts_length] at e5
              obtain ⟨L, hL⟩ : ∃ L, ts.length = L := ⟨_, rfl⟩
              rw [hL] at e5 hat htl
              subst e5
              have c3 := HT.out.row.cellAt hat
              rw [flts_getD (by omega)] at c3
              have f3 := HT.out.row.frozenAt (F + k)
              have hy := HT.out.fits.good (F + k) (by omega)
              obtain ⟨y, hyy⟩ : ∃ y, ts.getD (F + k) 0 = y := ⟨_, rfl⟩
              rw [hyy] at c3 hy
              have hL2 : L ≤ 17000 := by omega
              have HN : Hid (∀ n r, IsF r (addO (us.getD (F + k) none) (sqO xs k)) → SumsF w ((wr.drewN n).setCell ⟨g5, F + k, none⟩ (.float .f64 r)) (.slice (some ⟨g5, 0, none⟩) L cap5) (addBlk addO none zs F (sqO xs) (k + 1)) (ts.set (F + k) r)) := fun n r hr => by
                rw [HK.out]
                exact (HT.out.draws n).store hat hr
              have HY := Lib.hid hy
              have hne : ¬ F + k = L := by omega
              have hneI : ¬ (F : Int) + (k : Int) = (L : Int) := by omega
              clear hy hyy h0 hB5 hlt5 hc5 hm5 htl hL hmx
              go_wp2
              go_region
              go_wp2
              go_roundw
              case rel => first | exact ⟨k + 1, _, by go_num, by omega, HN.out _ _ (isF_fres HY.out (HSQ.out _ (isF_fres HX.out HX.out _)) _)⟩ | ((repeat apply Exists.intro); refine ⟨?_, rfl⟩; exact ⟨k + 1, _, by go_num, by omega, HN.out _ _ (isF_fres HY.out (HSQ.out _ (isF_fres HX.out HX.out _)) _)⟩)
              case measure => simp [intOf]; omega
          · have hrow := HT.out.row
            obtain ⟨a5, cap5, rfl⟩ := fl_form hrow.reads
            rw [flts_length] at *
            obtain ⟨L, hL⟩ : ∃ L, ts.length = L := ⟨_, rfl⟩
            have hl8 : (flts ts).length = L := by rw [flts_length, hL]
            rw [hL] at hrow hat htl ⊢
            have HRW := Lib.hid hrow
            have HL8 := Lib.hid hl8
            have HB2 := Lib.hid HT.out.below
            have HF2 : Hid (∀ r, IsF r (sqO xs k) → FitsF (ts ++ [r]) (addBlk addO none zs F (sqO xs) (k + 1))) := fun r hr => by
              rw [HK.out, addAt_ge addO none (by omega)]
              exact HT.out.fits.snoc hr
            have hL2 : L ≤ 17000 := by omega
            obtain rfl : F + k = L := by omega
            clear hrow hl8 hL HT htl hmx
            go_wp2
            go_region
            obtain ⟨r, hr⟩ : ∃ r, fres .mul .f64 x x wr.drew = r := ⟨_, rfl⟩
            have HRR : Hid (IsF r (sqO xs k)) := by rw [← hr]; exact HSQ.out _ (isF_fres HX.out HX.out _)
            have HNX : Hid (∀ (nn : Nat) (o : Obj) (v' : Value) (w3 : World), w3.ownsRow w.heap.size 29 1 v' (F + k + 1) (flts ts ++ [.float .f64 r]) → ((wr.drewN nn).alloc o).grownBy w3 (Value.slice a5 (F + k) cap5).ownBlock → SumsF w w3 v' (addBlk addO none zs F (sqO xs) (k + 1)) (ts ++ [r])) := fun nn o v' w3 h1 h2 => by
              refine ⟨?_, HF2.out r HRR.out, ((below_draws HB2.out nn).alloc HB2.out.size o).grown h2 (by have := HB2.out.size; show _ ≤ (wr.alloc o).heap.size; simp; omega) (fun b e => (HRW.out.lt b e).1)⟩
              show w3.ownsRow _ _ _ _ _ _
              rw [flts_snoc, List.length_append, HL8.out]
              exact h1
            go_wp2_with (at_builtin; refine wpList_append_own _ rfl _ _ 49 rfl w.heap.size 29 i0 (.float .f64 0) 1 8 Try.underlying49 hi hz0 hz1 hz2 rfl (by decide) _ _ _ rfl ((HRW.out.drewN _).alloc _) ⟨_, 0, none⟩ 1 1 [.float .f64 r] rfl rfl (cell_one_new _ _ _) (by intro u hu; simp at hu; subst hu; rfl) (by rw [HL8.out]; simp only [maxLen]; omega) (by rw [HL8.out]; omega) (by have := HB2.out.size; simp; omega) ?_)
            intro v' w1 hown' hgrow _
            have HSN := Lib.hid (HNX.out _ _ _ _ (by rw [HL8.out] at hown'; exact hown') hgrow)
            clear hown' hgrow hr
            go_wp2
            go_roundw
            case rel => first | exact ⟨k + 1, _, by go_num, by omega, HSN.out⟩ | ((repeat apply Exists.intro); refine ⟨?_, rfl⟩; exact ⟨k + 1, _, by go_num, by omega, HSN.out⟩)
            case measure => simp [intOf]; omega
        · have e : k = n := by omega
          subst e
          go_wp2
          go_roundw
          case rel => first | exact ⟨b + 1, ts, by go_num, by omega, by rw [HE.out]; exact HT.out⟩ | ((repeat apply Exists.intro); refine ⟨?_, rfl⟩; exact ⟨b + 1, ts, by go_num, by omega, by rw [HE.out]; exact HT.out⟩)
          case measure => simp [intOf]; omega
    · have e : b = c := by omega
      subst e
      go_wp2
      go_ret
      exact ⟨_, fs, rfl, HS.out⟩

end Go.Proofs.Ytcoieclecmefiaa
