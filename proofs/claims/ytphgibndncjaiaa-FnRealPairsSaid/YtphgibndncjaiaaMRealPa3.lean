/-
  Several texts of this claim, one behind the other; each says what it holds.
-/
import Derived.Test.YtphgibndncjaiaaMRealPa2
/-
  AddSignals, EnergyOf, DotOf, SumOf, NarrowSignal, WidenSignal, ScaleSignal of the program.
-/
set_option linter.unusedVariables false
set_option linter.unusedSimpArgs false
namespace Go.Proofs.Ytphgibndncjaiaa
open Go.RowKit Flt Fast
attribute [local go_sem] run_fadd run_fsub run_fmul run_fquo run_cadd run_csub

/-- The shape of what is read. -/
theorem Reads.form {w : World} {v : Value} {cs : List Value} (h : Reads w v cs) : ∃ a cap, v = .slice a cs.length cap := by
  cases h with
  | none a cap => exact ⟨a, cap, rfl⟩
  | row g cap L cs hL => subst hL; exact ⟨_, cap, rfl⟩

theorem checkPair_any (a a' : Option Addr) (L cap cap' : Nat) (hL : L ≤ 256) (w : World) :
    Calls Try.prog 28 #[.slice a L cap, .slice a' L cap'] w fun e w' => e = .returned (.int .i64 0) ∧ w' = w := by
  go_enter Try.func28, Try.ntmps28
  go_wp2
  go_ret
  exact ⟨rfl, rfl⟩

set_option maxRecDepth 100000 in
set_option maxHeartbeats 4000000 in
theorem addSignals_any {v v' : Value} {xs ys : List C} {w : World} (h : Reads w v (cvals xs)) (h' : Reads w v' (cvals ys)) (hxy : xs.length = ys.length) (hl : xs.length ≤ 256) (zx zy : Nat → Z)
    (hzx : ∀ i, i < xs.length → IsC (xs.getD i (0, 0)) (zx i)) (hzy : ∀ i, i < xs.length → IsC (ys.getD i (0, 0)) (zy i)) :
    Calls Try.prog 12 #[v, v'] w (MapsTo 26 cvals (0, 0) xs.length (fun i q => IsC q (addZ (zx i) (zy i))) w) := by
  obtain ⟨i0, hi, hz0, hz1, hz2⟩ := info_parts info_c128
  generalize hcs : cvals xs = cs at h
  generalize hcs' : cvals ys = cs' at h'
  have hcl : cs.length = xs.length := by rw [← hcs, cvals_length]
  have hcl' : cs'.length = ys.length := by rw [← hcs', cvals_length]
  cases h with
  | none a cap =>
    have h0 : xs.length = 0 := by rw [← hcl]; rfl
    cases h' with
    | row g' cap' L' _ hL' h0' => rw [hL'] at hcl'; omega
    | none a' cap' =>
      rw [h0]
      clear hcs hcl hcs' hcl' h0 hzx hzy hl hxy
      go_enter Try.func12, Try.ntmps12
      go_wp2_with fail
      refine (checkPair_any a a' 0 cap cap' (by omega) w).mono ?_
      rintro e w' ⟨rfl, rfl⟩
      go_wp2_with (at_make; refine wpList_make_full _ rfl _ _ 24 rfl w'.heap.size 26 i0 (.complex .f64 0 0) 1 Try.underlying24 hi hz0 hz1 .i64 .i64 _ _ 0 rfl rfl rfl rfl (by rw [hz2]; omega) (by simp only [maxLen]; omega) (Nat.le_refl _) ?_)
      intro w1 hown hg1
      rw [toList_madeCells_one] at hown
      have HO : Hid (Row w1 w'.heap.size 26 (.slice (some ⟨w'.heap.size, 0, none⟩) 0 0) []) := by
        show w1.ownsRow _ _ _ _ _ _
        simpa using hown
      have HG : Hid (Below w'.heap.size w' w1) := (Below.refl _ _).grown hg1 (Nat.le_refl _) (fun b e => by cases e)
      clear hown hg1 hi hz0 hz1 hz2
      go_wp2
      refine wp_loop_rounds 1 ?_
      rw [rounds_succ]
      go_wp2
      go_ret2
      exact ⟨_, [], rfl, HO.out, rfl, fun i hi => by omega, HG.out⟩
  | row g cap L cs hL h0 hc hm hcell =>
    cases h' with
    | none a' cap' => simp at hcl'; omega
    | row g' cap' L' cs' hL' h0' hc' hm' hcell' =>
      obtain rfl : L = xs.length := by rw [← hL]; exact hcl
      obtain rfl : L' = xs.length := by rw [← hL', hcl', hxy]
      obtain ⟨L, hxl⟩ : ∃ L, xs.length = L := ⟨_, rfl⟩
      rw [hxl] at hl h0 hc hc' ⊢
      have hmax := maxLen_int (Nat.le_trans hc hm)
      have hgl : g < w.heap.size := World.block_lt_of_cell? _ _ (hcell 0 (by omega))
      have hgl' : g' < w.heap.size := World.block_lt_of_cell? _ _ (hcell' 0 (by omega))
      have HC : Hid (∀ j, j < L → w.cell? ⟨g, j, none⟩ = some (.complex .f64 (xs.getD j (0, 0)).1 (xs.getD j (0, 0)).2)) := fun j hj => by rw [hcell j (by omega), ← hcs, cvals_getD (by omega)]
      have HC' : Hid (∀ j, j < L → w.cell? ⟨g', j, none⟩ = some (.complex .f64 (ys.getD j (0, 0)).1 (ys.getD j (0, 0)).2)) := fun j hj => by rw [hcell' j (by omega), ← hcs', cvals_getD (by omega)]
      have HX := Lib.hid hxl
      have HZX : Hid (∀ i, i < L → IsC (xs.getD i (0, 0)) (zx i)) := fun i hi => hzx i (by omega)
      have HZY : Hid (∀ i, i < L → IsC (ys.getD i (0, 0)) (zy i)) := fun i hi => hzy i (by omega)
      clear hcell hcs hcl hL hm hxl hcell' hcs' hcl' hL' hm' hxy hzx hzy h0'
      go_enter Try.func12, Try.ntmps12
      go_wp2_with fail
      refine (checkPair_any (some ⟨g, 0, none⟩) (some ⟨g', 0, none⟩) L cap cap' hl w).mono ?_
      rintro e w' ⟨rfl, rfl⟩
      go_wp2_with (at_make; refine wpList_make_full _ rfl _ _ 24 rfl w'.heap.size 26 i0 (.complex .f64 0 0) 1 Try.underlying24 hi hz0 hz1 .i64 .i64 _ _ L rfl rfl rfl rfl (by rw [hz2]; omega) (by simp only [maxLen]; omega) (Nat.le_refl _) ?_)
      intro w1 hown hg1
      rw [toList_madeCells_one] at hown
      have HO : Hid (Row w1 w'.heap.size 26 (.slice (some ⟨w'.heap.size, 0, none⟩) L L) (List.replicate L (.complex .f64 0 0))) := by
        show w1.ownsRow _ _ _ _ _ _
        simpa using hown
      have HG : Hid (Below w'.heap.size w' w1) := (Below.refl _ _).grown hg1 (Nat.le_refl _) (fun b e => by cases e)
      clear hown hg1 hi hz0 hz1 hz2
      go_wp2
      go_loopw [20] (fun i wr => ∃ (k : Nat) (qs : List C), i = .int .i64 k ∧ k ≤ L ∧ qs.length = k ∧ Row wr w'.heap.size 26 (.slice (some ⟨w'.heap.size, 0, none⟩) L L) (cvals qs ++ List.replicate (L - k) (.complex .f64 0 0)) ∧ (∀ j, j < k → IsC (qs.getD j (0, 0)) (addZ (zx j) (zy j))) ∧ Below w'.heap.size w' wr) (fun i _ => L - (intOf i).toNat)
      case atStart => exact ⟨0, [], rfl, Nat.zero_le _, rfl, HO.out, fun j hj => by omega, HG.out⟩
      case round =>
        obtain ⟨k, qs, rfl, hk, hx, hrw, hgd, hbw⟩ := hrel
        have HQ := Lib.hid hx
        have HRW := Lib.hid hrw
        have HGD := Lib.hid hgd
        have HBW := Lib.hid hbw
        clear hx hrw hgd hbw
        by_cases hlt : k < L
        · have c1 : wr.cell? ⟨g, k, none⟩ = some (.complex .f64 (xs.getD k (0, 0)).1 (xs.getD k (0, 0)).2) := by rw [HBW.out.cell hgl]; exact HC.out k hlt
          have c2 : wr.cell? ⟨g', k, none⟩ = some (.complex .f64 (ys.getD k (0, 0)).1 (ys.getD k (0, 0)).2) := by rw [HBW.out.cell hgl']; exact HC'.out k hlt
          have z1 := HZX.out k hlt
          have z2 := HZY.out k hlt
          obtain ⟨⟨a, b⟩, hab⟩ : ∃ q, xs.getD k (0, 0) = q := ⟨_, rfl⟩
          obtain ⟨⟨c, d⟩, hcd⟩ : ∃ q, ys.getD k (0, 0) = q := ⟨_, rfl⟩
          rw [hab] at c1 z1
          rw [hcd] at c2 z2
          have HZ1 := Lib.hid z1
          have HZ2 := Lib.hid z2
          have c3 := HRW.out.cellAt hlt
          have f3 := HRW.out.frozenAt k
          obtain ⟨u, hu⟩ : ∃ u, (cvals qs ++ List.replicate (L - k) (.complex .f64 0 0 : Value)).getD k undef = u := ⟨_, rfl⟩
          rw [hu] at c3
          clear hab hcd z1 z2 hu
          have HN : ∀ (n p q : Nat), IsC (p, q) (addZ (zx k) (zy k)) → ∃ (qs' : List C), qs'.length = k + 1 ∧ Row ((wr.drewN n).setCell ⟨w'.heap.size, k, none⟩ (.complex .f64 p q)) w'.heap.size 26 (.slice (some ⟨w'.heap.size, 0, none⟩) L L) (cvals qs' ++ List.replicate (L - (k + 1)) (.complex .f64 0 0)) ∧ (∀ j, j < k + 1 → IsC (qs'.getD j (0, 0)) (addZ (zx j) (zy j))) ∧ Below w'.heap.size w' ((wr.drewN n).setCell ⟨w'.heap.size, k, none⟩ (.complex .f64 p q)) := by
            intro n p q hq
            have hS := (HRW.out.drewN n).set k (.complex .f64 p q)
            rw [fillV hlt (by rw [cvals_length]; exact HQ.out)] at hS
            have hF := snocGood (d := ((0, 0) : C)) (G := fun i q => IsC q (addZ (zx i) (zy i))) HQ.out HGD.out hq
            exact ⟨qs ++ [(p, q)], hF.1, by rw [cvals_snoc]; exact hS.1, hF.2, (below_draws HBW.out n).setCell (p := ⟨w'.heap.size, k, none⟩) (Nat.le_refl _) _⟩
          have HN2 := Lib.hid HN
          clear HN
          go_wp2
          go_region
          go_wp2
          go_roundw
          case rel =>
            obtain ⟨qs', e1, e2, e3, e4⟩ := HN2.out _ _ _ ⟨isF_fres HZ1.out.re HZ2.out.re _, isF_fres HZ1.out.im HZ2.out.im _⟩
            exact ⟨k + 1, qs', by go_num, by omega, e1, e2, e3, e4⟩
          case measure => simp [intOf]; omega
        · have e : k = L := by omega
          subst e
          go_wp2
          go_ret2
          refine ⟨_, qs, rfl, ?_, HQ.out, HGD.out, HBW.out⟩
          have := HRW.out
          rwa [Nat.sub_self, List.replicate_zero, List.append_nil] at this

/-- The conjugate. -/
def conjZ (x : Z) : Z := (x.1, fneg .f64 x.2)

end Go.Proofs.Ytphgibndncjaiaa
/-
  Sizes of differences, products and quotients of numbers from 0 to 1. No program.
-/
set_option linter.unusedVariables false
set_option linter.unusedSimpArgs false
namespace Go.Proofs.Ytphgibndncjaiaa.Flt
section
open Ieee
variable {f : Format} {LP one : Nat}

theorem val_mono {r s : Nat} (h : r ≤ s) : val f r ≤ val f s := by
  rcases Nat.lt_or_eq_of_le h with h | h
  · exact Nat.le_of_lt (val_lt f h)
  · rw [h]; exact Nat.le_refl _

theorem read_pos {x : Nat} (h : x < f.infRung) : ∃ m p, f.read x = .number false m p ∧ f.leastPlace ≤ p ∧ m * 2 ^ (p - f.leastPlace).toNat = val f x := by
  obtain ⟨m, p, h1, h2, h3⟩ := read_word (f := f) false h
  exact ⟨m, p, h1, h2, h3⟩

theorem word_false (f : Format) (r : Nat) : f.word false r = r := rfl

/-- A product of numbers that are not negative. -/
theorem mul_le {x y R : Nat} (hLP : f.leastPlace = -(LP : Int)) (hx : x < f.infRung) (hy : y < f.infRung) (hv : val f x * val f y ≤ val f R * 2 ^ LP) :
    ∃ r, f.mul x y = some r ∧ r ≤ R := by
  obtain ⟨m, i, e1, i1, v1⟩ := read_pos hx
  obtain ⟨n, j, e2, j1, v2⟩ := read_pos hy
  rw [hLP] at i1 j1 v1 v2
  refine ⟨rungOf f (m * n) (i + j), ?_, ?_⟩
  · unfold Format.mul
    rw [e1, e2]
    simp only [Datum.product, Option.map_some, Format.write, Bool.xor_false, nearest_rung, word_false]
  · refine rung_le (base := -(LP : Int) - LP) (by omega) (by rw [hLP]; omega) ?_
    rw [hLP, show (-(LP : Int) - (-(LP : Int) - LP)).toNat = LP by omega]
    refine Nat.le_trans (Nat.le_of_eq ?_) hv
    unfold at_
    rw [← v1, ← v2, Nat.mul_mul_mul_comm, ← Nat.pow_add]
    congr 2
    omega

theorem mul_le_one {x y : Nat} (hLP : f.leastPlace = -(LP : Int)) (h1 : val f one = 2 ^ LP) (hoi : one < f.infRung) (hx : x < f.infRung) (hy : y ≤ one) : ∃ r, f.mul x y = some r ∧ r ≤ x := by
  refine mul_le hLP hx (Nat.lt_of_le_of_lt hy hoi) ?_
  rw [← h1]
  exact Nat.mul_le_mul_left _ (val_mono hy)

/-- A difference of numbers that are not negative, the first one being no less. -/
theorem sub_le {x y : Nat} (hx : x < f.infRung) (hy : y ≤ x) : ∃ r, f.sub x y = some r ∧ r ≤ x := by
  obtain ⟨m, i, e1, i1, v1⟩ := read_pos hx
  obtain ⟨n, j, e2, j1, v2⟩ := read_pos (f := f) (Nat.lt_of_le_of_lt hy hx)
  have hvv : val f y ≤ val f x := val_mono hy
  generalize hl : f.leastPlace = l at *
  unfold Format.sub
  rw [e1, e2]
  simp only [Datum.opposite, Datum.sum, Bool.not_false]
  obtain ⟨b, hb⟩ : ∃ b, min i j = b := ⟨_, rfl⟩
  rw [hb]
  have hbl : l ≤ b := by omega
  have t1 : signed false m (i - b).toNat = ((m * 2 ^ (i - b).toNat : Nat) : Int) := by rw [signed_eq]; rfl
  have t2 : signed true n (j - b).toNat = -((n * 2 ^ (j - b).toNat : Nat) : Int) := by rw [signed_eq]; rfl
  rw [t1, t2]
  have s1 : m * 2 ^ (i - b).toNat * 2 ^ (b - l).toNat = val f x := by rw [← v1, Nat.mul_assoc, ← Nat.pow_add]; congr 2; omega
  have s2 : n * 2 ^ (j - b).toNat * 2 ^ (b - l).toNat = val f y := by rw [← v2, Nat.mul_assoc, ← Nat.pow_add]; congr 2; omega
  generalize m * 2 ^ (i - b).toNat = M at *
  generalize n * 2 ^ (j - b).toNat = N at *
  have hp : 0 < 2 ^ (b - l).toNat := Nat.two_pow_pos _
  have hNM : N ≤ M := by
    rw [← s1, ← s2] at hvv
    exact Nat.le_of_mul_le_mul_right hvv hp
  have hneg : (if (M : Int) + -(N : Int) = 0 then (false && true) else decide ((M : Int) + -(N : Int) < 0)) = false := by
    split
    · rfl
    · simp; omega
  rw [hneg, show ((M : Int) + -(N : Int)).natAbs = M - N by omega]
  refine ⟨rungOf f (M - N) b, ?_, ?_⟩
  · simp only [Option.map_some, Format.write, nearest_rung, word_false]
  · refine rung_le (base := l) hbl (by omega) ?_
    rw [hl, Int.sub_self, Int.toNat_zero, Nat.pow_zero, Nat.mul_one]
    unfold at_
    rw [← s1]
    exact Nat.mul_le_mul_right _ (Nat.sub_le _ _)

/-- What a quotient is cut to lies on the same side of each whole number. -/
theorem quot_le {D n K : Nat} (hn : 0 < n) (h : D ≤ n * K) : 2 * (D / n) + (D % n != 0).toNat ≤ 2 * K := by
  have e := Nat.div_add_mod D n
  by_cases h0 : D % n = 0
  · rw [h0]
    have : D / n ≤ K := by
      rw [h0, Nat.add_zero] at e
      rw [← e] at h
      exact Nat.le_of_mul_le_mul_left h hn
    simp; omega
  · have : D / n < K := by
      apply Nat.lt_of_not_le
      intro hc
      have := Nat.mul_le_mul_left n hc
      omega
    have hb : (D % n != 0) = true := by simp [h0]
    rw [hb]
    simp only [Bool.toNat_true]
    omega

theorem log_lt {m : Nat} (h : m < 2 * f.binade) : m.log2 ≤ f.fractionBits := by
  by_cases h0 : m = 0
  · subst h0; simp
  · have : m.log2 < f.fractionBits + 1 := (Nat.log2_lt h0).2 (by rw [Nat.pow_succ, Nat.mul_comm]; exact h)
    omega

/-- A number that a word stands for has no more digits than the format. -/
theorem read_small {x m : Nat} {p : Int} (h : f.read x = .number false m p) : m < 2 * f.binade := by
  unfold Format.read at h
  have hb := binade_pos f
  simp only [] at h
  split at h
  · rename_i hlt
    simp only [Datum.number.injEq] at h
    omega
  · split at h
    · simp only [Datum.number.injEq] at h
      have hm := Nat.mod_lt (x % f.signWeight) hb
      omega
    · split at h <;> cases h

theorem quot_zero (mo n : Nat) : 2 * (((0 : Nat) <<< mo) / n) + (((0 : Nat) <<< mo) % n != 0).toNat = 0 := by
  rw [Nat.zero_shiftLeft, Nat.zero_div, Nat.zero_mod]; rfl

/-- A quotient of numbers that are not negative: no greater than 1 if the first one is no greater than the second one; and no greater than the first one if the second one is no less than 1. -/
theorem div_le {x y R : Nat} (hLP : f.leastPlace = -(LP : Int)) (h1 : val f one = 2 ^ LP) (hx : x < f.infRung) (hy : y < f.infRung) (hy0 : 0 < y)
    (hR : (R = one ∧ x ≤ y) ∨ (R = x ∧ one ≤ y)) : ∃ r, f.div x y = some r ∧ r ≤ R := by
  obtain ⟨m, i, e1, i1, v1⟩ := read_pos hx
  obtain ⟨n, j, e2, j1, v2⟩ := read_pos hy
  have hml := log_lt (read_small e1)
  have hnl := log_lt (read_small e2)
  rw [hLP] at i1 j1 v1 v2
  have hvy : 0 < val f y := by have := val_lt f hy0; rw [val_zero] at this; exact this
  have hn : n ≠ 0 := by
    intro h; subst h; rw [Nat.zero_mul] at v2; omega
  unfold Format.div
  rw [e1, e2]
  simp only [Datum.quotient, if_neg hn]
  obtain ⟨mo, hmo⟩ : ∃ mo, f.fractionBits + 2 + n.log2 - m.log2 = mo := ⟨_, rfl⟩
  rw [hmo]
  refine ⟨rungOf f (2 * ((m <<< mo) / n) + ((m <<< mo) % n != 0).toNat) (i - j - mo - 1), ?_, ?_⟩
  · simp only [Option.map_some, Format.write, Bool.xor_false, nearest_rung, word_false]
  by_cases hm0 : m = 0
  · subst hm0
    rw [quot_zero]
    unfold rungOf
    rw [if_pos rfl]
    exact Nat.zero_le _
  · obtain ⟨B, hBi, hBl⟩ : ∃ B : Nat, -(B : Int) ≤ i - j - mo - 1 ∧ LP ≤ B := ⟨(j - i + mo + 1).toNat + LP, by omega, by omega⟩
    have key : ∃ K : Nat, m <<< mo ≤ n * K ∧ K * 2 ^ (i - j - mo + B).toNat = val f R * 2 ^ (B - LP) := by
      have hx1 : m * 2 ^ (i + LP).toNat = val f x := by rw [← v1]; congr 2; omega
      have hy1 : n * 2 ^ (j + LP).toNat = val f y := by rw [← v2]; congr 2; omega
      have hhi := Nat.lt_log2_self (n := n)
      rcases hR with ⟨rfl, hxy⟩ | ⟨rfl, hy1'⟩
      · have hle := val_mono (f := f) hxy
        rw [← hx1, ← hy1] at hle
        have hlo := Nat.log2_self_le hm0
        have hex : i + m.log2 ≤ j + n.log2 := by
          have h1 : 2 ^ m.log2 * 2 ^ (i + LP).toNat < 2 ^ (n.log2 + 1) * 2 ^ (j + LP).toNat :=
            Nat.lt_of_le_of_lt (Nat.le_trans (Nat.mul_le_mul_right _ hlo) hle) (Nat.mul_lt_mul_of_pos_right hhi (Nat.two_pow_pos _))
          rw [← Nat.pow_add, ← Nat.pow_add] at h1
          have := (Nat.pow_lt_pow_iff_right (by omega)).1 h1
          omega
        refine ⟨2 ^ (mo + j - i).toNat, ?_, ?_⟩
        · rw [Nat.shiftLeft_eq]
          apply Nat.le_of_mul_le_mul_right (c := 2 ^ (i + LP).toNat) _ (Nat.two_pow_pos _)
          calc m * 2 ^ mo * 2 ^ (i + LP).toNat = m * 2 ^ (i + LP).toNat * 2 ^ mo := by rw [Nat.mul_right_comm]
            _ ≤ n * 2 ^ (j + LP).toNat * 2 ^ mo := Nat.mul_le_mul_right _ hle
            _ = n * 2 ^ (mo + j - i).toNat * 2 ^ (i + LP).toNat := by
              rw [Nat.mul_assoc, Nat.mul_assoc, ← Nat.pow_add, ← Nat.pow_add]; congr 2; omega
        · rw [h1, ← Nat.pow_add, ← Nat.pow_add]; congr 1; omega
      · have hle := val_mono (f := f) hy1'
        rw [h1, ← hy1] at hle
        have hex : 0 ≤ j + n.log2 := by
          have h1 : 2 ^ LP < 2 ^ (n.log2 + 1) * 2 ^ (j + LP).toNat := Nat.lt_of_le_of_lt hle (Nat.mul_lt_mul_of_pos_right hhi (Nat.two_pow_pos _))
          rw [← Nat.pow_add] at h1
          have := (Nat.pow_lt_pow_iff_right (by omega)).1 h1
          omega
        refine ⟨m * 2 ^ (mo + j).toNat, ?_, ?_⟩
        · rw [Nat.shiftLeft_eq]
          apply Nat.le_of_mul_le_mul_right (c := 2 ^ LP) _ (Nat.two_pow_pos _)
          calc m * 2 ^ mo * 2 ^ LP ≤ m * 2 ^ mo * (n * 2 ^ (j + LP).toNat) := Nat.mul_le_mul_left _ hle
            _ = n * (m * (2 ^ mo * 2 ^ (j + LP).toNat)) := by
              rw [Nat.mul_left_comm, Nat.mul_assoc]
            _ = n * (m * 2 ^ (mo + j).toNat) * 2 ^ LP := by
              rw [Nat.mul_assoc n, Nat.mul_assoc m, ← Nat.pow_add, ← Nat.pow_add]; congr 3; omega
        · rw [← hx1, Nat.mul_assoc, Nat.mul_assoc, ← Nat.pow_add, ← Nat.pow_add]; congr 2; omega
    obtain ⟨K, hK1, hK2⟩ := key
    refine rung_le (base := -(B : Int)) hBi (by rw [hLP]; omega) ?_
    rw [hLP, show (-(LP : Int) - -(B : Int)).toNat = B - LP by omega, ← hK2]
    unfold at_
    have h2 := quot_le (Nat.pos_of_ne_zero hn) hK1
    calc (2 * ((m <<< mo) / n) + ((m <<< mo) % n != 0).toNat) * 2 ^ (i - j - mo - 1 - -(B : Int)).toNat ≤ 2 * K * 2 ^ (i - j - mo - 1 - -(B : Int)).toNat := Nat.mul_le_mul_right _ h2
      _ = K * (2 ^ (i - j - mo - 1 - -(B : Int)).toNat * 2) := by rw [Nat.mul_comm 2 K, Nat.mul_assoc, Nat.mul_comm 2]
      _ = K * 2 ^ (i - j - mo + B).toNat := by rw [← Nat.pow_succ]; congr 2; omega

theorem mul_pow_self (a : Nat) (l : Int) : a * 2 ^ (l - l).toNat = a := by
  rw [Int.sub_self, Int.toNat_zero, Nat.pow_zero, Nat.mul_one]

theorem at_int (c LP : Nat) : at_ c 0 (-(LP : Int)) = c * 2 ^ LP := by
  unfold at_; congr 2; omega

/-- How an integer is rounded. -/
theorem rung_int_le {c R : Nat} (hLP : f.leastPlace = -(LP : Int)) (h : c * 2 ^ LP ≤ val f R) : rungOf f c 0 ≤ R := by
  refine rung_le (base := -(LP : Int)) (by omega) (by rw [hLP]; exact Int.le_refl _) ?_
  rw [hLP, mul_pow_self, at_int]
  exact h
theorem le_rung_int {c R : Nat} (hLP : f.leastPlace = -(LP : Int)) (hR : R ≤ f.infRung) (h : val f R ≤ c * 2 ^ LP) : R ≤ rungOf f c 0 := by
  refine le_rung (base := -(LP : Int)) (by omega) (by rw [hLP]; exact Int.le_refl _) hR ?_
  rw [hLP, mul_pow_self, at_int]
  exact h
theorem nearest_int {c r : Nat} (hLP : f.leastPlace = -(LP : Int)) (hr : r < f.infRung) (h : val f r = c * 2 ^ LP) : f.nearest false c 0 = f.word false r := by
  refine nearest_exact (f := f) (base := -(LP : Int)) false hr (by omega) (by rw [hLP]; exact Int.le_refl _) ?_
  rw [hLP, mul_pow_self, h]
  exact at_int c LP

theorem int_exact {c top T : Nat} (hLP : f.leastPlace = -(LP : Int)) (h0 : c ≠ 0) (hc : c < 2 * f.binade) (hfb : f.fractionBits ≤ LP) (htop : val f top = T * 2 ^ LP) (hT : c ≤ T) (hinf : top < f.infRung) :
    val f (f.nearest false c 0) = c * 2 ^ LP := by
  have hr := rung_of (f := f) (k := c) (q := LP) h0 hc (by omega)
  generalize ((LP + c.log2 - f.fractionBits) * f.binade + c * 2 ^ (f.fractionBits - c.log2)) = r at hr
  have hlt : r < f.infRung := by
    apply Nat.lt_of_le_of_lt _ hinf
    apply Nat.le_of_not_lt
    intro hcc
    have := val_lt f hcc
    rw [hr, htop] at this
    exact absurd this (Nat.not_lt.2 (Nat.mul_le_mul_right _ hT))
  rw [nearest_int hLP hlt hr, word_false, hr]

end

/-- The rung of 1. -/
abbrev ONE : Nat := 4607182418800017408
theorem one_inf : ONE < Ieee.double.infRung := by rw [ir64]; decide
theorem lp64 : Ieee.double.leastPlace = -((1074 : Nat) : Int) := by decide
theorem val_one : val Ieee.double ONE = 2 ^ 1074 := by decide +kernel
end Go.Proofs.Ytphgibndncjaiaa.Flt
/-
  Floats of 64 bits as rational numbers: sums, differences, products and quotients are near, and kept between numbers that there are. No program.
-/
set_option linter.unusedVariables false
set_option linter.unusedSimpArgs false
namespace Go.Proofs.Ytphgibndncjaiaa
open Go Flt
namespace Flt
open Ieee (double Format Datum)

/-- The places of a float behind the point. -/
def lpn : Nat := 1074
theorem lpn_eq : double.leastPlace = -(lpn : Int) := by decide
/-- A power of 2. -/
def two (n : Nat) : Rat := ((2 ^ n : Nat) : Rat)
theorem two_pos (n : Nat) : 0 < two n := by
  unfold two
  exact Rat.natCast_pos.2 (Nat.two_pow_pos n)
theorem two_add (a b : Nat) : two (a + b) = two a * two b := by
  unfold two
  rw [Nat.pow_add, Rat.natCast_mul]
theorem two_cut {a b : Nat} (h : a ≤ b) : two b = two a * two (b - a) := by rw [← two_add, Nat.add_sub_cancel' h]
theorem two_split {b : Nat} (hb : lpn ≤ b) : two b = two lpn * two (b - lpn) := by rw [← two_add, Nat.add_sub_cancel' hb]
theorem two_zero : two 0 = 1 := rfl
theorem two_one : two 1 = 2 := rfl
theorem two_le {a b : Nat} (h : a ≤ b) : two a ≤ two b := by
  unfold two
  exact Rat.natCast_le_natCast.2 (Nat.pow_le_pow_right (by omega) h)

/-- What a finite word stands for. -/
def fq (x : Nat) : Rat := (rsv double x : Rat) / two lpn
/-- A finite word. -/
def Fin (x : Nat) : Prop := x < 18446744073709551616 ∧ x % 9223372036854775808 < 9218868437227405312
/-- A number that there is. -/
def Rep (q : Rat) : Prop := ∃ x, Fin x ∧ fq x = q

theorem rsv_word (neg : Bool) {r : Nat} (h : r < double.infRung) : rsv double (double.word neg r) = sval double neg r := by
  have hs : double.signWeight = 9223372036854775808 := by decide
  rw [ir64] at h
  unfold rsv Format.word
  rw [hs]
  cases neg
  · simp only [Bool.false_eq_true, if_false]
    have e1 : r / 9223372036854775808 = 0 := Nat.div_eq_of_lt (by omega)
    have e2 : r % 9223372036854775808 = r := Nat.mod_eq_of_lt (by omega)
    rw [e1, e2]
    rfl
  · simp only [if_true]
    have e1 : (9223372036854775808 + r) / 9223372036854775808 = 1 := by omega
    have e2 : (9223372036854775808 + r) % 9223372036854775808 = r := by omega
    rw [e1, e2]
    rfl

theorem fin_word (neg : Bool) {r : Nat} (h : r < double.infRung) : Fin (double.word neg r) := by
  have hs : double.signWeight = 9223372036854775808 := by decide
  rw [ir64] at h
  unfold Fin Format.word
  rw [hs]
  cases neg
  · simp only [Bool.false_eq_true, if_false]; omega
  · simp only [if_true]; omega

theorem word_self' {x : Nat} (h : x < 18446744073709551616) : double.word (x / 9223372036854775808 % 2 == 1) (x % 9223372036854775808) = x := by
  have hs : double.signWeight = 9223372036854775808 := by decide
  unfold Format.word
  rw [hs]
  by_cases h1 : x < 9223372036854775808
  · rw [Nat.div_eq_of_lt h1, Nat.mod_eq_of_lt h1]; rfl
  · have e1 : x / 9223372036854775808 = 1 := by omega
    have e2 : x % 9223372036854775808 = x - 9223372036854775808 := by omega
    rw [e1, e2]
    show 9223372036854775808 + (x - 9223372036854775808) = x
    omega

/-- The value of a rung. -/
def rq (r : Nat) : Rat := (val double r : Rat) / two lpn
theorem fq_word (neg : Bool) {r : Nat} (h : r < double.infRung) : fq (double.word neg r) = if neg then -rq r else rq r := by
  unfold fq rq
  rw [rsv_word neg h]
  unfold sval
  cases neg
  · simp only [Bool.false_eq_true, if_false, Rat.intCast_natCast]
  · simp only [if_true, Rat.intCast_neg, Rat.intCast_natCast]
    grind

theorem div_le_div {a b c : Rat} (hc : 0 < c) (h : a ≤ b) : a / c ≤ b / c := by
  rw [Rat.div_def, Rat.div_def]
  exact Rat.mul_le_mul_of_nonneg_right h (Rat.le_of_lt (Rat.inv_pos.2 hc))
theorem le_of_div {a b c : Rat} (hc : 0 < c) (h : a / c ≤ b / c) : a ≤ b := by
  have := Rat.mul_le_mul_of_nonneg_right h (Rat.le_of_lt hc)
  rwa [Rat.div_mul_cancel (Rat.ne_of_gt hc), Rat.div_mul_cancel (Rat.ne_of_gt hc)] at this

theorem rq_le {r s : Nat} : rq r ≤ rq s ↔ r ≤ s := by
  unfold rq
  constructor
  · intro h
    have := Rat.natCast_le_natCast.1 (le_of_div (two_pos _) h)
    apply Nat.le_of_not_lt
    intro hc
    have := val_lt double hc
    omega
  · intro h
    exact div_le_div (two_pos _) (Rat.natCast_le_natCast.2 (val_mono h))
theorem rq_zero : rq 0 = 0 := by
  unfold rq; rw [val_zero, Rat.div_def]; simp
theorem rq_nonneg (r : Nat) : 0 ≤ rq r := by rw [← rq_zero]; exact rq_le.2 (Nat.zero_le _)

/-- A word is its sign and its rung. -/
theorem fin_parts {x : Nat} (h : Fin x) : ∃ neg r, r < double.infRung ∧ x = double.word neg r := by
  refine ⟨_, x % 9223372036854775808, ?_, (word_self' h.1).symm⟩
  rw [ir64]; exact h.2

theorem rep_neg {q : Rat} (h : Rep q) : Rep (-q) := by
  obtain ⟨x, hx, rfl⟩ := h
  obtain ⟨neg, r, hr, rfl⟩ := fin_parts hx
  refine ⟨double.word (!neg) r, fin_word _ hr, ?_⟩
  rw [fq_word _ hr, fq_word _ hr]
  cases neg
  · simp
  · simp only [Bool.not_true, Bool.false_eq_true, if_false, if_true]; grind
theorem rep_rq {r : Nat} (h : r < double.infRung) : Rep (rq r) := ⟨double.word false r, fin_word _ h, by rw [fq_word _ h]; rfl⟩
theorem rep_zero : Rep 0 := by rw [← rq_zero]; exact rep_rq (by rw [ir64]; omega)

/-- A number that there is and that is not negative is that of a rung. -/
theorem rep_rung {q : Rat} (h : Rep q) (h0 : 0 ≤ q) : ∃ r, r < double.infRung ∧ rq r = q := by
  obtain ⟨x, hx, rfl⟩ := h
  obtain ⟨neg, r, hr, rfl⟩ := fin_parts hx
  rw [fq_word _ hr] at h0 ⊢
  cases neg
  · exact ⟨r, hr, rfl⟩
  · simp only [if_true] at h0 ⊢
    have := rq_nonneg r
    have e : rq r = 0 := by grind
    exact ⟨0, by rw [ir64]; omega, by rw [rq_zero, e]; grind⟩

/-- How far a rounded number may be from the number. -/
def slack (t : Rat) : Rat := t / two 52 + 1 / two (lpn + 1)
def slack' (t : Rat) : Rat := t / two 53 + 1 / two (lpn + 1)
/-- r is what t is rounded to: near, and on the same side of each number that there is. -/
structure Rnd (t r : Rat) : Prop where
  rep : Rep r
  up : r - t ≤ slack t ∨ r - t ≤ slack (-t)
  down : t - r ≤ slack t ∨ t - r ≤ slack (-t)
  le : ∀ s, Rep s → t ≤ s → r ≤ s
  ge : ∀ s, Rep s → s ≤ t → s ≤ r

theorem Rnd.neg {t r : Rat} (h : Rnd t r) : Rnd (-t) (-r) := by
  obtain ⟨h0, h1, h2, h3, h4⟩ := h
  refine ⟨rep_neg h0, ?_, ?_, fun s hs hts => ?_, fun s hs hst => ?_⟩
  · rw [Rat.neg_neg]; grind
  · rw [Rat.neg_neg]; grind
  · have := h4 (-s) (rep_neg hs) (by grind)
    grind
  · have := h3 (-s) (rep_neg hs) (by grind)
    grind
theorem Rnd.exact {t r : Rat} (h : Rnd t r) (ht : Rep t) : r = t := Rat.le_antisymm (h.le t ht (Rat.le_refl)) (h.ge t ht (Rat.le_refl))
theorem Rnd.nonneg {t r : Rat} (h : Rnd t r) (ht : 0 ≤ t) : 0 ≤ r := h.ge 0 rep_zero ht

theorem two53 : two 53 = 9007199254740992 := rfl
theorem two52 : two 52 = 4503599627370496 := rfl

theorem rq_at {b : Nat} (hb : lpn ≤ b) (s : Nat) : rq s = ((val double s * 2 ^ (b - lpn) : Nat) : Rat) / two b := by
  have e : two b = two lpn * two (b - lpn) := two_split hb
  unfold rq
  rw [e, Rat.natCast_mul]
  have h1 := two_pos lpn
  have h2 := two_pos (b - lpn)
  show _ = _ * two (b - lpn) / _
  generalize two (b - lpn) = u at *
  generalize two lpn = v at *
  generalize ((val double s : Nat) : Rat) = a
  rw [Rat.div_def, Rat.div_def, Rat.inv_mul_rev]
  have := Rat.mul_inv_cancel u (Rat.ne_of_gt h2)
  grind

theorem cast_le_div {a c b : Nat} : (a : Rat) / two b ≤ (c : Rat) / two b ↔ a ≤ c :=
  ⟨fun h => Rat.natCast_le_natCast.1 (le_of_div (two_pos _) h), fun h => div_le_div (two_pos _) (Rat.natCast_le_natCast.2 h)⟩

/-- A number that is not negative is rounded to a rung. -/
theorem rung_rnd {m : Nat} {p : Int} {b R : Nat} (hb : lpn ≤ b) (hp : -(b : Int) ≤ p) (hR : R < double.infRung) (hB : ((at_ m p (-(b : Int)) : Nat) : Rat) / two b ≤ rq R) :
    rungOf double m p < double.infRung ∧ Rnd (((at_ m p (-(b : Int)) : Nat) : Rat) / two b) (rq (rungOf double m p)) ∧
      rq (rungOf double m p) - ((at_ m p (-(b : Int)) : Nat) : Rat) / two b ≤ slack' (((at_ m p (-(b : Int)) : Nat) : Rat) / two b) ∧
      ((at_ m p (-(b : Int)) : Nat) : Rat) / two b - rq (rungOf double m p) ≤ slack' (((at_ m p (-(b : Int)) : Nat) : Rat) / two b) := by
  have h2 : -(b : Int) ≤ double.leastPlace := by rw [lpn_eq]; omega
  have e : (double.leastPlace - -(b : Int)).toNat = b - lpn := by rw [lpn_eq]; omega
  have hle : ∀ s, ((at_ m p (-(b : Int)) : Nat) : Rat) / two b ≤ rq s → rungOf double m p ≤ s := fun s hs => by
    rw [rq_at hb, cast_le_div] at hs
    exact rung_le hp h2 (by rw [e]; exact hs)
  have hge : ∀ s, s < double.infRung → rq s ≤ ((at_ m p (-(b : Int)) : Nat) : Rat) / two b → s ≤ rungOf double m p := fun s hi hs => by
    rw [rq_at hb, cast_le_div] at hs
    exact le_rung hp h2 (Nat.le_of_lt hi) (by rw [e]; exact hs)
  have hlt : rungOf double m p < double.infRung := Nat.lt_of_le_of_lt (hle R hB) hR
  have ht0 : 0 ≤ ((at_ m p (-(b : Int)) : Nat) : Rat) / two b := by
    have := div_le_div (two_pos b) (Rat.natCast_nonneg (a := at_ m p (-(b : Int))))
    rwa [Rat.div_def, Rat.zero_mul] at this
  have near : rq (rungOf double m p) - ((at_ m p (-(b : Int)) : Nat) : Rat) / two b ≤ slack' (((at_ m p (-(b : Int)) : Nat) : Rat) / two b) ∧
      ((at_ m p (-(b : Int)) : Nat) : Rat) / two b - rq (rungOf double m p) ≤ slack' (((at_ m p (-(b : Int)) : Nat) : Rat) / two b) := by
    by_cases hm : m = 0
    · have e1 : rungOf double m p = 0 := by unfold rungOf; rw [if_pos hm]
      have e2 : at_ m p (-(b : Int)) = 0 := by unfold at_; rw [hm, Nat.zero_mul]
      have e3 : ((0 : Nat) : Rat) / two b = 0 := by rw [Rat.div_def]; exact Rat.zero_mul _
      have e4 : (0 : Rat) ≤ 1 / two (lpn + 1) := by
        have := div_le_div (two_pos (lpn + 1)) (show (0 : Rat) ≤ 1 by decide)
        rwa [Rat.div_def, Rat.zero_mul] at this
      rw [e1, e2, rq_zero, e3]
      unfold slack'
      rw [show (0 : Rat) / two 53 = 0 by rw [Rat.div_def]; exact Rat.zero_mul _]
      constructor <;> grind
    · obtain ⟨L, k, hr, hq, hk, k1, k2, hbig⟩ := rung_spec (f := double) hm hp h2
      have hr' : rungOf double m p = L * double.binade + k := by omega
      have hv : val double (rungOf double m p) = k * 2 ^ L := by rw [hr']; exact val_of hq hk
      rw [rq_at hb, hv]
      rw [e] at k1 k2 hbig
      have hbin : double.binade = 4503599627370496 := by decide
      rw [hbin] at hbig
      clear hle hge hr hr' hv hq hk hB
      generalize hM : at_ m p (-(b : Int)) = M at *
      have hW : L = 0 → 2 ^ L * 2 ^ (b - lpn) = 2 ^ (b - lpn) := fun h => by rw [h]; simp
      have e5 : k * 2 ^ L * 2 ^ (b - lpn) = k * (2 ^ L * 2 ^ (b - lpn)) := Nat.mul_assoc _ _ _
      rw [e5]
      generalize 2 ^ L * 2 ^ (b - lpn) = W at *
      have e6 : two b = two lpn * two (b - lpn) := two_split hb
      have e7 : two (lpn + 1) = two lpn * 2 := by rw [two_add]; rfl
      have c1 : ∀ a : Nat, ((2 * a : Nat) : Rat) = 2 * (a : Rat) := fun a => by rw [Rat.natCast_mul]; rfl
      have q1 : (2 : Rat) * ((k * W : Nat) : Rat) ≤ 2 * (M : Rat) + (W : Rat) := by
        have := Rat.natCast_le_natCast.2 k1
        rw [Nat.mul_assoc 2 k W, c1, Rat.natCast_add, c1] at this
        exact this
      have q2 : (2 : Rat) * (M : Rat) ≤ 2 * ((k * W : Nat) : Rat) + (W : Rat) := by
        have := Rat.natCast_le_natCast.2 k2
        rw [Nat.add_mul, Nat.one_mul, Nat.mul_assoc 2 k W, c1, Rat.natCast_add, c1] at this
        exact this
      have hbp := two_pos b
      have hlp := two_pos lpn
      have hup := two_pos (b - lpn)
      -- the unit
      have key : (W : Rat) * (two b)⁻¹ ≤ 2 * slack' ((M : Rat) / two b) := by
        have hM0 : 0 ≤ (M : Rat) * (two b)⁻¹ := Rat.mul_nonneg Rat.natCast_nonneg (Rat.le_of_lt (Rat.inv_pos.2 hbp))
        unfold slack'
        rw [two53, e7, Rat.div_def (M : Rat)]
        by_cases hL : L = 0
        · rw [hW hL]
          have e8 : ((2 ^ (b - lpn) : Nat) : Rat) * (two b)⁻¹ = (two lpn)⁻¹ := by
            rw [e6]
            show two (b - lpn) * _ = _
            have := Rat.mul_inv_cancel _ (Rat.ne_of_gt hup)
            rw [Rat.inv_mul_rev]
            grind
          rw [e8]
          have : 1 / (two lpn * 2) = (two lpn)⁻¹ / 2 := by rw [Rat.div_def, Rat.inv_mul_rev]; grind
          rw [this]
          grind
        · have q3 := Rat.natCast_le_natCast.2 (hbig hL)
          rw [Rat.natCast_mul] at q3
          have q4 := Rat.mul_le_mul_of_nonneg_right q3 (Rat.le_of_lt (Rat.inv_pos.2 hbp))
          have q5 : 0 ≤ 1 / (two lpn * 2) := by
            rw [Rat.div_def]
            exact Rat.mul_nonneg (by decide) (Rat.le_of_lt (Rat.inv_pos.2 (Rat.mul_pos hlp (by decide))))
          have q6 : ((4503599627370496 : Nat) : Rat) = 4503599627370496 := rfl
          rw [q6] at q4
          grind
      have hi : 0 ≤ (two b)⁻¹ := Rat.le_of_lt (Rat.inv_pos.2 hbp)
      have q3 := Rat.mul_le_mul_of_nonneg_right q1 hi
      have q4 := Rat.mul_le_mul_of_nonneg_right q2 hi
      generalize hS : slack' ((M : Rat) / two b) = S at *
      rw [Rat.div_def, Rat.div_def]
      generalize (two b)⁻¹ = c at *
      constructor <;> grind
  have hss : slack' (((at_ m p (-(b : Int)) : Nat) : Rat) / two b) ≤ slack (((at_ m p (-(b : Int)) : Nat) : Rat) / two b) := by
    unfold slack slack'
    rw [two52, two53]
    grind
  refine ⟨hlt, ⟨rep_rq hlt, .inl (Rat.le_trans near.1 hss), .inl (Rat.le_trans near.2 hss), fun s hs hts => ?_, fun s hs hst => ?_⟩, near.1, near.2⟩
  · obtain ⟨r, hr, rfl⟩ := rep_rung hs (Rat.le_trans ht0 hts)
    exact rq_le.2 (hle r hts)
  · by_cases h0 : 0 ≤ s
    · obtain ⟨r, hr, rfl⟩ := rep_rung hs h0
      exact rq_le.2 (hge r hr hst)
    · exact Rat.le_trans (Rat.le_of_lt (Rat.not_le.1 h0)) (rq_nonneg _)

end Flt
end Go.Proofs.Ytphgibndncjaiaa
/-
  The operations on floats of 64 bits as operations on rational numbers, rounded. No program.
-/
set_option linter.unusedVariables false
set_option linter.unusedSimpArgs false
namespace Go.Proofs.Ytphgibndncjaiaa
open Go Flt
namespace Flt
open Ieee (double Format Datum signed)

/-- The least that is lost. -/
def tiny : Rat := 1 / two (lpn + 1)
theorem tiny_pos : 0 < tiny := by
  unfold tiny
  rw [Rat.div_def, Rat.one_mul]
  exact Rat.inv_pos.2 (two_pos _)

/-- Two numbers are no farther apart than e. -/
def Near (a b e : Rat) : Prop := a - b ≤ e ∧ b - a ≤ e
/-- A number is no greater than B, whatever its sign. -/
def Size (a B : Rat) : Prop := a ≤ B ∧ -a ≤ B

theorem Rnd.near {t r B : Rat} (h : Rnd t r) (hb : Size t B) : Near r t (B / two 52 + tiny) := by
  obtain ⟨h0, h1, h2, -, -⟩ := h
  obtain ⟨b1, b2⟩ := hb
  have hp : (0 : Rat) < two 52 := two_pos 52
  have s1 : slack t ≤ B / two 52 + tiny := by
    have := div_le_div hp b1
    unfold slack tiny; grind
  have s2 : slack (-t) ≤ B / two 52 + tiny := by
    have := div_le_div hp b2
    unfold slack tiny; grind
  constructor
  · rcases h1 with h | h <;> exact Rat.le_trans h (by assumption)
  · rcases h2 with h | h <;> exact Rat.le_trans h (by assumption)

/-- A number of a datum, in units of the last place. -/
def dq (neg : Bool) (m : Nat) (p : Int) : Rat := (signed neg m (p + lpn).toNat : Rat) / two lpn

theorem read_dq {x : Nat} (h : Fin x) : ∃ s m p, double.read x = .number s m p ∧ -(lpn : Int) ≤ p ∧ fq x = dq s m p := by
  have hs : double.signWeight = 9223372036854775808 := by decide
  obtain ⟨m, p, e, l, v⟩ := read_fin double (x := x) (by rw [hs, ir64]; exact h.2)
  rw [lpn_eq] at l v
  refine ⟨_, m, p, e, l, ?_⟩
  unfold fq dq rsv sval
  rw [signed_eq, show p + (lpn : Int) = p - -(lpn : Int) by omega, v]

theorem dq_neg (s : Bool) (m : Nat) (p : Int) : dq (!s) m p = -dq s m p := by
  unfold dq
  rw [signed_eq, signed_eq]
  cases s
  · simp only [Bool.not_false, if_true, Bool.false_eq_true, if_false, Rat.intCast_neg]; grind
  · simp only [Bool.not_true, if_true, Bool.false_eq_true, if_false, Rat.intCast_neg]; grind

/-- What is written of a number. -/
theorem write_rnd {neg : Bool} {m : Nat} {p : Int} {b R : Nat} {t : Rat} (hb : lpn ≤ b) (hp : -(b : Int) ≤ p) (hR : R < double.infRung)
    (ht : t = (if neg then -(((at_ m p (-(b : Int)) : Nat) : Rat) / two b) else ((at_ m p (-(b : Int)) : Nat) : Rat) / two b)) (hB : Size t (rq R)) :
    Fin (double.nearest neg m p) ∧ Rnd t (fq (double.nearest neg m p)) := by
  have hB' : ((at_ m p (-(b : Int)) : Nat) : Rat) / two b ≤ rq R := by
    obtain ⟨b1, b2⟩ := hB
    cases neg
    · rw [ht] at b1; exact b1
    · rw [ht] at b2
      simp only [if_true, Rat.neg_neg] at b2
      exact b2
  obtain ⟨h1, h2, -, -⟩ := rung_rnd hb hp hR hB'
  rw [nearest_rung]
  refine ⟨fin_word _ h1, ?_⟩
  rw [fq_word _ h1, ht]
  cases neg
  · exact h2
  · exact h2.neg

/-- A sum of two data. -/
theorem sum_rnd {s t : Bool} {m n : Nat} {i j : Int} {R : Nat} (hi : -(lpn : Int) ≤ i) (hj : -(lpn : Int) ≤ j) (hR : R < double.infRung) (hB : Size (dq s m i + dq t n j) (rq R)) :
    ∃ r, ((Datum.number s m i).sum (.number t n j)).map double.write = some r ∧ Fin r ∧ Rnd (dq s m i + dq t n j) (fq r) := by
  simp only [Datum.sum, Option.map_some, Format.write]
  obtain ⟨b, hb⟩ : ∃ b, min i j = b := ⟨_, rfl⟩
  rw [hb]
  have hbl : -(lpn : Int) ≤ b := by omega
  have e1 : signed s m (i + lpn).toNat = signed s m (i - b).toNat * (2 ^ (b + lpn).toNat : Nat) := by
    rw [← signed_scale]; congr 1; omega
  have e2 : signed t n (j + lpn).toNat = signed t n (j - b).toNat * (2 ^ (b + lpn).toNat : Nat) := by
    rw [← signed_scale]; congr 1; omega
  have hq : dq s m i + dq t n j = (((signed s m (i - b).toNat + signed t n (j - b).toNat) * (2 ^ (b + lpn).toNat : Nat) : Int) : Rat) / two lpn := by
    unfold dq
    rw [e1, e2, Int.add_mul, Rat.intCast_add]
    generalize ((signed s m (i - b).toNat * (2 ^ (b + lpn).toNat : Nat) : Int) : Rat) = x
    generalize ((signed t n (j - b).toNat * (2 ^ (b + lpn).toNat : Nat) : Int) : Rat) = y
    grind
  rw [hq] at hB ⊢
  generalize signed s m (i - b).toNat + signed t n (j - b).toNat = T at *
  clear e1 e2 hq hb
  refine ⟨_, rfl, write_rnd (b := lpn) (Nat.le_refl _) hbl hR ?_ hB⟩
  have ea : at_ T.natAbs b (-(lpn : Int)) = T.natAbs * 2 ^ (b + lpn).toNat := by
    unfold at_; congr 2; try omega
  rw [ea]
  by_cases h0 : T = 0
  · subst h0
    rw [if_pos rfl]
    have e0 : ((((0 : Int) * (2 ^ (b + lpn).toNat : Nat) : Int)) : Rat) / two lpn = 0 := by
      rw [Int.zero_mul, Rat.div_def]; exact Rat.zero_mul _
    have e1 : (((Int.natAbs 0 * 2 ^ (b + lpn).toNat : Nat)) : Rat) / two lpn = 0 := by
      rw [show Int.natAbs 0 = 0 from rfl, Nat.zero_mul, Rat.div_def]; exact Rat.zero_mul _
    rw [e0, e1]
    split <;> grind
  · rw [if_neg h0]
    by_cases hn : T < 0
    · rw [decide_eq_true hn, if_pos rfl]
      obtain ⟨k, hk⟩ : ∃ k : Nat, T = -(k : Int) := ⟨T.natAbs, by omega⟩
      subst hk
      rw [show (-(k : Int)).natAbs = k by omega, Int.neg_mul, Rat.intCast_neg, ← Int.natCast_mul, Rat.intCast_natCast]
      grind
    · rw [decide_eq_false hn]
      simp only [Bool.false_eq_true, if_false]
      obtain ⟨k, hk⟩ : ∃ k : Nat, T = (k : Int) := ⟨T.natAbs, by omega⟩
      subst hk
      rw [show ((k : Int)).natAbs = k by omega, ← Int.natCast_mul, Rat.intCast_natCast]

theorem add_rnd {x y R : Nat} (hx : Fin x) (hy : Fin y) (hR : R < double.infRung) (hB : Size (fq x + fq y) (rq R)) :
    ∃ r, double.add x y = some r ∧ Fin r ∧ Rnd (fq x + fq y) (fq r) := by
  obtain ⟨s, m, i, e1, l1, v1⟩ := read_dq hx
  obtain ⟨t, n, j, e2, l2, v2⟩ := read_dq hy
  unfold Format.add
  rw [v1, v2] at hB ⊢
  rw [e1, e2]
  exact sum_rnd l1 l2 hR hB
theorem sub_rnd {x y R : Nat} (hx : Fin x) (hy : Fin y) (hR : R < double.infRung) (hB : Size (fq x - fq y) (rq R)) :
    ∃ r, double.sub x y = some r ∧ Fin r ∧ Rnd (fq x - fq y) (fq r) := by
  obtain ⟨s, m, i, e1, l1, v1⟩ := read_dq hx
  obtain ⟨t, n, j, e2, l2, v2⟩ := read_dq hy
  unfold Format.sub
  have e : fq x - fq y = dq s m i + dq (!t) n j := by rw [v1, v2, dq_neg]; grind
  rw [e] at hB ⊢
  rw [e1, e2]
  exact sum_rnd l1 l2 hR hB

theorem dq_abs (s : Bool) (m : Nat) (p : Int) : dq s m p = if s then -(((m * 2 ^ (p + lpn).toNat : Nat) : Rat) / two lpn) else ((m * 2 ^ (p + lpn).toNat : Nat) : Rat) / two lpn := by
  unfold dq
  rw [signed_eq]
  cases s
  · simp only [Bool.false_eq_true, if_false, Rat.intCast_natCast]
  · simp only [if_true, Rat.intCast_neg, Rat.intCast_natCast]; grind

theorem mul_rnd {x y R : Nat} (hx : Fin x) (hy : Fin y) (hR : R < double.infRung) (hB : Size (fq x * fq y) (rq R)) :
    ∃ r, double.mul x y = some r ∧ Fin r ∧ Rnd (fq x * fq y) (fq r) := by
  obtain ⟨s, m, i, e1, l1, v1⟩ := read_dq hx
  obtain ⟨t, n, j, e2, l2, v2⟩ := read_dq hy
  unfold Format.mul
  rw [e1, e2]
  simp only [Datum.product, Option.map_some, Format.write]
  refine ⟨_, rfl, write_rnd (b := lpn + lpn) (by omega) (by omega) hR ?_ hB⟩
  have ea : at_ (m * n) (i + j) (-((lpn + lpn : Nat) : Int)) = (m * 2 ^ (i + lpn).toNat) * (n * 2 ^ (j + lpn).toNat) := by
    unfold at_
    rw [Nat.mul_mul_mul_comm, ← Nat.pow_add]
    congr 2; omega
  rw [ea, v1, v2, dq_abs, dq_abs, two_add, Rat.natCast_mul (m * 2 ^ (i + lpn).toNat) (n * 2 ^ (j + lpn).toNat)]
  generalize ((m * 2 ^ (i + lpn).toNat : Nat) : Rat) = a
  generalize ((n * 2 ^ (j + lpn).toNat : Nat) : Rat) = c
  have hl := Rat.mul_inv_cancel _ (Rat.ne_of_gt (two_pos lpn))
  have e : a * c / (two lpn * two lpn) = (a / two lpn) * (c / two lpn) := by
    rw [Rat.div_def, Rat.div_def, Rat.div_def, Rat.inv_mul_rev]; grind
  rw [e]
  generalize a / two lpn = a
  generalize c / two lpn = c
  cases s <;> cases t <;> simp only [Bool.xor_false, Bool.xor_true, Bool.not_true, Bool.not_false, Bool.false_eq_true, if_true, if_false] <;> grind

/-- An integer. -/
theorem int_rnd {n : Int} {R : Nat} (hR : R < double.infRung) (hB : Size (n : Rat) (rq R)) : Fin (floatOfInt .f64 n) ∧ Rnd (n : Rat) (fq (floatOfInt .f64 n)) := by
  have e : floatOfInt .f64 n = double.nearest (decide (n < 0)) n.natAbs 0 := rfl
  rw [e]
  refine write_rnd (b := lpn) (Nat.le_refl _) (by omega) hR ?_ hB
  have ea : at_ n.natAbs 0 (-(lpn : Int)) = n.natAbs * 2 ^ lpn := by unfold at_; congr 2; try omega
  have hl := Rat.mul_inv_cancel _ (Rat.ne_of_gt (two_pos lpn))
  rw [ea, Rat.natCast_mul]
  show _ = if decide (n < 0) = true then -((n.natAbs : Rat) * two lpn / two lpn) else (n.natAbs : Rat) * two lpn / two lpn
  have e2 : (n.natAbs : Rat) * two lpn / two lpn = (n.natAbs : Rat) := by rw [Rat.div_def]; grind
  rw [e2]
  by_cases hn : n < 0
  · obtain ⟨k, rfl⟩ : ∃ k : Nat, n = -(k : Int) := ⟨n.natAbs, by omega⟩
    rw [decide_eq_true hn, if_pos rfl, show (-(k : Int)).natAbs = k by omega, Rat.intCast_neg, Rat.intCast_natCast]
  · obtain ⟨k, rfl⟩ : ∃ k : Nat, n = (k : Int) := ⟨n.natAbs, by omega⟩
    rw [decide_eq_false hn, show ((k : Int)).natAbs = k by omega, Rat.intCast_natCast]
    rfl

/-- How two finite words stand. -/
theorem order_q {x y : Nat} (hx : Fin x) (hy : Fin y) : double.order x y = some (compare (rsv double x) (rsv double y)) := by
  have hs : double.signWeight = 9223372036854775808 := by decide
  rw [order_fin double (x := x) (y := y) (by rw [hs, ir64]; exact hx.2) (by rw [hs, ir64]; exact hy.2), place_eq, place_eq, ← compare_sval]
  rfl
theorem fq_lt {x y : Nat} : fq x < fq y ↔ rsv double x < rsv double y := by
  have h : ∀ a b : Nat, fq a ≤ fq b ↔ rsv double a ≤ rsv double b := fun a b =>
    ⟨fun h => Rat.intCast_le_intCast.1 (le_of_div (two_pos _) h), fun h => div_le_div (two_pos _) (Rat.intCast_le_intCast.2 h)⟩
  rw [← Rat.not_le, h]; omega
theorem order_lt {x y : Nat} (hx : Fin x) (hy : Fin y) (h : fq x < fq y) : double.order x y = some .lt := by
  rw [order_q hx hy, Int.compare_eq_lt.2 (fq_lt.1 h)]
theorem order_gt {x y : Nat} (hx : Fin x) (hy : Fin y) (h : fq y < fq x) : double.order x y = some .gt := by
  rw [order_q hx hy, Int.compare_eq_gt.2 (fq_lt.1 h)]
theorem order_eq_q {x y : Nat} (hx : Fin x) (hy : Fin y) (h : fq x = fq y) : double.order x y = some .eq := by
  have h1 : ¬ rsv double x < rsv double y := fun k => by have := fq_lt.2 k; rw [h] at this; exact Rat.lt_irrefl this
  have h2 : ¬ rsv double y < rsv double x := fun k => by have := fq_lt.2 k; rw [h] at this; exact Rat.lt_irrefl this
  rw [order_q hx hy, Int.compare_eq_eq.2 (by omega)]

end Flt
end Go.Proofs.Ytphgibndncjaiaa
