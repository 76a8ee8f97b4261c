import Derived.Test.YthinoegcijalpaaLawTurn
import Derived.Test.YthinoegcijalpaaWalkI64
import Derived.Test.YthinoegcijalpaaSigB
/-
  Slices of wide complex numbers that the call itself has made: compared, marked, held; and listOf.
-/
set_option linter.unusedVariables false
set_option linter.unusedSimpArgs false
namespace Go.Proofs.Ythinoegcijalpaa
open Go.RowKit Flt Turn

set_option maxRecDepth 100000 in
set_option maxHeartbeats 4000000 in
theorem eqC128_any {v v' : Value} {xs ys : List C} {w : World} (h : Reads w v (cvals xs)) (h' : Reads w v' (cvals ys)) (hl : xs.length = ys.length)
    (he : ∀ j, j < xs.length → ∃ z, IsC (xs.getD j (0, 0)) z ∧ IsC (ys.getD j (0, 0)) z) :
    Calls Try.prog 8 #[v, v'] w fun e w' => e = .returned (.bool true) ∧ ∃ n, w' = w.drewN n := by
  generalize hcs : cvals xs = cs at h
  generalize hcs' : cvals ys = cs' at h'
  have hll : cs.length = cs'.length := by rw [← hcs, ← hcs', cvals_length, cvals_length, hl]
  cases h with
  | none a cap =>
    cases h' with
    | none a' cap' =>
      clear he
      go_enter Try.func8, Try.ntmps8
      go_wp2
      refine wp_loop_rounds 1 ?_
      rw [rounds_succ]
      go_wp2
      go_ret
      exact ⟨rfl, 0, rfl⟩
    | row g cap L cs hL h0 => simp only [List.length_nil] at hll; omega
  | row g cap L cs hL h0 hc hm hcell =>
    cases h' with
    | none a' cap' => simp only [List.length_nil] at hll; omega
    | row g' cap' L' _ hL' _ _ _ hcell' =>
      obtain rfl : L = L' := by rw [← hL, ← hL']; exact hll
      have hmax := maxLen_int (Nat.le_trans hc hm)
      have hx : xs.length = L := by rw [← hL, ← hcs, cvals_length]
      have HC : Hid (∀ j, j < L → w.cell? ⟨g, j, none⟩ = some (.complex .f64 (xs.getD j (0, 0)).1 (xs.getD j (0, 0)).2)) := fun j hj => by rw [hcell j hj, ← hcs, cvals_getD (by omega)]
      have HC' : Hid (∀ j, j < L → w.cell? ⟨g', j, none⟩ = some (.complex .f64 (ys.getD j (0, 0)).1 (ys.getD j (0, 0)).2)) := fun j hj => by rw [hcell' j hj, ← hcs', cvals_getD (by omega)]
      have HE : Hid (∀ j, j < L → ∃ z, IsC (xs.getD j (0, 0)) z ∧ IsC (ys.getD j (0, 0)) z) := fun j hj => he j (by omega)
      clear hcell hcell' h0 hL hL' hcs hcs' hx hm hc he hl hll
      go_enter Try.func8, Try.ntmps8
      go_wp2
      go_loopw [5] (fun i wr => ∃ k n : Nat, i = .int .i64 k ∧ k ≤ L ∧ wr = w.drewN n) (fun i _ => L - (intOf i).toNat)
      case atStart => exact ⟨0, 0, rfl, Nat.zero_le _, rfl⟩
      case round =>
        obtain ⟨k, n, rfl, hk, hw⟩ := hrel
        have HW := Lib.hid hw
        clear hw
        by_cases hlt : k < L
        · have c1 : wr.cell? ⟨g, k, none⟩ = some (.complex .f64 (xs.getD k (0, 0)).1 (xs.getD k (0, 0)).2) := by rw [HW.out]; exact HC.out k hlt
          have c2 : wr.cell? ⟨g', k, none⟩ = some (.complex .f64 (ys.getD k (0, 0)).1 (ys.getD k (0, 0)).2) := by rw [HW.out]; exact HC'.out k hlt
          obtain ⟨z, hz1, hz2⟩ := HE.out k hlt
          obtain ⟨⟨a, b⟩, hp⟩ : ∃ p, xs.getD k (0, 0) = p := ⟨_, rfl⟩
          obtain ⟨⟨c, d⟩, hq⟩ : ∃ p, ys.getD k (0, 0) = p := ⟨_, rfl⟩
          rw [hp] at c1 hz1
          rw [hq] at c2 hz2
          have S := fun w => sameComplex_any a b c d (hz1.re.cn.trans hz2.re.cn.symm) (hz1.im.cn.trans hz2.im.cn.symm) hz1.re.lt hz1.im.lt w
          clear hz1 hz2 hp hq
          go_wp2
          go_quiet ((go_at_call 22; exact Calls.quiet_of_same (S _)))
          go_wp2
          go_roundw
          case rel => exact ⟨k + 1, n + nq, by go_num, by omega, by rw [HW.out, World.drewN_drewN]⟩
          case measure => simp [intOf]; omega
        · have e : k = L := by omega
          subst e
          go_wp2
          go_ret
          exact ⟨rfl, n, HW.out⟩

/-- The numbers that are laid in a row: from m on, with the imaginary part 1. -/
def cmark (m i : Nat) : Value := .complex .f64 (floatOfInt .f64 ((m + i : Nat) : Int)) 4607182418800017408
def cmarks (m n : Nat) : List Value := (List.range n).map (cmark m)
theorem cmarks_length (m n : Nat) : (cmarks m n).length = n := by simp [cmarks]
theorem cmarks_getD {m n j : Nat} (h : j < n) : (cmarks m n).getD j undef = cmark m j := by simp [cmarks, List.getD, h]

set_option maxRecDepth 100000 in
set_option maxHeartbeats 1600000 in
theorem markC128_any {v : Value} {cs : List Value} {B m : Nat} {w : World} (h : Row w B 34 v cs) (hm : m ≤ 1000000000000) (hz : cs.length ≤ 1000000000000) :
    Calls Try.prog 11 #[v, .int .i64 m] w fun e w' => e = .returned (.int .i64 ((m + cs.length : Nat) : Int)) ∧ Row w' B 34 v (cmarks m cs.length) ∧ w.grownBy w' v.ownBlock := by
  have hown := h
  rcases h.shape with ⟨a, cap, rfl, rfl⟩ | ⟨g, cap, rfl, h0, hB, hlt, hc, hcm⟩
  · have HO := Lib.hid h
    clear h hown
    go_enter Try.func11, Try.ntmps11
    go_wp2
    refine wp_loop_rounds 1 ?_
    rw [rounds_succ]
    go_wp2
    go_ret
    exact ⟨rfl, HO.out, World.grownBy.refl _ _⟩
  · obtain ⟨L, hL⟩ : ∃ L, cs.length = L := ⟨_, rfl⟩
    rw [hL] at h hz hc h0
    rw [show (Value.slice (some ⟨g, 0, none⟩) cs.length cap) = (Value.slice (some ⟨g, 0, none⟩) L cap) by rw [hL], hL]
    unfold cmarks
    have hmax := maxLen_int (Nat.le_trans hc hcm)
    have hmL : m + L ≤ 2000000000000 := by omega
    obtain ⟨f, hf⟩ : ∃ f : Nat → Value, cmark m = f := ⟨_, rfl⟩
    have HO := Lib.hid h
    have HL := Lib.hid hL
    have HFd := Lib.hid hf
    rw [hf]
    clear h hown hf h0 hL hm hcm
    go_enter Try.func11, Try.ntmps11
    go_wp2
    go_loopw [1, 5] (fun j i wr => ∃ k : Nat, i = .int .i64 k ∧ j = .int .i64 ((m + k : Nat) : Int) ∧ k ≤ L ∧ Row wr B 34 (.slice (some ⟨g, 0, none⟩) L cap) (turned f k cs) ∧ w.grownBy wr (some g)) (fun _ i _ => L - (intOf i).toNat)
    case atStart => exact ⟨0, rfl, rfl, Nat.zero_le _, by rw [turned_zero]; exact HO.out, World.grownBy.refl _ _⟩
    case round =>
      obtain ⟨k, rfl, rfl, hk, hown, hg⟩ := hrel
      by_cases hlt' : k < L
      · have hS := hown.set k (f k)
        rw [turned_step (by rw [HL.out]; exact hlt')] at hS
        have hfk : f k = Value.complex .f64 (floatOfInt .f64 ((m + k : Nat) : Int)) 4607182418800017408 := by rw [← HFd.out]; rfl
        rw [hfk] at hS
        have c1 := hown.cellAt hlt'
        have f1 := hown.frozenAt k
        obtain ⟨z, hz⟩ : ∃ z, (turned f k cs).getD k undef = z := ⟨_, rfl⟩
        rw [hz] at c1
        have HS := Lib.hid hS
        have HG := Lib.hid (hg.trans hS.2)
        clear hz hown hg hS hfk
        go_wp2
        go_roundw
        case rel => exact ⟨k + 1, by go_num, by go_num, by omega, HS.out.1, HG.out⟩
        case measure => simp [intOf]; omega
      · have e : k = L := by omega
        subst e
        have HOW := Lib.hid hown
        have HG := Lib.hid hg
        clear hown hg
        go_wp2
        go_ret
        refine ⟨rfl, ?_, HG.out⟩
        have := HOW.out
        rw [← HL.out, turned_all] at this
        rw [← HL.out]
        exact this

theorem eqC_self (k : FloatKind) (a b : Nat) (ha : nan k.format a = false) (hb : nan k.format b = false) : k.format.order a a = some .eq ∧ k.format.order b b = some .eq := ⟨ord_eq ha ha rfl, ord_eq hb hb rfl⟩

set_option maxRecDepth 100000 in
set_option maxHeartbeats 1600000 in
theorem heldC128_any {v : Value} {m n : Nat} {w : World} (h : Reads w v (cmarks m n)) (hm : m ≤ 1000000000000) (hz : n ≤ 1000000000000) :
    Calls Try.prog 12 #[v, .int .i64 m] w fun e w' => e = .returned (.int .i64 ((m + n : Nat) : Int)) ∧ w' = w := by
  have hlen : (cmarks m n).length = n := cmarks_length m n
  generalize hcs : cmarks m n = cs at h hlen
  cases h with
  | none a cap =>
    simp at hlen
    subst hlen
    clear hcs
    go_enter Try.func12, Try.ntmps12
    go_wp2
    refine wp_loop_rounds 1 ?_
    rw [rounds_succ]
    go_wp2
    go_ret
    exact ⟨rfl, rfl⟩
  | row g cap L cs hL h0 hc hcm hcell =>
    obtain rfl : L = n := by omega
    have hmax := maxLen_int (Nat.le_trans hc hcm)
    have HC : Hid (∀ j, j < L → w.cell? ⟨g, j, none⟩ = some (.complex .f64 (floatOfInt .f64 ((m + j : Nat) : Int)) 4607182418800017408)) := fun j hj => by rw [hcell j hj, ← hcs, cmarks_getD hj]; rfl
    have hmL : m + L ≤ 2000000000000 := by omega
    clear hcell h0 hL hcs hlen hcm hm
    go_enter Try.func12, Try.ntmps12
    go_wp2
    go_loopw [1, 5] (fun j i wr => ∃ k : Nat, i = .int .i64 k ∧ j = .int .i64 ((m + k : Nat) : Int) ∧ k ≤ L ∧ wr = w) (fun _ i _ => L - (intOf i).toNat)
    case atStart => exact ⟨0, rfl, rfl, Nat.zero_le _, rfl⟩
    case round =>
      obtain ⟨k, rfl, rfl, hk, rfl⟩ := hrel
      by_cases hlt : k < L
      · have c1 := HC.out k hlt
        have o1 := ord_eq (nan_floatOfInt .f64 ((m : Int) + (k : Int))) (nan_floatOfInt .f64 ((m : Int) + (k : Int))) rfl
        rw [Int.natCast_add] at c1
        have o2 : FloatKind.f64.format.order 4607182418800017408 4607182418800017408 = some .eq := ord_eq (by decide) (by decide) rfl
        go_wp2
        go_roundw
        case rel => exact ⟨k + 1, by go_num, by go_num, by omega, (by first | rfl | trivial)⟩
        case measure => simp [intOf]; omega
      · have e : k = L := by omega
        subst e
        go_wp2
        go_ret
        exact ⟨rfl, rfl⟩

end Go.Proofs.Ythinoegcijalpaa
