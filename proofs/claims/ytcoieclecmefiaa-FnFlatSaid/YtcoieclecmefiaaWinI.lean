import Derived.Test.YtcoieclecmefiaaWinH
import Derived.Deep.RegionLaw
import Derived.Laws.CopyOwn
/-
  slices.Repeat of one list.
-/
set_option linter.unusedVariables false
set_option linter.unusedSimpArgs false
namespace Go.Proofs.Ytcoieclecmefiaa
open Go.RowKit Flt Fast

theorem and_mask (c : Nat) (hc : c ≤ 64) : bits .and .u64 (c : Int) 4294967295 = c := by
  show IntKind.u64.wrap ((BitVec.ofInt 64 (c : Int) &&& BitVec.ofInt 64 4294967295).toNat : Int) = _
  have h : (BitVec.ofInt 64 (c : Int) &&& BitVec.ofInt 64 4294967295).toNat = c := by
    rw [BitVec.toNat_and]
    have h1 : (BitVec.ofInt 64 (c : Int)).toNat = c := by simp [BitVec.toNat_ofInt]; omega
    have h2 : (BitVec.ofInt 64 4294967295).toNat = 2 ^ 32 - 1 := by decide
    rw [h1, h2, Nat.and_two_pow_sub_one_eq_mod]
    exact Nat.mod_eq_of_lt (by omega)
  rw [h]
  exact IntWalk.u64_in _ (by omega)

set_option maxRecDepth 100000 in
theorem mul64_any (c : Nat) (hc : c ≤ 64) (w : World) :
    Calls Try.prog 129 #[.int .u64 1, .int .u64 c] w fun e w' => e = .returned (.tuple #[.int .u64 0, .int .u64 c]) ∧ w' = w := by
  have a1 : bits .and .u64 1 4294967295 = 1 := by decide
  have a2 := and_mask c hc
  have a3 : bits .and .u64 0 4294967295 = 0 := by decide
  have a4 : (c : Int) / 4294967296 = 0 := Int.ediv_eq_zero_of_lt (by omega) (by omega)
  have a5 : IntKind.u64.wrap 0 = 0 := by decide
  go_enter Try.func129, Try.ntmps129
  go_wp2
  go_ret2
  exact ⟨rfl, rfl⟩

set_option maxRecDepth 100000 in
theorem mul_any (c : Nat) (hc : c ≤ 64) (w : World) :
    Calls Try.prog 122 #[.int .u64 1, .int .u64 c] w fun e w' => e = .returned (.tuple #[.int .u64 0, .int .u64 c]) ∧ w' = w := by
  have M := Lib.hid (mul64_any c hc)
  go_enter Try.func122, Try.ntmps122
  go_wp2_with fail
  refine (M.out _).mono ?_
  rintro e w' ⟨rfl, rfl⟩
  go_wp2
  go_ret2
  exact ⟨rfl, rfl⟩

theorem row_of_heap {w : World} {B c : Nat} {e : TypeId} {cs : List Value} (hl : cs.length = c) (hc : c ≤ maxLen) (h : w.heap[B]? = some (.cells cs.toArray e (0, 0))) : Row w B e (.slice (some ⟨B, 0, none⟩) c c) cs :=
  ⟨by simp, .inr ⟨B, c, cs.toArray, by rw [hl], Nat.le_refl _, h, by omega, hc, by simp [hl], by simp⟩⟩
theorem heap_of_row {w : World} {B c : Nat} {e : TypeId} {cs : List Value} (h : Row w B e (.slice (some ⟨B, 0, none⟩) c c) cs) : w.heap[B]? = some (.cells cs.toArray e (0, 0)) := by
  rcases h.2 with ⟨hv, -⟩ | ⟨g, cap, cur, hv, -, hg, -, -, hs, ht⟩
  · cases hv
  · simp only [Value.slice.injEq, Option.some.injEq, Addr.mk.injEq, and_true] at hv
    obtain ⟨rfl, e1, rfl⟩ := hv
    rw [hg]
    have hlen : cur.toList.length = c := by simp [hs]
    rw [List.take_of_length_le (by rw [hlen, ← e1]; simp)] at ht
    rw [← ht]

theorem info_fl : (Try.prog.info? 49).map (fun i => (i.zero, i.size, i.bytes)) = some (some (.slice none 0 0), 1, 24) := by kernel_rfl

/-- n slices that are one, and nothing behind them. -/
def reps (sv : Value) (n c : Nat) : List Value := List.replicate n sv ++ List.replicate (c - n) (.slice none 0 0)
theorem reps_length (sv : Value) {n c : Nat} (h : n ≤ c) : (reps sv n c).length = c := by simp [reps]; omega
theorem reps_splice (sv : Value) {n k c : Nat} (h : n + k ≤ c) : splice (reps sv n c) n (List.replicate k sv) = reps sv (n + k) c := by
  unfold splice reps
  rw [List.take_append_of_le_length (by simp), List.take_of_length_le (by simp), List.length_replicate, List.drop_append, List.drop_eq_nil_of_le (by simp), List.length_replicate, List.drop_replicate, List.nil_append, ← List.append_assoc, List.replicate_append_replicate]
  congr 2
  omega
theorem reps_all (sv : Value) (c : Nat) : reps sv c c = List.replicate c sv := by simp [reps]
theorem reps_zero (sv : Value) (c : Nat) : reps sv 0 c = List.replicate c (.slice none 0 0) := by simp [reps]
theorem reps_get (sv : Value) {n c j : Nat} (h : j < n) : (reps sv n c)[j]? = some sv := by simp [reps, List.getElem?_append_left, h]

set_option maxRecDepth 100000 in
set_option maxHeartbeats 4000000 in
theorem repeat_any (c : Nat) (hc : c ≤ 64) (sv : Value) (hsv : sv.oneCell' = true) (g : Nat) (w : World) (hg : w.cell? ⟨g, 0, none⟩ = some sv) :
    Calls Try.prog 103 #[.slice (some ⟨g, 0, none⟩) 1 1, .int .i64 c] w fun e w' => ∃ u, e = .returned u ∧ Row w' w.heap.size 49 u (List.replicate c sv) ∧ Below w.heap.size w w' := by
  obtain ⟨j0, hj, hy0, hy1, hy2⟩ := info_parts info_fl
  have M := Lib.hid (mul_any c hc)
  have HSV := Lib.hid hsv
  have hgl : g < w.heap.size := World.block_lt_of_cell? _ _ hg
  clear hsv
  go_enter Try.func103, Try.ntmps103
  go_wp2_with fail
  refine (M.out _).mono ?_
  rintro e w' ⟨rfl, rfl⟩
  go_wp2_with (at_make; refine wpList_make_full _ rfl _ _ 122 rfl w'.heap.size 49 j0 (.slice none 0 0) 1 Try.underlying122 hj hy0 hy1 .i64 .i64 _ _ c rfl rfl rfl rfl (by rw [hy2]; omega) (by simp only [maxLen]; omega) (Nat.le_refl _) ?_)
  intro w1 hown hg1
  rw [toList_madeCells_one] at hown
  have hrow : Row w1 w'.heap.size 49 (.slice (some ⟨w'.heap.size, 0, none⟩) c c) (reps sv 0 c) := by
    rw [reps_zero]
    show w1.ownsRow _ _ _ _ _ _
    simpa using hown
  have hH := heap_of_row hrow
  have hb1 : Below w'.heap.size w' w1 := (Below.refl _ _).grown hg1 (Nat.le_refl _) (fun b e => by cases e)
  have hg2 : w1.cell? ⟨g, 0, none⟩ = some sv := by rw [hb1.cell hgl]; exact hg
  have hszE : (Try.prog.info? 49).map (·.size) = some 1 := by rw [hj]; simp [hy1]
  have hr0 : (reps sv 0 c).length = c := reps_length sv (Nat.zero_le _)
  have hminI : (List.replicate (min 1 c) sv).length = Nat.min 1 c := List.length_replicate ..
  have hpos : 0 < (List.replicate (min 1 c) sv).length → ∀ j v, (List.replicate (min 1 c) sv)[j]? = some v → w1.cell? ((⟨g, 0, none⟩ : Addr).add j) = some v := fun _ j v hv => by
    have hlt := (List.getElem?_eq_some_iff.1 hv).1
    rw [List.length_replicate] at hlt
    obtain rfl : j = 0 := by omega
    rw [List.getElem?_replicate, if_pos (by omega)] at hv
    rw [addr_lit, ← hv]; exact hg2
  have hfit : 0 + (List.replicate (min 1 c) sv).length ≤ (reps sv 0 c).length := by rw [hr0, List.length_replicate]; omega
  have hone : ∀ v ∈ List.replicate (min 1 c) sv, v.oneCell' = true := fun v hv => by rw [List.eq_of_mem_replicate hv]; exact HSV.out
  have HR0 := Lib.hid hr0
  clear hown hg1 hrow hj hy0 hy1 hy2
  go_wp2_with (refine wpList_copy_splice rfl (.tmp 31) (.tmp 32) 122 122 rfl 49 Try.underlying122 hszE _ _ _ _ _ _ rfl rfl w'.heap.size 0 (reps sv 0 c) 49 hH (List.replicate (min 1 c) sv) hminI (fun h => ⟨rfl, _, rfl, hpos h⟩) hfit hone w'.heap.size w' hb1 (Nat.le_refl _) ?_)
  intro w2 hH2 hb2
  have HH2 : Hid (w2.heap[w'.heap.size]? = some (.cells (reps sv (min 1 c) c).toArray 49 (0, 0))) := by
    have := hH2.out
    rw [reps_splice sv (n := 0) (k := min 1 c) (c := c) (by omega), Nat.zero_add] at this
    exact this
  have HB2 := Lib.hid hb2
  have hlr : (List.replicate (min 1 c) sv).length = min 1 c := List.length_replicate ..
  have hI : Go.goInt (List.replicate (min 1 c) sv).length = .int .i64 ((min 1 c : Nat) : Int) := by rw [hlr]; rfl
  clear hH hb1 hg2 hr0 hminI hpos hfit hone HR0 hH2 hb2 hlr
  go_wp2
  go_loopw [8] (fun i wr => ∃ n : Nat, i = .int .i64 n ∧ n ≤ c ∧ (0 < n ∨ c = 0) ∧ wr.heap[w'.heap.size]? = some (.cells (reps sv n c).toArray 49 (0, 0)) ∧ Below w'.heap.size w' wr) (fun i _ => c - (intOf i).toNat)
  case atStart => exact ⟨min 1 c, rfl, by omega, by omega, HH2.out, HB2.out⟩
  case round =>
    obtain ⟨n, rfl, hn, hn0, hH, hb⟩ := hrel
    clear hI HH2 HB2
    by_cases hlt : n < c
    · have hn1 : 0 < n := by omega
      obtain ⟨k, hk⟩ : ∃ k, min n (c - n) = k := ⟨_, rfl⟩
      have hk0 : 0 < k := by omega
      have hkc : n + k ≤ c := by omega
      have hr0 : (reps sv n c).length = c := reps_length sv hn
      have hrow := row_of_heap hr0 (by simp only [maxLen]; omega) hH
      have hcells : ∀ j, j < n → wr.cell? ⟨w'.heap.size, j, none⟩ = some sv := fun j hj => by
        rw [hrow.cellAt (by omega)]
        congr 1
        have := reps_get sv (c := c) hj
        simp [List.getD, this]
      have hG : ∀ nn, (wr.drewN nn).heap[w'.heap.size]? = some (.cells (reps sv n c).toArray 49 (0, 0)) := fun nn => hH
      have hB : ∀ nn, Below w'.heap.size w' (wr.drewN nn) := fun nn => below_draws hb nn
      have hminI : (List.replicate k sv).length = Nat.min n (c - n) := by rw [List.length_replicate, ← hk]
      have hpos : ∀ nn j v, (List.replicate k sv)[j]? = some v → (wr.drewN nn).cell? ((⟨w'.heap.size, 0, none⟩ : Addr).add j) = some v := fun nn j v hv => by
        have hlt := (List.getElem?_eq_some_iff.1 hv).1
        rw [List.length_replicate] at hlt
        rw [List.getElem?_replicate, if_pos (by omega)] at hv
        rw [addr_lit, ← hv]; exact hcells j (by omega)
      have hfit : n + (List.replicate k sv).length ≤ (reps sv n c).length := by rw [hr0, List.length_replicate]; omega
      have hone : ∀ v ∈ List.replicate k sv, v.oneCell' = true := fun v hv => by rw [List.eq_of_mem_replicate hv]; exact HSV.out
      have hlr : (List.replicate k sv).length = k := List.length_replicate ..
      have hsp := reps_splice sv hkc
      obtain ⟨X, hX⟩ : ∃ X, X = ((reps sv n c).toArray.toList.take n ++ List.replicate k sv ++ (reps sv n c).toArray.toList.drop (n + (List.replicate k sv).length)).toArray := ⟨_, rfl⟩
      have hrun : (Builtin.copy_ #[122, 122] 3 #[.slice (some ⟨w'.heap.size, n, none⟩) (c - n) (c - n), .slice (some ⟨w'.heap.size, 0, none⟩) n c]).run Try.prog wr.drew = .ok (.int .i64 (k : Int)) (wr.drew.setRow w'.heap.size X) := by
        have := run_copy_row (P := Try.prog) (wr.drewN 1) 122 122 3 49 w'.heap.size n (c - n) (c - n) ⟨w'.heap.size, 0, none⟩ n c (reps sv n c).toArray 49 (List.replicate k sv) Try.underlying122 hszE (hG 1) hminI (hpos 1) (by simpa using hfit) hone
        rw [← hX, hlr] at this
        exact this
      have hnew : (wr.drew.setRow w'.heap.size X).heap[w'.heap.size]? = some (.cells (reps sv (n + k) c).toArray 49 (0, 0)) := by
        have e : X = (reps sv (n + k) c).toArray := by
          rw [hX, ← hsp]
          unfold splice
          simp
        rw [e]
        exact setRow_heap wr.drew w'.heap.size _ _ 49 _ (hG 1)
      have hbn : Below w'.heap.size w' (wr.drew.setRow w'.heap.size X) := below_setRow (hB 1) (Nat.le_refl _) _
      have HH3 := Lib.hid hnew
      have HB3 := Lib.hid hbn
      clear hrow hcells hG hB hminI hpos hfit hone hlr hsp hr0 hH hb hk hX hnew hbn
      go_wp2
      go_region
      go_wp2
      go_roundw
      case rel => first | exact ⟨n + k, by go_num, by omega, by omega, HH3.out, HB3.out⟩ | ((repeat apply Exists.intro); refine ⟨?_, rfl⟩; exact ⟨n + k, by go_num, by omega, by omega, HH3.out, HB3.out⟩)
      case measure => simp [intOf]; omega
    · have e : n = c := by omega
      subst e
      have hrow := row_of_heap (reps_length sv (Nat.le_refl n)) (by simp only [maxLen]; omega) hH
      rw [reps_all] at hrow
      have HRR := Lib.hid hrow
      have HBB := Lib.hid hb
      clear hrow hH hb
      go_wp2
      go_ret
      exact ⟨_, rfl, HRR.out, HBB.out⟩

end Go.Proofs.Ytcoieclecmefiaa
