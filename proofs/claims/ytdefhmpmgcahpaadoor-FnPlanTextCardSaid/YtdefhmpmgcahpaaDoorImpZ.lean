import Derived.Test.YtdefhmpmgcahpaaDoorMPlanTeL6
import Derived.Deep.RegionHeld3
import Derived.Deep.RegionLaw
/-
  ValidStep of the program: the table, the numbers behind a word, and which are accepted.
-/
set_option linter.unusedVariables false
set_option linter.unusedSimpArgs false
namespace Go.Proofs.YtdefhmpmgcahpaaDoor
open Go.RowKit

def wordOf (q : Nat) : ByteArray := [(⟨#[]⟩ : ByteArray), ⟨#[103, 97, 105, 110]⟩, ⟨#[100, 101, 108, 97, 121]⟩, ⟨#[102, 105, 108, 116, 101, 114]⟩, ⟨#[116, 117, 114, 110]⟩, ⟨#[107, 101, 101, 112]⟩, ⟨#[115, 116, 117, 102, 102]⟩, ⟨#[98, 108, 111, 99, 107]⟩, ⟨#[98, 97, 99, 107]⟩, ⟨#[102, 108, 105, 112]⟩, ⟨#[115, 117, 109]⟩, ⟨#[110, 97, 114, 114, 111, 119]⟩, ⟨#[109, 105, 114, 114, 111, 114]⟩, ⟨#[115, 113, 117, 97, 114, 101]⟩].getD q ⟨#[]⟩
def cntOf (q : Nat) : Nat := [0, 2, 1, 8, 2, 1, 1, 1, 1, 1, 1, 0, 0, 0].getD q 0
def loOf (q : Nat) : Int := [0, -256, 0, -256, 0, 1, 1, 1, 1, 1, 1, 0, 0, 0].getD q 0
def hiOf (q : Nat) : Int := [0, 256, 300, 256, 1024, 64, 64, 16, 16, 16, 16, 0, 0, 0].getD q 0
theorem cntOf_le {q : Nat} (h : q ≠ 3) : cntOf q ≤ 2 := by
  by_cases hq : q < 14
  · rcases q with _ | _ | _ | _ | _ | _ | _ | _ | _ | _ | _ | _ | _ | _ | q
    all_goals first | (exact absurd rfl h) | decide | omega
  · unfold cntOf
    rw [List.getD_eq_getElem?_getD, List.getElem?_eq_none (by simp; omega)]
    decide

/-- The table of forms lies where the program laid it. -/
structure Tab (w : World) : Prop where
  word : ∀ q, q < 14 → w.cell? ⟨0, q * 4, none⟩ = some (.string (wordOf q))
  cnt : ∀ q, q < 14 → w.cell? ⟨0, q * 4 + 1, none⟩ = some (.int .i64 (cntOf q))
  lo : ∀ q, q < 14 → w.cell? ⟨0, q * 4 + 2, none⟩ = some (.int .i64 (loOf q))
  hi : ∀ q, q < 14 → w.cell? ⟨0, q * 4 + 3, none⟩ = some (.int .i64 (hiOf q))

theorem Tab.below {w w' : World} (h : Tab w) (hb : Below w.heap.size w w') : Tab w' := by
  have hg : 0 < w.heap.size := World.block_lt_of_cell? _ _ (h.word 0 (by decide))
  exact ⟨fun q hq => by rw [hb.cell hg]; exact h.word q hq, fun q hq => by rw [hb.cell hg]; exact h.cnt q hq, fun q hq => by rw [hb.cell hg]; exact h.lo q hq, fun q hq => by rw [hb.cell hg]; exact h.hi q hq⟩

/-- The numbers that stand behind the word of a step. -/
def numsOf (q : Nat) (n k : Int) (taps : List Int) : List Int := if q = 3 then taps else [n, k].take (cntOf q)

/-- A slice that is read. -/
def NumsTo (zs : List Int) (w : World) (e : Ending) (w' : World) : Prop := ∃ a c, e = .returned (.slice a zs.length c) ∧ Reads w' (.slice a zs.length c) (ints zs) ∧ Below w.heap.size w w'

set_option maxRecDepth 100000 in
set_option maxHeartbeats 4000000 in
theorem numbersOf_any (q : Nat) (hq : q < 14) (n k : Int) (taps : List Int) (a : Option Addr) (c : Nat) (w : World) (ht : Tab w) (hr : Reads w (.slice a taps.length c) (ints taps)) (hs : ∀ w', Below w.heap.size w w' → Reads w' (.slice a taps.length c) (ints taps)) :
    Calls Tryd.prog 38 #[.agg #[.int .i64 q, .int .i64 n, .int .i64 k, .slice a taps.length c]] w (NumsTo (numsOf q n k taps) w) := by
  by_cases h3 : q = 3
  · subst h3
    rw [show numsOf 3 n k taps = taps from rfl]
    have HS := Lib.hid hs
    clear hs hr ht hq
    go_enter Tryd.func38, Tryd.ntmps38
    go_wp2
    go_ret
    exact ⟨_, _, rfl, HS.out _ ((Below.refl _ _).alloc (Nat.le_refl _) _), (Below.refl _ _).alloc (Nat.le_refl _) _⟩
  · have hc := cntOf_le h3
    have h3i : ¬ (q : Int) = 3 := by omega
    have hq14 : (q : Int) < 14 := by omega
    have e : numsOf q n k taps = [n, k].take (cntOf q) := if_neg h3
    have el : ([n, k].take (cntOf q)).length = cntOf q := by rw [List.length_take]; simp; omega
    have t1 := ht.cnt q hq
    have hg : 0 < w.heap.size := World.block_lt_of_cell? _ _ t1
    rw [e]
    have HE := Lib.hid el
    obtain ⟨m, hm⟩ : ∃ m, cntOf q = m := ⟨_, rfl⟩
    rw [hm] at hc t1 HE ⊢
    have hc' : (m : Int) ≤ 2 := by omega
    clear hs hr ht el e hm h3
    go_enter Tryd.func38, Tryd.ntmps38
    go_wp2
    go_region
    go_wp2
    go_ret
    refine ⟨some ⟨w.heap.size + 1, 0, none⟩, 2, by rw [HE.out]; rfl, ?_, by first | exact ((below_draws ((Below.refl _ _).alloc (Nat.le_refl _) _) 1).alloc (by simp [World.drewN]) _) | exact below_draws (((Below.refl _ _).alloc (Nat.le_refl _) _).alloc (by simp) _) _⟩
    rw [HE.out]
    rcases m with _ | _ | _ | m
    · exact .none _ _
    · refine .row _ 2 1 _ rfl (by decide) (by decide) (by simp [maxLen]) fun j hj => ?_
      rcases j with _ | j
      · go_simp; rfl
      · omega
    · refine .row _ 2 2 _ rfl (by decide) (by decide) (by simp [maxLen]) fun j hj => ?_
      rcases j with _ | _ | j
      · go_simp; rfl
      · go_simp; rfl
      · omega
    · omega

/-- Numbers that a form accepts. -/
def acceptB (c : Nat) (lo hi : Int) (zs : List Int) : Bool := !(decide (c < zs.length) || decide (zs.length < min c 1)) && zs.all (fun z => inZ z lo hi)

theorem enter_accepts (args : Array Value) (w : World) : (callFunc 78 args).run Tryd.prog w = .ok (.enter 78 args) w := by kernel_rfl

theorem accepts1_any (z lo hi : Int) (g : Nat) (w : World) (c2 : w.cell? ⟨g, 2, none⟩ = some (.int .i64 lo)) (c3 : w.cell? ⟨g, 3, none⟩ = some (.int .i64 hi)) :
    Calls Tryd.prog 78 #[.int .i64 z, .pointer (some ⟨g, 0, none⟩)] w fun e w' => e = .returned (.bool (!inZ z lo hi)) ∧ w' = w := by
  by_cases h1 : lo ≤ z
  · by_cases h2 : z ≤ hi
    · rw [inZ_t ⟨h1, h2⟩]
      have g1 : decide (z < lo) = false := decide_eq_false (by omega)
      have g2 : decide (hi < z) = false := decide_eq_false (by omega)
      clear h1 h2
      go_enter Tryd.func78, Tryd.ntmps78
      go_wp2
      go_ret
      exact ⟨rfl, rfl⟩
    · rw [inZ_f (fun h => h2 h.2)]
      have g1 : decide (z < lo) = false := decide_eq_false (by omega)
      have g2 : decide (hi < z) = true := decide_eq_true (by omega)
      clear h1 h2
      go_enter Tryd.func78, Tryd.ntmps78
      go_wp2
      go_ret
      exact ⟨rfl, rfl⟩
  · rw [inZ_f (fun h => h1 h.1)]
    have g1 : decide (z < lo) = true := decide_eq_true (by omega)
    clear h1
    go_enter Tryd.func78, Tryd.ntmps78
    go_wp2
    go_ret
    exact ⟨rfl, rfl⟩

/-- How a slice of integers is read. -/
theorem ints_find {w : World} {v : Value} {zs : List Int} (h : Reads w v (ints zs)) :
    ∃ a cap, v = .slice a zs.length cap ∧ zs.length ≤ 9223372036854775807 ∧ ∀ j, j < zs.length → ∃ g, a = some ⟨g, 0, none⟩ ∧ w.cell? ⟨g, j, none⟩ = some (.int .i64 (zs.getD j 0)) := by
  generalize hcs : ints zs = cs at h
  cases h with
  | none a cap =>
    have : zs = [] := by simpa [ints] using hcs
    subst this
    exact ⟨a, cap, rfl, by simp, fun j hj => by simp at hj⟩
  | row g cap L cs hL h0 hc hm hcell =>
    have hlen : zs.length = L := by rw [← hL, ← hcs, ints_length]
    refine ⟨_, cap, by rw [hlen], by unfold maxLen at hm; omega, fun j hj => ⟨g, rfl, ?_⟩⟩
    rw [hcell j (by omega), ← hcs, ints_getD hj]

set_option maxRecDepth 100000 in
set_option maxHeartbeats 4000000 in
theorem indexI_any {v : Value} {zs : List Int} {w : World} (h : Reads w v (ints zs)) (p : Int → Bool) (fn : Nat) (capt : Array Value)
    (hfn : ∀ (args : Array Value) (w : World), (callFunc fn args).run Tryd.prog w = .ok (.enter fn args) w)
    (hcall : ∀ z, Calls Tryd.prog fn (#[.int .i64 z] ++ capt) w fun e w' => e = .returned (.bool (p z)) ∧ w' = w) :
    Calls Tryd.prog 112 #[v, .func (.func fn) #[] capt] w fun e w' => ∃ r : Int, e = .returned (.int .i64 r) ∧ decide (0 ≤ r) = zs.any p ∧ w' = w := by
  obtain ⟨a, cap, rfl, hmax, hrd⟩ := ints_find h
  have HRD := Lib.hid hrd
  have HF := Lib.hid hcall
  have HA : Hid (∀ j, j < zs.length → p (zs.getD j 0) = true → zs.any p = true) := fun j hj hp => by
    rw [List.getD_eq_getElem?_getD, List.getElem?_eq_getElem hj] at hp
    exact List.any_eq_true.2 ⟨_, List.getElem_mem _, hp⟩
  have HZ : Hid ((∀ j, j < zs.length → p (zs.getD j 0) = false) → zs.any p = false) := fun hall => by
    refine List.any_eq_false.2 fun z hz => ?_
    obtain ⟨j, hj, rfl⟩ := List.getElem_of_mem hz
    have := hall j hj
    rw [List.getD_eq_getElem?_getD, List.getElem?_eq_getElem hj] at this
    simpa using this
  obtain ⟨b, hb⟩ : ∃ b, zs.any p = b := ⟨_, rfl⟩
  rw [hb] at HA HZ ⊢
  obtain ⟨c, hc⟩ : ∃ c, zs.length = c := ⟨_, rfl⟩
  rw [hc] at HA HZ HRD hmax ⊢
  have hmax' : (c : Int) ≤ 9223372036854775807 := by omega
  clear h hrd hcall hb hc hmax
  go_enter Tryd.func112, Tryd.ntmps112
  go_wp2
  go_loopw [8] (fun i wr => ∃ k : Nat, i = .int .i64 k ∧ k ≤ c ∧ (∀ j, j < k → p (zs.getD j 0) = false) ∧ wr = w) (fun i _ => c - (intOf i).toNat)
  case atStart => exact ⟨0, rfl, Nat.zero_le _, fun j hj => by omega, rfl⟩
  case round =>
    obtain ⟨k, rfl, hk, hj, rfl⟩ := hrel
    have HJ := Lib.hid hj
    clear hj
    by_cases hkc : k < c
    · obtain ⟨g, rfl, hcb⟩ := HRD.out k hkc
      obtain ⟨z, hz⟩ : ∃ z, zs.getD k 0 = z := ⟨_, rfl⟩
      have HZ1 := Lib.hid hz
      rw [hz] at hcb
      clear hz
      have hC := HF.out z
      obtain ⟨u, hu⟩ : ∃ u, p z = u := ⟨_, rfl⟩
      rw [hu] at hC
      have HC := Lib.hid hC
      have HU := Lib.hid hu
      clear hC hu
      go_wp2_with fail
      with_reducible refine HC.out.mono ?_
      rintro e w' ⟨rfl, rfl⟩
      cases u
      · have HK : Hid (∀ j, j < k + 1 → p (zs.getD j 0) = false) := fun j hj => by
          by_cases e : j = k
          · rw [e, HZ1.out]; exact HU.out
          · exact HJ.out j (by omega)
        go_wp2
        go_roundw
        case rel => exact ⟨k + 1, by go_num, by omega, HK.out, (by first | rfl | trivial)⟩
        case measure => simp [intOf]; omega
      · have e : b = true := HA.out k hkc (by rw [HZ1.out]; exact HU.out)
        subst e
        go_wp2
        go_ret
        exact ⟨_, rfl, decide_eq_true (by omega), rfl⟩
    · have e : k = c := by omega
      subst e
      have e : b = false := HZ.out HJ.out
      subst e
      go_wp2
      go_ret
      exact ⟨_, rfl, by decide, rfl⟩

set_option maxRecDepth 100000 in
theorem containsI_any {v : Value} {zs : List Int} {w : World} (h : Reads w v (ints zs)) (p : Int → Bool) (fn : Nat) (capt : Array Value)
    (hfn : ∀ (args : Array Value) (w : World), (callFunc fn args).run Tryd.prog w = .ok (.enter fn args) w)
    (hcall : ∀ z, Calls Tryd.prog fn (#[.int .i64 z] ++ capt) w fun e w' => e = .returned (.bool (p z)) ∧ w' = w) :
    Calls Tryd.prog 77 #[v, .func (.func fn) #[] capt] w fun e w' => e = .returned (.bool (zs.any p)) ∧ w' = w := by
  have I := Lib.hid (indexI_any h p fn capt hfn hcall)
  clear h hcall
  go_enter Tryd.func77, Tryd.ntmps77
  go_wp2_with fail
  with_reducible refine I.out.mono ?_
  rintro e w' ⟨r, rfl, hr, rfl⟩
  have HR := Lib.hid hr
  clear hr
  go_wp2
  go_ret
  exact ⟨by rw [← HR.out]; rfl, rfl⟩

set_option maxRecDepth 100000 in
set_option maxHeartbeats 4000000 in
theorem accepts_any (wd : ByteArray) (c : Nat) (lo hi : Int) (hc : c ≤ 8) (zs : List Int) (a : Option Addr) (cap : Nat) (w : World) (hr : ∀ w1, Below w.heap.size w w1 → Reads w1 (.slice a zs.length cap) (ints zs)) :
    Calls Tryd.prog 44 #[.agg #[.string wd, .int .i64 c, .int .i64 lo, .int .i64 hi], .slice a zs.length cap] w fun e w' => e = .returned (.bool (acceptB c lo hi zs)) ∧ Below w.heap.size w w' := by
  have hb : Below w.heap.size w (w.alloc (.cells #[.string wd, .int .i64 c, .int .i64 lo, .int .i64 hi] 63)) := (Below.refl _ _).alloc (Nat.le_refl _) _
  have C := Lib.hid (containsI_any (hr _ hb) (fun z => !inZ z lo hi) 78 #[.pointer (some ⟨w.heap.size, 0, none⟩)] enter_accepts (fun z => accepts1_any z lo hi w.heap.size _ (by go_simp) (by go_simp)))
  have e : zs.all (fun z => inZ z lo hi) = !zs.any (fun z => !inZ z lo hi) := by
    rw [List.all_eq_not_any_not]
  obtain ⟨b, hb'⟩ : ∃ b, zs.any (fun z => !inZ z lo hi) = b := ⟨_, rfl⟩
  rw [hb'] at C e
  have ea : acceptB c lo hi zs = (!(decide (c < zs.length) || decide (zs.length < min c 1)) && !b) := by unfold acceptB; rw [e]
  rw [ea]
  have hlen : zs.length ≤ 9223372036854775807 := by
    obtain ⟨_, _, _, h, _⟩ := ints_find (hr w (Below.refl _ _))
    exact h
  obtain ⟨L, hL⟩ : ∃ L, zs.length = L := ⟨_, rfl⟩
  rw [hL] at C hlen ⊢
  have HB := Lib.hid hb
  clear e ea hb' hr hL hb
  have hcs : c = 0 ∨ c = 1 ∨ c = 2 ∨ c = 3 ∨ c = 4 ∨ c = 5 ∨ c = 6 ∨ c = 7 ∨ c = 8 := by omega
  clear hc
  by_cases h1 : c < L
  · rw [decide_eq_true h1]
    rcases hcs with rfl | rfl | rfl | rfl | rfl | rfl | rfl | rfl | rfl
    all_goals
      have g1 := Int.ofNat_lt.2 h1
      simp only [Int.cast_ofNat_Int, Int.ofNat_eq_natCast] at g1
      have g3 := decide_eq_true g1
      have g4 := decide_eq_true h1
      go_enter Tryd.func44, Tryd.ntmps44
      go_wp2
      go_ret
      exact ⟨rfl, HB.out⟩
  · rw [decide_eq_false h1]
    by_cases h2 : L < min c 1
    · rw [decide_eq_true h2]
      have hL0 : L = 0 := by omega
      subst hL0
      rcases hcs with rfl | rfl | rfl | rfl | rfl | rfl | rfl | rfl | rfl
      · omega
      all_goals
        clear h1 h2
        go_enter Tryd.func44, Tryd.ntmps44
        go_wp2
        go_ret
        exact ⟨rfl, HB.out⟩
    · rw [decide_eq_false h2]
      by_cases hc0 : c = 0
      · subst hc0
        have hL0 : L = 0 := by omega
        subst hL0
        clear h1 h2
        go_enter Tryd.func44, Tryd.ntmps44
        go_wp2_with fail
        refine C.out.mono ?_
        rintro e w1 ⟨rfl, rfl⟩
        go_wp2
        go_ret
        exact ⟨rfl, HB.out⟩
      · have g2 : decide ((L : Int) < 1) = false := decide_eq_false (by omega)
        rcases hcs with rfl | rfl | rfl | rfl | rfl | rfl | rfl | rfl | rfl
        · exact absurd rfl hc0
        all_goals
          have g1 : decide (((_ : Nat) : Int) < (L : Int)) = false := decide_eq_false (fun h => h1 (Int.ofNat_lt.1 h))
          simp only [Int.cast_ofNat_Int, Int.ofNat_eq_natCast] at g1
          clear h1 h2 hc0
          go_enter Tryd.func44, Tryd.ntmps44
          go_wp2_with fail
          refine C.out.mono ?_
          rintro e w1 ⟨rfl, rfl⟩
          go_wp2
          go_ret
          exact ⟨rfl, HB.out⟩

end Go.Proofs.YtdefhmpmgcahpaaDoor
