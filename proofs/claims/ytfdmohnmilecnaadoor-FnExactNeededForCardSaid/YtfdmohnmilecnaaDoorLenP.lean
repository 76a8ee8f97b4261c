import Derived.Test.YtfdmohnmilecnaaDoorLenM
/-
  LengthAfter of the program.
-/
set_option linter.unusedVariables false
set_option linter.unusedSimpArgs false
namespace Go.Proofs.YtfdmohnmilecnaaDoor
open Go.RowKit

theorem partsNeeded_any (x n : Int) (hn : 1 ≤ n ∧ n ≤ 64) (hx : 0 ≤ x ∧ x ≤ 1000000) (w : World) :
    Calls Tryd.prog 197 #[.int .i64 x, .int .i64 n] w fun e w' => e = .returned (.int .i64 ((x + n - 1) / n)) ∧ w' = w := by
  have e1 : IntKind.i64.wrap (x + n) = x + n := IntWalk.i64_in _ (by omega)
  have e2 : IntKind.i64.wrap (x + n - 1) = x + n - 1 := IntWalk.i64_in _ (by omega)
  have hz : ¬ n = 0 := by omega
  have q0 : 0 ≤ (x + n - 1) / n := Int.ediv_nonneg (by omega) (by omega)
  have q1 := Int.ediv_le_self n (show 0 ≤ x + n - 1 by omega)
  obtain ⟨r, hr⟩ : ∃ r, (x + n - 1) / n = r := ⟨_, rfl⟩
  have q2 : (x + n - 1).tdiv n = r := by rw [Int.tdiv_eq_ediv_of_nonneg (by omega), hr]
  rw [hr] at q0 q1 ⊢
  have e3 : IntKind.i64.wrap r = r := IntWalk.i64_in _ (by omega)
  clear q0 q1 hn hx
  go_enter Tryd.func197, Tryd.ntmps197
  go_wp2
  go_ret
  exact ⟨rfl, rfl⟩

section
variable (kd n k x : Int) (tv : Value) (w : World)

theorem even_made : Calls Tryd.prog 187 #[.agg #[.int .i64 kd, .int .i64 n, .int .i64 k, tv], .int .i64 x] w fun e w' => e = .returned (.int .i64 x) ∧ Below w.heap.size w w' := by
  go_enter Tryd.func187, Tryd.ntmps187
  go_wp2
  go_ret
  exact ⟨rfl, (Below.refl _ _).alloc (Nat.le_refl _) _⟩

theorem keep_made (hn : 1 ≤ n ∧ n ≤ 64) (hx : 0 ≤ x ∧ x ≤ 1000000) : Calls Tryd.prog 201 #[.agg #[.int .i64 kd, .int .i64 n, .int .i64 k, tv], .int .i64 x] w fun e w' => e = .returned (.int .i64 ((x + n - 1) / n)) ∧ Below w.heap.size w w' := by
  have P := Lib.hid (fun w => partsNeeded_any x n hn hx w)
  clear hn hx
  go_enter Tryd.func201, Tryd.ntmps201
  go_wp2_with fail
  refine (P.out _).mono ?_
  rintro e w1 ⟨rfl, rfl⟩
  go_wp2
  go_ret
  exact ⟨rfl, (Below.refl _ _).alloc (Nat.le_refl _) _⟩

theorem stuff_made (hn : 1 ≤ n ∧ n ≤ 64) (hx : 0 ≤ x ∧ x ≤ 1000000) : Calls Tryd.prog 204 #[.agg #[.int .i64 kd, .int .i64 n, .int .i64 k, tv], .int .i64 x] w fun e w' => e = .returned (.int .i64 (x * n)) ∧ Below w.heap.size w w' := by
  have q0 : 0 ≤ x * n := Int.mul_nonneg hx.1 (by omega)
  have q1 : x * n ≤ 1000000 * 64 := Int.mul_le_mul hx.2 hn.2 (by omega) (by omega)
  obtain ⟨r, hr⟩ : ∃ r, x * n = r := ⟨_, rfl⟩
  rw [hr] at q0 q1
  have e1 : IntKind.i64.wrap (x * n) = r := by rw [hr]; exact IntWalk.i64_in _ (by omega)
  rw [hr]
  clear q0 q1 hn hx hr
  go_enter Tryd.func204, Tryd.ntmps204
  go_wp2
  go_ret
  exact ⟨rfl, (Below.refl _ _).alloc (Nat.le_refl _) _⟩

theorem piece_made (hn : 1 ≤ n ∧ n ≤ 64) (hx : 0 ≤ x ∧ x ≤ 1000000) : Calls Tryd.prog 195 #[.agg #[.int .i64 kd, .int .i64 n, .int .i64 k, tv], .int .i64 x] w fun e w' => e = .returned (.int .i64 (x / n * n)) ∧ Below w.heap.size w w' := by
  have hz : ¬ n = 0 := by omega
  have q0 := Int.emod_nonneg x (show n ≠ 0 by omega)
  have q1 := Int.emod_lt_of_pos x (show 0 < n by omega)
  have q2 := Int.mul_ediv_add_emod x n
  have q3 : x / n * n = x - x % n := by rw [Int.mul_comm]; omega
  obtain ⟨r, hr⟩ : ∃ r, x % n = r := ⟨_, rfl⟩
  have q4 : x.tmod n = r := by rw [Int.tmod_eq_emod_of_nonneg (by omega), hr]
  rw [hr] at q0 q1 q3
  rw [q3]
  have e3 : IntKind.i64.wrap r = r := IntWalk.i64_in _ (by omega)
  have e4 : IntKind.i64.wrap (x - r) = x - r := IntWalk.i64_in _ (by omega)
  clear q0 q1 q2 q3 hn hx
  go_enter Tryd.func195, Tryd.ntmps195
  go_wp2
  go_ret
  exact ⟨rfl, (Below.refl _ _).alloc (Nat.le_refl _) _⟩
end

set_option maxRecDepth 100000 in
set_option maxHeartbeats 8000000 in
theorem lengthAfter_chain {w : World} {B : Nat} {V : Value} {ss : List St} {tv : Nat → Value} (h : Row w B 109 V (ifVs ss tv ss.length)) (hsb : ∀ j, j < ss.length → StB (ss.getD j default)) (n : Int) (hn : 0 ≤ n ∧ n ≤ 1000000) :
    Calls Tryd.prog 83 #[V, .int .i64 n] w fun e w' => e = .returned (.tuple #[.int .i64 (lenGo ss n).1, .int .i64 (lenGo ss n).2]) ∧ Below w.heap.size w w' := by
  obtain ⟨R, hR⟩ : ∃ R, lenGo ss n = R := ⟨_, rfl⟩
  rw [hR]
  have HR : Hid (lenGo (ss.drop 0) n = R) := hR
  have HDR := Lib.hid (fun k (hk : k < ss.length) => drop_getD hk)
  have HEND : Hid (ss.drop ss.length = []) := List.drop_length
  have HSB := Lib.hid hsb
  obtain ⟨L, hL⟩ : ∃ L, ss.length = L := ⟨_, rfl⟩
  rw [hL] at h HDR HEND HSB
  have hrd : ∀ j, j < L → ∃ g cap, V = .slice (some ⟨g, 0, none⟩) L cap ∧ g < w.heap.size ∧ L ≤ cap ∧ cap ≤ maxLen ∧ w.cell? ⟨g, j, none⟩ = some (ifV (ss.getD j default) (tv j)) := fun j hj => by
    have h' := h
    rcases h.shape with ⟨a, cap, rfl, e⟩ | ⟨g, cap, rfl, h0, _, hg, h1, h2⟩
    · have := congrArg List.length e
      rw [ifVs_length] at this
      simp at this
      omega
    · rw [ifVs_length] at h1 h' ⊢
      refine ⟨g, cap, rfl, hg, h1, h2, ?_⟩
      rw [h'.cellAt hj, ifVs_getD hj]
  obtain ⟨a, cap, rfl⟩ := h.form
  rw [ifVs_length] at hrd ⊢
  have hmax : (L : Int) ≤ 9223372036854775807 := by
    by_cases h0 : L = 0
    · omega
    · obtain ⟨g, cp, e, _, hc, hm, _⟩ := hrd 0 (by omega)
      unfold maxLen at hm
      omega
  have HRD := Lib.hid hrd
  obtain ⟨n0, n1⟩ := hn
  clear h hrd hR hL hsb
  go_enter Tryd.func83, Tryd.ntmps83
  go_wp2
  go_loopw [1, 10] (fun y i wr => ∃ (k : Nat) (x : Int), i = .int .i64 k ∧ y = .int .i64 x ∧ k ≤ L ∧ (0 ≤ x ∧ x ≤ 1000000) ∧ lenGo (ss.drop k) x = R ∧ Below w.heap.size w wr) (fun _ i _ => L - (intOf i).toNat)
  case atStart => exact ⟨0, n, rfl, rfl, Nat.zero_le _, ⟨n0, n1⟩, HR.out, Below.refl _ _⟩
  case round =>
    clear HR
    obtain ⟨k, x, rfl, rfl, hk, hx, hg, hB⟩ := hrel
    have HB := Lib.hid hB
    have HG := Lib.hid hg
    have HX := Lib.hid hx
    clear hB hg hx n0 n1
    by_cases hlt : k < L
    · obtain ⟨g, cp, e, hgw, -, -, c0⟩ := HRD.out k hlt
      simp only [Value.slice.injEq] at e
      obtain ⟨rfl, -, rfl⟩ := e
      have hsb := HSB.out k hlt
      have hdr := HDR.out k hlt
      rw [← HB.out.cell hgw] at c0
      obtain ⟨S, hS⟩ : ∃ S, ss.getD k default = S := ⟨_, rfl⟩
      obtain ⟨t, ht⟩ : ∃ t, tv k = t := ⟨_, rfl⟩
      rw [hS] at c0 hsb hdr
      rw [ht] at c0
      obtain ⟨y0, y1⟩ := lenSt_bounds hsb HX.out.1 HX.out.2
      have hgo := HG.out
      rw [hdr] at hgo
      simp only [lenGo] at hgo
      clear hS hdr HG ht
      obtain ⟨kd, N, K, taps⟩ := S
      have hkk := kind_cases ⟨hsb.k1, hsb.k2⟩
      have hnb := hsb.n
      simp only at hkk hnb
      rcases hkk with rfl | rfl | rfl | rfl | rfl | rfl | rfl | rfl | rfl | rfl | rfl | rfl | rfl
      · change wr.cell? ⟨g, k, none⟩ = some (.iface 146 (.agg #[.int .i64 1, .int .i64 N, .int .i64 K, t])) at c0
        have hm : ∀ w : World, (method 335 146 (.agg #[.int .i64 1, .int .i64 N, .int .i64 K, t]) "loop.example/g01155/impl.madeOf").run Tryd.prog w = .ok (187, .agg #[.int .i64 1, .int .i64 N, .int .i64 K, t]) w := fun _ => by kernel_rfl
        have hgo' : (if 1000000 < x then (0, 3) else lenGo (ss.drop (k + 1)) (x)) = R := hgo
        have y0' : 0 ≤ x := y0
        have MD := even_made 1 N K x t wr
        have MD := Lib.hid MD
        have HGO := Lib.hid hgo'
        clear hnb hsb hgo y0 y1 hgo'
        go_wp2_with fail
        with_reducible refine MD.out.mono ?_
        rintro e w2 ⟨rfl, hb2⟩
        have HB2 := Lib.hid (below_step' HB.out hb2 HB.out.size)
        clear hb2
        by_cases hbig : 1000000 < x
        · have e : R = (0, 3) := by have := HGO.out; rw [if_pos hbig] at this; exact this.symm
          subst e
          have gb : decide (1000000 < x) = true := decide_eq_true hbig
          go_wp2
          go_ret2
          exact ⟨rfl, HB2.out⟩
        · have e : lenGo (ss.drop (k + 1)) x = R := by have := HGO.out; rwa [if_neg hbig] at this
          have HE := Lib.hid e
          have gb : decide (1000000 < x) = false := decide_eq_false hbig
          clear e HGO
          go_wp2
          go_roundw
          case rel => exact ⟨k + 1, x, by go_num, rfl, by omega, ⟨y0', by omega⟩, HE.out, HB2.out⟩
          case measure => simp [intOf]; omega
      · change wr.cell? ⟨g, k, none⟩ = some (.iface 171 (.agg #[.int .i64 2, .int .i64 N, .int .i64 K, t])) at c0
        have hm : ∀ w : World, (method 335 171 (.agg #[.int .i64 2, .int .i64 N, .int .i64 K, t]) "loop.example/g01155/impl.madeOf").run Tryd.prog w = .ok (187, .agg #[.int .i64 2, .int .i64 N, .int .i64 K, t]) w := fun _ => by kernel_rfl
        have hgo' : (if 1000000 < x then (0, 3) else lenGo (ss.drop (k + 1)) (x)) = R := hgo
        have y0' : 0 ≤ x := y0
        have MD := even_made 2 N K x t wr
        have MD := Lib.hid MD
        have HGO := Lib.hid hgo'
        clear hnb hsb hgo y0 y1 hgo'
        go_wp2_with fail
        with_reducible refine MD.out.mono ?_
        rintro e w2 ⟨rfl, hb2⟩
        have HB2 := Lib.hid (below_step' HB.out hb2 HB.out.size)
        clear hb2
        by_cases hbig : 1000000 < x
        · have e : R = (0, 3) := by have := HGO.out; rw [if_pos hbig] at this; exact this.symm
          subst e
          have gb : decide (1000000 < x) = true := decide_eq_true hbig
          go_wp2
          go_ret2
          exact ⟨rfl, HB2.out⟩
        · have e : lenGo (ss.drop (k + 1)) x = R := by have := HGO.out; rwa [if_neg hbig] at this
          have HE := Lib.hid e
          have gb : decide (1000000 < x) = false := decide_eq_false hbig
          clear e HGO
          go_wp2
          go_roundw
          case rel => exact ⟨k + 1, x, by go_num, rfl, by omega, ⟨y0', by omega⟩, HE.out, HB2.out⟩
          case measure => simp [intOf]; omega
      · change wr.cell? ⟨g, k, none⟩ = some (.iface 172 (.agg #[.int .i64 3, .int .i64 N, .int .i64 K, t])) at c0
        have hm : ∀ w : World, (method 335 172 (.agg #[.int .i64 3, .int .i64 N, .int .i64 K, t]) "loop.example/g01155/impl.madeOf").run Tryd.prog w = .ok (187, .agg #[.int .i64 3, .int .i64 N, .int .i64 K, t]) w := fun _ => by kernel_rfl
        have hgo' : (if 1000000 < x then (0, 3) else lenGo (ss.drop (k + 1)) (x)) = R := hgo
        have y0' : 0 ≤ x := y0
        have MD := even_made 3 N K x t wr
        have MD := Lib.hid MD
        have HGO := Lib.hid hgo'
        clear hnb hsb hgo y0 y1 hgo'
        go_wp2_with fail
        with_reducible refine MD.out.mono ?_
        rintro e w2 ⟨rfl, hb2⟩
        have HB2 := Lib.hid (below_step' HB.out hb2 HB.out.size)
        clear hb2
        by_cases hbig : 1000000 < x
        · have e : R = (0, 3) := by have := HGO.out; rw [if_pos hbig] at this; exact this.symm
          subst e
          have gb : decide (1000000 < x) = true := decide_eq_true hbig
          go_wp2
          go_ret2
          exact ⟨rfl, HB2.out⟩
        · have e : lenGo (ss.drop (k + 1)) x = R := by have := HGO.out; rwa [if_neg hbig] at this
          have HE := Lib.hid e
          have gb : decide (1000000 < x) = false := decide_eq_false hbig
          clear e HGO
          go_wp2
          go_roundw
          case rel => exact ⟨k + 1, x, by go_num, rfl, by omega, ⟨y0', by omega⟩, HE.out, HB2.out⟩
          case measure => simp [intOf]; omega
      · change wr.cell? ⟨g, k, none⟩ = some (.iface 173 (.agg #[.int .i64 4, .int .i64 N, .int .i64 K, t])) at c0
        have hm : ∀ w : World, (method 335 173 (.agg #[.int .i64 4, .int .i64 N, .int .i64 K, t]) "loop.example/g01155/impl.madeOf").run Tryd.prog w = .ok (187, .agg #[.int .i64 4, .int .i64 N, .int .i64 K, t]) w := fun _ => by kernel_rfl
        have hgo' : (if 1000000 < x then (0, 3) else lenGo (ss.drop (k + 1)) (x)) = R := hgo
        have y0' : 0 ≤ x := y0
        have MD := even_made 4 N K x t wr
        have MD := Lib.hid MD
        have HGO := Lib.hid hgo'
        clear hnb hsb hgo y0 y1 hgo'
        go_wp2_with fail
        with_reducible refine MD.out.mono ?_
        rintro e w2 ⟨rfl, hb2⟩
        have HB2 := Lib.hid (below_step' HB.out hb2 HB.out.size)
        clear hb2
        by_cases hbig : 1000000 < x
        · have e : R = (0, 3) := by have := HGO.out; rw [if_pos hbig] at this; exact this.symm
          subst e
          have gb : decide (1000000 < x) = true := decide_eq_true hbig
          go_wp2
          go_ret2
          exact ⟨rfl, HB2.out⟩
        · have e : lenGo (ss.drop (k + 1)) x = R := by have := HGO.out; rwa [if_neg hbig] at this
          have HE := Lib.hid e
          have gb : decide (1000000 < x) = false := decide_eq_false hbig
          clear e HGO
          go_wp2
          go_roundw
          case rel => exact ⟨k + 1, x, by go_num, rfl, by omega, ⟨y0', by omega⟩, HE.out, HB2.out⟩
          case measure => simp [intOf]; omega
      · change wr.cell? ⟨g, k, none⟩ = some (.iface 174 (.agg #[.int .i64 5, .int .i64 N, .int .i64 K, t])) at c0
        have hm : ∀ w : World, (method 335 174 (.agg #[.int .i64 5, .int .i64 N, .int .i64 K, t]) "loop.example/g01155/impl.madeOf").run Tryd.prog w = .ok (201, .agg #[.int .i64 5, .int .i64 N, .int .i64 K, t]) w := fun _ => by kernel_rfl
        have hgo' : (if 1000000 < (x + N - 1) / N then (0, 3) else lenGo (ss.drop (k + 1)) ((x + N - 1) / N)) = R := hgo
        have y0' : 0 ≤ (x + N - 1) / N := y0
        have hN := hnb (by decide)
        obtain ⟨y, hy⟩ : ∃ y, (x + N - 1) / N = y := ⟨_, rfl⟩
        have MD := keep_made 5 N K x t wr hN HX.out
        rw [hy] at hgo' y0' MD
        have MD := Lib.hid MD
        have HGO := Lib.hid hgo'
        clear hnb hsb hgo y0 y1 hgo'
        go_wp2_with fail
        with_reducible refine MD.out.mono ?_
        rintro e w2 ⟨rfl, hb2⟩
        have HB2 := Lib.hid (below_step' HB.out hb2 HB.out.size)
        clear hb2
        by_cases hbig : 1000000 < y
        · have e : R = (0, 3) := by have := HGO.out; rw [if_pos hbig] at this; exact this.symm
          subst e
          have gb : decide (1000000 < y) = true := decide_eq_true hbig
          go_wp2
          go_ret2
          exact ⟨rfl, HB2.out⟩
        · have e : lenGo (ss.drop (k + 1)) y = R := by have := HGO.out; rwa [if_neg hbig] at this
          have HE := Lib.hid e
          have gb : decide (1000000 < y) = false := decide_eq_false hbig
          clear e HGO
          go_wp2
          go_roundw
          case rel => exact ⟨k + 1, y, by go_num, rfl, by omega, ⟨y0', by omega⟩, HE.out, HB2.out⟩
          case measure => simp [intOf]; omega
      · change wr.cell? ⟨g, k, none⟩ = some (.iface 175 (.agg #[.int .i64 6, .int .i64 N, .int .i64 K, t])) at c0
        have hm : ∀ w : World, (method 335 175 (.agg #[.int .i64 6, .int .i64 N, .int .i64 K, t]) "loop.example/g01155/impl.madeOf").run Tryd.prog w = .ok (204, .agg #[.int .i64 6, .int .i64 N, .int .i64 K, t]) w := fun _ => by kernel_rfl
        have hgo' : (if 1000000 < x * N then (0, 3) else lenGo (ss.drop (k + 1)) (x * N)) = R := hgo
        have y0' : 0 ≤ x * N := y0
        have hN := hnb (by decide)
        obtain ⟨y, hy⟩ : ∃ y, x * N = y := ⟨_, rfl⟩
        have MD := stuff_made 6 N K x t wr hN HX.out
        rw [hy] at hgo' y0' MD
        have MD := Lib.hid MD
        have HGO := Lib.hid hgo'
        clear hnb hsb hgo y0 y1 hgo'
        go_wp2_with fail
        with_reducible refine MD.out.mono ?_
        rintro e w2 ⟨rfl, hb2⟩
        have HB2 := Lib.hid (below_step' HB.out hb2 HB.out.size)
        clear hb2
        by_cases hbig : 1000000 < y
        · have e : R = (0, 3) := by have := HGO.out; rw [if_pos hbig] at this; exact this.symm
          subst e
          have gb : decide (1000000 < y) = true := decide_eq_true hbig
          go_wp2
          go_ret2
          exact ⟨rfl, HB2.out⟩
        · have e : lenGo (ss.drop (k + 1)) y = R := by have := HGO.out; rwa [if_neg hbig] at this
          have HE := Lib.hid e
          have gb : decide (1000000 < y) = false := decide_eq_false hbig
          clear e HGO
          go_wp2
          go_roundw
          case rel => exact ⟨k + 1, y, by go_num, rfl, by omega, ⟨y0', by omega⟩, HE.out, HB2.out⟩
          case measure => simp [intOf]; omega
      · change wr.cell? ⟨g, k, none⟩ = some (.iface 177 (.agg #[.int .i64 7, .int .i64 N, .int .i64 K, t])) at c0
        have hm : ∀ w : World, (method 335 177 (.agg #[.int .i64 7, .int .i64 N, .int .i64 K, t]) "loop.example/g01155/impl.madeOf").run Tryd.prog w = .ok (195, .agg #[.int .i64 7, .int .i64 N, .int .i64 K, t]) w := fun _ => by kernel_rfl
        have hgo' : (if 1000000 < x / N * N then (0, 3) else lenGo (ss.drop (k + 1)) (x / N * N)) = R := hgo
        have y0' : 0 ≤ x / N * N := y0
        have hN := hnb (by decide)
        obtain ⟨y, hy⟩ : ∃ y, x / N * N = y := ⟨_, rfl⟩
        have MD := piece_made 7 N K x t wr hN HX.out
        rw [hy] at hgo' y0' MD
        have MD := Lib.hid MD
        have HGO := Lib.hid hgo'
        clear hnb hsb hgo y0 y1 hgo'
        go_wp2_with fail
        with_reducible refine MD.out.mono ?_
        rintro e w2 ⟨rfl, hb2⟩
        have HB2 := Lib.hid (below_step' HB.out hb2 HB.out.size)
        clear hb2
        by_cases hbig : 1000000 < y
        · have e : R = (0, 3) := by have := HGO.out; rw [if_pos hbig] at this; exact this.symm
          subst e
          have gb : decide (1000000 < y) = true := decide_eq_true hbig
          go_wp2
          go_ret2
          exact ⟨rfl, HB2.out⟩
        · have e : lenGo (ss.drop (k + 1)) y = R := by have := HGO.out; rwa [if_neg hbig] at this
          have HE := Lib.hid e
          have gb : decide (1000000 < y) = false := decide_eq_false hbig
          clear e HGO
          go_wp2
          go_roundw
          case rel => exact ⟨k + 1, y, by go_num, rfl, by omega, ⟨y0', by omega⟩, HE.out, HB2.out⟩
          case measure => simp [intOf]; omega
      · change wr.cell? ⟨g, k, none⟩ = some (.iface 178 (.agg #[.int .i64 8, .int .i64 N, .int .i64 K, t])) at c0
        have hm : ∀ w : World, (method 335 178 (.agg #[.int .i64 8, .int .i64 N, .int .i64 K, t]) "loop.example/g01155/impl.madeOf").run Tryd.prog w = .ok (195, .agg #[.int .i64 8, .int .i64 N, .int .i64 K, t]) w := fun _ => by kernel_rfl
        have hgo' : (if 1000000 < x / N * N then (0, 3) else lenGo (ss.drop (k + 1)) (x / N * N)) = R := hgo
        have y0' : 0 ≤ x / N * N := y0
        have hN := hnb (by decide)
        obtain ⟨y, hy⟩ : ∃ y, x / N * N = y := ⟨_, rfl⟩
        have MD := piece_made 8 N K x t wr hN HX.out
        rw [hy] at hgo' y0' MD
        have MD := Lib.hid MD
        have HGO := Lib.hid hgo'
        clear hnb hsb hgo y0 y1 hgo'
        go_wp2_with fail
        with_reducible refine MD.out.mono ?_
        rintro e w2 ⟨rfl, hb2⟩
        have HB2 := Lib.hid (below_step' HB.out hb2 HB.out.size)
        clear hb2
        by_cases hbig : 1000000 < y
        · have e : R = (0, 3) := by have := HGO.out; rw [if_pos hbig] at this; exact this.symm
          subst e
          have gb : decide (1000000 < y) = true := decide_eq_true hbig
          go_wp2
          go_ret2
          exact ⟨rfl, HB2.out⟩
        · have e : lenGo (ss.drop (k + 1)) y = R := by have := HGO.out; rwa [if_neg hbig] at this
          have HE := Lib.hid e
          have gb : decide (1000000 < y) = false := decide_eq_false hbig
          clear e HGO
          go_wp2
          go_roundw
          case rel => exact ⟨k + 1, y, by go_num, rfl, by omega, ⟨y0', by omega⟩, HE.out, HB2.out⟩
          case measure => simp [intOf]; omega
      · change wr.cell? ⟨g, k, none⟩ = some (.iface 179 (.agg #[.int .i64 9, .int .i64 N, .int .i64 K, t])) at c0
        have hm : ∀ w : World, (method 335 179 (.agg #[.int .i64 9, .int .i64 N, .int .i64 K, t]) "loop.example/g01155/impl.madeOf").run Tryd.prog w = .ok (195, .agg #[.int .i64 9, .int .i64 N, .int .i64 K, t]) w := fun _ => by kernel_rfl
        have hgo' : (if 1000000 < x / N * N then (0, 3) else lenGo (ss.drop (k + 1)) (x / N * N)) = R := hgo
        have y0' : 0 ≤ x / N * N := y0
        have hN := hnb (by decide)
        obtain ⟨y, hy⟩ : ∃ y, x / N * N = y := ⟨_, rfl⟩
        have MD := piece_made 9 N K x t wr hN HX.out
        rw [hy] at hgo' y0' MD
        have MD := Lib.hid MD
        have HGO := Lib.hid hgo'
        clear hnb hsb hgo y0 y1 hgo'
        go_wp2_with fail
        with_reducible refine MD.out.mono ?_
        rintro e w2 ⟨rfl, hb2⟩
        have HB2 := Lib.hid (below_step' HB.out hb2 HB.out.size)
        clear hb2
        by_cases hbig : 1000000 < y
        · have e : R = (0, 3) := by have := HGO.out; rw [if_pos hbig] at this; exact this.symm
          subst e
          have gb : decide (1000000 < y) = true := decide_eq_true hbig
          go_wp2
          go_ret2
          exact ⟨rfl, HB2.out⟩
        · have e : lenGo (ss.drop (k + 1)) y = R := by have := HGO.out; rwa [if_neg hbig] at this
          have HE := Lib.hid e
          have gb : decide (1000000 < y) = false := decide_eq_false hbig
          clear e HGO
          go_wp2
          go_roundw
          case rel => exact ⟨k + 1, y, by go_num, rfl, by omega, ⟨y0', by omega⟩, HE.out, HB2.out⟩
          case measure => simp [intOf]; omega
      · change wr.cell? ⟨g, k, none⟩ = some (.iface 180 (.agg #[.int .i64 10, .int .i64 N, .int .i64 K, t])) at c0
        have hm : ∀ w : World, (method 335 180 (.agg #[.int .i64 10, .int .i64 N, .int .i64 K, t]) "loop.example/g01155/impl.madeOf").run Tryd.prog w = .ok (187, .agg #[.int .i64 10, .int .i64 N, .int .i64 K, t]) w := fun _ => by kernel_rfl
        have hgo' : (if 1000000 < x then (0, 3) else lenGo (ss.drop (k + 1)) (x)) = R := hgo
        have y0' : 0 ≤ x := y0
        have MD := even_made 10 N K x t wr
        have MD := Lib.hid MD
        have HGO := Lib.hid hgo'
        clear hnb hsb hgo y0 y1 hgo'
        go_wp2_with fail
        with_reducible refine MD.out.mono ?_
        rintro e w2 ⟨rfl, hb2⟩
        have HB2 := Lib.hid (below_step' HB.out hb2 HB.out.size)
        clear hb2
        by_cases hbig : 1000000 < x
        · have e : R = (0, 3) := by have := HGO.out; rw [if_pos hbig] at this; exact this.symm
          subst e
          have gb : decide (1000000 < x) = true := decide_eq_true hbig
          go_wp2
          go_ret2
          exact ⟨rfl, HB2.out⟩
        · have e : lenGo (ss.drop (k + 1)) x = R := by have := HGO.out; rwa [if_neg hbig] at this
          have HE := Lib.hid e
          have gb : decide (1000000 < x) = false := decide_eq_false hbig
          clear e HGO
          go_wp2
          go_roundw
          case rel => exact ⟨k + 1, x, by go_num, rfl, by omega, ⟨y0', by omega⟩, HE.out, HB2.out⟩
          case measure => simp [intOf]; omega
      · change wr.cell? ⟨g, k, none⟩ = some (.iface 147 (.agg #[.int .i64 11, .int .i64 N, .int .i64 K, t])) at c0
        have hm : ∀ w : World, (method 335 147 (.agg #[.int .i64 11, .int .i64 N, .int .i64 K, t]) "loop.example/g01155/impl.madeOf").run Tryd.prog w = .ok (187, .agg #[.int .i64 11, .int .i64 N, .int .i64 K, t]) w := fun _ => by kernel_rfl
        have hgo' : (if 1000000 < x then (0, 3) else lenGo (ss.drop (k + 1)) (x)) = R := hgo
        have y0' : 0 ≤ x := y0
        have MD := even_made 11 N K x t wr
        have MD := Lib.hid MD
        have HGO := Lib.hid hgo'
        clear hnb hsb hgo y0 y1 hgo'
        go_wp2_with fail
        with_reducible refine MD.out.mono ?_
        rintro e w2 ⟨rfl, hb2⟩
        have HB2 := Lib.hid (below_step' HB.out hb2 HB.out.size)
        clear hb2
        by_cases hbig : 1000000 < x
        · have e : R = (0, 3) := by have := HGO.out; rw [if_pos hbig] at this; exact this.symm
          subst e
          have gb : decide (1000000 < x) = true := decide_eq_true hbig
          go_wp2
          go_ret2
          exact ⟨rfl, HB2.out⟩
        · have e : lenGo (ss.drop (k + 1)) x = R := by have := HGO.out; rwa [if_neg hbig] at this
          have HE := Lib.hid e
          have gb : decide (1000000 < x) = false := decide_eq_false hbig
          clear e HGO
          go_wp2
          go_roundw
          case rel => exact ⟨k + 1, x, by go_num, rfl, by omega, ⟨y0', by omega⟩, HE.out, HB2.out⟩
          case measure => simp [intOf]; omega
      · change wr.cell? ⟨g, k, none⟩ = some (.iface 148 (.agg #[.int .i64 12, .int .i64 N, .int .i64 K, t])) at c0
        have hm : ∀ w : World, (method 335 148 (.agg #[.int .i64 12, .int .i64 N, .int .i64 K, t]) "loop.example/g01155/impl.madeOf").run Tryd.prog w = .ok (187, .agg #[.int .i64 12, .int .i64 N, .int .i64 K, t]) w := fun _ => by kernel_rfl
        have hgo' : (if 1000000 < x then (0, 3) else lenGo (ss.drop (k + 1)) (x)) = R := hgo
        have y0' : 0 ≤ x := y0
        have MD := even_made 12 N K x t wr
        have MD := Lib.hid MD
        have HGO := Lib.hid hgo'
        clear hnb hsb hgo y0 y1 hgo'
        go_wp2_with fail
        with_reducible refine MD.out.mono ?_
        rintro e w2 ⟨rfl, hb2⟩
        have HB2 := Lib.hid (below_step' HB.out hb2 HB.out.size)
        clear hb2
        by_cases hbig : 1000000 < x
        · have e : R = (0, 3) := by have := HGO.out; rw [if_pos hbig] at this; exact this.symm
          subst e
          have gb : decide (1000000 < x) = true := decide_eq_true hbig
          go_wp2
          go_ret2
          exact ⟨rfl, HB2.out⟩
        · have e : lenGo (ss.drop (k + 1)) x = R := by have := HGO.out; rwa [if_neg hbig] at this
          have HE := Lib.hid e
          have gb : decide (1000000 < x) = false := decide_eq_false hbig
          clear e HGO
          go_wp2
          go_roundw
          case rel => exact ⟨k + 1, x, by go_num, rfl, by omega, ⟨y0', by omega⟩, HE.out, HB2.out⟩
          case measure => simp [intOf]; omega
      · change wr.cell? ⟨g, k, none⟩ = some (.iface 149 (.agg #[.int .i64 13, .int .i64 N, .int .i64 K, t])) at c0
        have hm : ∀ w : World, (method 335 149 (.agg #[.int .i64 13, .int .i64 N, .int .i64 K, t]) "loop.example/g01155/impl.madeOf").run Tryd.prog w = .ok (187, .agg #[.int .i64 13, .int .i64 N, .int .i64 K, t]) w := fun _ => by kernel_rfl
        have hgo' : (if 1000000 < x then (0, 3) else lenGo (ss.drop (k + 1)) (x)) = R := hgo
        have y0' : 0 ≤ x := y0
        have MD := even_made 13 N K x t wr
        have MD := Lib.hid MD
        have HGO := Lib.hid hgo'
        clear hnb hsb hgo y0 y1 hgo'
        go_wp2_with fail
        with_reducible refine MD.out.mono ?_
        rintro e w2 ⟨rfl, hb2⟩
        have HB2 := Lib.hid (below_step' HB.out hb2 HB.out.size)
        clear hb2
        by_cases hbig : 1000000 < x
        · have e : R = (0, 3) := by have := HGO.out; rw [if_pos hbig] at this; exact this.symm
          subst e
          have gb : decide (1000000 < x) = true := decide_eq_true hbig
          go_wp2
          go_ret2
          exact ⟨rfl, HB2.out⟩
        · have e : lenGo (ss.drop (k + 1)) x = R := by have := HGO.out; rwa [if_neg hbig] at this
          have HE := Lib.hid e
          have gb : decide (1000000 < x) = false := decide_eq_false hbig
          clear e HGO
          go_wp2
          go_roundw
          case rel => exact ⟨k + 1, x, by go_num, rfl, by omega, ⟨y0', by omega⟩, HE.out, HB2.out⟩
          case measure => simp [intOf]; omega
    · have e : k = L := by omega
      subst e
      have e : R = (x, 0) := by rw [← HG.out, HEND.out]; rfl
      subst e
      go_wp2
      go_ret2
      exact ⟨rfl, HB.out⟩

end Go.Proofs.YtfdmohnmilecnaaDoor
