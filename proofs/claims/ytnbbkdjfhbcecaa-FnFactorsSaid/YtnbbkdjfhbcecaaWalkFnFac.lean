import Derived.Test.YtnbbkdjfhbcecaaArg
import Derived.Test.YtnbbkdjfhbcecaaWalkFac
/-
  The walk of the law FnFactors.
-/
set_option linter.unusedVariables false
set_option linter.unusedSimpArgs false
namespace Go.Proofs.Ytnbbkdjfhbcecaa
open Go.RowKit

theorem fr_in {n c : Int} {zs : List Int} (h : FR n zs c) (h1 : 1 ≤ n) (h2 : n ≤ 1000) : c = 0 ∧ ∃ m xs, n = ((m : Nat) : Int) ∧ 1 ≤ m ∧ m ≤ 1000 ∧ zs = List.map (fun (x : Nat) => (x : Int)) xs ∧ Fac.Facs m xs := by
  rcases h with ⟨m, rfl, a, b, rfl, xs, rfl, hf⟩ | ⟨h, _⟩
  · exact ⟨rfl, m, xs, rfl, by omega, by omega, rfl, hf⟩
  · omega

theorem cast_getD {xs : List Nat} {j : Nat} (h : j < xs.length) : (xs.map fun (x : Nat) => (x : Int)).getD j 0 = ((xs.getD j 0 : Nat) : Int) := by simp [List.getD, h]

theorem getD_mem {xs : List Nat} {j : Nat} (h : j < xs.length) : xs.getD j 0 ∈ xs := by
  rw [List.getD_eq_getElem?_getD, List.getElem?_eq_getElem h]
  exact List.getElem_mem h

set_option maxRecDepth 100000 in
set_option maxHeartbeats 8000000 in
theorem fnFactors_law (a0 : Option Addr) (len0 cap0 : Nat) (z0 : List Int) (a1 : Option Addr) (len1 cap1 : Nat) (z1 : List Int) (w : World) (h0 : IsRow .u8 w a0 len0 cap0 z0) (h1 : IsRow .u8 w a1 len1 cap1 z1) :
    Calls Try.prog 3 #[.slice a0 len0 cap0, .slice a1 len1 cap1] w fun e w' => e = .returned (.bool true) ∧ Below w.heap.size w w' := by
  by_cases hl0 : len0 ≤ 3000
  · by_cases hl1 : len1 ≤ 3000
    · go_enter Try.func3, Try.ntmps3
      go_wp2_with (first | (go_at_call 14; go_in))
      refine (a2At_any a0 len0 cap0 z0 0 (by omega) 250 (by omega) (by omega) w h0).mono ?_
      rintro e w3 ⟨r, r0, r1, rfl, rfl⟩
      go_wp2_with fail
      refine (a2At_any a1 len1 cap1 z1 0 (by omega) 4 (by omega) (by omega) _ h1).mono ?_
      rintro e w' ⟨q, q0, q1, rfl, rfl⟩
      clear h0 h1 hl0 hl1
      go_wp2_with fail
      refine (factorsAny_impl _ _).mono ?_
      rintro e w1 ⟨v, zs, c, rfl, hr, hf, hb⟩
      obtain ⟨rfl, m, xs, hm, m1, m2, rfl, hx⟩ := fr_in hf (by omega) (by omega)
      rw [hm]
      clear hf hm r0 r1 q0 q1
      have HX := Lib.hid hx
      have HB := Lib.hid hb
      have hrd := hr.reads
      clear hx hb hr
      have hll : (ints (xs.map fun (x : Nat) => (x : Int))).length = xs.length := by simp [ints]
      generalize hcs : ints (xs.map fun (x : Nat) => (x : Int)) = cs at hrd hll
      cases hrd with
      | none a cap =>
        have hx0 : xs = [] := List.eq_nil_of_length_eq_zero (by simpa using hll.symm)
        subst hx0
        have hm1 : m = 1 := by
          have := HX.out.product
          simpa using this.symm
        subst hm1
        clear hcs hll HX
        go_wp2
        refine wp_loop_rounds 1 ?_
        rw [rounds_succ]
        go_wp2
        go_ret
        exact ⟨rfl, HB.out⟩
      | row g cap L cs hL hp0 hc hcm hcell =>
        have hlen : xs.length = L := by omega
        have hmax := maxLen_int (Nat.le_trans hc hcm)
        have HC : Hid (∀ j, j < L → w1.cell? ⟨g, j, none⟩ = some (.int .i64 ((xs.getD j 0 : Nat) : Int))) := fun j hj => by
          rw [hcell j hj, ← hcs, ints_getD (by simpa [hlen] using hj), cast_getD (by omega)]
        have HL := Lib.hid hlen
        clear hcell hcs hll hL hlen hc hcm
        go_wp2
        go_loopw [8, 9] (fun p i wr => ∃ k n : Nat, i = .int .i64 k ∧ k ≤ L ∧ p = .int .i64 (Fac.prod xs k) ∧ wr = w1.drewN n) (fun _ i _ => L - (intOf i).toNat)
        case atStart => exact ⟨0, 0, rfl, Nat.zero_le _, rfl, rfl⟩
        case round =>
          obtain ⟨k, n, rfl, hk, rfl, rfl⟩ := hrel
          by_cases hlt : k < L
          · have hkx : k < xs.length := by rw [HL.out]; exact hlt
            have c1 := HC.out k hlt
            have hE := HX.out.each _ (getD_mem hkx)
            have hps := Fac.prod_succ hkx
            have hpl := HX.out.prod_le (k + 1)
            have hdl : xs.getD k 0 ≤ m := Nat.le_of_dvd (by omega) (Nat.dvd_of_mod_eq_zero hE.2.1)
            have hrise : 0 < k → w1.cell? ⟨g, k - 1, none⟩ = some (.int .i64 ((xs.getD (k - 1) 0 : Nat) : Int)) ∧ xs.getD (k - 1) 0 ≤ xs.getD k 0 := fun h => by
              refine ⟨HC.out (k - 1) (by omega), ?_⟩
              have := HX.out.rises (k - 1) (by omega)
              rwa [show k - 1 + 1 = k by omega] at this
            obtain ⟨x, hxk⟩ : ∃ x, xs.getD k 0 = x := ⟨_, rfl⟩
            obtain ⟨y, hyk⟩ : ∃ y, xs.getD (k - 1) 0 = y := ⟨_, rfl⟩
            obtain ⟨p, hp⟩ : ∃ p, Fac.prod xs k = p := ⟨_, rfl⟩
            obtain ⟨p', hp'⟩ : ∃ p', Fac.prod xs (k + 1) = p' := ⟨_, rfl⟩
            rw [hxk] at c1 hE hdl hrise hps
            rw [hyk] at hrise
            rw [hp, hp'] at hps
            rw [hp'] at hpl
            rw [hp]
            have hx2 := hE.1
            have HE := Lib.hid hE.2.2
            have HP' := Lib.hid hp'
            have hpx : (p : Int) * (x : Int) = (p' : Int) := by rw [hps, Int.natCast_mul]
            clear hE hp' hxk hyk hp hps hkx
            have t1 : decide ((x : Int) < 2) = false := by simp; omega
            have t2 : decide ((m : Int) < (x : Int)) = false := by simp; omega
            have t2' : decide (m < x) = false := by simp; omega
            have hbr : (∃ _ : decide (0 < (k : Int)) = true, w1.cell? ⟨g, k - 1, none⟩ = some (.int .i64 (y : Int)) ∧ decide ((x : Int) < (y : Int)) = false ∧ decide (x < y) = false ∧ (k : Int) - 1 = ((k - 1 : Nat) : Int) ∧ 0 < k) ∨ k = 0 := by
              by_cases hk0 : 0 < k
              · obtain ⟨c2, hyx⟩ := hrise hk0
                exact .inl ⟨by simp; omega, c2, by simp; omega, by simp; omega, by omega, hk0⟩
              · exact .inr (by omega)
            clear hrise
            rcases hbr with ⟨t3, c2, t4, t4', t5, t6⟩ | rfl
            all_goals
              go_wp2
              go_quiet (fail)
              go_wp2
              go_loopw [10] (fun i wr => ∃ d n : Nat, i = .int .i64 d ∧ 2 ≤ d ∧ d ≤ x ∧ wr = w1.drewN n) (fun i _ => x - (intOf i).toNat)
              case atStart => exact ⟨2, n + nq, rfl, Nat.le_refl _, hx2, World.drewN_drewN ..⟩
              case round =>
                obtain ⟨d, n', rfl, hd2, hdx, rfl⟩ := hrel
                by_cases hdlt : d < x
                · have hne : ((x : Int) % (d : Int) == 0) = false := by
                    have := HE.out d hd2 hdlt
                    rw [beq_eq_false_iff_ne]
                    omega
                  go_wp2
                  go_roundw
                  case rel => exact ⟨d + 1, _, by go_num, by omega, by omega, rfl⟩
                  case measure => simp [intOf]; omega
                · have e : d = x := by omega
                  subst e
                  go_wp2
                  have hpl2 : (p' : Int) ≤ (m : Int) := by omega
                  have t7 : decide (m < p') = false := by simp; omega
                  go_wp2
                  go_roundw
                  case rel => first | exact ⟨k + 1, _, by go_num, by omega, by rw [HP'.out], rfl⟩ | exact ⟨0 + 1, _, by go_num, by omega, by rw [HP'.out], rfl⟩
                  case measure => simp [intOf]; omega
          · have e : k = L := by omega
            subst e
            have hall : Fac.prod xs k = m := by rw [← HL.out]; exact HX.out.prod_all
            rw [hall]
            go_wp2
            go_ret
            exact ⟨by simp, below_draws HB.out n⟩
    · clear h0 h1
      have g0 : decide ((3000 : Int) < (len0 : Int)) = false := by simp; omega
      have g1 : decide ((3000 : Int) < (len1 : Int)) = true := by simp; omega
      go_enter Try.func3, Try.ntmps3
      go_wp2
      go_ret
      exact ⟨rfl, Below.refl _ _⟩
  · clear h0 h1
    have g0 : decide ((3000 : Int) < (len0 : Int)) = true := by simp; omega
    go_enter Try.func3, Try.ntmps3
    go_wp2
    go_ret
    exact ⟨rfl, Below.refl _ _⟩
end Go.Proofs.Ytnbbkdjfhbcecaa
