import Derived.Test.YtalhmppgmgfilaaLawTrn
/-
  The walk of the law FnTurns.
-/
set_option linter.unusedVariables false
set_option linter.unusedSimpArgs false
namespace Go.Proofs.Ytalhmppgmgfilaa
open Go.RowKit Flt Turn
attribute [local go_sem ↓] run_eqlC run_neqC

set_option maxRecDepth 100000 in
set_option maxHeartbeats 16000000 in
theorem fnTurns_law (a0 : Option Addr) (len0 cap0 : Nat) (z0 : List Int) (a1 : Option Addr) (len1 cap1 : Nat) (z1 : List Int) (w : World) (h0 : IsRow .u8 w a0 len0 cap0 z0) (h1 : IsRow .u8 w a1 len1 cap1 z1) :
    Calls Try.prog 4 #[.slice a0 len0 cap0, .slice a1 len1 cap1] w fun e w' => e = .returned (.bool true) ∧ Below w.heap.size w w' := by
  have hm0 := isRow_len h0
  have hm1 := isRow_len h1
  by_cases hl0 : len0 ≤ 3000
  · by_cases hl1 : len1 ≤ 3000
    · go_enter Try.func4, Try.ntmps4
      go_wp2_with (first | (go_at_call 5; go_in))
      refine (a2At_any a0 len0 cap0 z0 0 (by omega) 120 (by omega) (by omega) w h0).mono ?_
      rintro e w1 ⟨r, r0, r1, rfl, rfl⟩
      obtain ⟨N, hN⟩ : ∃ N : Nat, 1 + r = (N : Int) := ⟨(1 + r).toNat, by omega⟩
      have N1 : 1 ≤ N := by omega
      have N2 : N ≤ 120 := by omega
      clear r0 r1
      go_wp2_with fail
      refine (a2At_any a0 len0 cap0 z0 1 (by omega) N (by omega) (by omega) _ h0).mono ?_
      rintro e w1 ⟨k, k0, k1, rfl, rfl⟩
      obtain ⟨K, rfl⟩ : ∃ K : Nat, k = K := ⟨k.toNat, by omega⟩
      have K1 : K < N := by omega
      clear k0 k1
      go_wp2_with fail
      refine (a2At_any a1 len1 cap1 z1 0 (by omega) N (by omega) (by omega) _ h1).mono ?_
      rintro e w0 ⟨j, j0, j1, rfl, rfl⟩
      obtain ⟨J, rfl⟩ : ∃ J : Nat, j = J := ⟨j.toNat, by omega⟩
      have J1 : J < N := by omega
      clear j0 j1 h0 h1 hl0 hl1
      -- the numbers that are reckoned
      obtain ⟨M, hM⟩ : ∃ M, (J + K) % N = M := ⟨_, rfl⟩
      obtain ⟨P, hP⟩ : ∃ P, (N - K) % N = P := ⟨_, rfl⟩
      obtain ⟨D, hD⟩ : ∃ D, 2 * N = D := ⟨_, rfl⟩
      obtain ⟨E, hE⟩ : ∃ E, 2 * K = E := ⟨_, rfl⟩
      obtain ⟨O, hO⟩ : ∃ O, (E + N) % D = O := ⟨_, rfl⟩
      have M1 : M < N := by rw [← hM]; exact Nat.mod_lt _ (by omega)
      have P1 : P < N := by rw [← hP]; exact Nat.mod_lt _ (by omega)
      have O1 : O < D := by rw [← hO]; exact Nat.mod_lt _ (by omega)
      have D1 : D ≤ 240 := by omega
      have E1 : E < D := by omega
      have m1 : ((J : Int) + (K : Int)).tmod (N : Int) = (M : Int) := by rw [← hM]; rfl
      have m2 : ((J : Int) + (K : Int)) % (N : Int) = (M : Int) := by rw [← hM]; rfl
      have p1 : ((N : Int) - (K : Int)).tmod (N : Int) = (P : Int) := by rw [← hP, ← Int.ofNat_sub (by omega)]; rfl
      have p2 : ((N : Int) - (K : Int)) % (N : Int) = (P : Int) := by rw [← hP, ← Int.ofNat_sub (by omega)]; rfl
      have d1 : 2 * (N : Int) = (D : Int) := by omega
      have e1 : 2 * (K : Int) = (E : Int) := by omega
      have o1 : ((E : Int) + (N : Int)).tmod (D : Int) = (O : Int) := by rw [← hO]; rfl
      have o2 : ((E : Int) + (N : Int)) % (D : Int) = (O : Int) := by rw [← hO]; rfl
      -- their turns
      obtain ⟨rx, sx, tx⟩ := TV.ex (n := N) (k := K) (by omega) (by omega) (by omega)
      obtain ⟨ry, sy, ty⟩ := TV.ex (n := N) (k := J) (by omega) (by omega) (by omega)
      obtain ⟨rz, sz, tz⟩ := TV.ex (n := N) (k := M) (by omega) (by omega) (by omega)
      have tw : TV N P rx (-sx) := by rw [← hP]; exact TV.conj' tx (by omega) K1
      have tv : turn D E = turn N K := by rw [← hD, ← hE]; exact turn_scale (by omega) (by omega)
      have to : TV D O (-rx) (-sx) := by
        rw [← hO, ← hD]
        refine TV.opp ?_ (by omega) (by omega) (by omega)
        unfold TV
        rw [hD, tv]
        exact tx
      have HXY := Lib.hid (tx.mul (by omega) (by omega) K1 J1 ty (by rw [Nat.add_comm K J, hM]; exact tz))
      have HTX := Lib.hid tx
      have HTY := Lib.hid ty
      have HTZ := Lib.hid tz
      have HTW := Lib.hid tw
      have HTV := Lib.hid tv
      have HTO := Lib.hid to
      clear hM hP hD hE hO tx ty tz tw tv to
      go_wp2_with fail
      refine (turnN N K N1 (by omega) K1 _).mono ?_
      rintro e w1 ⟨xa, xb, rfl, ha, hb, hb1⟩
      have HX := Lib.hid (And.intro ha hb)
      have HB1 := Lib.hid hb1
      clear ha hb hb1
      go_wp2_with fail
      refine (turnN N J N1 (by omega) J1 _).mono ?_
      rintro e w2 ⟨ya, yb, rfl, ha, hb, hb1⟩
      have HY := Lib.hid (And.intro ha hb)
      have HB2 := Lib.hid (below_step HB1.out hb1 HB1.out.size)
      clear ha hb hb1 HB1
      go_wp2_with fail
      refine (turnN N M N1 (by omega) M1 _).mono ?_
      rintro e w3 ⟨za, zb, rfl, ha, hb, hb1⟩
      have HZ := Lib.hid (And.intro ha hb)
      have HB3 := Lib.hid (below_step HB2.out hb1 HB2.out.size)
      clear ha hb hb1 HB2
      go_wp2_with fail
      refine (turnN N P N1 (by omega) P1 _).mono ?_
      rintro e w4 ⟨wa, wb, rfl, ha, hb, hb1⟩
      have HW := Lib.hid (And.intro ha hb)
      have HB4 := Lib.hid (below_step HB3.out hb1 HB3.out.size)
      clear ha hb hb1 HB3
      go_wp2_with fail
      refine (turnN D E (by omega) (by omega) E1 _).mono ?_
      rintro e w5 ⟨va, vb, rfl, ha, hb, hb1⟩
      rw [HTV.out] at ha hb
      have HV := Lib.hid (And.intro ha hb)
      have HB5 := Lib.hid (below_step HB4.out hb1 HB4.out.size)
      clear ha hb hb1 HB4
      go_wp2_with fail
      refine (turnN D O (by omega) (by omega) O1 _).mono ?_
      rintro e w6 ⟨oa, ob, rfl, ha, hb, hb1⟩
      have HO := Lib.hid (And.intro ha hb)
      have HB6 := Lib.hid (below_step HB5.out hb1 HB5.out.size)
      clear ha hb hb1 HB5
      go_wp2_with fail
      refine (narrowTurnN N K N1 (by omega) K1 _).mono ?_
      rintro e w7 ⟨na, nb, rfl, ha, hb, hb1⟩
      have HNN := Lib.hid (And.intro ha hb)
      have HB7 := Lib.hid (below_step HB6.out hb1 HB6.out.size)
      clear ha hb hb1 HB6
      go_wp2_with fail
      refine (turnsN N N1 (by omega) _).mono ?_
      rintro e w8 ⟨V, xs, rfl, hr, hl, hc, hb1⟩
      have HB8 := Lib.hid (below_step HB7.out hb1 HB7.out.size)
      have hrd := tc_reads hr.reads
      obtain ⟨ga, gc, rfl⟩ := tc_form hr.reads
      rw [cvals_length, hl] at hrd ⊢
      obtain ⟨gb, rfl, -, hcell⟩ := hrd _ _ _ rfl K K1
      obtain ⟨ha, hb⟩ := hc K K1
      obtain ⟨aa, ab, hab⟩ : ∃ x y, xs.getD K (0, 0) = (x, y) := ⟨_, _, rfl⟩
      rw [hab] at hcell ha hb
      have HA := Lib.hid (And.intro ha hb)
      have HCE := Lib.hid hcell
      clear hr hl hc hb1 hrd hab ha hb hcell HB7
      -- what is known of all of them
      have hx1 : Has xa rx := Has.of HX.out.1 HTX.out.1
      have hx2 : Has xb sx := Has.of HX.out.2 HTX.out.2
      have hw1 : Has wa rx := Has.of HW.out.1 HTW.out.1
      have hw2 : Has wb (-sx) := Has.of HW.out.2 HTW.out.2
      have ho1 : Has oa (-rx) := Has.of HO.out.1 HTO.out.1
      have ho2 : Has ob (-sx) := Has.of HO.out.2 HTO.out.2
      have EW : eqC .f64 wa wb xa (Op.negFloat .f64 xb) = true := eqC_has hw1 hw2 hx1 (has_neg hx2)
      have EO : eqC .f64 oa ob (Op.negFloat .f64 xa) (Op.negFloat .f64 xb) = true := eqC_has ho1 ho2 (has_neg hx1) (has_neg hx2)
      have SV := Lib.hid (fun w => sameNumber_cn va vb xa xb (HV.out.1.cn.trans HX.out.1.cn.symm) (HV.out.2.cn.trans HX.out.2.cn.symm) w)
      have SA := Lib.hid (fun w => sameNumber_cn aa ab xa xb (HA.out.1.cn.trans HX.out.1.cn.symm) (HA.out.2.cn.trans HX.out.2.cn.symm) w)
      have CX := Lib.hid (fun w => conjSpec_any xa xb w)
      have NS := Lib.hid (fun w => narrowSpec_any xa xb w)
      obtain ⟨o1x, o2x, o3x⟩ := TV.one HTX.out (by omega) (by omega) (by omega)
      obtain ⟨-, o2y, o3y⟩ := TV.one HTY.out (by omega) (by omega) (by omega)
      obtain ⟨-, o2z, o3z⟩ := TV.one HTZ.out (by omega) (by omega) (by omega)
      have SQ := Lib.hid (fun w => squareOf_any xa xb rx sx hx1 hx2 o1x o2x o3x w)
      have hy1 : Has ya ry := Has.of HY.out.1 HTY.out.1
      have hy2 : Has yb sy := Has.of HY.out.2 HTY.out.2
      have hz1 : Has za rz := Has.of HZ.out.1 HTZ.out.1
      have hz2 : Has zb sz := Has.of HZ.out.2 HTZ.out.2
      have PR := Lib.hid (fun w => prodSpec_any xa xb ya yb rx sx ry sy rz sz hx1 hx2 hy1 hy2 o2x o3x o2y o3y HXY.out.1 HXY.out.2 o2z o3z w)
      have HZV := Lib.hid (And.intro hz1 hz2)
      have hS := S.turn (n := N) (k := K) (by omega) (by omega) (by omega)
      have HNX : Hid (∀ u v, Narrows xa u → Narrows xb v → na = u ∧ nb = v ∧ eqC .f32 na nb na nb = true) := fun u v hu hv => by
        obtain ⟨⟨x, e1, f1⟩, ⟨y, e2, f2⟩⟩ := HNN.out
        obtain ⟨x', e1', f1'⟩ := narrow_part hS.1 HX.out.1 hu
        obtain ⟨y', e2', f2'⟩ := narrow_part hS.2 HX.out.2 hv
        rw [e1] at e1'; cases e1'
        rw [e2] at e2'; cases e2'
        rw [f1] at f1'; cases f1'
        rw [f2] at f2'; cases f2'
        exact ⟨rfl, rfl, eqC_self32 f1 f2⟩
      clear hx1 hx2 hw1 hw2 ho1 ho2 hy1 hy2 hz1 hz2 o1x o2x o3x o2y o3y o2z o3z hS HX HY HZ HW HV HO HNN HA HTX HTY HTZ HTW HTV HTO HXY
      clear m1 m2 p1 p2 d1 e1 o1 o2
      go_wp2_with fail
      with_reducible refine (CX.out _).mono ?_
      rintro e w9 ⟨rfl, rfl⟩
      go_wp2_with fail
      with_reducible refine (SV.out _).mono ?_
      rintro e w10 ⟨rfl, rfl⟩
      go_wp2_with fail
      with_reducible refine (NS.out _).mono ?_
      rintro e w11 ⟨u, v, m, rfl, hu, hv, hw11⟩
      obtain ⟨rfl, rfl, EN⟩ := HNX.out u v hu hv
      have HW11 := Lib.hid hw11
      have c2 : w11.cell? ⟨gb, K, none⟩ = some (.complex .f64 aa ab) := by rw [HW11.out]; exact HCE.out
      have HB11 : Hid (Below w0.heap.size w0 w11) := by rw [HW11.out]; exact below_draws HB8.out m
      clear hu hv hw11 HW11 HNX HB8 HCE
      go_wp2_with fail
      with_reducible refine (SA.out _).mono ?_
      rintro e w12 ⟨rfl, rfl⟩
      go_wp2_with fail
      with_reducible refine (SQ.out _).mono ?_
      rintro e w13 ⟨d, q, rfl, hd, hq, rfl⟩
      obtain ⟨x, p, x1, x2, E1⟩ := sub_near hd has_one (near_size.1 hq) (by decide +kernel)
      have xs1 : Size p (62 * ulp) := by
        have := near_size.1 hq
        have hti := tiny_le
        have hu := ulp_val
        have hk : 61 * ulp * ulp ≤ ulp / 2 := by decide +kernel
        obtain ⟨b1, b2⟩ := x2
        obtain ⟨c1, c2⟩ := this
        constructor <;> grind
      have A1 := Lib.hid (fun w => a2Size_any x p x1 w)
      have HXS := Lib.hid xs1
      clear hd hq x1 x2 xs1
      go_wp2_with fail
      with_reducible refine (A1.out _).mono ?_
      rintro e w14 ⟨y, r', rfl, y1, y2, rfl⟩
      have gO : FloatKind.f64.format.order y 4400016835940974592 = some .lt := by
        refine order_lt y1.1 lit46.1 ?_
        rw [y1.2, lit46.2]
        have h1 := y2 _ HXS.out
        have h2 : 62 * ulp < 1 / 70368744177664 := by decide +kernel
        grind
      clear y1 y2 HXS A1
      go_wp2_with fail
      with_reducible refine (PR.out _).mono ?_
      rintro e w15 ⟨u, v, p', q', rfl, u1, v1, n1, n2, rfl⟩
      have A2 := Lib.hid (fun w => a2Apart_any u v za zb p' q' rz sz (104 * ulp) u1 v1 HZV.out.1 HZV.out.2 n1 n2 (by decide +kernel) w)
      clear u1 v1 n1 n2 PR
      go_wp2_with fail
      with_reducible refine (A2.out _).mono ?_
      rintro e w16 ⟨y', r'', rfl, y3, y4, rfl⟩
      have gO2 : FloatKind.f64.format.order y' 4409024035195715584 = some .lt := by
        refine order_lt y3.1 lit44.1 ?_
        rw [y3.2, lit44.2]
        have h2 : 104 * ulp + (104 * ulp * ulp + tiny) < 1 / 17592186044416 := by
          have hti := tiny_le
          have h3 : 104 * ulp + (104 * ulp * ulp + 1 / 1267650600228229401496703205376) < 1 / 17592186044416 := by decide +kernel
          grind
        grind
      clear y3 y4 A2
      go_wp2
      go_ret
      exact ⟨rfl, HB11.out⟩
    · clear h0 h1
      go_enter Try.func4, Try.ntmps4
      go_wp2_with (first | (go_at_call 5; go_in))
      go_ret
      exact ⟨rfl, Below.refl _ _⟩
  · clear h0 h1
    go_enter Try.func4, Try.ntmps4
    go_wp2_with (first | (go_at_call 5; go_in))
    go_ret
    exact ⟨rfl, Below.refl _ _⟩

end Go.Proofs.Ytalhmppgmgfilaa
