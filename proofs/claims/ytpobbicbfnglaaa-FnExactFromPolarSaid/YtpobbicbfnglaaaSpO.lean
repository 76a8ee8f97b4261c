import Derived.Test.YtpobbicbfnglaaaHlf
import Derived.Test.YtpobbicbfnglaaaSpI
import Derived.Test.YtpobbicbfnglaaaTurnG
/-
  FromPolar of both.
-/
set_option linter.unusedVariables false
set_option linter.unusedSimpArgs false
namespace Go.Proofs.Ytpobbicbfnglaaa
open Go.RowKit Flt Turn
attribute [local go_sem] run_fadd run_fsub run_fmul run_fquo run_cadd run_csub

def w1024 : Nat := 4652218415073722368
theorem has_1024 : Has w1024 1024 := has_int (n := 1024) (by decide) (by decide)
/-- The nearest integer to a phase times 1024. -/
def poO (z : Option Nat) : Option Nat := floO (fop .add .f64 (fop .mul .f64 (wrapO z) (some w1024)) (some half))

theorem polar_num {a : Nat} (hx : Flt.Fin a) : ∃ (n : Int) (p m s : Nat), n.natAbs ≤ 10000 ∧ wrapO (some a) = some p ∧ floatBits .mul .f64 p w1024 = some m ∧ floatBits .add .f64 m half = some s ∧ Flt.Fin s ∧ Has (floW s) (n : Rat) := by
  obtain ⟨r, h1, h2⟩ := wrap_small hx
  obtain ⟨p, ep, hp1, hp2⟩ := h1
  have h1 : Fv (some p) r := ⟨p, rfl, hp1, hp2⟩
  have ht : Size (r * 1024) ((8192 : Int) : Rat) := by
    obtain ⟨a1, a2⟩ := h2
    have e : ((8192 : Int) : Rat) = 8192 := rfl
    rw [e]
    constructor <;> grind
  obtain ⟨u, hu, ru⟩ := fv_mul h1 has_1024.fv (mod_of_size ht (by decide +kernel))
  have su := Rnd.size ru (n := 8192) (by decide) ht
  have ht2 : Size (u + 1 / 2) ((8193 : Int) : Rat) := by
    obtain ⟨a1, a2⟩ := su
    have e : ((8192 : Int) : Rat) = 8192 := rfl
    have e' : ((8193 : Int) : Rat) = 8193 := rfl
    rw [e] at a1 a2
    rw [e']
    constructor <;> grind
  obtain ⟨v, hv, rv⟩ := fv_add hu half_fv' (mod_of_size ht2 (by decide +kernel))
  have sv := Rnd.size rv (n := 8193) (by decide) ht2
  obtain ⟨m, em, -, -⟩ := hu
  rw [em] at hv
  obtain ⟨s, es, hs, hq⟩ := hv
  have hfl := flo_is v
  obtain ⟨f, hff⟩ : ∃ f, v.floor = f := ⟨_, rfl⟩
  rw [hff] at hfl
  have hfb : f.natAbs ≤ 10000 := by
    obtain ⟨b1, b2⟩ := sv
    obtain ⟨c1, c2⟩ := hfl
    have d1 : (f : Rat) ≤ ((8193 : Int) : Rat) := Rat.le_trans c1 b1
    have d2 : ((-8195 : Int) : Rat) ≤ (f : Rat) := by
      have e : ((-8195 : Int) : Rat) = -8195 := rfl
      have e' : ((8193 : Int) : Rat) = 8193 := rfl
      rw [e'] at b2
      rw [e]; grind
    have e1 := Rat.intCast_le_intCast.1 d1
    have e2 := Rat.intCast_le_intCast.1 d2
    omega
  have := flo_val (f := f) hs (by rw [hq]; exact hfl.1) (by rw [hq]; exact hfl.2) (by omega)
  exact ⟨f, p, m, s, hfb, ep, em, es, hs, this⟩

theorem restM_any (k : Int) (n r : Nat) (hn : 0 < n) (hn2 : n ≤ 1000000) (hr : k % (n : Int) = (r : Int)) (w : World) :
    Calls Try.prog 76 #[.int .i64 k, .int .i64 n] w fun e w' => e = .returned (.int .i64 (r : Int)) ∧ w' = w := by
  obtain ⟨t, e1, h1, h2, e2, e3⟩ := rest_facts k n r hn hr
  have hz : ¬ (n : Int) = 0 := by omega
  have hz' : ¬ n = 0 := by omega
  have hb : (n : Int) ≤ 1000000 := by omega
  clear hr hn hn2
  go_enter Try.func76, Try.ntmps76
  go_wp2
  go_ret
  exact ⟨rfl, rfl⟩

theorem restT_any (n : Nat) (k : Int) (r b c : Nat) (w : World) (hn : 0 < n) (hn2 : n ≤ 100000) (hr : k % (n : Int) = (r : Int)) (hrn : r ≤ n) (hc : Cache w b c) (hcf : c ≤ 4000000000000000000) :
    Calls Try.prog 78 #[.map (some b), .int .i64 n, .int .i64 k] w (RetCa (turn n r) b (c + 8) w) := by
  have R := Lib.hid (fun w => restOf_any k n r hn (by omega) hr w)
  have T := Lib.hid (turn_cache n r b c w hn hn2 hrn hc hcf)
  clear hr hrn hc
  go_enter Try.func78, Try.ntmps78
  go_wp2_with fail
  refine (R.out _).mono ?_
  rintro e w' ⟨rfl, rfl⟩
  go_wp2_with fail
  refine T.out.mono ?_
  rintro e w1 ⟨x, y, rfl, hx, hy, hc1, hg1⟩
  have HE := Lib.hid (show RetCa (turn n r) b (c + 8) w' (.returned (.complex .f64 x y)) w1 from ⟨x, y, rfl, hx, hy, hc1, hg1⟩)
  clear hx hy hc1 hg1 T
  go_wp2
  go_ret
  exact HE.out

/-- A complex number of these parts. -/
def PolTo (z1 z2 : Option Nat) (w : World) (e : Ending) (w' : World) : Prop := ∃ x y, e = .returned (.complex .f64 x y) ∧ IsF x z1 ∧ IsF y z2 ∧ Below w.heap.size w w'

theorem timesS_any (a b s : Nat) (za zb zs : Option Nat) (ha : IsF a za) (hb : IsF b zb) (hs : IsF s zs) (w : World) :
    Calls Try.prog 74 #[.complex .f64 a b, .float .f64 s] w (PolTo (fop .mul .f64 za zs) (fop .mul .f64 zb zs) w) := by
  have HA := Lib.hid ha
  have HB := Lib.hid hb
  have HS := Lib.hid hs
  clear ha hb hs
  go_enter Try.func74, Try.ntmps74
  go_wp2
  go_ret
  exact ⟨_, _, rfl, isF_fres HA.out HS.out _, isF_fres HB.out HS.out _, below_draws (Below.refl _ _) _⟩

theorem timesI_any (a b s : Nat) (za zb zs : Option Nat) (ha : IsF a za) (hb : IsF b zb) (hs : IsF s zs) (w : World) :
    Calls Try.prog 77 #[.complex .f64 a b, .float .f64 s] w (PolTo (fop .mul .f64 za zs) (fop .mul .f64 zb zs) w) := by
  have HA := Lib.hid ha
  have HB := Lib.hid hb
  have HS := Lib.hid hs
  clear ha hb hs
  go_enter Try.func77, Try.ntmps77
  go_wp2_with fail
  refine (numberOf_any a b _).mono ?_
  rintro e w1 ⟨rfl, hb1⟩
  have H1 := Lib.hid hb1
  clear hb1
  go_wp2_with fail
  refine (parts_any a b _).mono ?_
  rintro e w2 ⟨rfl, hb2⟩
  have H2 := Lib.hid (below_step H1.out hb2 H1.out.size)
  clear hb2
  go_wp2
  go_ret
  exact ⟨_, _, rfl, isF_fres HA.out HS.out _, isF_fres HB.out HS.out _, below_draws H2.out _⟩

def nanW : Nat := 9221120237041090561
theorem isF_nan : IsF nanW none := ⟨cn_none (by decide), by decide⟩
theorem nan_any (w : World) : Calls Try.prog 72 #[] w fun e w' => e = .returned (.float .f64 nanW) ∧ w' = w := by
  unfold nanW
  go_enter Try.func72, Try.ntmps72
  go_wp2
  go_ret
  exact ⟨rfl, rfl⟩

theorem fin_num {s : Nat} (h : Flt.Fin s) : nan FloatKind.f64.format s = false := by
  show nan Ieee.double s = false
  rw [nan64]
  exact decide_eq_false (by have := h.2; omega)

set_option maxRecDepth 100000 in
set_option maxHeartbeats 4000000 in
theorem polar_spec (sz a p m s r : Nat) (zs zp : Option Nat) (n : Int) (hs : IsF sz zs) (ha : IsF a zp) (hf : finO zp = true) (hp : wrapO zp = some p) (hm : floatBits .mul .f64 p w1024 = some m) (h2 : floatBits .add .f64 m half = some s) (hfin : Flt.Fin s) (hn : Has (floW s) (n : Rat)) (hb : n.natAbs ≤ 10000) (hr : n % 1024 = (r : Int)) (hr2 : r ≤ 1024) (w : World) :
    Calls Try.prog 39 #[.float .f64 sz, .float .f64 a] w (PolTo (fop .mul .f64 (turn 1024 r).1 zs) (fop .mul .f64 (turn 1024 r).2 zs) w) := by
  have C := Lib.hid (fun w => finite_spec a ha.lt w)
  rw [ha.cn, hf] at C
  have W := Lib.hid (fun w => wrap_spec a zp ha w)
  rw [hp] at W
  have e1 := fun w => fres_some hm w
  have e2 := fcnt_some hm
  have e3 := fun w => fres_some h2 w
  have e4 := fcnt_some h2
  unfold w1024 at e1 e2
  unfold half at e3 e4
  have FL := Lib.hid (fun w => floor_any s (fin_num hfin) w)
  have TI := fun w => run_toInt (P := Try.prog) 29 2 hn.1 hn.2 (by omega) (by kernel_rfl) Try.underlying2 w
  have RM := Lib.hid (fun w => restM_any n 1024 r (by omega) (by omega) hr w)
  have TS := Lib.hid (fun w => turn_spec4 1024 r (by omega) (by omega) hr2 w)
  have HS := Lib.hid hs
  obtain ⟨v, hv⟩ : ∃ v, floW s = v := ⟨_, rfl⟩
  rw [hv] at FL TI
  clear hs ha hf hp hm h2 hfin hn hv hr hr2
  go_enter Try.func39, Try.ntmps39
  go_wp2_with fail
  refine (C.out _).mono ?_
  rintro e w' ⟨rfl, n1, rfl⟩
  go_wp2_with fail
  refine (W.out _).mono ?_
  rintro e w' ⟨q, rfl, hq, n2, rfl⟩
  have eq : q = p := (num_of_cn hq.cn).2
  subst eq
  clear hq
  go_wp2_with fail
  refine (FL.out _).mono ?_
  rintro e w' ⟨rfl, rfl⟩
  go_wp2_with fail
  refine (RM.out _).mono ?_
  rintro e w' ⟨rfl, rfl⟩
  go_wp2_with fail
  refine (TS.out _).mono ?_
  rintro e w' ⟨x, y, rfl, hx, hy, n3, rfl⟩
  have TM := Lib.hid (fun w => timesS_any x y sz _ _ _ hx hy HS.out w)
  clear hx hy
  go_wp2_with fail
  refine (TM.out _).mono ?_
  rintro e w3 ⟨x', y', rfl, hx, hy, hb3⟩
  have HX := Lib.hid hx
  have HY := Lib.hid hy
  have HB := Lib.hid (below_step (below_draws (Below.refl w.heap.size w) _) hb3 (Nat.le_refl _))
  clear hx hy hb3
  go_wp2
  go_ret
  exact ⟨x', y', rfl, HX.out, HY.out, HB.out⟩

set_option maxRecDepth 100000 in
set_option maxHeartbeats 4000000 in
theorem polar_impl (sz a p m s r : Nat) (zs zp : Option Nat) (n : Int) (hs : IsF sz zs) (ha : IsF a zp) (hf : finO zp = true) (hp : wrapO zp = some p) (hm : floatBits .mul .f64 p w1024 = some m) (h2 : floatBits .add .f64 m half = some s) (hfin : Flt.Fin s) (hn : Has (floW s) (n : Rat)) (hb : n.natAbs ≤ 10000) (hr : n % 1024 = (r : Int)) (hr2 : r ≤ 1024) (w : World) :
    Calls Try.prog 40 #[.float .f64 sz, .float .f64 a] w (PolTo (fop .mul .f64 (turn 1024 r).1 zs) (fop .mul .f64 (turn 1024 r).2 zs) w) := by
  have C := Lib.hid (fun w => isFiniteReal_any a ha.lt w)
  rw [ha.cn, hf] at C
  have W := Lib.hid (fun w => wrap_impl a zp ha w)
  rw [hp] at W
  have e1 := fun w => fres_some hm w
  have e2 := fcnt_some hm
  have e3 := fun w => fres_some h2 w
  have e4 := fcnt_some h2
  unfold w1024 at e1 e2
  unfold half at e3 e4
  have FL := Lib.hid (fun w => floor_any s (fin_num hfin) w)
  have TI := fun w => run_toInt (P := Try.prog) 29 2 hn.1 hn.2 (by omega) (by kernel_rfl) Try.underlying2 w
  have RT := Lib.hid (fun (b : Nat) w hc => restT_any 1024 n r b 0 w (by omega) (by omega) hr hr2 hc (by omega))
  have HS := Lib.hid hs
  have hmm := @run_makeMap Try.prog
  obtain ⟨v, hv⟩ : ∃ v, floW s = v := ⟨_, rfl⟩
  rw [hv] at FL TI
  clear hs ha hf hp hm h2 hfin hn hv hr hr2
  have NI : Hid (∀ w, Calls Try.prog 66 #[.float .f64 m] w fun e w' => e = .returned (.float .f64 v) ∧ w' = w) := by
    refine Lib.hid fun w => ?_
    clear C W TI RT hmm
    go_enter Try.func66, Try.ntmps66
    go_wp2_with fail
    refine (FL.out _).mono ?_
    rintro e w' ⟨rfl, rfl⟩
    go_wp2
    go_ret
    exact ⟨rfl, rfl⟩
  clear e3 e4 FL
  go_enter Try.func40, Try.ntmps40
  go_wp2_with fail
  refine (C.out _).mono ?_
  rintro e w' ⟨rfl, rfl⟩
  go_wp2_with fail
  refine (W.out _).mono ?_
  rintro e w1 ⟨q, rfl, hq, n2, rfl⟩
  have eq : q = p := (num_of_cn hq.cn).2
  subst eq
  clear hq
  go_wp2_with fail
  refine (NI.out _).mono ?_
  rintro e w1 ⟨rfl, rfl⟩
  go_wp2_with fail
  refine (RT.out _ _ (Cache.made _)).mono ?_
  rintro e w2 ⟨x, y, rfl, hx, hy, hc2, hg2⟩
  have TM := Lib.hid (fun w => timesI_any x y sz _ _ _ hx hy HS.out w)
  have HB2 : Hid (Below w'.heap.size w' w2) := ((below_draws (Below.refl w'.heap.size w') n2).alloc (by simp) _).grown hg2 (by simp) (fun b e => by cases e; simp)
  clear hx hy hc2 hg2
  go_wp2_with fail
  refine (TM.out _).mono ?_
  rintro e w3 ⟨x', y', rfl, hx, hy, hb3⟩
  have HX := Lib.hid hx
  have HY := Lib.hid hy
  have HB := Lib.hid (below_step HB2.out hb3 HB2.out.size)
  clear hx hy hb3
  go_wp2
  go_ret
  exact ⟨x', y', rfl, HX.out, HY.out, HB.out⟩

set_option maxRecDepth 100000 in
theorem polarN_spec (sz a : Nat) (zp : Option Nat) (ha : IsF a zp) (hf : finO zp = false) (w : World) :
    Calls Try.prog 39 #[.float .f64 sz, .float .f64 a] w (PolTo none none w) := by
  have C := Lib.hid (fun w => finite_spec a ha.lt w)
  rw [ha.cn, hf] at C
  have N := Lib.hid (fun w => nan_any w)
  clear ha hf
  go_enter Try.func39, Try.ntmps39
  go_wp2_with fail
  refine (C.out _).mono ?_
  rintro e w' ⟨rfl, n1, rfl⟩
  go_wp2_with fail
  refine (N.out _).mono ?_
  rintro e w' ⟨rfl, rfl⟩
  go_wp2_with fail
  refine (N.out _).mono ?_
  rintro e w' ⟨rfl, rfl⟩
  go_wp2
  go_ret
  exact ⟨nanW, nanW, rfl, isF_nan, isF_nan, below_draws (Below.refl _ _) _⟩
set_option maxRecDepth 100000 in
theorem polarN_impl (sz a : Nat) (zp : Option Nat) (ha : IsF a zp) (hf : finO zp = false) (w : World) :
    Calls Try.prog 40 #[.float .f64 sz, .float .f64 a] w (PolTo none none w) := by
  have C := Lib.hid (fun w => isFiniteReal_any a ha.lt w)
  rw [ha.cn, hf] at C
  have N := Lib.hid (fun w => nan_any w)
  clear ha hf
  go_enter Try.func40, Try.ntmps40
  go_wp2_with fail
  refine (C.out _).mono ?_
  rintro e w' ⟨rfl, rfl⟩
  go_wp2_with fail
  refine (N.out _).mono ?_
  rintro e w' ⟨rfl, rfl⟩
  go_wp2_with fail
  refine (N.out _).mono ?_
  rintro e w' ⟨rfl, rfl⟩
  go_wp2
  go_ret
  exact ⟨nanW, nanW, rfl, isF_nan, isF_nan, Below.refl _ _⟩

end Go.Proofs.Ytpobbicbfnglaaa
