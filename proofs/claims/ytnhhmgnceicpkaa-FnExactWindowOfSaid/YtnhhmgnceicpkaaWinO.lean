import Derived.Test.YtnhhmgnceicpkaaTurnG
import Derived.Test.YtnhhmgnceicpkaaListF
import Derived.Test.YtnhhmgnceicpkaaWinC
/-
  The numbers of windows: the model's.
-/
set_option linter.unusedVariables false
set_option linter.unusedSimpArgs false
namespace Go.Proofs.Ytnhhmgnceicpkaa
open Go.RowKit Flt Turn
attribute [local go_sem] run_fadd run_fsub run_fmul run_fquo run_cadd run_csub

/-- The square root, up to NaNs. -/
def fsqrtO : Option Nat → Option Nat
  | some x => FloatKind.f64.format.sqrt x
  | none => none
/-- Its bits in the world w, and how often it draws. -/
def frt (x : Nat) (w : World) : Nat := match FloatKind.f64.format.sqrt x with
  | some r => r
  | none => Question.cut (.nanBits .f64 x x) (w.tape w.drawn (.nanBits .f64 x x))
def frtN (x : Nat) : Nat := match FloatKind.f64.format.sqrt x with
  | some _ => 0
  | none => 1

theorem run_sqrt (x : Nat) (w : World) : (callFunc 95 #[.float .f64 x]).run Try.prog w = .ok (.value (.float .f64 (frt x w))) (w.drewN (frtN x)) := by
  have h : (callFunc 95 #[.float .f64 x]).run Try.prog w = (do let v ← Extern.MathSqrt.sqrt #[.float .f64 x]; pure (.value v) : Sem Next).run Try.prog w := by kernel_rfl
  have h2 : Extern.MathSqrt.sqrt #[.float .f64 x] = (match FloatKind.f64.format.sqrt x with
    | some r => pure (.float .f64 r)
    | none => do pure (.float .f64 (← choose (.nanBits .f64 x x))) : Sem Value) := rfl
  rw [h, h2]
  unfold frt frtN
  cases hs : FloatKind.f64.format.sqrt x with
  | some r => simp; rfl
  | none => simp [Question.forced]; rfl

theorem isF_casesO {a : Nat} {z : Option Nat} (h : IsF a z) : (nan FloatKind.f64.format a = true ∧ z = none) ∨ (nan FloatKind.f64.format a = false ∧ z = some a) := by
  by_cases hn : nan FloatKind.f64.format a = true
  · exact .inl ⟨hn, by rw [← h.cn, cn_none hn]⟩
  · have hn : nan FloatKind.f64.format a = false := by simpa using hn
    exact .inr ⟨hn, by rw [← h.cn, cn_some hn]⟩

theorem frt_none {x : Nat} (h : FloatKind.f64.format.sqrt x = none) (w : World) : IsF (frt x w) none := by
  have e : frt x w = Question.cut (.nanBits .f64 x x) (w.tape w.drawn (.nanBits .f64 x x)) := by unfold frt; rw [h]
  rw [e]
  have c := cut_nan .f64 x x (w.tape w.drawn (.nanBits .f64 x x))
  exact ⟨cn_none c.1, c.2⟩

theorem isF_frt {x : Nat} {z : Option Nat} (hx : IsF x z) (w : World) : IsF (frt x w) (fsqrtO z) := by
  rcases isF_casesO hx with ⟨h, rfl⟩ | ⟨h, rfl⟩
  · have hn : FloatKind.f64.format.sqrt x = none := by
      obtain ⟨s, t, e⟩ := read_nan Ieee.double hbi64 (x := x) h
      show Ieee.double.sqrt x = none
      unfold Ieee.Format.sqrt
      rw [e]; rfl
    exact frt_none hn w
  · show IsF (frt x w) (FloatKind.f64.format.sqrt x)
    cases hs : FloatKind.f64.format.sqrt x with
    | none => exact frt_none hs w
    | some r =>
      have e : frt x w = r := by unfold frt; rw [hs]
      rw [e]
      have hs' : ((Ieee.double.read x).root (Ieee.double.fractionBits + 2)).map Ieee.double.write = some r := hs
      refine ⟨cn_some (nan_map_write Ieee.double (fun d e => root_num _ _ _ e) hs'), ?_⟩
      obtain ⟨d, -, rfl⟩ := Option.map_eq_some_iff.1 hs'
      exact Ieee.double.write_lt d

/-- The absolute value, up to NaNs. -/
def absO (z : Option Nat) : Option Nat := z.map (· % 9223372036854775808)
theorem isF_abs {a : Nat} {z : Option Nat} (h : IsF a z) : IsF (a % 9223372036854775808) (absO z) := by
  rcases isF_casesO h with ⟨hn, rfl⟩ | ⟨hn, rfl⟩
  · refine ⟨cn_none ?_, by omega⟩
    have h' : nan Ieee.double a = true := hn
    show nan Ieee.double (a % 9223372036854775808) = true
    rw [nan64] at h' ⊢
    rw [Nat.mod_mod]; exact h'
  · refine ⟨cn_some ?_, by omega⟩
    have h' : nan Ieee.double a = false := hn
    show nan Ieee.double (a % 9223372036854775808) = false
    rw [nan64] at h' ⊢
    rw [Nat.mod_mod]; exact h'

/-- The real part of a turn. -/
def cosO (n k : Nat) : Option Nat := (turn n (k % n)).1
/-- A number of a window. -/
def hannO (n i : Nat) : Option Nat := fop .sub .f64 (some 4602678819172646912) (fop .mul .f64 (some 4602678819172646912) (cosO n i))
def winO (kind n i : Nat) : Option Nat :=
  if kind = 2 then fop .sub .f64 (some 4607182418800017408) (absO (fop .sub .f64 (fop .quo .f64 (some (floatOfInt .f64 ((2 * i : Nat) : Int))) (some (floatOfInt .f64 (n : Int)))) (some 4607182418800017408)))
  else if kind = 3 then hannO n i
  else if kind = 4 then fop .sub .f64 (some 4603039107142836552) (fop .mul .f64 (some 4601958243232267633) (cosO n i))
  else if kind = 5 then fsqrtO (hannO n i)
  else if kind = 6 then fop .add .f64 (fop .sub .f64 (some 4601237667291888353) (fop .mul .f64 (some 4602678819172646912) (cosO n i))) (fop .mul .f64 (some 4590429028186199163) (cosO n (2 * i)))
  else some 4607182418800017408

theorem cos_spec (n k : Nat) (hn : 0 < n) (hn2 : n ≤ 1000) (hk : k ≤ 10000) (w : World) :
    Calls Try.prog 87 #[.int .i64 n, .int .i64 k] w fun e w' => ∃ a m, e = .returned (.float .f64 a) ∧ IsF a (cosO n k) ∧ w' = w.drewN m := by
  have hr : k % n ≤ n := Nat.le_of_lt (Nat.mod_lt _ hn)
  have T := Lib.hid (turn_spec4 n (k % n) hn (by omega) hr)
  unfold cosO
  obtain ⟨r, hrr⟩ : ∃ r, k % n = r := ⟨_, rfl⟩
  rw [hrr] at T ⊢
  have h1 : ((k : Int)).tmod (n : Int) = (r : Int) := by rw [← hrr]; rfl
  have h2 : ((k : Int)) % (n : Int) = (r : Int) := by rw [← hrr]; rfl
  have hz : ¬ n = 0 := by omega
  have hzI : ¬ (n : Int) = 0 := by omega
  clear hrr hr
  go_enter Try.func87, Try.ntmps87
  go_wp2_with fail
  refine (T.out _).mono ?_
  rintro e w2 ⟨a, b, rfl, ha, hb, m, rfl⟩
  have HA := Lib.hid ha
  clear ha hb
  go_wp2
  go_ret
  exact ⟨a, m, rfl, HA.out, rfl⟩

theorem sqrt_any (a : Nat) (z : Option Nat) (ha : IsF a z) (w : World) :
    Calls Try.prog 88 #[.float .f64 a] w fun e w' => ∃ r m, e = .returned (.float .f64 r) ∧ IsF r (fsqrtO z) ∧ w' = w.drewN m := by
  have HS := Lib.hid (fun w => isF_frt ha w)
  have hq := run_sqrt a
  clear ha
  go_enter Try.func88, Try.ntmps88
  go_wp2
  go_ret
  exact ⟨_, _, rfl, HS.out _, rfl⟩

set_option maxRecDepth 100000 in
set_option maxHeartbeats 8000000 in
theorem value_spec (kind n i : Nat) (h1 : 1 ≤ kind) (h6 : kind ≤ 6) (hn : 0 < n) (hn2 : n ≤ 256) (hi : i < n) (w : World) :
    Calls Try.prog 78 #[.int .i64 kind, .int .i64 n, .int .i64 i] w fun e w' => ∃ a m, e = .returned (.float .f64 a) ∧ IsF a (winO kind n i) ∧ w' = w.drewN m := by
  have C1 := Lib.hid (cos_spec n i hn (by omega) (by omega))
  have C2 := Lib.hid (cos_spec n (2 * i) hn (by omega) (by omega))
  have one : IsF 4607182418800017408 (some 4607182418800017408) := IsF.lit (by decide) (by omega)
  have hk : kind = 1 ∨ kind = 2 ∨ kind = 3 ∨ kind = 4 ∨ kind = 5 ∨ kind = 6 := by omega
  rcases hk with rfl | rfl | rfl | rfl | rfl | rfl
  · have ez : winO 1 n i = some 4607182418800017408 := rfl
    rw [ez]
    clear C1 C2
    go_enter Try.func78, Try.ntmps78
    go_wp2
    go_ret
    exact ⟨_, 0, rfl, IsF.lit (by decide) (by omega), rfl⟩
  · have ez : winO 2 n i = fop .sub .f64 (some 4607182418800017408) (absO (fop .sub .f64 (fop .quo .f64 (some (floatOfInt .f64 ((2 * i : Nat) : Int))) (some (floatOfInt .f64 (n : Int)))) (some 4607182418800017408))) := rfl
    rw [ez]
    obtain ⟨J, hJ⟩ : ∃ J, 2 * i = J := ⟨_, rfl⟩
    have e2 : (2 : Int) * (i : Int) = (J : Int) := by omega
    have hJb : J ≤ 1000 := by omega
    rw [hJ]
    clear hJ
    have H1 := Lib.hid one
    have A1 := Lib.hid (fun (a : Nat) (ha : a < 18446744073709551616) => abs_any a ha)
    clear C1 C2 one
    go_enter Try.func78, Try.ntmps78
    go_wp2_with fail
    refine (A1.out _ (fres_lt64 _ _ _ _) _).mono ?_
    rintro e w' ⟨rfl, rfl⟩
    go_wp2
    go_ret
    exact ⟨_, _, rfl, isF_fres H1.out (isF_abs (isF_fres (isF_fres (IsF.ofInt _) (IsF.ofInt _) _) H1.out _)) _, by first | rfl | simp only [World.drewN_drewN]⟩
  · have ez : winO 3 n i = hannO n i := rfl
    rw [ez]
    have HF := Lib.hid (show IsF 4602678819172646912 (some 4602678819172646912) from IsF.lit (by decide) (by omega))
    clear C2 one
    go_enter Try.func78, Try.ntmps78
    go_wp2_with fail
    refine (C1.out _).mono ?_
    rintro e w2 ⟨a, m, rfl, ha, rfl⟩
    have HA := Lib.hid ha
    clear ha
    go_wp2
    go_ret
    exact ⟨_, _, rfl, isF_fres HF.out (isF_fres HF.out HA.out _) _, by first | rfl | simp only [World.drewN_drewN]⟩
  · have ez : winO 4 n i = fop .sub .f64 (some 4603039107142836552) (fop .mul .f64 (some 4601958243232267633) (cosO n i)) := rfl
    rw [ez]
    have HF := Lib.hid (show IsF 4603039107142836552 (some 4603039107142836552) from IsF.lit (by decide) (by omega))
    have HG := Lib.hid (show IsF 4601958243232267633 (some 4601958243232267633) from IsF.lit (by decide) (by omega))
    clear C2 one
    go_enter Try.func78, Try.ntmps78
    go_wp2_with fail
    refine (C1.out _).mono ?_
    rintro e w2 ⟨a, m, rfl, ha, rfl⟩
    have HA := Lib.hid ha
    clear ha
    go_wp2
    go_ret
    exact ⟨_, _, rfl, isF_fres HF.out (isF_fres HG.out HA.out _) _, by first | rfl | simp only [World.drewN_drewN]⟩
  · have ez : winO 5 n i = fsqrtO (hannO n i) := rfl
    rw [ez]
    have HF := Lib.hid (show IsF 4602678819172646912 (some 4602678819172646912) from IsF.lit (by decide) (by omega))
    have SQ := Lib.hid (fun a ha => sqrt_any a (hannO n i) ha)
    clear C2 one
    go_enter Try.func78, Try.ntmps78
    go_wp2_with fail
    refine (C1.out _).mono ?_
    rintro e w2 ⟨a, m, rfl, ha, rfl⟩
    have HA := Lib.hid ha
    clear ha
    go_wp2_with fail
    refine (SQ.out _ (isF_fres HF.out (isF_fres HF.out HA.out _) _) _).mono ?_
    rintro e w3 ⟨r, m2, rfl, hr, rfl⟩
    have HR := Lib.hid hr
    clear hr
    go_wp2
    go_ret
    exact ⟨_, _, rfl, HR.out, by first | rfl | simp only [World.drewN_drewN]⟩
  · have ez : winO 6 n i = fop .add .f64 (fop .sub .f64 (some 4601237667291888353) (fop .mul .f64 (some 4602678819172646912) (cosO n i))) (fop .mul .f64 (some 4590429028186199163) (cosO n (2 * i))) := rfl
    rw [ez]
    have HF := Lib.hid (show IsF 4602678819172646912 (some 4602678819172646912) from IsF.lit (by decide) (by omega))
    have HG := Lib.hid (show IsF 4601237667291888353 (some 4601237667291888353) from IsF.lit (by decide) (by omega))
    obtain ⟨J, hJ⟩ : ∃ J, 2 * i = J := ⟨_, rfl⟩
    have e2 : (2 : Int) * (i : Int) = (J : Int) := by omega
    have hJb : J ≤ 1000 := by omega
    rw [hJ] at C2 ⊢
    clear hJ
    have HH := Lib.hid (show IsF 4590429028186199163 (some 4590429028186199163) from IsF.lit (by decide) (by omega))
    clear one
    go_enter Try.func78, Try.ntmps78
    go_wp2_with fail
    refine (C1.out _).mono ?_
    rintro e w2 ⟨a, m, rfl, ha, rfl⟩
    have HA := Lib.hid ha
    clear ha
    go_wp2_with fail
    refine (C2.out _).mono ?_
    rintro e w3 ⟨b, m2, rfl, hb, rfl⟩
    have HB := Lib.hid hb
    clear hb
    go_wp2
    go_ret
    exact ⟨_, _, rfl, isF_fres (isF_fres HG.out (isF_fres HF.out HA.out _) _) (isF_fres HH.out HB.out _) _, by first | rfl | simp only [World.drewN_drewN]⟩

end Go.Proofs.Ytnhhmgnceicpkaa
