import Derived.Test.YtpphmolfhogepaaDoorInz
import Derived.Deep.Slices
import Derived.Lib.SmallJoins
/-
  Deeds that came in, opened; which are valid, by the model and by the program.
-/
set_option linter.unusedVariables false
set_option linter.unusedSimpArgs false
namespace Go.Proofs.YtpphmolfhogepaaDoor
open Go.RowKit Go.ChangeShapes Go.WideShapes

/-- A deed. -/
structure Dd where
  kind : Int
  a : Int
  b : Int
  c : Int
/-- A deed as a value. -/
def ddV (d : Dd) : Value := .agg #[.int .i64 d.kind, .int .i64 d.a, .int .i64 d.b, .int .i64 d.c]
/-- A deed that came in. -/
def DeedIn (w : World) (v : Value) (d : Dd) : Prop := v = ddV d

section
variable {H : Type} {enc : TypeId × Value → H} {P : Program} {w : World} {base : Nat} {held : Bool}
theorem dd_four {xs : List Value} (h : xs.length = 4) : ∃ a b c d, xs = [a, b, c, d] := by
  match xs, h with
  | [a, b, c, d], _ => exact ⟨a, b, c, d, rfl⟩
theorem deedIn_open {r : Reach} {b0 : Nat} {t : TypeId} {f0 f1 f2 f3 : Field} {v : Value} {d : DataW H} {p : List MemPlace}
    (ht : P.underlying t = some (.struct #[f0, f1, f2, f3])) (hone : Go.Deep.oneCellFields P #[f0, f1, f2, f3] = true)
    (e0 : P.underlying f0.type = some (.int .i64)) (e1 : P.underlying f1.type = some (.int .i64)) (e2 : P.underlying f2.type = some (.int .i64)) (e3 : P.underlying f3.type = some (.int .i64)) (hC : P.cellsOf t = 4)
    (hv : Value.okWide P w r b0 t v) (h : DataW.Trod enc P w base (fun _ => true) held t v d p) : ∃ s, DeedIn w v s := by
  obtain ⟨cs, rfl, hsz⟩ := okWide_struct ht hv
  obtain ⟨fuel, hf⟩ := h
  obtain ⟨xs, n, _, _, hl, hxl, hf⟩ := DataW.trod_struct ht hf
  obtain ⟨a, b, c, d, hcs⟩ := dd_four (hl.trans hC)
  have hx4 : xs.length = 4 := hxl
  obtain ⟨o0, k0⟩ := Go.Deep.hone_of hone 0 f0 rfl
  obtain ⟨o1, k1⟩ := Go.Deep.hone_of hone 1 f1 rfl
  obtain ⟨o2, k2⟩ := Go.Deep.hone_of hone 2 f2 rfl
  obtain ⟨o3, k3⟩ := Go.Deep.hone_of hone 3 f3 rfl
  have g0 := hf 0 f0 rfl
  have g1 := hf 1 f1 rfl
  have g2 := hf 2 f2 rfl
  have g3 := hf 3 f3 rfl
  rw [hcs] at g0 g1 g2 g3
  rw [o0, k0, List.getElem?_eq_getElem (by omega)] at g0
  rw [o1, k1, List.getElem?_eq_getElem (by omega)] at g1
  rw [o2, k2, List.getElem?_eq_getElem (by omega)] at g2
  rw [o3, k3, List.getElem?_eq_getElem (by omega)] at g3
  simp only [List.drop, List.take] at g0 g1 g2 g3
  obtain ⟨z0, q0, _⟩ := DataW.trod_int e0 g0
  obtain ⟨z1, q1, _⟩ := DataW.trod_int e1 g1
  obtain ⟨z2, q2, _⟩ := DataW.trod_int e2 g2
  obtain ⟨z3, q3, _⟩ := DataW.trod_int e3 g3
  simp only [List.cons.injEq, and_true] at q0 q1 q2 q3
  subst q0; subst q1; subst q2; subst q3
  refine ⟨⟨z0, z1, z2, z3⟩, ?_⟩
  obtain ⟨l⟩ := cs
  have : l = [.int .i64 z0, .int .i64 z1, .int .i64 z2, .int .i64 z3] := by simpa [Value.cells] using hcs
  subst this
  rfl
end

/-- How many numbers the text of a kind mentions. -/
def ddCnt (q : Nat) : Nat := [0, 3, 3, 1, 1, 1, 2, 1, 1].getD q 0
def ddWord (q : Nat) : ByteArray := [(⟨#[]⟩ : ByteArray), ⟨#[115, 101, 110, 100]⟩, ⟨#[112, 97, 115, 115]⟩, ⟨#[100, 101, 108, 105, 118, 101, 114]⟩, ⟨#[99, 111, 112, 121]⟩, ⟨#[100, 114, 111, 112]⟩, ⟨#[115, 112, 111, 105, 108]⟩, ⟨#[115, 121, 110, 99]⟩, ⟨#[99, 114, 97, 115, 104]⟩].getD q ⟨#[]⟩
/-- Which deeds are valid. -/
def validDd (d : Dd) : Bool := inZ d.kind 1 8 && inZ d.a 0 999 && inZ d.b 0 999 && inZ d.c 0 999 && (decide (1 < ddCnt d.kind.toNat) || decide (d.b = 0)) && (decide (2 < ddCnt d.kind.toNat) || decide (d.c = 0))

theorem kinds8 {q : Nat} (h1 : 1 ≤ q) (h8 : q ≤ 8) : q = 1 ∨ q = 2 ∨ q = 3 ∨ q = 4 ∨ q = 5 ∨ q = 6 ∨ q = 7 ∨ q = 8 := by omega

theorem l09Numbers_any (q : Nat) (h1 : 1 ≤ q) (h8 : q ≤ 8) (w : World) :
    Calls Tryd.prog 15 #[.int .i64 q] w fun e w' => e = .returned (.int .i64 (ddCnt q)) ∧ w' = w := by
  rcases kinds8 h1 h8 with rfl | rfl | rfl | rfl | rfl | rfl | rfl | rfl
  all_goals
    go_enter Tryd.func15, Tryd.ntmps15
    go_wp2
    go_ret
    exact ⟨rfl, rfl⟩

set_option maxRecDepth 100000 in
set_option maxHeartbeats 4000000 in
theorem validDeed_spec (d : Dd) (w : World) :
    Calls Tryd.prog 6 #[ddV d] w fun e w' => e = .returned (.bool (validDd d)) ∧ Below w.heap.size w w' := by
  obtain ⟨kd, a, b, c⟩ := d
  have I1 := in_any kd 1 8
  have I2 := in_any a 0 999
  have I3 := in_any b 0 999
  have I4 := in_any c 0 999
  have HK : Hid (inZ kd 1 8 = true → ∃ q : Nat, kd = q ∧ 1 ≤ q ∧ q ≤ 8) := fun h => by
    have := inZ_iff.1 h
    exact ⟨kd.toNat, by omega, by omega, by omega⟩
  have HV : Hid (validDd ⟨kd, a, b, c⟩ = (inZ kd 1 8 && inZ a 0 999 && inZ b 0 999 && inZ c 0 999 && (decide (1 < ddCnt kd.toNat) || decide (b = 0)) && (decide (2 < ddCnt kd.toNat) || decide (c = 0)))) := rfl
  unfold ddV
  simp only
  obtain ⟨p1, e1⟩ : ∃ p, inZ kd 1 8 = p := ⟨_, rfl⟩
  obtain ⟨p2, e2⟩ : ∃ p, inZ a 0 999 = p := ⟨_, rfl⟩
  obtain ⟨p3, e3⟩ : ∃ p, inZ b 0 999 = p := ⟨_, rfl⟩
  obtain ⟨p4, e4⟩ : ∃ p, inZ c 0 999 = p := ⟨_, rfl⟩
  rw [e1] at I1 HK
  rw [e2] at I2
  rw [e3] at I3
  rw [e4] at I4
  rw [e1, e2, e3, e4] at HV
  have I1 := Lib.hid I1
  have I2 := Lib.hid I2
  have I3 := Lib.hid I3
  have I4 := Lib.hid I4
  clear e1 e2 e3 e4
  cases p1
  · rw [HV.out]
    go_enter Tryd.func6, Tryd.ntmps6
    go_wp2_with (go_at_call 14; with_reducible refine (I1.out _).mono ?_; rintro e w1 ⟨rfl, rfl⟩)
    go_ret
    exact ⟨by simp, (Below.refl _ _).alloc (Nat.le_refl _) _⟩
  cases p2
  · rw [HV.out]
    go_enter Tryd.func6, Tryd.ntmps6
    go_wp2_with (first | (go_at_call 14; with_reducible refine (I1.out _).mono ?_; rintro e w1 ⟨rfl, rfl⟩) | (go_at_call 14; with_reducible refine (I2.out _).mono ?_; rintro e w1 ⟨rfl, rfl⟩) | fail)
    go_ret
    exact ⟨by simp, (Below.refl _ _).alloc (Nat.le_refl _) _⟩
  cases p3
  · rw [HV.out]
    go_enter Tryd.func6, Tryd.ntmps6
    go_wp2_with (first | (go_at_call 14; with_reducible refine (I1.out _).mono ?_; rintro e w1 ⟨rfl, rfl⟩) | (go_at_call 14; with_reducible refine (I2.out _).mono ?_; rintro e w1 ⟨rfl, rfl⟩) | (go_at_call 14; with_reducible refine (I3.out _).mono ?_; rintro e w1 ⟨rfl, rfl⟩) | fail)
    go_ret
    exact ⟨by simp, (Below.refl _ _).alloc (Nat.le_refl _) _⟩
  cases p4
  · rw [HV.out]
    go_enter Tryd.func6, Tryd.ntmps6
    go_wp2_with (first | (go_at_call 14; with_reducible refine (I1.out _).mono ?_; rintro e w1 ⟨rfl, rfl⟩) | (go_at_call 14; with_reducible refine (I2.out _).mono ?_; rintro e w1 ⟨rfl, rfl⟩) | (go_at_call 14; with_reducible refine (I3.out _).mono ?_; rintro e w1 ⟨rfl, rfl⟩) | (go_at_call 14; with_reducible refine (I4.out _).mono ?_; rintro e w1 ⟨rfl, rfl⟩) | fail)
    go_ret
    exact ⟨by simp, (Below.refl _ _).alloc (Nat.le_refl _) _⟩
  obtain ⟨q, rfl, h1, h8⟩ := HK.out rfl
  have N1 := Lib.hid (l09Numbers_any q h1 h8)
  rw [HV.out]
  simp only [Int.toNat_natCast, Bool.true_and]
  clear HV HK
  obtain ⟨m, hm⟩ : ∃ m, ddCnt q = m := ⟨_, rfl⟩
  rw [hm] at N1
  simp only [hm]
  have hn1 : decide ((1 : Int) < (m : Int)) = decide (1 < m) := by rw [decide_eq_decide]; omega
  have hn2 : decide ((2 : Int) < (m : Int)) = decide (2 < m) := by rw [decide_eq_decide]; omega
  have key : ∀ (pb pc : Bool), (b == 0) = pb → (c == 0) = pc → decide (b = 0) = pb ∧ decide (c = 0) = pc := fun pb pc h1 h2 => by
    subst h1; subst h2
    exact ⟨rfl, rfl⟩
  obtain ⟨pb, e5⟩ : ∃ p, (b == 0) = p := ⟨_, rfl⟩
  obtain ⟨pc, e6⟩ : ∃ p, (c == 0) = p := ⟨_, rfl⟩
  obtain ⟨r5, r6⟩ := key pb pc e5 e6
  simp only [r5, r6]
  obtain ⟨u1, hu1⟩ : ∃ p, decide (1 < m) = p := ⟨_, rfl⟩
  obtain ⟨u2, hu2⟩ : ∃ p, decide (2 < m) = p := ⟨_, rfl⟩
  simp only [hu1, hu2]
  rw [hu1] at hn1
  rw [hu2] at hn2
  clear key r5 r6 h1 h8 hm hu1 hu2
  cases u1 <;> cases u2 <;> cases pb <;> cases pc
  all_goals
    go_enter Tryd.func6, Tryd.ntmps6
    go_wp2_with (first | (go_at_call 14; with_reducible refine (I1.out _).mono ?_; rintro e w1 ⟨rfl, rfl⟩) | (go_at_call 14; with_reducible refine (I2.out _).mono ?_; rintro e w1 ⟨rfl, rfl⟩) | (go_at_call 14; with_reducible refine (I3.out _).mono ?_; rintro e w1 ⟨rfl, rfl⟩) | (go_at_call 14; with_reducible refine (I4.out _).mono ?_; rintro e w1 ⟨rfl, rfl⟩) | (go_at_call 15; with_reducible refine (N1.out _).mono ?_; rintro e w1 ⟨rfl, rfl⟩) | fail)
    go_ret
    exact ⟨rfl, (Below.refl _ _).alloc (Nat.le_refl _) _⟩

end Go.Proofs.YtpphmolfhogepaaDoor
