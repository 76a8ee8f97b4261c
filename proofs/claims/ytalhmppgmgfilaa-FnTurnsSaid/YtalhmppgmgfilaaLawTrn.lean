import Derived.Test.YtalhmppgmgfilaaTrnW
import Derived.Test.YtalhmppgmgfilaaWalkSame
/-
  The walk of the law FnTurns.
-/
set_option linter.unusedVariables false
set_option linter.unusedSimpArgs false
namespace Go.Proofs.Ytalhmppgmgfilaa
open Go.RowKit Flt Turn
attribute [local go_sem ↓] run_eqlC run_neqC

theorem tc_reads {w : World} {v : Value} {xs : List C} (h : Reads w v (cvals xs)) : ∀ a n cap, v = .slice a n cap → ∀ k, k < n → ∃ g, a = some ⟨g, 0, none⟩ ∧ g < w.heap.size ∧ w.cell? ⟨g, k, none⟩ = some (.complex .f64 (xs.getD k (0, 0)).1 (xs.getD k (0, 0)).2) := by
  intro a n cap e k hk
  generalize hcs : cvals xs = cs at h
  cases h with
  | none a cap => simp only [Value.slice.injEq] at e; omega
  | row g cap L cs hL h0 hc hm hh =>
    simp only [Value.slice.injEq] at e
    obtain ⟨e1, e2, -⟩ := e
    have hl : xs.length = L := by rw [← hL, ← hcs, cvals_length]
    have hc := hh k (by omega)
    refine ⟨g, e1.symm, World.block_lt_of_cell? _ _ hc, ?_⟩
    rw [hc, ← hcs]
    simp [cvals, cval, List.getD, show k < xs.length by omega]
theorem tc_form {w : World} {v : Value} {cs : List Value} (h : Reads w v cs) : ∃ a cap, v = .slice a cs.length cap := by
  cases h with
  | none a cap => exact ⟨a, cap, rfl⟩
  | row g cap L cs hL => subst hL; exact ⟨_, cap, rfl⟩

theorem eqC_has {a b c d : Nat} {p q : Rat} (ha : Has a p) (hb : Has b q) (hc : Has c p) (hd : Has d q) : eqC .f64 a b c d = true := by
  unfold eqC
  rw [eq_has ha hc, eq_has hb hd]; rfl
theorem nan_f32 {x u : Nat} (h : floatToFloatBits .f64 x .f32 = some u) : nan FloatKind.f32.format u = false := by
  unfold floatToFloatBits at h
  rw [if_neg (by decide)] at h
  split at h
  · cases h
  · cases h
    exact nan_write _ rfl
  · split at h
    · cases h
    · cases h
      exact nan_write _ rfl
theorem eqC_self32 {u v x y : Nat} (hu : floatToFloatBits .f64 x .f32 = some u) (hv : floatToFloatBits .f64 y .f32 = some v) : eqC .f32 u v u v = true := by
  unfold eqC
  have h1 := nan_f32 hu
  have h2 := nan_f32 hv
  rw [ord_eq h1 h1 rfl, ord_eq h2 h2 rfl]; rfl

theorem TV.conj' {n k : Nat} {r s : Rat} (h : TV n k r s) (hn : 0 < n) (hk : k < n) : TV n ((n - k) % n) r (-s) := by
  by_cases h0 : k = 0
  · subst h0
    rw [Nat.sub_zero, Nat.mod_self]
    have h1 := TV.zero hn
    have e1 := h.1.uniq h1.1
    have e2 := h.2.uniq h1.2
    subst e1 e2
    rw [show -(0 : Rat) = 0 by decide]; exact h
  · rw [Nat.mod_eq_of_lt (by omega)]
    exact h.conj hn (by omega) hk

/-- The size of a turn. -/
theorem TV.one {n k : Nat} {r s : Rat} (h : TV n k r s) (hn : 0 < n) (hn2 : n ≤ 2048) (hk : k ≤ n) : Near (r * r + s * s) 1 (57 * ulp) ∧ Size r (101 / 100) ∧ Size s (101 / 100) := by
  have u0 : 0 ≤ ulp := by decide +kernel
  have dlu : dl ≤ ulp / 100 := by decide +kernel
  have hu := ulp_val
  obtain ⟨x1, x2⟩ := h.near hn hn2 hk
  have sk := part_size hn hk
  have h1 := cq_sq sk
  obtain ⟨s1, s2⟩ := cq_size sk
  generalize cq ((k : Rat) / (n : Rat)) = C at *
  generalize sq ((k : Rat) / (n : Rat)) = S at *
  have rs : Size r (101 / 100) := by
    obtain ⟨p1, p2⟩ := x1
    obtain ⟨q1, q2⟩ := s1
    constructor <;> grind
  have ss : Size s (101 / 100) := by
    obtain ⟨p1, p2⟩ := x2
    obtain ⟨q1, q2⟩ := s2
    constructor <;> grind
  have cs : Size C (101 / 100) := by
    obtain ⟨q1, q2⟩ := s1
    constructor <;> grind
  have cs' : Size S (101 / 100) := by
    obtain ⟨q1, q2⟩ := s2
    constructor <;> grind
  have m1 := near_mul x1 rs
  have m2 := near_mul x2 ss
  have m3 := near_mul x1 cs
  have m4 := near_mul x2 cs'
  rw [Rat.mul_comm r C] at m3
  rw [Rat.mul_comm s S] at m4
  refine ⟨?_, rs, ss⟩
  clear rs ss cs cs' s1 s2 x1 x2 sk h
  generalize r * r = v1 at *
  generalize s * s = v2 at *
  generalize C * r = v3 at *
  generalize S * s = v4 at *
  generalize C * C = w1 at *
  generalize S * S = w2 at *
  unfold Near at *
  constructor <;> grind

set_option maxRecDepth 100000 in
theorem squareOf_any (a b : Nat) (r s : Rat) (ha : Has a r) (hb : Has b s) (h1 : Near (r * r + s * s) 1 (57 * ulp)) (hr : Size r (101 / 100)) (hs : Size s (101 / 100)) (w : World) :
    Calls Try.prog 24 #[.complex .f64 a b] w fun e w' => ∃ d q, e = .returned (.float .f64 d) ∧ Has d q ∧ Near q 1 (61 * ulp) ∧ w' = w := by
  have u0 : 0 ≤ ulp := by decide +kernel
  have hu := ulp_val
  have hti := tiny_le
  have ht0 := tiny_pos
  obtain ⟨x, p, x1, x2, E1⟩ := mul_near ha ha ((hr.mul hr).mono (show (101 / 100 : Rat) * (101 / 100) ≤ 103 / 100 by decide +kernel)) (by decide +kernel)
  obtain ⟨y, q, y1, y2, E2⟩ := mul_near hb hb ((hs.mul hs).mono (show (101 / 100 : Rat) * (101 / 100) ≤ 103 / 100 by decide +kernel)) (by decide +kernel)
  have n1 : Near (p + q) 1 (60 * ulp - ulp / 2) := by
    generalize r * r = v1 at *
    generalize s * s = v2 at *
    obtain ⟨a1, a2⟩ := h1
    obtain ⟨b1, b2⟩ := x2
    obtain ⟨c1, c2⟩ := y2
    constructor <;> grind
  have n2 : Size (p + q) (11 / 10) := by
    obtain ⟨a1, a2⟩ := n1
    constructor <;> grind
  obtain ⟨z, t, z1, z2, E3⟩ := add_near x1 y1 n2 (by decide +kernel)
  have n3 : Near t 1 (61 * ulp) := by
    obtain ⟨a1, a2⟩ := n1
    obtain ⟨b1, b2⟩ := z2
    constructor <;> grind
  clear x2 y2 n1 n2 z2 x1 y1 ha hb h1 hr hs hu hti ht0 u0
  have HZ := Lib.hid (And.intro z1 n3)
  clear z1 n3
  go_enter Try.func24, Try.ntmps24
  go_wp2_with (go_at_call 45; go_in)
  go_ret
  exact ⟨z, t, rfl, HZ.out.1, HZ.out.2, rfl⟩

set_option maxRecDepth 100000 in
theorem prodSpec_any (a b c d : Nat) (r s r' s' X Y : Rat) (ha : Has a r) (hb : Has b s) (hc : Has c r') (hd : Has d s') (hr : Size r (101 / 100)) (hs : Size s (101 / 100)) (hr' : Size r' (101 / 100)) (hs' : Size s' (101 / 100))
    (h1 : Near (r * r' - s * s') X (100 * ulp)) (h2 : Near (r * s' + s * r') Y (100 * ulp)) (hX : Size X (101 / 100)) (hY : Size Y (101 / 100)) (w : World) :
    Calls Try.prog 25 #[.complex .f64 a b, .complex .f64 c d] w fun e w' => ∃ u v p q, e = .returned (.complex .f64 u v) ∧ Has u p ∧ Has v q ∧ Near p X (104 * ulp) ∧ Near q Y (104 * ulp) ∧ w' = w := by
  have u0 : 0 ≤ ulp := by decide +kernel
  have hu := ulp_val
  have hti := tiny_le
  have ht0 := tiny_pos
  have k : (101 / 100 : Rat) * (101 / 100) ≤ 103 / 100 := by decide +kernel
  obtain ⟨x1, p1, f1, g1, E1⟩ := mul_near ha hc ((hr.mul hr').mono k) (by decide +kernel)
  obtain ⟨x2, p2, f2, g2, E2⟩ := mul_near hb hd ((hs.mul hs').mono k) (by decide +kernel)
  obtain ⟨x3, p3, f3, g3, E3⟩ := mul_near ha hd ((hr.mul hs').mono k) (by decide +kernel)
  obtain ⟨x4, p4, f4, g4, E4⟩ := mul_near hb hc ((hs.mul hr').mono k) (by decide +kernel)
  generalize r * r' = v1 at *
  generalize s * s' = v2 at *
  generalize r * s' = v3 at *
  generalize s * r' = v4 at *
  have n1 : Near (p1 - p2) X (102 * ulp + ulp / 2) := by
    obtain ⟨a1, a2⟩ := h1
    obtain ⟨b1, b2⟩ := g1
    obtain ⟨c1, c2⟩ := g2
    constructor <;> grind
  have n2 : Near (p3 + p4) Y (102 * ulp + ulp / 2) := by
    obtain ⟨a1, a2⟩ := h2
    obtain ⟨b1, b2⟩ := g3
    obtain ⟨c1, c2⟩ := g4
    constructor <;> grind
  have s1 : Size (p1 - p2) (11 / 10) := by
    obtain ⟨a1, a2⟩ := n1
    obtain ⟨b1, b2⟩ := hX
    constructor <;> grind
  have s2 : Size (p3 + p4) (11 / 10) := by
    obtain ⟨a1, a2⟩ := n2
    obtain ⟨b1, b2⟩ := hY
    constructor <;> grind
  obtain ⟨z1, t1, f5, g5, E5⟩ := sub_near f1 f2 s1 (by decide +kernel)
  obtain ⟨z2, t2, f6, g6, E6⟩ := add_near f3 f4 s2 (by decide +kernel)
  have n3 : Near t1 X (104 * ulp) := by
    obtain ⟨a1, a2⟩ := n1
    obtain ⟨b1, b2⟩ := g5
    constructor <;> grind
  have n4 : Near t2 Y (104 * ulp) := by
    obtain ⟨a1, a2⟩ := n2
    obtain ⟨b1, b2⟩ := g6
    constructor <;> grind
  have HZ := Lib.hid (And.intro f5 (And.intro f6 (And.intro n3 n4)))
  clear n1 n2 n3 n4 s1 s2 f1 f2 f3 f4 f5 f6 g1 g2 g3 g4 g5 g6 ha hb hc hd hr hs hr' hs' h1 h2 hX hY hu hti ht0 u0 k
  go_enter Try.func25, Try.ntmps25
  go_wp2_with (go_at_call 46; go_in)
  go_ret
  exact ⟨z1, z2, t1, t2, rfl, HZ.out.1, HZ.out.2.1, HZ.out.2.2.1, HZ.out.2.2.2, rfl⟩

theorem conjSpec_any (a b : Nat) (w : World) :
    Calls Try.prog 20 #[.complex .f64 a b] w fun e w' => e = .returned (.complex .f64 a (Op.negFloat .f64 b)) ∧ w' = w := by
  go_enter Try.func20, Try.ntmps20
  go_wp2_with (go_at_call 42; go_in)
  go_ret
  exact ⟨rfl, rfl⟩

set_option maxRecDepth 100000 in
theorem narrowSpec_any (a b : Nat) (w : World) :
    Calls Try.prog 22 #[.complex .f64 a b] w fun e w' => ∃ u v n, e = .returned (.complex .f32 u v) ∧ Narrows a u ∧ Narrows b v ∧ w' = w.drewN n := by
  go_enter Try.func22, Try.ntmps22
  go_wp2_with (first
    | (refine wpList_narrowD _ rfl 24 33 _ rfl a b rfl (by kernel_rfl) Try.underlying33 ?_; intro r s n hr hs; have HR := Lib.hid hr; have HS := Lib.hid hs; clear hr hs)
    | (go_at_call 44; go_in))
  go_ret
  exact ⟨_, _, _, rfl, HR.out, HS.out, rfl⟩

end Go.Proofs.Ytalhmppgmgfilaa
