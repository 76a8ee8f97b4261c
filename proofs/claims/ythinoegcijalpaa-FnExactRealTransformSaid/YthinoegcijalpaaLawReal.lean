import Derived.Test.YthinoegcijalpaaRealI
import Derived.Test.YthinoegcijalpaaHeldF
/-
  The walk of the law on RealPair.
-/
set_option linter.unusedVariables false
set_option linter.unusedSimpArgs false
namespace Go.Proofs.Ythinoegcijalpaa
open Go.RowKit Flt Turn Fast

/-- RealPair of both is one, up to NaNs. -/
theorem pair_same {xs ys : List Nat} {n m : Nat} {c c' : Int} {f s f' s' : List C}
    (h : ((256 < n ∨ 256 < m) ∧ c = 3 ∧ f = [] ∧ s = []) ∨ (¬ (256 < n ∨ 256 < m) ∧ n ≠ m ∧ c = 2 ∧ f = [] ∧ s = []) ∨ (¬ (256 < n ∨ 256 < m) ∧ n = m ∧ c = 0 ∧ PairG xs ys n f s))
    (h' : ((256 < n ∨ 256 < m) ∧ c' = 3 ∧ f' = [] ∧ s' = []) ∨ (¬ (256 < n ∨ 256 < m) ∧ n ≠ m ∧ c' = 2 ∧ f' = [] ∧ s' = []) ∨ (¬ (256 < n ∨ 256 < m) ∧ n = m ∧ c' = 0 ∧ PairG xs ys n f' s')) :
    c = c' ∧ (f.length = f'.length ∧ ∀ j, j < f.length → ∃ z, IsC (f.getD j (0, 0)) z ∧ IsC (f'.getD j (0, 0)) z) ∧ (s.length = s'.length ∧ ∀ j, j < s.length → ∃ z, IsC (s.getD j (0, 0)) z ∧ IsC (s'.getD j (0, 0)) z) ∧ f.length = s.length ∧ f.length ≤ 256 := by
  rcases h with ⟨hb, rfl, rfl, rfl⟩ | ⟨hb, hn, rfl, rfl, rfl⟩ | ⟨hb, hn, rfl, zf, hz, hf, hs, hg⟩
  · rcases h' with ⟨_, rfl, rfl, rfl⟩ | ⟨hb', _⟩ | ⟨hb', _⟩
    · exact ⟨rfl, ⟨rfl, fun j hj => by simp at hj⟩, ⟨rfl, fun j hj => by simp at hj⟩, rfl, by simp⟩
    · exact absurd hb hb'
    · exact absurd hb hb'
  · rcases h' with ⟨hb', _⟩ | ⟨_, _, rfl, rfl, rfl⟩ | ⟨_, hn', _⟩
    · exact absurd hb' hb
    · exact ⟨rfl, ⟨rfl, fun j hj => by simp at hj⟩, ⟨rfl, fun j hj => by simp at hj⟩, rfl, by simp⟩
    · exact absurd hn' hn
  · rcases h' with ⟨hb', _⟩ | ⟨_, hn', _⟩ | ⟨_, _, rfl, zf', hz', hf', hs', hg'⟩
    · exact absurd hb' hb
    · exact absurd hn hn'
    · have e := hz.unique hz'
      subst e
      exact ⟨rfl, ⟨by omega, fun j hj => ⟨_, (hg j (by omega)).1, (hg' j (by omega)).1⟩⟩, ⟨by omega, fun j hj => ⟨_, (hg j (by omega)).2, (hg' j (by omega)).2⟩⟩, by omega, by omega⟩

theorem ReadsF.facts {w : World} {a : Option Addr} {len cap : Nat} {zs : List Nat} (h : ReadsF w (.slice a len cap) zs) : zs.length = len ∧ (∀ z ∈ zs, z < 18446744073709551616) ∧ (len : Int) ≤ 9223372036854775807 := by
  generalize hv : (Value.slice a len cap) = v at h
  cases h with
  | none a cap => simp only [Value.slice.injEq] at hv; obtain ⟨-, rfl, -⟩ := hv; exact ⟨rfl, fun z hz => by simp at hz, by omega⟩
  | row x cap L zs hL h0 hc hm hz hh => simp only [Value.slice.injEq] at hv; obtain ⟨-, rfl, -⟩ := hv; exact ⟨hL, hz, maxLen_int (Nat.le_trans hc hm)⟩

/-- The four results, in blocks of their own. -/
structure Four (w : World) (B1 B2 : Nat) (v1 v2 u1 u2 : Value) (f0 s0 : List C) (c d : List Value) : Prop where
  r1 : Row w B1 34 v1 (cvals f0)
  r2 : Row w B1 34 v2 (cvals s0)
  r3 : Row w B2 34 u1 c
  r4 : Row w B2 34 u2 d
  low1 : ∀ b, v1.ownBlock = some b → b < B2
  low2 : ∀ b, v2.ownBlock = some b → b < B2
  apart : ∀ b, u1.ownBlock = some b → u2.ownBlock ≠ some b

section
variable {w w' : World} {B1 B2 : Nat} {v1 v2 u1 u2 : Value} {f0 s0 : List C} {c d : List Value}
theorem Four.below (h : Four w B1 B2 v1 v2 u1 u2 f0 s0 c d) (hb : Below w.heap.size w w') : Four w' B1 B2 v1 v2 u1 u2 f0 s0 c d :=
  ⟨h.r1.below hb (fun k e => (h.r1.lt k e).2), h.r2.below hb (fun k e => (h.r2.lt k e).2), h.r3.below hb (fun k e => (h.r3.lt k e).2), h.r4.below hb (fun k e => (h.r4.lt k e).2), h.low1, h.low2, h.apart⟩
theorem Four.draws (h : Four w B1 B2 v1 v2 u1 u2 f0 s0 c d) (n : Nat) : Four (w.drewN n) B1 B2 v1 v2 u1 u2 f0 s0 c d := ⟨h.r1.drewN n, h.r2.drewN n, h.r3.drewN n, h.r4.drewN n, h.low1, h.low2, h.apart⟩
theorem Four.float {B : Nat} {y : Value} {cs : List Value} (h : Four w B1 B2 v1 v2 u1 u2 f0 s0 c d) (hy : Row w B 35 y cs) (hg : w.grownBy w' y.ownBlock) : Four w' B1 B2 v1 v2 u1 u2 f0 s0 c d := by
  have ne : (34 : TypeId) ≠ 35 := by decide
  exact ⟨h.r1.kept hg (h.r1.apart hy ne), h.r2.kept hg (h.r2.apart hy ne), h.r3.kept hg (h.r3.apart hy ne), h.r4.kept hg (h.r4.apart hy ne), h.low1, h.low2, h.apart⟩
theorem far_low {v u : Value} {B1 B2 : Nat} {cs cs' : List Value} {e e' : TypeId} (hv : ∀ b, v.ownBlock = some b → b < B2) (hu : Row w B2 e u cs) : v.ownBlock = none ∨ v.ownBlock ≠ u.ownBlock := by
  cases h : v.ownBlock with
  | none => exact .inl rfl
  | some b =>
    refine .inr fun e => ?_
    have := hv b h
    have := (hu.lt b e.symm).1
    omega
theorem Four.mark1 {c' : List Value} (h : Four w B1 B2 v1 v2 u1 u2 f0 s0 c d) (hg : w.grownBy w' u1.ownBlock) (hr : Row w' B2 34 u1 c') : Four w' B1 B2 v1 v2 u1 u2 f0 s0 c' d := by
  refine ⟨h.r1.kept hg (far_low (B1 := 0) (cs' := []) (e' := 0) h.low1 h.r3), h.r2.kept hg (far_low (B1 := 0) (cs' := []) (e' := 0) h.low2 h.r3), hr, h.r4.kept hg ?_, h.low1, h.low2, h.apart⟩
  cases h2 : u2.ownBlock with
  | none => exact .inl rfl
  | some b => exact .inr fun e => h.apart b e.symm h2
theorem Four.mark2 {d' : List Value} (h : Four w B1 B2 v1 v2 u1 u2 f0 s0 c d) (hg : w.grownBy w' u2.ownBlock) (hr : Row w' B2 34 u2 d') : Four w' B1 B2 v1 v2 u1 u2 f0 s0 c d' := by
  refine ⟨h.r1.kept hg (far_low (B1 := 0) (cs' := []) (e' := 0) h.low1 h.r4), h.r2.kept hg (far_low (B1 := 0) (cs' := []) (e' := 0) h.low2 h.r4), h.r3.kept hg ?_, hr, h.low1, h.low2, h.apart⟩
  cases h2 : u1.ownBlock with
  | none => exact .inl rfl
  | some b => exact .inr fun e => h.apart b h2 e.symm
end

set_option maxRecDepth 100000 in
set_option maxHeartbeats 16000000 in
theorem exactPair_law (a0 : Option Addr) (len0 cap0 : Nat) (z0 : List Nat) (a1 : Option Addr) (len1 cap1 : Nat) (z1 : List Nat) (w : World) (h0 : IsRowF w a0 len0 cap0 z0) (h1 : IsRowF w a1 len1 cap1 z1) :
    Calls Try.prog 3 #[.slice a0 len0 cap0, .slice a1 len1 cap1] w fun e w' => e = .returned (.bool true) ∧ Below w.heap.size w w' := by
  obtain ⟨e0, q0, m0⟩ := h0.1.facts
  obtain ⟨e1, q1, m1⟩ := h1.1.facts
  by_cases hl0 : len0 ≤ 1048576
  · by_cases hl1 : len1 ≤ 1048576
    · have T0 : Hid (∀ W, Below w.heap.size w W → Calls Try.prog 6 #[.slice a0 len0 cap0] W fun e w' => ∃ u, e = .returned u ∧ Row w' W.heap.size 35 u (flts z0) ∧ W.grownBy w' none) := fun W hb =>
        toFloat64_any (h0.below hb) (fun x L cap e hL => by
          simp only [Value.slice.injEq] at e
          exact Nat.lt_of_lt_of_le (h0.2 x e.1 (by omega)) hb.size) (by omega)
      have T1 : Hid (∀ W, Below w.heap.size w W → Calls Try.prog 6 #[.slice a1 len1 cap1] W fun e w' => ∃ u, e = .returned u ∧ Row w' W.heap.size 35 u (flts z1) ∧ W.grownBy w' none) := fun W hb =>
        toFloat64_any (h1.below hb) (fun x L cap e hL => by
          simp only [Value.slice.injEq] at e
          exact Nat.lt_of_lt_of_le (h1.2 x e.1 (by omega)) hb.size) (by omega)
      have Q0 := Lib.hid q0
      have Q1 := Lib.hid q1
      have hz0 : z0.length ≤ 1048576 := by omega
      have hz1 : z1.length ≤ 1048576 := by omega
      clear h0 h1 e0 e1 q0 q1 m0 m1
      go_enter Try.func3, Try.ntmps3
      go_wp2_with fail
      refine (T0.out w (Below.refl _ _)).mono ?_
      rintro e w1 ⟨p0, rfl, hp0, hg1⟩
      have b1 : Below w.heap.size w w1 := (Below.refl _ _).grown hg1 (Nat.le_refl _) (by simp)
      have HB1 := Lib.hid b1
      have HP0 := Lib.hid hp0
      clear b1 hg1 hp0
      go_wp2_with fail
      refine (T1.out w1 HB1.out).mono ?_
      rintro e w2 ⟨p1, rfl, hp1, hg2⟩
      have b2 : Below w1.heap.size w1 w2 := (Below.refl _ _).grown hg2 (Nat.le_refl _) (by simp)
      have HB2 := Lib.hid (HB1.out.trans (b2.mono HB1.out.size))
      have HP0' := Lib.hid (HP0.out.below b2 (fun k e => (HP0.out.lt k e).2))
      have HP1 := Lib.hid hp1
      clear b2 hg2 hp1 HP0 HB1
      go_wp2_with fail
      refine (pair_spec z0 z1 p0 p1 w2 Q0.out Q1.out HP0'.out.reads HP1.out.reads).mono ?_
      rintro e w3 ⟨v1, v2, f0, s0, c0, rfl, hv1, hv2, -, hb3, hD0⟩
      have HB3 := Lib.hid (HB2.out.trans (hb3.mono HB2.out.size))
      have HV1 := Lib.hid hv1
      have HV2 := Lib.hid hv2
      have HD0 := Lib.hid hD0
      clear hb3 hv1 hv2 hD0 HB2 HP0' HP1
      go_wp2_with fail
      refine (T0.out w3 HB3.out).mono ?_
      rintro e w4 ⟨y0, rfl, hy0, hg4⟩
      have b4 : Below w3.heap.size w3 w4 := (Below.refl _ _).grown hg4 (Nat.le_refl _) (by simp)
      have HB4 := Lib.hid (HB3.out.trans (b4.mono HB3.out.size))
      have HV1' := Lib.hid (HV1.out.below b4 (fun k e => (HV1.out.lt k e).2))
      have HV2' := Lib.hid (HV2.out.below b4 (fun k e => (HV2.out.lt k e).2))
      have HY0 := Lib.hid hy0
      have hz34 := b4.size
      have hzw3 : w.heap.size ≤ w3.heap.size := HB3.out.size
      have low1 : ∀ b, v1.ownBlock = some b → b < w3.heap.size := fun b e => (HV1.out.lt b e).2
      have low2 : ∀ b, v2.ownBlock = some b → b < w3.heap.size := fun b e => (HV2.out.lt b e).2
      clear b4 hg4 hy0 HV1 HV2 HB3
      go_wp2_with fail
      refine (T1.out w4 HB4.out).mono ?_
      rintro e w5 ⟨y1, rfl, hy1, hg5⟩
      have b5 : Below w4.heap.size w4 w5 := (Below.refl _ _).grown hg5 (Nat.le_refl _) (by simp)
      have HB5 := Lib.hid (HB4.out.trans (b5.mono HB4.out.size))
      have HV1 := Lib.hid (HV1'.out.below b5 (fun k e => (HV1'.out.lt k e).2))
      have HV2 := Lib.hid (HV2'.out.below b5 (fun k e => (HV2'.out.lt k e).2))
      have HY0' := Lib.hid (HY0.out.below b5 (fun k e => (HY0.out.lt k e).2))
      have ylow : ∀ b, y0.ownBlock = some b → b < w4.heap.size := fun b e => (HY0.out.lt b e).2
      have HY1 := Lib.hid hy1
      have hz45 := b5.size
      clear b5 hg5 hy1 HV1' HV2' HY0 HB4
      go_wp2_with fail
      refine (pair_impl z0 z1 y0 y1 w5 Q0.out Q1.out HY0'.out.reads HY1.out.reads).mono ?_
      rintro e w6 ⟨u1, u2, f1, s1, c1, rfl, hu1, hu2, hap, hb6, hD1⟩
      obtain ⟨rfl, hsf, hss, hfs, hf256⟩ := pair_same hD1 HD0.out
      have HB6 := Lib.hid (HB5.out.trans (hb6.mono HB5.out.size))
      have HFo : Hid (Four w6 w2.heap.size w5.heap.size v1 v2 u1 u2 f0 s0 (cvals f1) (cvals s1)) := ⟨HV1.out.below hb6 (fun k e => (HV1.out.lt k e).2), HV2.out.below hb6 (fun k e => (HV2.out.lt k e).2), hu1, hu2, (fun b e => by have := low1 b e; omega), (fun b e => by have := low2 b e; omega), hap⟩
      have HY06 := Lib.hid (HY0'.out.below hb6 (fun k e => (HY0'.out.lt k e).2))
      have HY16 := Lib.hid (HY1.out.below hb6 (fun k e => (HY1.out.lt k e).2))
      have HSF := Lib.hid hsf
      have HSS := Lib.hid hss
      have HFS := Lib.hid hfs
      have HYL := Lib.hid ylow
      have hzw : w.heap.size ≤ w5.heap.size := HB5.out.size
      clear hb6 hu1 hu2 hap hD1 low1 low2 ylow hsf hss HV1 HV2 HY0' HY1 HB5 hfs
      go_wp2_with fail
      refine (eqC128_any HFo.out.r3.reads HFo.out.r1.reads HSF.out.1 HSF.out.2).mono ?_
      rintro e w' ⟨rfl, n1, rfl⟩
      go_wp2_with fail
      refine (eqC128_any (HFo.out.draws n1).r4.reads (HFo.out.draws n1).r2.reads HSS.out.1 HSS.out.2).mono ?_
      rintro e w' ⟨rfl, n2, rfl⟩
      have HF7 := Lib.hid ((HFo.out.draws n1).draws n2)
      have HB7 := Lib.hid (below_draws (below_draws HB6.out n1) n2)
      have HY07 := Lib.hid ((HY06.out.drewN n1).drewN n2)
      have HY17 := Lib.hid ((HY16.out.drewN n1).drewN n2)
      clear HFo HB6 HY06 HY16
      generalize (w6.drewN n1).drewN n2 = w7 at *
      go_wp2_with fail
      refine (T0.out w7 HB7.out).mono ?_
      rintro e w8 ⟨p2, rfl, hp2, hg8⟩
      have b8 : Below w7.heap.size w7 w8 := (Below.refl _ _).grown hg8 (Nat.le_refl _) (by simp)
      have HB8 := Lib.hid (HB7.out.trans (b8.mono HB7.out.size))
      have HF8 := Lib.hid (HF7.out.below b8)
      have HY08 := Lib.hid (HY07.out.below b8 (fun k e => (HY07.out.lt k e).2))
      have HY18 := Lib.hid (HY17.out.below b8 (fun k e => (HY17.out.lt k e).2))
      have HP2 := Lib.hid (ReadsF.of_row hp2 Q0.out)
      clear b8 hg8 hp2 HB7 HF7 HY07 HY17
      go_wp2_with fail
      refine (eqFloat64_any (ReadsF.of_row HY08.out Q0.out) HP2.out rfl (fun j hj => rfl)).mono ?_
      rintro e w' ⟨rfl, n3, rfl⟩
      have HB9 := Lib.hid (below_draws HB8.out n3)
      have HF9 := Lib.hid (HF8.out.draws n3)
      have HY09 := Lib.hid (HY08.out.drewN n3)
      have HY19 := Lib.hid (HY18.out.drewN n3)
      clear HB8 HF8 HY08 HY18 HP2
      generalize w8.drewN n3 = w9 at *
      go_wp2_with fail
      refine (T1.out w9 HB9.out).mono ?_
      rintro e w10 ⟨p3, rfl, hp3, hg10⟩
      have b10 : Below w9.heap.size w9 w10 := (Below.refl _ _).grown hg10 (Nat.le_refl _) (by simp)
      have HB10 := Lib.hid (HB9.out.trans (b10.mono HB9.out.size))
      have HF10 := Lib.hid (HF9.out.below b10)
      have HY010 := Lib.hid (HY09.out.below b10 (fun k e => (HY09.out.lt k e).2))
      have HY110 := Lib.hid (HY19.out.below b10 (fun k e => (HY19.out.lt k e).2))
      have HP3 := Lib.hid (ReadsF.of_row hp3 Q1.out)
      clear b10 hg10 hp3 HB9 HF9 HY09 HY19
      go_wp2_with fail
      refine (eqFloat64_any (ReadsF.of_row HY110.out Q1.out) HP3.out rfl (fun j hj => rfl)).mono ?_
      rintro e w' ⟨rfl, n4, rfl⟩
      have HB11 := Lib.hid (below_draws HB10.out n4)
      have HF11 := Lib.hid (HF10.out.draws n4)
      have HY011 := Lib.hid (HY010.out.drewN n4)
      have HY111 := Lib.hid (HY110.out.drewN n4)
      clear HB10 HF10 HY010 HY110 HP3
      generalize w10.drewN n4 = w11 at *
      obtain ⟨L0, hL0⟩ : ∃ L0, z0.length = L0 := ⟨_, rfl⟩
      obtain ⟨L1, hL1⟩ : ∃ L1, z1.length = L1 := ⟨_, rfl⟩
      have e0 : (flts z0).length = L0 := by rw [flts_length, hL0]
      have e1 : (flts z1).length = L1 := by rw [flts_length, hL1]
      go_wp2_with fail
      refine (markFloat64_any (m := 1) HY011.out (by omega) (by omega)).mono ?_
      rintro e w12 ⟨rfl, hm0, hg12⟩
      have HB12 : Hid (Below w.heap.size w w12) := HB11.out.grown hg12 HB11.out.size (fun b e => by have := (HY011.out.lt b e).1; omega)
      have HF12 := Lib.hid (HF11.out.float HY011.out hg12)
      have HY112 : Hid (Row w12 w4.heap.size 35 y1 (flts z1)) := HY111.out.kept hg12 (by
        cases h2 : y1.ownBlock with
        | none => exact .inl rfl
        | some b =>
          refine .inr fun e => ?_
          have := HYL.out b e.symm
          have := (HY111.out.lt b h2).1
          omega)
      rw [e0]
      clear hm0 hg12 HB11 HF11 HY011 HY111
      go_wp2_with fail
      refine (markFloat64_any (m := 1 + L0) HY112.out (by omega) (by omega)).mono ?_
      rintro e w13 ⟨rfl, hm1, hg13⟩
      have HB13 : Hid (Below w.heap.size w w13) := HB12.out.grown hg13 HB12.out.size (fun b e => by have := (HY112.out.lt b e).1; omega)
      have HF13 := Lib.hid (HF12.out.float HY112.out hg13)
      rw [e1]
      clear hm1 hg13 HB12 HF12 HY112 e0 e1
      obtain ⟨M1, hM1⟩ : ∃ M1, 1 + L0 + L1 = M1 := ⟨_, rfl⟩
      rw [hM1]
      have hM1p : ¬ ((M1 : Int) < 0) := by omega
      go_wp2_with fail
      refine (eqC128_any HF13.out.r3.reads HF13.out.r1.reads HSF.out.1 HSF.out.2).mono ?_
      rintro e w' ⟨rfl, n5, rfl⟩
      go_wp2_with fail
      refine (eqC128_any (HF13.out.draws n5).r4.reads (HF13.out.draws n5).r2.reads HSS.out.1 HSS.out.2).mono ?_
      rintro e w' ⟨rfl, n6, rfl⟩
      have HF14 := Lib.hid ((HF13.out.draws n5).draws n6)
      have HB14 := Lib.hid (below_draws (below_draws HB13.out n5) n6)
      clear HF13 HB13 hM1p
      generalize (w13.drewN n5).drewN n6 = w14 at *
      obtain ⟨L, hL⟩ : ∃ L, f1.length = L := ⟨_, rfl⟩
      have hLs : s1.length = L := by rw [← HFS.out, hL]
      have ef : (cvals f1).length = L := by rw [cvals_length, hL]
      have es : (cvals s1).length = L := by rw [cvals_length, hLs]
      rw [hL] at hf256
      go_wp2_with fail
      refine (markC128_any (m := 1) HF14.out.r3 (by omega) (by omega)).mono ?_
      rintro e w15 ⟨rfl, hr15, hg15⟩
      rw [ef] at hr15 ⊢
      have HB15 : Hid (Below w.heap.size w w15) := HB14.out.grown hg15 HB14.out.size (fun b e => by have := (HF14.out.r3.lt b e).1; omega)
      have HF15 := Lib.hid (HF14.out.mark1 hg15 hr15)
      clear hr15 hg15 HB14 HF14
      go_wp2_with fail
      refine (markC128_any (m := 1 + L) HF15.out.r4 (by omega) (by omega)).mono ?_
      rintro e w16 ⟨rfl, hr16, hg16⟩
      rw [es] at hr16 ⊢
      have HB16 : Hid (Below w.heap.size w w16) := HB15.out.grown hg16 HB15.out.size (fun b e => by have := (HF15.out.r4.lt b e).1; omega)
      have HF16 := Lib.hid (HF15.out.mark2 hg16 hr16)
      clear hr16 hg16 HB15 HF15 ef es
      obtain ⟨M2, hM2⟩ : ∃ M2, 1 + L = M2 := ⟨_, rfl⟩
      obtain ⟨M3, hM3⟩ : ∃ M3, M2 + L = M3 := ⟨_, rfl⟩
      rw [hM2] at HF16 ⊢
      rw [hM3]
      have hM2p : ¬ ((M2 : Int) < 0) := by omega
      have hM3p : ¬ ((M3 : Int) < 0) := by omega
      have C1 := Lib.hid (fun (W : World) (h : Four W w2.heap.size w5.heap.size v1 v2 u1 u2 f0 s0 (cmarks 1 L) (cmarks M2 L)) => heldC128_any (m := 1) (n := L) h.r3.reads (by omega) (by omega))
      have C2 := Lib.hid (fun (W : World) (h : Four W w2.heap.size w5.heap.size v1 v2 u1 u2 f0 s0 (cmarks 1 L) (cmarks M2 L)) => heldC128_any (m := M2) (n := L) h.r4.reads (by omega) (by omega))
      rw [hM2] at C1
      rw [hM3] at C2
      clear hM2 hM3 hL hLs
      go_wp2_with fail
      refine (C1.out _ HF16.out).mono ?_
      rintro e w' ⟨rfl, rfl⟩
      go_wp2_with fail
      refine (C2.out _ HF16.out).mono ?_
      rintro e w' ⟨rfl, rfl⟩
      go_wp2_with fail
      refine (T0.out w' HB16.out).mono ?_
      rintro e w17 ⟨p4, rfl, hp4, hg17⟩
      have b17 : Below w'.heap.size w' w17 := (Below.refl _ _).grown hg17 (Nat.le_refl _) (by simp)
      have HB17 := Lib.hid (HB16.out.trans (b17.mono HB16.out.size))
      have HF17 := Lib.hid (HF16.out.below b17)
      have HP4 := Lib.hid hp4
      clear b17 hg17 hp4 HB16 HF16
      go_wp2_with fail
      refine (T1.out w17 HB17.out).mono ?_
      rintro e w18 ⟨p5, rfl, hp5, hg18⟩
      have b18 : Below w17.heap.size w17 w18 := (Below.refl _ _).grown hg18 (Nat.le_refl _) (by simp)
      have HB18 := Lib.hid (HB17.out.trans (b18.mono HB17.out.size))
      have HF18 := Lib.hid (HF17.out.below b18)
      have HP4' := Lib.hid (HP4.out.below b18 (fun k e => (HP4.out.lt k e).2))
      have HP5 := Lib.hid hp5
      clear b18 hg18 hp5 HB17 HF17 HP4
      go_wp2_with fail
      refine (pair_impl z0 z1 p4 p5 w18 Q0.out Q1.out HP4'.out.reads HP5.out.reads).mono ?_
      rintro e w19 ⟨t1, t2, f2, s2, c2, rfl, ht1, ht2, -, hb19, hD2⟩
      obtain ⟨rfl, hsf2, hss2, -, -⟩ := pair_same hD2 HD0.out
      have HB19 := Lib.hid (HB18.out.trans (hb19.mono HB18.out.size))
      have HF19 := Lib.hid (HF18.out.below hb19)
      have HT1 := Lib.hid ht1
      have HT2 := Lib.hid ht2
      have HSF2 := Lib.hid hsf2
      have HSS2 := Lib.hid hss2
      clear hb19 ht1 ht2 hD2 hsf2 hss2 HB18 HF18 HP4' HP5 HD0
      go_wp2_with fail
      refine (eqC128_any HT1.out.reads HF19.out.r1.reads HSF2.out.1 HSF2.out.2).mono ?_
      rintro e w20 ⟨rfl, n7, rfl⟩
      go_wp2_with fail
      refine (eqC128_any (HT2.out.drewN n7).reads (HF19.out.draws n7).r2.reads HSS2.out.1 HSS2.out.2).mono ?_
      rintro e w20 ⟨rfl, n8, rfl⟩
      have HF20 := Lib.hid ((HF19.out.draws n7).draws n8)
      have HB20 := Lib.hid (below_draws (below_draws HB19.out n7) n8)
      clear HF19 HB19 HT1 HT2 HSF2 HSS2
      generalize (w19.drewN n7).drewN n8 = w20 at *
      go_wp2_with fail
      refine (C1.out _ HF20.out).mono ?_
      rintro e w' ⟨rfl, rfl⟩
      go_wp2_with fail
      refine (C2.out _ HF20.out).mono ?_
      rintro e w' ⟨rfl, rfl⟩
      go_wp2
      go_ret
      exact ⟨rfl, HB20.out⟩
    · have hg : 1048576 < len1 := by omega
      clear hl1 h0 h1 q0 q1 e0 e1
      go_enter Try.func3, Try.ntmps3
      go_wp2
      go_ret
      exact ⟨rfl, Below.refl _ _⟩
  · have hg : 1048576 < len0 := by omega
    clear hl0 h0 h1 q0 q1 e0 e1
    go_enter Try.func3, Try.ntmps3
    go_wp2
    go_ret
    exact ⟨rfl, Below.refl _ _⟩

end Go.Proofs.Ythinoegcijalpaa
