import Derived.Test.YtnbbkdjfhbcecaaFac
import Derived.Test.YtnbbkdjfhbcecaaRows
import Derived.Test.YtnbbkdjfhbcecaaWalkI64
/-
  The walks of the factors of a number.
-/
set_option linter.unusedVariables false
set_option linter.unusedSimpArgs false
namespace Go.Proofs.Ytnbbkdjfhbcecaa
open Go.RowKit

theorem tmod_nat (n k : Nat) : (n : Int).tmod (k : Int) = ((n % k : Nat) : Int) := rfl
theorem tdiv_nat (n k : Nat) : (n : Int).tdiv (k : Int) = ((n / k : Nat) : Int) := rfl

theorem least_impl (n : Nat) (hn : 1 < n) (hb : n ≤ 1024) (w : World) :
    Calls Try.prog 71 #[.int .i64 n] w fun e w' => ∃ p : Nat, e = .returned (.int .i64 p) ∧ Fac.Least n p ∧ w' = w := by
  go_enter Try.func71, Try.ntmps71
  go_wp2
  go_loop [3] (fun p => ∃ k : Nat, p = .int .i64 k ∧ 2 ≤ k ∧ k ≤ n ∧ ∀ q, 2 ≤ q → q < k → n % q ≠ 0) (fun p => n - (intOf p).toNat)
  case atStart => exact ⟨2, rfl, Nat.le_refl _, by omega, fun q h1 h2 => by omega⟩
  case round =>
    obtain ⟨k, rfl, h2, hk, hl⟩ := hrel
    have HL := Lib.hid hl
    clear hl
    have hm := tmod_nat n k
    by_cases hd : n % k = 0
    · rw [hd] at hm
      go_wp2
      go_ret
      exact ⟨k, rfl, ⟨h2, hd, HL.out⟩, rfl⟩
    · have hm' : ¬ (n : Int).tmod (k : Int) = 0 := by rw [hm]; omega
      have hlt : k < n := by
        rcases Nat.lt_or_eq_of_le hk with h | h
        · exact h
        · subst h; exact absurd (Nat.mod_self k) hd
      clear hm
      go_wp2
      go_round
      case rel =>
        refine ⟨k + 1, by go_num, by omega, by omega, fun q h1 h2 => ?_⟩
        rcases Nat.lt_or_eq_of_le (Nat.le_of_lt_succ h2) with h | h
        · exact HL.out q h1 h
        · subst h; exact hd
      case measure => simp [intOf]; omega

theorem least_spec (n : Nat) (hn : 1 < n) (hb : n ≤ 1024) (w : World) :
    Calls Try.prog 73 #[.int .i64 n] w fun e w' => ∃ p : Nat, e = .returned (.int .i64 p) ∧ Fac.Least n p ∧ w' = w := by
  go_enter Try.func73, Try.ntmps73
  go_wp2
  go_loop [3] (fun p => ∃ k : Nat, p = .int .i64 k ∧ 2 ≤ k ∧ k ≤ n ∧ ∀ q, 2 ≤ q → q < k → n % q ≠ 0) (fun p => n - (intOf p).toNat)
  case atStart => exact ⟨2, rfl, Nat.le_refl _, by omega, fun q h1 h2 => by omega⟩
  case round =>
    obtain ⟨k, rfl, h2, hk, hl⟩ := hrel
    have HL := Lib.hid hl
    clear hl
    have hm := tmod_nat n k
    by_cases hd : n % k = 0
    · rw [hd] at hm
      go_wp2
      go_ret
      exact ⟨k, rfl, ⟨h2, hd, HL.out⟩, rfl⟩
    · have hm' : ¬ (n : Int).tmod (k : Int) = 0 := by rw [hm]; omega
      have hlt : k < n := by
        rcases Nat.lt_or_eq_of_le hk with h | h
        · exact h
        · subst h; exact absurd (Nat.mod_self k) hd
      clear hm
      go_wp2
      go_round
      case rel =>
        refine ⟨k + 1, by go_num, by omega, by omega, fun q h1 h2 => ?_⟩
        rcases Nat.lt_or_eq_of_le (Nat.le_of_lt_succ h2) with h | h
        · exact HL.out q h1 h
        · subst h; exact hd
      case measure => simp [intOf]; omega


theorem info_i64 : (Try.prog.info? 2).map (fun i => (i.zero, i.size, i.bytes)) = some (some (.int .i64 0), 1, 8) := by kernel_rfl

/-- A slice that owns these naturals, each a cell. -/
def OwnsN (w : World) (B : Nat) (v : Value) (xs : List Nat) : Prop := w.ownsRow B 2 1 v xs.length (xs.map fun (x : Nat) => Value.int .i64 (x : Int))

theorem pow_len {k m n : Nat} (h : 2 ^ k * m ≤ n) (hm : 1 ≤ m) (hn : n ≤ 1024) : k ≤ 10 := by
  apply Nat.le_of_not_lt
  intro hc
  have h1 : 2 ^ 11 ≤ 2 ^ k := Nat.pow_le_pow_right (by omega) hc
  have h2 : (2 : Nat) ^ 11 = 2048 := by decide
  have h3 : 2 ^ k * 1 ≤ 2 ^ k * m := Nat.mul_le_mul_left _ hm
  omega

/-- What a round of the factors does. -/
theorem fac_step {n m p : Nat} {xs : List Nat} (hm : 1 < m) (hp : Fac.Least m p) (hF : ∀ ys, Fac.Facs m ys → Fac.Facs n (xs ++ ys)) (hl : 2 ^ xs.length * m ≤ n) :
    (∀ ys, Fac.Facs (m / p) ys → Fac.Facs n ((xs ++ [p]) ++ ys)) ∧ 2 ^ (xs ++ [p]).length * (m / p) ≤ n ∧ 1 ≤ m / p ∧ m / p < m := by
  have hle := hp.le hm
  have h2 := hp.two
  have e : m / p * p = m := Nat.div_mul_cancel (Nat.dvd_of_mod_eq_zero hp.dvd)
  have h1 : 1 ≤ m / p := (Nat.le_div_iff_mul_le (by omega)).2 (by omega)
  have h3 : m / p * 2 ≤ m / p * p := Nat.mul_le_mul_left _ h2
  refine ⟨fun ys h => ?_, ?_, h1, by omega⟩
  · rw [List.append_assoc]
    exact hF _ (.more hm hp h)
  · simp only [List.length_append, List.length_cons, List.length_nil, Nat.zero_add, Nat.pow_succ]
    have : 2 ^ xs.length * (m / p * 2) ≤ 2 ^ xs.length * m := Nat.mul_le_mul_left _ (by omega)
    rw [Nat.mul_assoc, Nat.mul_comm 2 (m / p)]
    omega

set_option maxRecDepth 100000 in
set_option maxHeartbeats 1600000 in
theorem factors_impl (n : Nat) (hn : 1 ≤ n) (hb : n ≤ 1024) (w : World) :
    Calls Try.prog 16 #[.int .i64 n] w fun e w' => ∃ v xs, e = .returned (.tuple #[v, .int .i64 0]) ∧ OwnsN w' w.heap.size v xs ∧ Fac.Facs n xs ∧ Below w.heap.size w w' := by
  obtain ⟨i0, hi, hz0, hz1, hz2⟩ := info_parts info_i64
  have g1 : decide ((n : Int) ≤ 1024) = true := by simp; omega
  have g0 : decide (1 ≤ (n : Int)) = true := by simp; omega
  go_enter Try.func16, Try.ntmps16
  go_wp2
  go_loopw [0, 4] (fun m v wr => ∃ (k : Nat) (xs : List Nat), m = .int .i64 k ∧ 1 ≤ k ∧ k ≤ n ∧ OwnsN wr w.heap.size v xs ∧ (∀ ys, Fac.Facs k ys → Fac.Facs n (xs ++ ys)) ∧ 2 ^ xs.length * k ≤ n ∧ Below w.heap.size w wr) (fun m _ _ => (intOf m).toNat)
  case atStart => exact ⟨n, [], rfl, hn, Nat.le_refl _, World.ownsRow_nil _ _ _ _, fun ys h => h, by simp, Below.refl _ _⟩
  case round =>
    obtain ⟨k, xs, rfl, h1, hk, hown, hF, hl, hnx⟩ := hrel
    have hlen : xs.length ≤ 10 := pow_len hl h1 hb
    have HO := Lib.hid hown
    have HF := Lib.hid hF
    have HL := Lib.hid hl
    have HX := Lib.hid hnx
    clear hown hF hl hnx
    by_cases hgt : 1 < k
    · go_wp2_with fail
      refine (least_impl k hgt (by omega) _).mono ?_
      rintro e w1 ⟨p, rfl, hp, rfl⟩
      have hp2 := hp.two
      have hpk := hp.le hgt
      have HP := Lib.hid hp
      clear hp
      obtain ⟨q, hq⟩ : ∃ q, k / p = q := ⟨_, rfl⟩
      have hd : (k : Int).tdiv (p : Int) = (q : Int) := by rw [tdiv_nat, hq]
      have hd2 : (k : Int) / (p : Int) = (q : Int) := by rw [← hq]; rfl
      have hq1 : 1 ≤ q ∧ q < k := by rw [← hq]; exact (fac_step hgt HP.out HF.out HL.out).2.2
      obtain ⟨hq1, hq2⟩ := hq1
      go_wp2_with (at_builtin; refine wpList_append_own _ rfl _ _ 25 rfl w.heap.size 2 i0 (.int .i64 0) 1 8 Try.underlying25 hi hz0 hz1 hz2 rfl (by decide) _ _ _ rfl (HO.out.alloc _) ⟨_, 0, none⟩ 1 1 [.int .i64 (p : Int)] rfl rfl (cell_one_new _ _ _) (by intro u hu; simp at hu; subst hu; rfl) (by simp only [maxLen]; omega) (by omega) (by have := HX.out.size; simp; omega) ?_)
      intro v' w1 hown' hgrow _
      have hlt' := (HO.out.alloc (.cells #[.int .i64 (p : Int)] 2)).lt
      have hb' : Below w.heap.size w w1 := (HX.out.alloc HX.out.size _).grown hgrow (by have := HX.out.size; simp; omega) (fun b e => (hlt' b e).1)
      have HO' : Hid (OwnsN w1 w.heap.size v' (xs ++ [p])) := by
        show w1.ownsRow _ _ _ _ _ _
        simpa using hown'
      have HX' := Lib.hid hb'
      have HS := Lib.hid (fac_step hgt HP.out HF.out HL.out)
      rw [hq] at HS
      clear hq
      clear hown' hgrow hlt' hb' HO HX
      go_wp2
      go_roundw
      case rel => (repeat apply Exists.intro); refine ⟨?_, rfl⟩; exact ⟨q, xs ++ [p], by go_num, hq1, by omega, HO'.out, HS.out.1, HS.out.2.1, HX'.out⟩
      case measure => simp [intOf]; omega
    · have hk1 : k = 1 := by omega
      subst hk1
      go_wp2
      go_ret2
      exact ⟨_, xs, rfl, HO.out, by have := HF.out [] .one; simpa using this, HX.out⟩

set_option maxRecDepth 100000 in
set_option maxHeartbeats 1600000 in
theorem factors_spec (n : Nat) (hn : 1 ≤ n) (hb : n ≤ 1024) (w : World) :
    Calls Try.prog 17 #[.int .i64 n] w fun e w' => ∃ v xs, e = .returned (.tuple #[v, .int .i64 0]) ∧ OwnsN w' w.heap.size v xs ∧ Fac.Facs n xs ∧ Below w.heap.size w w' := by
  obtain ⟨i0, hi, hz0, hz1, hz2⟩ := info_parts info_i64
  have g1 : decide ((n : Int) ≤ 1024) = true := by simp; omega
  have g0 : decide (1 ≤ (n : Int)) = true := by simp; omega
  go_enter Try.func17, Try.ntmps17
  go_wp2
  go_loopw [0, 4] (fun m v wr => ∃ (k : Nat) (xs : List Nat), m = .int .i64 k ∧ 1 ≤ k ∧ k ≤ n ∧ OwnsN wr w.heap.size v xs ∧ (∀ ys, Fac.Facs k ys → Fac.Facs n (xs ++ ys)) ∧ 2 ^ xs.length * k ≤ n ∧ Below w.heap.size w wr) (fun m _ _ => (intOf m).toNat)
  case atStart => exact ⟨n, [], rfl, hn, Nat.le_refl _, World.ownsRow_lit w #[] 0 (Nat.le_refl _) (by unfold maxLen; omega) rfl, fun ys h => h, by simp, (Below.refl _ _).alloc (Nat.le_refl _) _⟩
  case round =>
    obtain ⟨k, xs, rfl, h1, hk, hown, hF, hl, hnx⟩ := hrel
    have hlen : xs.length ≤ 10 := pow_len hl h1 hb
    have HO := Lib.hid hown
    have HF := Lib.hid hF
    have HL := Lib.hid hl
    have HX := Lib.hid hnx
    clear hown hF hl hnx
    by_cases hgt : 1 < k
    · go_wp2_with fail
      refine (least_spec k hgt (by omega) _).mono ?_
      rintro e w1 ⟨p, rfl, hp, rfl⟩
      have hp2 := hp.two
      have hpk := hp.le hgt
      have HP := Lib.hid hp
      clear hp
      obtain ⟨q, hq⟩ : ∃ q, k / p = q := ⟨_, rfl⟩
      have hd : (k : Int).tdiv (p : Int) = (q : Int) := by rw [tdiv_nat, hq]
      have hd2 : (k : Int) / (p : Int) = (q : Int) := by rw [← hq]; rfl
      have hq1 : 1 ≤ q ∧ q < k := by rw [← hq]; exact (fac_step hgt HP.out HF.out HL.out).2.2
      obtain ⟨hq1, hq2⟩ := hq1
      go_wp2_with (at_builtin; refine wpList_append_own _ rfl _ _ 25 rfl w.heap.size 2 i0 (.int .i64 0) 1 8 Try.underlying25 hi hz0 hz1 hz2 rfl (by decide) _ _ _ rfl (HO.out.alloc _) ⟨_, 0, none⟩ 1 1 [.int .i64 (p : Int)] rfl rfl (cell_one_new _ _ _) (by intro u hu; simp at hu; subst hu; rfl) (by simp only [maxLen]; omega) (by omega) (by have := HX.out.size; simp; omega) ?_)
      intro v' w1 hown' hgrow _
      have hlt' := (HO.out.alloc (.cells #[.int .i64 (p : Int)] 2)).lt
      have hb' : Below w.heap.size w w1 := (HX.out.alloc HX.out.size _).grown hgrow (by have := HX.out.size; simp; omega) (fun b e => (hlt' b e).1)
      have HO' : Hid (OwnsN w1 w.heap.size v' (xs ++ [p])) := by
        show w1.ownsRow _ _ _ _ _ _
        simpa using hown'
      have HX' := Lib.hid hb'
      have HS := Lib.hid (fac_step hgt HP.out HF.out HL.out)
      rw [hq] at HS
      clear hq
      clear hown' hgrow hlt' hb' HO HX
      go_wp2
      go_roundw
      case rel => (repeat apply Exists.intro); refine ⟨?_, rfl⟩; exact ⟨q, xs ++ [p], by go_num, hq1, by omega, HO'.out, HS.out.1, HS.out.2.1, HX'.out⟩
      case measure => simp [intOf]; omega
    · have hk1 : k = 1 := by omega
      subst hk1
      go_wp2
      go_ret2
      exact ⟨_, xs, rfl, HO.out, by have := HF.out [] .one; simpa using this, HX.out⟩

/-- What FactorsOf returns: the factors, or an error. -/
def FR (n : Int) (zs : List Int) (c : Int) : Prop :=
  (∃ m : Nat, n = m ∧ 1 ≤ m ∧ m ≤ 1024 ∧ c = 0 ∧ ∃ xs, zs = xs.map (fun (x : Nat) => (x : Int)) ∧ Fac.Facs m xs) ∨ (¬ (1 ≤ n ∧ n ≤ 1024) ∧ zs = [] ∧ c = 2)

theorem FR.unique {n c c' : Int} {zs zs' : List Int} (h : FR n zs c) (h' : FR n zs' c') : zs = zs' ∧ c = c' := by
  rcases h with ⟨m, rfl, h1, h2, rfl, xs, rfl, hf⟩ | ⟨h1, rfl, rfl⟩
  · rcases h' with ⟨m', e, _, _, rfl, xs', rfl, hf'⟩ | ⟨h3, _⟩
    · obtain rfl : m = m' := by omega
      rw [hf.unique hf']; exact ⟨rfl, rfl⟩
    · omega
  · rcases h' with ⟨m', e, _, _, _⟩ | ⟨_, rfl, rfl⟩
    · omega
    · exact ⟨rfl, rfl⟩

theorem FR.len {n c : Int} {zs : List Int} (h : FR n zs c) : zs.length ≤ 10 := by
  rcases h with ⟨m, rfl, h1, h2, rfl, xs, rfl, hf⟩ | ⟨h1, rfl, rfl⟩
  · have := hf.len_le h2; simpa using this
  · simp

theorem OwnsN.row {w : World} {B : Nat} {v : Value} {xs : List Nat} (h : OwnsN w B v xs) : Row w B 2 v (ints (xs.map fun (x : Nat) => (x : Int))) := by
  unfold OwnsN at h
  unfold Row ints
  rw [List.length_map, List.length_map, List.map_map]
  exact h

theorem factorsAny_impl (n : Int) (w : World) :
    Calls Try.prog 16 #[.int .i64 n] w fun e w' => ∃ v zs c, e = .returned (.tuple #[v, .int .i64 c]) ∧ Row w' w.heap.size 2 v (ints zs) ∧ FR n zs c ∧ Below w.heap.size w w' := by
  by_cases h : 1 ≤ n ∧ n ≤ 1024
  · obtain ⟨m, rfl⟩ : ∃ m : Nat, n = m := ⟨n.toNat, by omega⟩
    refine (factors_impl m (by omega) (by omega) w).mono ?_
    rintro e w' ⟨v, xs, rfl, ho, hf, hb⟩
    exact ⟨v, _, 0, rfl, ho.row, .inl ⟨m, rfl, by omega, by omega, rfl, xs, rfl, hf⟩, hb⟩
  · by_cases h1 : 1 ≤ n
    · have g1 : decide (n ≤ 1024) = false := by simp; omega
      have g0 : decide (1 ≤ n) = true := by simp; omega
      have H := Lib.hid h
      clear h h1
      go_enter Try.func16, Try.ntmps16
      go_wp2
      go_ret2
      exact ⟨_, [], 2, rfl, World.ownsRow_nil _ _ _ _, .inr ⟨H.out, rfl, rfl⟩, Below.refl _ _⟩
    · have g0 : decide (1 ≤ n) = false := by simp; omega
      have H := Lib.hid h
      clear h h1
      go_enter Try.func16, Try.ntmps16
      go_wp2
      go_ret2
      exact ⟨_, [], 2, rfl, World.ownsRow_nil _ _ _ _, .inr ⟨H.out, rfl, rfl⟩, Below.refl _ _⟩

theorem factorsAny_spec (n : Int) (w : World) :
    Calls Try.prog 17 #[.int .i64 n] w fun e w' => ∃ v zs c, e = .returned (.tuple #[v, .int .i64 c]) ∧ Row w' w.heap.size 2 v (ints zs) ∧ FR n zs c ∧ Below w.heap.size w w' := by
  by_cases h : 1 ≤ n ∧ n ≤ 1024
  · obtain ⟨m, rfl⟩ : ∃ m : Nat, n = m := ⟨n.toNat, by omega⟩
    refine (factors_spec m (by omega) (by omega) w).mono ?_
    rintro e w' ⟨v, xs, rfl, ho, hf, hb⟩
    exact ⟨v, _, 0, rfl, ho.row, .inl ⟨m, rfl, by omega, by omega, rfl, xs, rfl, hf⟩, hb⟩
  · by_cases h1 : 1 ≤ n
    · have g1 : decide (n ≤ 1024) = false := by simp; omega
      have g0 : decide (1 ≤ n) = true := by simp; omega
      have H := Lib.hid h
      clear h h1
      go_enter Try.func17, Try.ntmps17
      go_wp2
      go_ret2
      exact ⟨_, [], 2, rfl, World.ownsRow_lit w #[] 0 (Nat.le_refl _) (by unfold maxLen; omega) rfl, .inr ⟨H.out, rfl, rfl⟩, (Below.refl _ _).alloc (Nat.le_refl _) _⟩
    · have g0 : decide (1 ≤ n) = false := by simp; omega
      have H := Lib.hid h
      clear h h1
      go_enter Try.func17, Try.ntmps17
      go_wp2
      go_ret2
      exact ⟨_, [], 2, rfl, World.ownsRow_lit w #[] 0 (Nat.le_refl _) (by unfold maxLen; omega) rfl, .inr ⟨H.out, rfl, rfl⟩, (Below.refl _ _).alloc (Nat.le_refl _) _⟩


set_option maxRecDepth 100000 in
set_option maxHeartbeats 4000000 in
theorem exactFactors_law (n : Int) (w : World) (_ : (Lit.int .i64 n).wf = true) :
    Calls Try.prog 4 #[.int .i64 n] w fun e w' => e = .returned (.bool true) ∧ Below w.heap.size w w' := by
  go_enter Try.func4, Try.ntmps4
  go_wp2_with fail
  refine (factorsAny_spec n w).mono ?_
  rintro e w1 ⟨v0, zs, c, rfl, hr0, hf0, hb0⟩
  go_wp2_with fail
  refine (factorsAny_impl n w1).mono ?_
  rintro e w2 ⟨v1, zs', c', rfl, hr1, hf1, hb1⟩
  obtain ⟨rfl, rfl⟩ := hf0.unique hf1
  have hr0' : Row w2 w.heap.size 2 v0 (ints zs) := hr0.below hb1 (fun k hk => (hr0.lt k hk).2)
  have hb2 : Below w.heap.size w w2 := hb0.trans (hb1.mono hb0.size)
  have hne : v0.ownBlock = none ∨ v0.ownBlock ≠ v1.ownBlock := by
    cases h0 : v0.ownBlock with
    | none => exact .inl rfl
    | some b =>
      refine .inr fun e => ?_
      have a := (hr0.lt b h0).2
      have b' := (hr1.lt b e.symm).1
      omega
  have HF := Lib.hid hf0
  have hlen := hf0.len
  have hs1 := hb0.size
  clear hb0 hb1 hr0 hf0 hf1
  have R0 := Lib.hid hr0'
  have R1 := Lib.hid hr1
  have HB := Lib.hid hb2
  have HN := Lib.hid hne
  clear hr0' hr1 hb2 hne
  go_wp2_with fail
  refine (eqInt64_any R1.out.reads R0.out.reads).mono ?_
  rintro e w' ⟨rfl, n1, rfl⟩
  go_wp2_with fail
  refine (markInt64_any (m := 1) (R1.out.drewN n1) (by omega) (by rw [ints_length]; omega)).mono ?_
  rintro e w3 ⟨rfl, hr3, hg3⟩
  rw [ints_length] at hr3
  obtain ⟨L, hL⟩ : ∃ L, zs.length = L := ⟨_, rfl⟩
  simp only [ints_length]
  rw [hL] at hr3 hlen ⊢
  have R3 := Lib.hid hr3
  have hr0 : Row w3 w.heap.size 2 v0 (ints zs) := (R0.out.drewN n1).kept hg3 HN.out
  have hb3 : Below w.heap.size w w3 := (below_draws HB.out n1).grown hg3 HB.out.size (fun b e => by have := (R1.out.lt b e).1; omega)
  clear hg3 hr3
  go_wp2_with fail
  refine (heldInt64_any (m := 1) (n := L) R3.out.reads (by omega) (by omega)).mono ?_
  rintro e w' ⟨rfl, rfl⟩
  obtain ⟨M, hM⟩ : ∃ M, (1 + L : Nat) = M := ⟨_, rfl⟩
  rw [hM]
  have hMp : 0 < M := by omega
  go_wp2_with fail
  refine (factorsAny_impl n w').mono ?_
  rintro e w4 ⟨v2, zs', c', rfl, hr2, hf2, hb4⟩
  obtain ⟨rfl, rfl⟩ := HF.out.unique hf2
  have hr0' : Row w4 w.heap.size 2 v0 (ints zs) := hr0.below hb4 (fun k hk => (hr0.lt k hk).2)
  have hr1' : Row w4 w1.heap.size 2 v1 (ints (marks 1 L)) := R3.out.below hb4 (fun k hk => (R3.out.lt k hk).2)
  have HB4 := Lib.hid (hb3.trans (hb4.mono hb3.size))
  have R0' := Lib.hid hr0'
  have R1' := Lib.hid hr1'
  have R2 := Lib.hid hr2
  clear hr0 hr0' hr1' hr2 hb3 hb4 hf2 R0 R1 R3 HB HN HF
  go_wp2_with fail
  refine (eqInt64_any R2.out.reads R0'.out.reads).mono ?_
  rintro e w' ⟨rfl, n2, rfl⟩
  go_wp2_with fail
  refine (heldInt64_any (m := 1) (n := L) (R1'.out.drewN n2).reads (by omega) (by omega)).mono ?_
  rintro e w' ⟨rfl, rfl⟩
  rw [hM]
  go_wp2
  go_ret
  exact ⟨rfl, below_draws HB4.out n2⟩

end Go.Proofs.Ytnbbkdjfhbcecaa
