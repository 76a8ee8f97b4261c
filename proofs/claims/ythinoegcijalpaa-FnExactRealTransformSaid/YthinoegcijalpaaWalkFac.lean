import Derived.Test.YthinoegcijalpaaFac
import Derived.Test.YthinoegcijalpaaRows
import Derived.Test.YthinoegcijalpaaWalkI64
/-
  The walks of the factors of a number.
-/
set_option linter.unusedVariables false
set_option linter.unusedSimpArgs false
namespace Go.Proofs.Ythinoegcijalpaa
open Go.RowKit

theorem tmod_nat (n k : Nat) : (n : Int).tmod (k : Int) = ((n % k : Nat) : Int) := rfl
theorem tdiv_nat (n k : Nat) : (n : Int).tdiv (k : Int) = ((n / k : Nat) : Int) := rfl

theorem least_impl (n : Nat) (hn : 1 < n) (hb : n ≤ 1024) (w : World) :
    Calls Try.prog 30 #[.int .i64 n] w fun e w' => ∃ p : Nat, e = .returned (.int .i64 p) ∧ Fac.Least n p ∧ w' = w := by
  go_enter Try.func30, Try.ntmps30
  go_wp2
  go_loop [3] (fun p => ∃ k : Nat, p = .int .i64 k ∧ 2 ≤ k ∧ k ≤ n ∧ ∀ q, 2 ≤ q → q < k → n % q ≠ 0) (fun p => n - (intOf p).toNat)
  case atStart => exact ⟨2, rfl, Nat.le_refl _, by omega, fun q h1 h2 => by omega⟩
  case round =>
    obtain ⟨k, rfl, h2, hk, hl⟩ := hrel
    have HL := Lib.hid hl
    clear hl
    have hm := tmod_nat n k
    by_cases hd : n % k = 0
    · rw [hd] at hm
      go_wp2
      go_ret
      exact ⟨k, rfl, ⟨h2, hd, HL.out⟩, rfl⟩
    · have hm' : ¬ (n : Int).tmod (k : Int) = 0 := by rw [hm]; omega
      have hlt : k < n := by
        rcases Nat.lt_or_eq_of_le hk with h | h
        · exact h
        · subst h; exact absurd (Nat.mod_self k) hd
      clear hm
      go_wp2
      go_round
      case rel =>
        refine ⟨k + 1, by go_num, by omega, by omega, fun q h1 h2 => ?_⟩
        rcases Nat.lt_or_eq_of_le (Nat.le_of_lt_succ h2) with h | h
        · exact HL.out q h1 h
        · subst h; exact hd
      case measure => simp [intOf]; omega

theorem least_spec (n : Nat) (hn : 1 < n) (hb : n ≤ 1024) (w : World) :
    Calls Try.prog 24 #[.int .i64 n] w fun e w' => ∃ p : Nat, e = .returned (.int .i64 p) ∧ Fac.Least n p ∧ w' = w := by
  go_enter Try.func24, Try.ntmps24
  go_wp2
  go_loop [3] (fun p => ∃ k : Nat, p = .int .i64 k ∧ 2 ≤ k ∧ k ≤ n ∧ ∀ q, 2 ≤ q → q < k → n % q ≠ 0) (fun p => n - (intOf p).toNat)
  case atStart => exact ⟨2, rfl, Nat.le_refl _, by omega, fun q h1 h2 => by omega⟩
  case round =>
    obtain ⟨k, rfl, h2, hk, hl⟩ := hrel
    have HL := Lib.hid hl
    clear hl
    have hm := tmod_nat n k
    by_cases hd : n % k = 0
    · rw [hd] at hm
      go_wp2
      go_ret
      exact ⟨k, rfl, ⟨h2, hd, HL.out⟩, rfl⟩
    · have hm' : ¬ (n : Int).tmod (k : Int) = 0 := by rw [hm]; omega
      have hlt : k < n := by
        rcases Nat.lt_or_eq_of_le hk with h | h
        · exact h
        · subst h; exact absurd (Nat.mod_self k) hd
      clear hm
      go_wp2
      go_round
      case rel =>
        refine ⟨k + 1, by go_num, by omega, by omega, fun q h1 h2 => ?_⟩
        rcases Nat.lt_or_eq_of_le (Nat.le_of_lt_succ h2) with h | h
        · exact HL.out q h1 h
        · subst h; exact hd
      case measure => simp [intOf]; omega


theorem info_i64 : (Try.prog.info? 2).map (fun i => (i.zero, i.size, i.bytes)) = some (some (.int .i64 0), 1, 8) := by kernel_rfl

/-- A slice that owns these naturals, each a cell. -/
def OwnsN (w : World) (B : Nat) (v : Value) (xs : List Nat) : Prop := w.ownsRow B 2 1 v xs.length (xs.map fun (x : Nat) => Value.int .i64 (x : Int))

theorem pow_len {k m n : Nat} (h : 2 ^ k * m ≤ n) (hm : 1 ≤ m) (hn : n ≤ 1024) : k ≤ 10 := by
  apply Nat.le_of_not_lt
  intro hc
  have h1 : 2 ^ 11 ≤ 2 ^ k := Nat.pow_le_pow_right (by omega) hc
  have h2 : (2 : Nat) ^ 11 = 2048 := by decide
  have h3 : 2 ^ k * 1 ≤ 2 ^ k * m := Nat.mul_le_mul_left _ hm
  omega

/-- What a round of the factors does. -/
theorem fac_step {n m p : Nat} {xs : List Nat} (hm : 1 < m) (hp : Fac.Least m p) (hF : ∀ ys, Fac.Facs m ys → Fac.Facs n (xs ++ ys)) (hl : 2 ^ xs.length * m ≤ n) :
    (∀ ys, Fac.Facs (m / p) ys → Fac.Facs n ((xs ++ [p]) ++ ys)) ∧ 2 ^ (xs ++ [p]).length * (m / p) ≤ n ∧ 1 ≤ m / p ∧ m / p < m := by
  have hle := hp.le hm
  have h2 := hp.two
  have e : m / p * p = m := Nat.div_mul_cancel (Nat.dvd_of_mod_eq_zero hp.dvd)
  have h1 : 1 ≤ m / p := (Nat.le_div_iff_mul_le (by omega)).2 (by omega)
  have h3 : m / p * 2 ≤ m / p * p := Nat.mul_le_mul_left _ h2
  refine ⟨fun ys h => ?_, ?_, h1, by omega⟩
  · rw [List.append_assoc]
    exact hF _ (.more hm hp h)
  · simp only [List.length_append, List.length_cons, List.length_nil, Nat.zero_add, Nat.pow_succ]
    have : 2 ^ xs.length * (m / p * 2) ≤ 2 ^ xs.length * m := Nat.mul_le_mul_left _ (by omega)
    rw [Nat.mul_assoc, Nat.mul_comm 2 (m / p)]
    omega

/-- What FactorsOf returns: the factors, or an error. -/
def FR (n : Int) (zs : List Int) (c : Int) : Prop :=
  (∃ m : Nat, n = m ∧ 1 ≤ m ∧ m ≤ 1024 ∧ c = 0 ∧ ∃ xs, zs = xs.map (fun (x : Nat) => (x : Int)) ∧ Fac.Facs m xs) ∨ (¬ (1 ≤ n ∧ n ≤ 1024) ∧ zs = [] ∧ c = 2)

theorem FR.unique {n c c' : Int} {zs zs' : List Int} (h : FR n zs c) (h' : FR n zs' c') : zs = zs' ∧ c = c' := by
  rcases h with ⟨m, rfl, h1, h2, rfl, xs, rfl, hf⟩ | ⟨h1, rfl, rfl⟩
  · rcases h' with ⟨m', e, _, _, rfl, xs', rfl, hf'⟩ | ⟨h3, _⟩
    · obtain rfl : m = m' := by omega
      rw [hf.unique hf']; exact ⟨rfl, rfl⟩
    · omega
  · rcases h' with ⟨m', e, _, _, _⟩ | ⟨_, rfl, rfl⟩
    · omega
    · exact ⟨rfl, rfl⟩

theorem FR.len {n c : Int} {zs : List Int} (h : FR n zs c) : zs.length ≤ 10 := by
  rcases h with ⟨m, rfl, h1, h2, rfl, xs, rfl, hf⟩ | ⟨h1, rfl, rfl⟩
  · have := hf.len_le h2; simpa using this
  · simp

theorem OwnsN.row {w : World} {B : Nat} {v : Value} {xs : List Nat} (h : OwnsN w B v xs) : Row w B 2 v (ints (xs.map fun (x : Nat) => (x : Int))) := by
  unfold OwnsN at h
  unfold Row ints
  rw [List.length_map, List.length_map, List.map_map]
  exact h

end Go.Proofs.Ythinoegcijalpaa
