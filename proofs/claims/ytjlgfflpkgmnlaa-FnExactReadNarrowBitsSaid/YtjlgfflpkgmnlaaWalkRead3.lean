import Derived.Test.YtjlgfflpkgmnlaaWalkSplit
/-
  The walk of the law on ReadBits.
-/
set_option linter.unusedVariables false
set_option linter.unusedSimpArgs false
namespace Go.Proofs.Ytjlgfflpkgmnlaa
open Go.RowKit Flt Hex

/-- A row of words, opened. -/
theorem row_open {w : World} {B : Nat} {v : Value} {ws : List ByteArray} (h : w.ownsRow B 9 1 v ws.length (ws.map Value.string)) (hn : ws ≠ []) :
    ∃ g cap, v = .slice (some ⟨g, 0, none⟩) ws.length cap ∧ ∀ j x, ws[j]? = some x → w.cell? ⟨g, j, none⟩ = some (.string x) := by
  have h2 := h.2
  rcases h2 with ⟨rfl, h0⟩ | ⟨g, cap, cur, rfl, -⟩
  · exact absurd (List.length_eq_zero_iff.1 (by simpa using h0)) hn
  · refine ⟨g, cap, rfl, fun j x hx => ?_⟩
    have := h.cells (g := g) rfl j (.string x) (by simp [hx])
    have hadd : (⟨g, 0, none⟩ : Addr).add j = ⟨g, j, none⟩ := by unfold Addr.add; split <;> simp_all
    rwa [hadd] at this

/-- The function returns this; nothing that was there has turned. -/
def Gives (v : Value) (w : World) (e : Ending) (w' : World) : Prop := e = .returned v ∧ Below w.heap.size w w'

set_option maxHeartbeats 1000000 in
theorem readBits_other (s : ByteArray) (hs : s.size ≤ 1048576) (hn : (wordsOf s).length ≠ 2) (w : World) :
    Calls Try.prog 27 #[.string s] w (Gives (cVal .f64 none) w) := by
  have hne : wordsOf s ≠ [] := by unfold wordsOf; simp
  go_enter Try.func27, Try.ntmps27
  go_wp2_with fail
  refine (l01Split_any s hs w).mono ?_
  rintro e w1 ⟨v, rfl, hown, hb⟩
  obtain ⟨g, cap, rfl, -⟩ := row_open hown hne
  have hc : (((wordsOf s).length : Int) != 2) = true := by simp; omega
  clear hown hne hn
  go_wp2
  go_ret2
  exact ⟨rfl, hb⟩

set_option maxHeartbeats 2000000 in
theorem readBits_two (s : ByteArray) (hs : s.size ≤ 1048576) (x y : ByteArray) (hw : wordsOf s = [x, y]) (o p : Option Nat) (hx : real64 x.data.toList = o) (hy : real64 y.data.toList = p) (w : World) :
    Calls Try.prog 27 #[.string s] w (Gives (cVal .f64 (pairOf o p)) w) := by
  have h1 := l01Read_of x hx
  have h2 := l01Read_of y hy
  go_enter Try.func27, Try.ntmps27
  go_wp2_with fail
  refine (l01Split_any s hs w).mono ?_
  rintro e w1 ⟨v, rfl, hown, hb⟩
  rw [hw] at hown
  obtain ⟨g, cap, rfl, hc⟩ := row_open hown (by simp)
  have c0 := hc 0 x rfl
  have c1 := hc 1 y rfl
  clear hown hc hw hx hy hs
  cases o with
  | none =>
    cases p with
    | none =>
      go_wp2_with (go_at_call 81; (first | ((with_reducible refine (h2 _).mono ?_); rintro e w' ⟨r, rfl, hr, hr2, rfl⟩; clear hr hr2) | ((with_reducible refine (h1 _).mono ?_); rintro e w' ⟨r, rfl, hr, hr2, rfl⟩; clear hr hr2)))
      go_ret2
      exact ⟨rfl, hb⟩
    | some b =>
      go_wp2_with (go_at_call 81; (first | ((with_reducible refine (h2 _).mono ?_); rintro e w' ⟨r, rfl, hr, hr2, rfl⟩; clear hr hr2) | ((with_reducible refine (h1 _).mono ?_); rintro e w' ⟨r, rfl, hr, hr2, rfl⟩; clear hr hr2)))
      go_ret2
      exact ⟨rfl, hb⟩
  | some a =>
    cases p with
    | none =>
      go_wp2_with (go_at_call 81; (first | ((with_reducible refine (h2 _).mono ?_); rintro e w' ⟨r, rfl, hr, hr2, rfl⟩; clear hr hr2) | ((with_reducible refine (h1 _).mono ?_); rintro e w' ⟨r, rfl, hr, hr2, rfl⟩; clear hr hr2)))
      go_ret2
      exact ⟨rfl, hb⟩
    | some b =>
      go_wp2_with (go_at_call 81; (first | ((with_reducible refine (h2 _).mono ?_); rintro e w' ⟨r, rfl, hr, hr2, rfl⟩; obtain rfl := hr _ rfl; clear hr hr2) | ((with_reducible refine (h1 _).mono ?_); rintro e w' ⟨r, rfl, hr, hr2, rfl⟩; obtain rfl := hr _ rfl; clear hr hr2)))
      go_ret2
      exact ⟨rfl, hb⟩

theorem readBits_spec (s : ByteArray) (hs : s.size ≤ 1048576) (w : World) :
    Calls Try.prog 27 #[.string s] w (Gives (cVal .f64 (bothOf real64 s.data.toList)) w) := by
  by_cases hp : Lib.indexByte s.data.toList 32 = -1
  · rw [both_none hp]
    exact readBits_other s hs (by rw [words_none hp]; decide) w
  · obtain ⟨k, hk⟩ : ∃ k : Nat, Lib.indexByte s.data.toList 32 = k := ⟨(Lib.indexByte s.data.toList 32).toNat, by have := Lib.indexByte_ge s.data.toList 32; omega⟩
    rw [both_some hk]
    by_cases hm : (32 : UInt8) ∈ s.data.toList.drop (k + 1)
    · have e : real64 (s.data.toList.drop (k + 1)) = none := realOf_space hm
      rw [e]
      have := words_many hk hm
      have h := readBits_other s hs (by omega) w
      have e2 : pairOf (real64 (s.data.toList.take k)) none = none := by cases real64 (s.data.toList.take k) <;> rfl
      rw [e2]; exact h
    · have hw := words_one hk hm
      have := readBits_two s hs _ _ hw _ _ rfl rfl w
      rwa [take_data, drop_data] at this

theorem real64_num {l : List UInt8} {v : Nat} (h : real64 l = some v) : v < 18446744073709551616 := by
  unfold real64 realOf at h
  split at h
  · cases h; decide
  · cases hb : bitsRes 16 l with
    | none => rw [hb] at h; cases h
    | some u =>
      rw [hb] at h
      have hl := bits16_lt hb
      simp only [Option.bind_some] at h
      split at h
      · cases h
      · cases h; exact hl

theorem both_num {l : List UInt8} {x y : Nat} (h : bothOf real64 l = some (x, y)) : x < 18446744073709551616 ∧ y < 18446744073709551616 := by
  unfold bothOf at h
  split at h
  · cases h
  · unfold pairOf at h
    split at h
    · rename_i a b ha hb
      cases h
      exact ⟨real64_num ha, real64_num hb⟩
    · cases h

set_option maxHeartbeats 1000000 in
theorem sameComplex_any (a b : Nat) (la : a < 18446744073709551616) (lb : b < 18446744073709551616) (w : World) :
    Calls Try.prog 29 #[.complex .f64 a b, .complex .f64 a b] w fun e w' => e = .returned (.bool true) ∧ w' = w := by
  go_enter Try.func29, Try.ntmps29
  go_wp2_with (go_at_call 23; (first | ((with_reducible refine (sameFloat_any a a rfl la _).mono ?_); rintro e w' ⟨rfl, rfl⟩) | ((with_reducible refine (sameFloat_any b b rfl lb _).mono ?_); rintro e w' ⟨rfl, rfl⟩)))
  go_ret
  exact ⟨rfl, rfl⟩

set_option maxRecDepth 100000 in
set_option maxHeartbeats 1000000 in
theorem readBits_law (s : ByteArray) (w : World) (hm : s.size ≤ maxLen) :
    Calls Try.prog 9 #[.string s] w fun e w' => e = .returned (.bool true) ∧ Below w.heap.size w w' := by
  by_cases hs : s.size ≤ 1048576
  · have h1 := readBits_spec s hs
    have h2 := readBits_impl s hs
    have hn := fun x y => both_num (l := s.data.toList) (x := x) (y := y)
    generalize bothOf real64 s.data.toList = o at *
    have z := sameComplex_any 0 0 (by omega) (by omega)
    rcases o with _ | ⟨x, y⟩
    · clear hn
      go_enter Try.func9, Try.ntmps9
      go_wp2_with (first
        | (go_at_call 27; refine (h1 _).mono ?_; rintro e w1 ⟨rfl, hb⟩; simp only [cVal])
        | (go_at_call 28; refine (h2 _).mono ?_; rintro e w' ⟨rfl, n, rfl⟩; simp only [cVal])
        | (go_at_call 29; refine (z _).mono ?_; rintro e w' ⟨rfl, rfl⟩))
      go_ret
      exact ⟨rfl, below_draws (by assumption) _⟩
    · obtain ⟨lx, ly⟩ := hn x y rfl
      have z := sameComplex_any x y lx ly
      clear hn lx ly
      go_enter Try.func9, Try.ntmps9
      go_wp2_with (first
        | (go_at_call 27; refine (h1 _).mono ?_; rintro e w1 ⟨rfl, hb⟩; simp only [cVal])
        | (go_at_call 28; refine (h2 _).mono ?_; rintro e w' ⟨rfl, n, rfl⟩; simp only [cVal])
        | (go_at_call 29; refine (z _).mono ?_; rintro e w' ⟨rfl, rfl⟩))
      go_ret
      exact ⟨rfl, below_draws (by assumption) _⟩
  · have hg : 1048576 < s.size := by omega
    clear hs
    go_enter Try.func9, Try.ntmps9
    go_wp2
    go_ret
    exact ⟨rfl, Below.refl _ _⟩
end Go.Proofs.Ytjlgfflpkgmnlaa
