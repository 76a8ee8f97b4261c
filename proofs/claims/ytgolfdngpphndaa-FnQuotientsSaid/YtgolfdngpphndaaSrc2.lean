import Derived.Test.YtgolfdngpphndaaSrc
/-
  The draws of complex numbers: l01Any, A2Any; and a2At.
-/
set_option linter.unusedVariables false
set_option linter.unusedSimpArgs false
namespace Go.Proofs.Ytgolfdngpphndaa
open Go.RowKit Flt

/-- A bool is returned, and the source has gone on. -/
def PicksB (w0 : World) (B : Nat) (a : Option Addr) (len cap : Nat) (i : Int) (most : Int) (w : World) (e : Ending) (w' : World) : Prop :=
  ∃ b j, e = .returned (.bool b) ∧ i ≤ j ∧ j ≤ i + most ∧ Src w0 B a len cap j w' ∧ w.grownBy w' (some B)
/-- A complex number is returned, and the source has gone on. -/
def PicksC (w0 : World) (B : Nat) (a : Option Addr) (len cap : Nat) (i : Int) (most : Int) (w : World) (e : Ending) (w' : World) : Prop :=
  ∃ x y j, x < 18446744073709551616 ∧ y < 18446744073709551616 ∧ e = .returned (.complex .f64 x y) ∧ i ≤ j ∧ j ≤ i + most ∧ Src w0 B a len cap j w' ∧ w.grownBy w' (some B)

theorem one_any (w0 : World) (B : Nat) (a : Option Addr) (len cap : Nat) (hr : Bytes w0 a len cap) (i : Int) (hi : i < 4611686018427387903) (n : Int) (hn : 1 < n) (hn' : n ≤ 4611686018427387904) (w : World) (h : Src w0 B a len cap i w) :
    Calls Try.prog 29 #[.pointer (some ⟨B, 0, none⟩), .int .i64 n] w (PicksB w0 B a len cap i 2 w) := by
  go_enter Try.func29, Try.ntmps29
  go_wp2_with fail
  refine (pick_any w0 B a len cap hr i hi n hn hn' _ h).mono ?_
  rintro e w1 ⟨r, j, r0, r1, rfl, j0, j1, hs, hg⟩
  clear hn hn' h r0 r1
  go_wp2
  go_ret
  exact ⟨_, j, rfl, j0, j1, hs, hg⟩

set_option maxHeartbeats 1000000 in
theorem any_any (w0 : World) (B : Nat) (a : Option Addr) (len cap : Nat) (hr : Bytes w0 a len cap) (i : Int) (hi : i < 4611686018427386000) (w : World) (h : Src w0 B a len cap i w) :
    Calls Try.prog 17 #[.pointer (some ⟨B, 0, none⟩)] w (PicksC w0 B a len cap i 14 w) := by
  go_enter Try.func17, Try.ntmps17
  go_wp2_with fail
  refine (one_any w0 B a len cap hr i (by omega) 3 (by omega) (by omega) _ h).mono ?_
  rintro e w1 ⟨b, j, rfl, j0, j1, hs, hg⟩
  cases b
  · go_wp2_with fail
    refine (float_case w0 B a len cap hr j (by omega) _ hs).mono ?_
    rintro e w2 ⟨x, k, hx, rfl, k0, k1, hs2, hg2⟩
    go_wp2_with fail
    refine (float_case w0 B a len cap hr k (by omega) _ hs2).mono ?_
    rintro e w3 ⟨y, l, hy, rfl, l0, l1, hs3, hg3⟩
    have HX := Lib.hid hx
    have HY := Lib.hid hy
    clear hx hy
    go_wp2
    go_ret
    exact ⟨x, y, l, HX.out, HY.out, rfl, by omega, by omega, hs3, grown_trans (grown_trans hg hg2) hg3⟩
  · go_wp2_with fail
    refine (plain_any w0 B a len cap hr j (by omega) _ hs).mono ?_
    rintro e w2 ⟨x, k, hx, rfl, k0, k1, hs2, hg2⟩
    go_wp2_with fail
    refine (plain_any w0 B a len cap hr k (by omega) _ hs2).mono ?_
    rintro e w3 ⟨y, l, hy, rfl, l0, l1, hs3, hg3⟩
    have HX := Lib.hid hx
    have HY := Lib.hid hy
    clear hx hy
    go_wp2
    go_ret
    exact ⟨x, y, l, HX.out, HY.out, rfl, by omega, by omega, hs3, grown_trans (grown_trans hg hg2) hg3⟩

/-- A complex number of whatever bits; nothing that was there has turned. -/
def AnyC (w : World) (e : Ending) (w' : World) : Prop := ∃ x y, x < 18446744073709551616 ∧ y < 18446744073709551616 ∧ e = .returned (.complex .f64 x y) ∧ Below w.heap.size w w'

set_option maxHeartbeats 1000000 in
theorem a2Any_any (a : Option Addr) (len cap : Nat) (zs : List Int) (n : Nat) (hn : n ≤ 100) (w : World) (hr : IsRow .u8 w a len cap zs) :
    Calls Try.prog 5 #[.slice a len cap, .int .i64 n] w (AnyC w) := by
  go_enter Try.func5, Try.ntmps5
  go_wp2_with (first | (go_at_call 16; go_in))
  refine (any_any w w.heap.size a len cap ⟨zs, hr⟩ 0 (by omega) _ src_new).mono ?_
  rintro e w1 ⟨x, y, j, hx, hy, rfl, j0, j1, hs, hg⟩
  have HS := Lib.hid hs
  have HX := Lib.hid hx
  have HY := Lib.hid hy
  clear hs hx hy hg
  go_wp2_with fail
  go_loopw [6, 7] (fun v k wr => ∃ (m : Nat) (x y : Nat) (j : Int), m ≤ n ∧ k = .int .i64 m ∧ v = .complex .f64 x y ∧ x < 18446744073709551616 ∧ y < 18446744073709551616 ∧ 0 ≤ j ∧ j ≤ 14 * (m + 1) ∧ Src w w.heap.size a len cap j wr) (fun _ k _ => n - (intOf k).toNat)
  case atStart => exact ⟨0, x, y, j, Nat.zero_le _, rfl, rfl, HX.out, HY.out, j0, by omega, HS.out⟩
  case round =>
    clear HX HY HS
    obtain ⟨m, x', y', j', hm, rfl, rfl, hx, hy, l0, l1, hs⟩ := hrel
    have HX := Lib.hid hx
    have HY := Lib.hid hy
    have HS := Lib.hid hs
    clear hx hy hs
    by_cases hlt : m < n
    · go_wp2_with fail
      refine (any_any w w.heap.size a len cap ⟨zs, hr⟩ j' (by omega) _ HS.out).mono ?_
      rintro e w2 ⟨x2, y2, j2, hx, hy, rfl, k0, k1, hs, hg⟩
      have HX2 := Lib.hid hx
      have HY2 := Lib.hid hy
      have HS2 := Lib.hid hs
      clear hx hy hs hg
      go_wp2
      go_roundw
      case rel => exact ⟨m + 1, x2, y2, j2, by omega, by go_num, rfl, HX2.out, HY2.out, by omega, by omega, HS2.out⟩
      case measure => simp [intOf]; omega
    · have e : m = n := by omega
      subst e
      go_wp2
      go_ret
      exact ⟨_, _, HX.out, HY.out, rfl, HS.out.below⟩

end Go.Proofs.Ytgolfdngpphndaa
