import Derived.Test.YtnbmbegjpkebmaaSrc
/-
  The draws of complex numbers: l01Any, A2Any; and a2At.
-/
set_option linter.unusedVariables false
set_option linter.unusedSimpArgs false
namespace Go.Proofs.Ytnbmbegjpkebmaa
open Go.RowKit Flt

/-- A bool is returned, and the source has gone on. -/
def PicksB (w0 : World) (B : Nat) (a : Option Addr) (len cap : Nat) (i : Int) (most : Int) (w : World) (e : Ending) (w' : World) : Prop :=
  ∃ b j, e = .returned (.bool b) ∧ i ≤ j ∧ j ≤ i + most ∧ Src w0 B a len cap j w' ∧ w.grownBy w' (some B)
/-- A complex number is returned, and the source has gone on. -/
def PicksC (w0 : World) (B : Nat) (a : Option Addr) (len cap : Nat) (i : Int) (most : Int) (w : World) (e : Ending) (w' : World) : Prop :=
  ∃ x y j, x < 18446744073709551616 ∧ y < 18446744073709551616 ∧ e = .returned (.complex .f64 x y) ∧ i ≤ j ∧ j ≤ i + most ∧ Src w0 B a len cap j w' ∧ w.grownBy w' (some B)

theorem one_any (w0 : World) (B : Nat) (a : Option Addr) (len cap : Nat) (hr : Bytes w0 a len cap) (i : Int) (hi : i < 4611686018427387903) (n : Int) (hn : 1 < n) (hn' : n ≤ 4611686018427387904) (w : World) (h : Src w0 B a len cap i w) :
    Calls Try.prog 61 #[.pointer (some ⟨B, 0, none⟩), .int .i64 n] w (PicksB w0 B a len cap i 2 w) := by
  go_enter Try.func61, Try.ntmps61
  go_wp2_with fail
  refine (pick_any w0 B a len cap hr i hi n hn hn' _ h).mono ?_
  rintro e w1 ⟨r, j, r0, r1, rfl, j0, j1, hs, hg⟩
  clear hn hn' h r0 r1
  go_wp2
  go_ret
  exact ⟨_, j, rfl, j0, j1, hs, hg⟩

/-- A complex number of whatever bits; nothing that was there has turned. -/
def AnyC (w : World) (e : Ending) (w' : World) : Prop := ∃ x y, x < 18446744073709551616 ∧ y < 18446744073709551616 ∧ e = .returned (.complex .f64 x y) ∧ Below w.heap.size w w'

end Go.Proofs.Ytnbmbegjpkebmaa
