import Derived.Test.YtfdmohnmilecnaaDoorNedP
import Derived.Test.YtfdmohnmilecnaaDoorNedM
import Derived.Test.YtfdmohnmilecnaaDoorBwk
/-
  What an interface's method neededFor returns, whatever the kind (written by gennedc.py).
-/
set_option linter.unusedVariables false
set_option linter.unusedSimpArgs false
namespace Go.Proofs.YtfdmohnmilecnaaDoor
open Go.RowKit

theorem need_of (S : St) (hs : StB S) (t : Value) (x : Int) (hx : 0 ≤ x ∧ x ≤ 1000000) :
    ∃ (T : TypeId) (v : Value) (f : Nat) (rv : Value), ifV S t = .iface T v ∧ (∀ w : World, (method 335 T v "loop.example/g01155/impl.neededFor").run Tryd.prog w = .ok (f, rv) w) ∧
      (∀ args w, (callFunc f args).run Tryd.prog w = .ok (.enter f args) w) ∧
      ∀ w, Calls Tryd.prog f #[rv, .int .i64 x] w fun e w' => e = .returned (.int .i64 (ndSt S x)) ∧ Below w.heap.size w w' := by
  have hkk := kind_cases ⟨hs.k1, hs.k2⟩
  have hnb := hs.n
  obtain ⟨kd, N, K, taps⟩ := S
  simp only at hkk hnb
  rcases hkk with rfl | rfl | rfl | rfl | rfl | rfl | rfl | rfl | rfl | rfl | rfl | rfl | rfl
  · exact ⟨146, .agg #[.int .i64 1, .int .i64 N, .int .i64 K, t], 188, .agg #[.int .i64 1, .int .i64 N, .int .i64 K, t], rfl, fun _ => by kernel_rfl, enters_of Tryd.func188 (by kernel_rfl) rfl, fun w => even_need 1 N K x t w⟩
  · exact ⟨171, .agg #[.int .i64 2, .int .i64 N, .int .i64 K, t], 188, .agg #[.int .i64 2, .int .i64 N, .int .i64 K, t], rfl, fun _ => by kernel_rfl, enters_of Tryd.func188 (by kernel_rfl) rfl, fun w => even_need 2 N K x t w⟩
  · exact ⟨172, .agg #[.int .i64 3, .int .i64 N, .int .i64 K, t], 188, .agg #[.int .i64 3, .int .i64 N, .int .i64 K, t], rfl, fun _ => by kernel_rfl, enters_of Tryd.func188 (by kernel_rfl) rfl, fun w => even_need 3 N K x t w⟩
  · exact ⟨173, .agg #[.int .i64 4, .int .i64 N, .int .i64 K, t], 188, .agg #[.int .i64 4, .int .i64 N, .int .i64 K, t], rfl, fun _ => by kernel_rfl, enters_of Tryd.func188 (by kernel_rfl) rfl, fun w => even_need 4 N K x t w⟩
  · exact ⟨174, .agg #[.int .i64 5, .int .i64 N, .int .i64 K, t], 202, .agg #[.int .i64 5, .int .i64 N, .int .i64 K, t], rfl, fun _ => by kernel_rfl, enters_of Tryd.func202 (by kernel_rfl) rfl, fun w => keep_need 5 N K x t w (hnb (by decide)) hx⟩
  · exact ⟨175, .agg #[.int .i64 6, .int .i64 N, .int .i64 K, t], 205, .agg #[.int .i64 6, .int .i64 N, .int .i64 K, t], rfl, fun _ => by kernel_rfl, enters_of Tryd.func205 (by kernel_rfl) rfl, fun w => stuff_need 6 N K x t w (hnb (by decide)) hx⟩
  · exact ⟨177, .agg #[.int .i64 7, .int .i64 N, .int .i64 K, t], 196, .agg #[.int .i64 7, .int .i64 N, .int .i64 K, t], rfl, fun _ => by kernel_rfl, enters_of Tryd.func196 (by kernel_rfl) rfl, fun w => piece_need 7 N K x t w (hnb (by decide)) hx⟩
  · exact ⟨178, .agg #[.int .i64 8, .int .i64 N, .int .i64 K, t], 196, .agg #[.int .i64 8, .int .i64 N, .int .i64 K, t], rfl, fun _ => by kernel_rfl, enters_of Tryd.func196 (by kernel_rfl) rfl, fun w => piece_need 8 N K x t w (hnb (by decide)) hx⟩
  · exact ⟨179, .agg #[.int .i64 9, .int .i64 N, .int .i64 K, t], 196, .agg #[.int .i64 9, .int .i64 N, .int .i64 K, t], rfl, fun _ => by kernel_rfl, enters_of Tryd.func196 (by kernel_rfl) rfl, fun w => piece_need 9 N K x t w (hnb (by decide)) hx⟩
  · exact ⟨180, .agg #[.int .i64 10, .int .i64 N, .int .i64 K, t], 188, .agg #[.int .i64 10, .int .i64 N, .int .i64 K, t], rfl, fun _ => by kernel_rfl, enters_of Tryd.func188 (by kernel_rfl) rfl, fun w => even_need 10 N K x t w⟩
  · exact ⟨147, .agg #[.int .i64 11, .int .i64 N, .int .i64 K, t], 188, .agg #[.int .i64 11, .int .i64 N, .int .i64 K, t], rfl, fun _ => by kernel_rfl, enters_of Tryd.func188 (by kernel_rfl) rfl, fun w => even_need 11 N K x t w⟩
  · exact ⟨148, .agg #[.int .i64 12, .int .i64 N, .int .i64 K, t], 188, .agg #[.int .i64 12, .int .i64 N, .int .i64 K, t], rfl, fun _ => by kernel_rfl, enters_of Tryd.func188 (by kernel_rfl) rfl, fun w => even_need 12 N K x t w⟩
  · exact ⟨149, .agg #[.int .i64 13, .int .i64 N, .int .i64 K, t], 188, .agg #[.int .i64 13, .int .i64 N, .int .i64 K, t], rfl, fun _ => by kernel_rfl, enters_of Tryd.func188 (by kernel_rfl) rfl, fun w => even_need 13 N K x t w⟩

end Go.Proofs.YtfdmohnmilecnaaDoor
