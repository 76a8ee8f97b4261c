import Derived.Test.YthinoegcijalpaaC128
import Derived.Test.YthinoegcijalpaaFres
import Derived.Test.YthinoegcijalpaaNumC
import Derived.Test.YthinoegcijalpaaFast
import Derived.BigRegion
/-
  The model's products and rests.
-/
set_option linter.unusedVariables false
set_option linter.unusedSimpArgs false
namespace Go.Proofs.Ythinoegcijalpaa
open Go.RowKit Flt Turn Fast
attribute [local go_sem] run_fadd run_fsub run_fmul run_fquo run_cadd run_csub

theorem rest_spec (n j : Nat) (hn : 0 < n) (hn2 : n ≤ 100000) (hj : j ≤ 10000000000) (w : World) :
    Calls Try.prog 27 #[.int .i64 (-(j : Int)), .int .i64 n] w fun e w' => e = .returned (.int .i64 ((rst n j : Nat) : Int)) ∧ w' = w := by
  obtain ⟨e, he⟩ : ∃ e, j % n = e := ⟨_, rfl⟩
  have hen : e < n := by rw [← he]; exact Nat.mod_lt _ hn
  have he1 : (j : Int) % (n : Int) = (e : Int) := by rw [← he]; rfl
  obtain ⟨f, hf⟩ : ∃ f, (n - e) % n = f := ⟨_, rfl⟩
  have hf0 : ((n - e : Nat) : Int) = -(e : Int) + (n : Int) := by omega
  have hf1 : (-(e : Int) + (n : Int)).tmod (n : Int) = (f : Int) := by rw [← hf0, ← hf]; rfl
  have hf2 : (-(e : Int) + (n : Int)) % (n : Int) = (f : Int) := by rw [← hf0, ← hf]; rfl
  have HR : Hid (rst n j = f) := by
    show (n - j % n) % n = f
    rw [he, hf]
  clear hf he hf0
  rw [HR.out]
  go_enter Try.func27, Try.ntmps27
  go_wp2
  go_ret
  exact ⟨rfl, rfl⟩

end Go.Proofs.Ythinoegcijalpaa
