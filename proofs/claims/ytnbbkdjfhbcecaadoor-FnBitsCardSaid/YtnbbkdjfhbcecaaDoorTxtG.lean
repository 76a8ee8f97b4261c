import Derived.Test.YtnbbkdjfhbcecaaDoorTxtF
import Derived.Lib.Hide
/-
  The walks of what writes a number's bits: zeros, digits, texts.
-/
set_option linter.unusedVariables false
set_option linter.unusedSimpArgs false
namespace Go.Proofs.YtnbbkdjfhbcecaaDoor
open Go.RowKit Flt Hex

theorem prefixIn_of (s : ByteArray) (b : Bool) (h1 : 1 ≤ s.size) (hb : ((s.extract 0 1).toList == [48]) = b) (w : World) :
    Calls Tryd.prog 66 #[.string s, .string ⟨#[48]⟩] w fun e w' => e = .returned (.bool b) ∧ w' = w := by
  subst hb
  have hs : (⟨#[48]⟩ : ByteArray).size = 1 := rfl
  have h1' : (1 : Int) ≤ (s.size : Int) := by omega
  go_enter Tryd.func66, Tryd.ntmps66
  go_wp2
  go_ret
  exact ⟨rfl, rfl⟩

theorem prefix_of (s : ByteArray) (b : Bool) (h1 : 1 ≤ s.size) (hb : ((s.extract 0 1).toList == [48]) = b) (w : World) :
    Calls Tryd.prog 51 #[.string s, .string ⟨#[48]⟩] w fun e w' => e = .returned (.bool b) ∧ w' = w := by
  have hp := prefixIn_of s b h1 hb
  clear hb
  go_enter Tryd.func51, Tryd.ntmps51
  go_wp2_with (go_at_call 66; refine (hp _).mono ?_; rintro e w' ⟨rfl, rfl⟩)
  go_ret
  exact ⟨rfl, rfl⟩

theorem zeros_of : ∀ c, c < 17 → (⟨#[48, 48, 48, 48, 48, 48, 48, 48, 48, 48, 48, 48, 48, 48, 48, 48, 48, 48, 48, 48, 48, 48, 48, 48, 48, 48, 48, 48, 48, 48, 48, 48, 48, 48, 48, 48, 48, 48, 48, 48, 48, 48, 48, 48, 48, 48, 48, 48, 48, 48, 48, 48, 48, 48, 48, 48, 48, 48, 48, 48, 48, 48, 48, 48]⟩ : ByteArray).extract 0 c = ⟨(List.replicate c 48).toArray⟩ := by decide +kernel

set_option maxHeartbeats 1000000 in
set_option maxRecDepth 100000 in
theorem repeat_zero (c : Nat) (h2 : 2 ≤ c) (hc : c ≤ 16) (w : World) :
    Calls Tryd.prog 44 #[.string ⟨#[48]⟩, .int .i64 c] w fun e w' => e = .returned (.string ⟨(List.replicate c 48).toArray⟩) ∧ w' = w := by
  have hm := mul_small c hc
  have hs : (⟨#[48]⟩ : ByteArray).size = 1 := rfl
  go_enter Tryd.func44, Tryd.ntmps44
  go_wp2_with (first
    | (go_at_call 50; refine (hm _).mono ?_; rintro e w' ⟨rfl, rfl⟩)
    | (go_at_call 51; (first | (refine (prefix_of _ false (by decide +kernel) (by decide +kernel) _).mono ?_; rintro e w' ⟨rfl, rfl⟩) | (refine (prefix_of _ true (by decide +kernel) (by decide +kernel) _).mono ?_; rintro e w' ⟨rfl, rfl⟩))))
  go_ret
  exact ⟨congrArg (fun s => Ending.returned (Value.string s)) (zeros_of c (by omega)), rfl⟩

set_option maxRecDepth 100000 in
theorem repeat_any (c : Nat) (hc : c ≤ 16) (w : World) :
    Calls Tryd.prog 44 #[.string ⟨#[48]⟩, .int .i64 c] w fun e w' => e = .returned (.string ⟨(List.replicate c 48).toArray⟩) ∧ w' = w := by
  by_cases h2 : 2 ≤ c
  · exact repeat_zero c h2 hc w
  · rcases (by omega : c = 0 ∨ c = 1) with rfl | rfl
    · go_enter Tryd.func44, Tryd.ntmps44
      go_wp2
      go_ret
      exact ⟨rfl, rfl⟩
    · go_enter Tryd.func44, Tryd.ntmps44
      go_wp2
      go_ret
      exact ⟨rfl, rfl⟩

/-- A text of this many digits that says this number. -/
def Says (D u : Nat) (t : ByteArray) : Prop := hexOf t.data.toList = some u ∧ t.size = D

theorem digitsOf_any (u D : Nat) (hu : u < 16 ^ D) (hD : 1 ≤ D) (hD2 : D ≤ 16) (w : World) (ht : Tab w) :
    Calls Tryd.prog 33 #[.int .u64 u, .int .i64 D] w fun e w' => ∃ t : ByteArray, e = .returned (.string t) ∧ Says D u t ∧ Below w.heap.size w w' := by
  have hf := format_any u D hu hD hD2 w ht
  clear hu
  go_enter Tryd.func33, Tryd.ntmps33
  go_wp2_with (first
    | (go_at_call 43; refine hf.mono ?_; rintro e w' ⟨t, rfl, h1, h2, hb⟩; have H1 := Lib.hid h1; have HB := Lib.hid hb; (obtain ⟨c, hc⟩ : ∃ c : Nat, ((D : Int) - (t.size : Int)) = c := ⟨D - t.size, by omega⟩); have HC := Lib.hid (by omega : c + t.size = D ∧ c ≤ 16); clear h1 hb h2)
    | (go_at_call 44; refine (repeat_any _ HC.out.2 _).mono ?_; rintro e w' ⟨rfl, rfl⟩))
  go_ret
  refine ⟨_, rfl, ⟨?_, ?_⟩, HB.out⟩
  · have := hexOf_zeros H1.out c
    simpa [ByteArray.data_append] using this
  · have := HC.out
    simp [ByteArray.size_append]
    have hz : ({ data := Array.replicate c 48 } : ByteArray).size = c := Array.size_replicate
    omega
end Go.Proofs.YtnbbkdjfhbcecaaDoor
