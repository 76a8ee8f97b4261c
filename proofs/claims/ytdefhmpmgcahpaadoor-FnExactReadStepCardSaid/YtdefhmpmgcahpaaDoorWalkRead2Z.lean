import Derived.Test.YtdefhmpmgcahpaaDoorWalkReadZ
import Derived.Deep.QuietTactic
import Derived.BigQuiet
/-
  The walks of ReadBits: how a text is cut at a blank.
-/
set_option linter.unusedVariables false
set_option linter.unusedSimpArgs false
namespace Go.Proofs.YtdefhmpmgcahpaaDoor
open Go.RowKit Flt Hex

set_option maxRecDepth 100000 in
theorem index_blank (s : ByteArray) (p : Int) (hp : Lib.indexByte s.data.toList 32 = p) (w : World) :
    Calls Tryd.prog 128 #[.string s, .string ⟨#[32]⟩] w fun e w' => e = .returned (.int .i64 p) ∧ w' = w := by
  have hi : ∀ w : World, (callFunc 119 #[.string s, .int .u8 32]).run Tryd.prog w = .ok (.value (.int .i64 p)) w := by
    intro w
    rw [run_indexByteStr]
    rw [show (32 : Int).toNat.toUInt8 = 32 from rfl, hp]
  by_cases hb : s.data.toList = [32]
  · have ht : ([32] == s.toList) = true := by rw [bytes_list, hb]; decide
    rw [hb] at hp
    obtain rfl : p = 0 := by rw [← hp]; decide
    clear hp hb
    go_enter Tryd.func128, Tryd.ntmps128
    go_wp2
    go_ret
    exact ⟨rfl, rfl⟩
  · have hx : ((({ data := #[32] } : ByteArray)[0]'(by decide)).toNat : Int) = 32 := rfl
    have ht : ([32] == s.toList) = false := by rw [bytes_list]; simpa using fun e => hb e.symm
    clear hp hb
    go_enter Tryd.func128, Tryd.ntmps128
    go_wp2
    go_ret
    exact ⟨rfl, rfl⟩

/-- The function returns this, and draws at most. -/
def Drew1 (v : Value) (w : World) (e : Ending) (w' : World) : Prop := e = .returned v ∧ ∃ n, w' = w.drewN n

/-- Two numbers, if both are there. -/
def pairOf (o p : Option Nat) : Option (Nat × Nat) := match o, p with
  | some a, some b => some (a, b)
  | _, _ => none

/-- Both parts of a text of bits. -/
def bothOf (f : List UInt8 → Option Nat) (l : List UInt8) : Option (Nat × Nat) :=
  if Lib.indexByte l 32 = -1 then none else pairOf (f (l.take (Lib.indexByte l 32).toNat)) (f (l.drop ((Lib.indexByte l 32).toNat + 1)))

/-- What both readers return. -/
def cVal (k : FloatKind) (o : Option (Nat × Nat)) : Value := match o with
  | some (x, y) => .tuple #[.complex k x y, .int .i64 0]
  | none => .tuple #[.complex k 0 0, .int .i64 5]

/-- What the generic reader of two parts returns. -/
def pVal (k : FloatKind) (o : Option (Nat × Nat)) : Value := match o with
  | some (x, y) => .tuple #[.float k x, .float k y, .int .i64 0]
  | none => .tuple #[.float k 0, .float k 0, .int .i64 5]

def real64 (l : List UInt8) : Option Nat := realOf 16 (nan FloatKind.f64.format) 9221120237041090561 l

theorem both_none {f : List UInt8 → Option Nat} {l : List UInt8} (h : Lib.indexByte l 32 = -1) : bothOf f l = none := by unfold bothOf; rw [if_pos h]
theorem both_some {f : List UInt8 → Option Nat} {l : List UInt8} {k : Nat} (h : Lib.indexByte l 32 = k) : bothOf f l = pairOf (f (l.take k)) (f (l.drop (k + 1))) := by
  unfold bothOf; rw [if_neg (by omega), h]; rfl

theorem take_data (s : ByteArray) (k : Nat) : (s.extract 0 k).data.toList = s.data.toList.take k := by
  rw [Lib.extract_data, List.drop_zero, Nat.sub_zero]

theorem drop_data (s : ByteArray) (k : Nat) : (s.extract k s.size).data.toList = s.data.toList.drop k := by
  rw [Lib.extract_data, List.take_of_length_le]
  simp

theorem real64_nil : real64 (⟨#[]⟩ : ByteArray).data.toList = none := realOf_nil (by decide)

end Go.Proofs.YtdefhmpmgcahpaaDoor
