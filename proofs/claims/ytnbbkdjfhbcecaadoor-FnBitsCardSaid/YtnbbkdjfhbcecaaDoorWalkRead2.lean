import Derived.Test.YtnbbkdjfhbcecaaDoorWalkRead
import Derived.Deep.QuietTactic
import Derived.BigQuiet
/-
  The walks of ReadBits: how a text is cut at a blank.
-/
set_option linter.unusedVariables false
set_option linter.unusedSimpArgs false
namespace Go.Proofs.YtnbbkdjfhbcecaaDoor
open Go.RowKit Flt Hex

set_option maxRecDepth 100000 in
theorem index_blank (s : ByteArray) (p : Int) (hp : Lib.indexByte s.data.toList 32 = p) (w : World) :
    Calls Tryd.prog 47 #[.string s, .string ⟨#[32]⟩] w fun e w' => e = .returned (.int .i64 p) ∧ w' = w := by
  have hi : ∀ w : World, (callFunc 59 #[.string s, .int .u8 32]).run Tryd.prog w = .ok (.value (.int .i64 p)) w := by
    intro w
    rw [run_indexByteStr]
    rw [show (32 : Int).toNat.toUInt8 = 32 from rfl, hp]
  by_cases hb : s.data.toList = [32]
  · have ht : ([32] == s.toList) = true := by rw [bytes_list, hb]; decide
    rw [hb] at hp
    obtain rfl : p = 0 := by rw [← hp]; decide
    clear hp hb
    go_enter Tryd.func47, Tryd.ntmps47
    go_wp2
    go_ret
    exact ⟨rfl, rfl⟩
  · have hx : ((({ data := #[32] } : ByteArray)[0]'(by decide)).toNat : Int) = 32 := rfl
    have ht : ([32] == s.toList) = false := by rw [bytes_list]; simpa using fun e => hb e.symm
    clear hp hb
    go_enter Tryd.func47, Tryd.ntmps47
    go_wp2
    go_ret
    exact ⟨rfl, rfl⟩

theorem lcut_none (s : ByteArray) (hp : Lib.indexByte s.data.toList 32 = -1) (w : World) :
    Calls Tryd.prog 41 #[.string s, .string ⟨#[32]⟩] w fun e w' => e = .returned (.tuple #[.string s, .string ⟨#[]⟩, .bool false]) ∧ w' = w := by
  have HI := index_blank s (-1) hp
  clear hp
  go_enter Tryd.func41, Tryd.ntmps41
  go_wp2_with (first | (go_at_call 47; refine (HI _).mono ?_; rintro e w' ⟨rfl, rfl⟩))
  go_ret3
  exact ⟨rfl, rfl⟩

/-- The function returns this, and draws at most. -/
def Drew1 (v : Value) (w : World) (e : Ending) (w' : World) : Prop := e = .returned v ∧ ∃ n, w' = w.drewN n

theorem lcut_some (s : ByteArray) (k : Nat) (hk : k < s.size) (hs : s.size ≤ 1048576) (hp : Lib.indexByte s.data.toList 32 = k) (w : World) :
    Calls Tryd.prog 41 #[.string s, .string ⟨#[32]⟩] w (Drew1 (.tuple #[.string (s.extract 0 k), .string (s.extract (k + 1) s.size), .bool true]) w) := by
  have HI := index_blank s k hp
  clear hp
  go_enter Tryd.func41, Tryd.ntmps41
  go_wp2_with (first | (go_at_call 47; refine (HI _).mono ?_; rintro e w' ⟨rfl, rfl⟩))
  go_quiet (fail)
  go_wp2
  go_ret3
  exact ⟨rfl, _, rfl⟩

theorem cut_none (s : ByteArray) (hp : Lib.indexByte s.data.toList 32 = -1) (w : World) :
    Calls Tryd.prog 28 #[.string s, .string ⟨#[32]⟩] w fun e w' => e = .returned (.tuple #[.string s, .string ⟨#[]⟩, .bool false]) ∧ w' = w := by
  go_enter Tryd.func28, Tryd.ntmps28
  go_wp2_with (go_at_call 41; refine (lcut_none s hp _).mono ?_; rintro e w' ⟨rfl, rfl⟩)
  go_ret3
  exact ⟨rfl, rfl⟩

theorem cut_some (s : ByteArray) (k : Nat) (hk : k < s.size) (hs : s.size ≤ 1048576) (hp : Lib.indexByte s.data.toList 32 = k) (w : World) :
    Calls Tryd.prog 28 #[.string s, .string ⟨#[32]⟩] w (Drew1 (.tuple #[.string (s.extract 0 k), .string (s.extract (k + 1) s.size), .bool true]) w) := by
  go_enter Tryd.func28, Tryd.ntmps28
  go_wp2_with (go_at_call 41; refine (lcut_some s k hk hs hp _).mono ?_; rintro e w' ⟨rfl, n, rfl⟩)
  go_ret3
  exact ⟨rfl, _, rfl⟩

/-- Two numbers, if both are there. -/
def pairOf (o p : Option Nat) : Option (Nat × Nat) := match o, p with
  | some a, some b => some (a, b)
  | _, _ => none

/-- Both parts of a text of bits. -/
def bothOf (f : List UInt8 → Option Nat) (l : List UInt8) : Option (Nat × Nat) :=
  if Lib.indexByte l 32 = -1 then none else pairOf (f (l.take (Lib.indexByte l 32).toNat)) (f (l.drop ((Lib.indexByte l 32).toNat + 1)))

/-- What both readers return. -/
def cVal (k : FloatKind) (o : Option (Nat × Nat)) : Value := match o with
  | some (x, y) => .tuple #[.complex k x y, .int .i64 0]
  | none => .tuple #[.complex k 0 0, .int .i64 5]

/-- What the generic reader of two parts returns. -/
def pVal (k : FloatKind) (o : Option (Nat × Nat)) : Value := match o with
  | some (x, y) => .tuple #[.float k x, .float k y, .int .i64 0]
  | none => .tuple #[.float k 0, .float k 0, .int .i64 5]

def real64 (l : List UInt8) : Option Nat := realOf 16 (nan FloatKind.f64.format) 9221120237041090561 l

theorem both_none {f : List UInt8 → Option Nat} {l : List UInt8} (h : Lib.indexByte l 32 = -1) : bothOf f l = none := by unfold bothOf; rw [if_pos h]
theorem both_some {f : List UInt8 → Option Nat} {l : List UInt8} {k : Nat} (h : Lib.indexByte l 32 = k) : bothOf f l = pairOf (f (l.take k)) (f (l.drop (k + 1))) := by
  unfold bothOf; rw [if_neg (by omega), h]; rfl

theorem readReal_of (s : ByteArray) {o : Option Nat} (h : real64 s.data.toList = o) (w : World) :
    Calls Tryd.prog 19 #[.string s] w (ReadsF .f64 o w) := by
  have := readReal_any s w
  rwa [show realOf 16 (nan FloatKind.f64.format) 9221120237041090561 s.data.toList = o from h] at this
theorem take_data (s : ByteArray) (k : Nat) : (s.extract 0 k).data.toList = s.data.toList.take k := by
  rw [Lib.extract_data, List.drop_zero, Nat.sub_zero]

theorem drop_data (s : ByteArray) (k : Nat) : (s.extract k s.size).data.toList = s.data.toList.drop k := by
  rw [Lib.extract_data, List.take_of_length_le]
  simp

theorem real64_nil : real64 (⟨#[]⟩ : ByteArray).data.toList = none := realOf_nil (by decide)

set_option maxHeartbeats 2000000 in
theorem readParts_any (s : ByteArray) (hs : s.size ≤ 1048576) (w : World) :
    Calls Tryd.prog 18 #[.string s, .func (.func 19) #[] #[]] w (Drew1 (pVal .f64 (bothOf real64 s.data.toList)) w) := by
  by_cases hp : Lib.indexByte s.data.toList 32 = -1
  · rw [both_none hp]
    have h2 := readReal_of ⟨#[]⟩ real64_nil
    cases hx : real64 s.data.toList with
    | none =>
      have h1 := readReal_of s hx
      clear hx
      go_enter Tryd.func18, Tryd.ntmps18
      go_wp2_with (first
        | (go_at_call 28; refine (cut_none s hp _).mono ?_; rintro e w' ⟨rfl, rfl⟩)
        | (go_at_call 19; (first | (with_reducible refine (h2 _).mono ?_) | (with_reducible refine (h1 _).mono ?_)); rintro e w' ⟨r, rfl, hr, hr2, rfl⟩; clear hr hr2))
      go_ret3
      exact ⟨rfl, 0, rfl⟩
    | some x =>
      have h1 := readReal_of s hx
      clear hx
      go_enter Tryd.func18, Tryd.ntmps18
      go_wp2_with (first
        | (go_at_call 28; refine (cut_none s hp _).mono ?_; rintro e w' ⟨rfl, rfl⟩)
        | (go_at_call 19; (first | (with_reducible refine (h2 _).mono ?_) | (with_reducible refine (h1 _).mono ?_)); rintro e w' ⟨r, rfl, hr, hr2, rfl⟩; clear hr hr2))
      go_ret3
      exact ⟨rfl, 0, rfl⟩
  · obtain ⟨k, hk⟩ : ∃ k : Nat, Lib.indexByte s.data.toList 32 = k := ⟨(Lib.indexByte s.data.toList 32).toNat, by have := Lib.indexByte_ge s.data.toList 32; omega⟩
    have hks : k < s.size := by
      have := (List.getElem?_eq_some_iff.1 (Lib.indexByte_some hk).1).1
      simpa using this
    rw [both_some hk]
    clear hp
    cases hx : real64 (s.data.toList.take k) with
    | none =>
      have h1 := readReal_of (s.extract 0 k) (o := none) (by rw [take_data]; exact hx)
      cases hy : real64 (s.data.toList.drop (k + 1)) with
      | none =>
        have h2 := readReal_of (s.extract (k + 1) s.size) (o := none) (by rw [drop_data]; exact hy)
        clear hx hy
        go_enter Tryd.func18, Tryd.ntmps18
        go_wp2_with (first
          | (go_at_call 28; refine (cut_some s k hks hs hk _).mono ?_; rintro e w' ⟨rfl, n, rfl⟩)
          | (go_at_call 19; (first | (with_reducible refine (h2 _).mono ?_) | (with_reducible refine (h1 _).mono ?_)); rintro e w' ⟨r, rfl, hr, hr2, rfl⟩; clear hr hr2))
        go_ret3
        exact ⟨rfl, _, rfl⟩
      | some y =>
        have h2 := readReal_of (s.extract (k + 1) s.size) (o := some y) (by rw [drop_data]; exact hy)
        clear hx hy
        go_enter Tryd.func18, Tryd.ntmps18
        go_wp2_with (first
          | (go_at_call 28; refine (cut_some s k hks hs hk _).mono ?_; rintro e w' ⟨rfl, n, rfl⟩)
          | (go_at_call 19; (first | (with_reducible refine (h2 _).mono ?_) | (with_reducible refine (h1 _).mono ?_)); rintro e w' ⟨r, rfl, hr, hr2, rfl⟩; clear hr hr2))
        go_ret3
        exact ⟨rfl, _, rfl⟩
    | some x =>
      have h1 := readReal_of (s.extract 0 k) (o := some x) (by rw [take_data]; exact hx)
      cases hy : real64 (s.data.toList.drop (k + 1)) with
      | none =>
        have h2 := readReal_of (s.extract (k + 1) s.size) (o := none) (by rw [drop_data]; exact hy)
        clear hx hy
        go_enter Tryd.func18, Tryd.ntmps18
        go_wp2_with (first
          | (go_at_call 28; refine (cut_some s k hks hs hk _).mono ?_; rintro e w' ⟨rfl, n, rfl⟩)
          | (go_at_call 19; (first | (with_reducible refine (h2 _).mono ?_) | (with_reducible refine (h1 _).mono ?_)); rintro e w' ⟨r, rfl, hr, hr2, rfl⟩; clear hr hr2))
        go_ret3
        exact ⟨rfl, _, rfl⟩
      | some y =>
        have h2 := readReal_of (s.extract (k + 1) s.size) (o := some y) (by rw [drop_data]; exact hy)
        clear hx hy
        go_enter Tryd.func18, Tryd.ntmps18
        go_wp2_with (first
          | (go_at_call 28; refine (cut_some s k hks hs hk _).mono ?_; rintro e w' ⟨rfl, n, rfl⟩)
          | (go_at_call 19; (first | ((with_reducible refine (h2 _).mono ?_); rintro e w' ⟨r, rfl, hr, hr2, rfl⟩; obtain rfl := hr _ rfl; clear hr hr2) | ((with_reducible refine (h1 _).mono ?_); rintro e w' ⟨r, rfl, hr, hr2, rfl⟩; obtain rfl := hr _ rfl; clear hr hr2))))
        go_ret3
        exact ⟨rfl, _, rfl⟩

theorem readBits_impl (s : ByteArray) (hs : s.size ≤ 1048576) (w : World) :
    Calls Tryd.prog 8 #[.string s] w (Drew1 (cVal .f64 (bothOf real64 s.data.toList)) w) := by
  have hp := readParts_any s hs
  generalize bothOf real64 s.data.toList = o at *
  rcases o with _ | ⟨x, y⟩
  · go_enter Tryd.func8, Tryd.ntmps8
    go_wp2_with (go_at_call 18; refine (hp _).mono ?_; rintro e w' ⟨rfl, n, rfl⟩; simp only [pVal])
    go_ret2
    exact ⟨rfl, _, rfl⟩
  · go_enter Tryd.func8, Tryd.ntmps8
    go_wp2_with (go_at_call 18; refine (hp _).mono ?_; rintro e w' ⟨rfl, n, rfl⟩; simp only [pVal])
    go_ret2
    exact ⟨rfl, _, rfl⟩
end Go.Proofs.YtnbbkdjfhbcecaaDoor
