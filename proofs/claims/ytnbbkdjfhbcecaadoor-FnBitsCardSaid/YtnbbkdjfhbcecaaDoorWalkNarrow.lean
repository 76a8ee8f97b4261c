import Derived.Test.YtnbbkdjfhbcecaaDoorWalkRead3
import Derived.Test.YtnbbkdjfhbcecaaDoorWalkNext32
/-
  The walks of ReadNarrowBits.
-/
set_option linter.unusedVariables false
set_option linter.unusedSimpArgs false
namespace Go.Proofs.YtnbbkdjfhbcecaaDoor
open Go.RowKit Flt Hex

def real32 (l : List UInt8) : Option Nat := realOf 8 (nan FloatKind.f32.format) 2143289344 l

/-- A narrow number is read: one of the same value, or none. -/
def ReadsN (o : Option Nat) (w : World) (e : Ending) (w' : World) : Prop :=
  ∃ r n, e = .returned (.tuple #[.float .f32 r, .bool o.isSome]) ∧ (∀ v, o = some v → cn .f32 r = cn .f32 v) ∧ w' = w.drewN n

theorem readNarrowReal_of (s : ByteArray) {o : Option Nat} (h : real32 s.data.toList = o) (w : World) :
    Calls Tryd.prog 22 #[.string s] w (ReadsN o w) := by
  subst h
  have nn : nan FloatKind.f32.format 2143289344 = true := by decide
  by_cases hn : s.data.toList = [110, 97, 110]
  · have hr : real32 s.data.toList = some 2143289344 := by unfold real32 realOf; rw [if_pos hn]
    have ht : (s.toList == [110, 97, 110]) = true := by rw [bytes_list]; simpa using hn
    rw [hr]
    clear hr hn
    go_enter Tryd.func22, Tryd.ntmps22
    go_wp2_with (first
      | (go_at_call 29; refine (nan_call _).mono ?_; rintro e w' ⟨rfl, rfl⟩)
      | (refine wpList_narrow _ rfl 44 49 _ rfl 9221120237041090561 rfl (by kernel_rfl) Tryd.underlying49 ?_; intro r n hr; have HQ := Lib.hid (hr.nan (by decide)); clear hr))
    go_ret2
    exact ⟨_, _, rfl, (fun v e => by rw [← Option.some.inj e, cn_none nn, cn_none (‹Hid _›).out]), rfl⟩
  · have ht : (s.toList == [110, 97, 110]) = false := by rw [bytes_list]; simpa using hn
    have HB := readDigits_any s 8 (by omega)
    cases hb : bitsRes 8 s.data.toList with
    | none =>
      rw [show real32 s.data.toList = none from realOf_none hn hb]
      rw [hb] at HB
      clear hb hn
      go_enter Tryd.func22, Tryd.ntmps22
      go_wp2_with (first | (go_at_call 30; refine (HB _).mono ?_; rintro e w' ⟨rfl, rfl⟩; simp only [bitsVal]) | go_in)
      go_ret2
      exact ⟨_, 0, rfl, (fun v e => by cases e), rfl⟩
    | some v =>
      rw [hb] at HB
      have lv := bits8_lt hb
      have lv' : (v : Int) ≤ 4294967295 := by omega
      by_cases hv : nan FloatKind.f32.format v = true
      · rw [show real32 s.data.toList = none from realOf_nan hn hb hv]
        clear hb hn lv
        go_enter Tryd.func22, Tryd.ntmps22
        go_wp2_with (first
          | (go_at_call 30; refine (HB _).mono ?_; rintro e w' ⟨rfl, rfl⟩; simp only [bitsVal])
          | (refine wpList_widen _ rfl 49 44 _ rfl v rfl (by kernel_rfl) Tryd.underlying44 ?_; intro r n hr hr1; have hr' : FloatKind.f64.format.order r r = none := ord_nan_l _ (nan_of_cn (hr.trans (widen_nan hv))); clear hr hr1)
          | go_in)
        go_ret2
        exact ⟨_, _, rfl, (fun v e => by cases e), rfl⟩
      · have hv : nan FloatKind.f32.format v = false := by simpa using hv
        rw [show real32 s.data.toList = some v from realOf_num hn hb hv]
        obtain ⟨u, hu, nu, lu⟩ := widen_num hv
        have c6 := conv64_num hu
        have huu : FloatKind.f64.format.order u u = some .eq := ord_eq nu nu rfl
        clear hb hn hv lv hu nu lu
        go_enter Tryd.func22, Tryd.ntmps22
        go_wp2_with (first | (go_at_call 30; refine (HB _).mono ?_; rintro e w' ⟨rfl, rfl⟩; simp only [bitsVal]) | go_in)
        go_ret2
        exact ⟨_, 0, rfl, (fun v e => by rw [Option.some.inj e]), rfl⟩

theorem real32_nil : real32 (⟨#[]⟩ : ByteArray).data.toList = none := realOf_nil (by decide)

/-- Two narrow numbers of these values, or none. -/
def ReadsP (o : Option (Nat × Nat)) (w : World) (e : Ending) (w' : World) : Prop :=
  ∃ a b n, (match o with
    | some (x, y) => e = .returned (.tuple #[.float .f32 a, .float .f32 b, .int .i64 0]) ∧ cn .f32 a = cn .f32 x ∧ cn .f32 b = cn .f32 y
    | none => e = .returned (.tuple #[.float .f32 0, .float .f32 0, .int .i64 5])) ∧ w' = w.drewN n

set_option maxHeartbeats 4000000 in
theorem readParts32_any (s : ByteArray) (hs : s.size ≤ 1048576) (w : World) :
    Calls Tryd.prog 21 #[.string s, .func (.func 22) #[] #[]] w (ReadsP (bothOf real32 s.data.toList) w) := by
  by_cases hp : Lib.indexByte s.data.toList 32 = -1
  · rw [both_none hp]
    have h2 := readNarrowReal_of ⟨#[]⟩ real32_nil
    cases hx : real32 s.data.toList with
    | none =>
      have h1 := readNarrowReal_of s hx
      clear hx
      go_enter Tryd.func21, Tryd.ntmps21
      go_wp2_with (first
        | (go_at_call 28; refine (cut_none s hp _).mono ?_; rintro e w' ⟨rfl, rfl⟩)
        | (go_at_call 22; (first | (with_reducible refine (h2 _).mono ?_) | (with_reducible refine (h1 _).mono ?_)); rintro e w' ⟨r, n, rfl, hr, rfl⟩; clear hr))
      go_ret3
      exact ⟨0, 0, _, rfl, rfl⟩
    | some x =>
      have h1 := readNarrowReal_of s hx
      clear hx
      go_enter Tryd.func21, Tryd.ntmps21
      go_wp2_with (first
        | (go_at_call 28; refine (cut_none s hp _).mono ?_; rintro e w' ⟨rfl, rfl⟩)
        | (go_at_call 22; (first | (with_reducible refine (h2 _).mono ?_) | (with_reducible refine (h1 _).mono ?_)); rintro e w' ⟨r, n, rfl, hr, rfl⟩; clear hr))
      go_ret3
      exact ⟨0, 0, _, rfl, rfl⟩
  · obtain ⟨k, hk⟩ : ∃ k : Nat, Lib.indexByte s.data.toList 32 = k := ⟨(Lib.indexByte s.data.toList 32).toNat, by have := Lib.indexByte_ge s.data.toList 32; omega⟩
    have hks : k < s.size := by
      have := (List.getElem?_eq_some_iff.1 (Lib.indexByte_some hk).1).1
      simpa using this
    rw [both_some hk]
    clear hp
    cases hx : real32 (s.data.toList.take k) with
    | none =>
      have h1 := readNarrowReal_of (s.extract 0 k) (o := none) (by rw [take_data]; exact hx)
      cases hy : real32 (s.data.toList.drop (k + 1)) with
      | none =>
        have h2 := readNarrowReal_of (s.extract (k + 1) s.size) (o := none) (by rw [drop_data]; exact hy)
        clear hx hy
        go_enter Tryd.func21, Tryd.ntmps21
        go_wp2_with (first
          | (go_at_call 28; refine (cut_some s k hks hs hk _).mono ?_; rintro e w' ⟨rfl, n, rfl⟩)
          | (go_at_call 22; (first | (with_reducible refine (h2 _).mono ?_) | (with_reducible refine (h1 _).mono ?_)); rintro e w' ⟨r, n, rfl, hr, rfl⟩; clear hr))
        go_ret3
        exact ⟨0, 0, _, rfl, rfl⟩
      | some y =>
        have h2 := readNarrowReal_of (s.extract (k + 1) s.size) (o := some y) (by rw [drop_data]; exact hy)
        clear hx hy
        go_enter Tryd.func21, Tryd.ntmps21
        go_wp2_with (first
          | (go_at_call 28; refine (cut_some s k hks hs hk _).mono ?_; rintro e w' ⟨rfl, n, rfl⟩)
          | (go_at_call 22; (first | (with_reducible refine (h2 _).mono ?_) | (with_reducible refine (h1 _).mono ?_)); rintro e w' ⟨r, n, rfl, hr, rfl⟩; clear hr))
        go_ret3
        exact ⟨0, 0, _, rfl, rfl⟩
    | some x =>
      have h1 := readNarrowReal_of (s.extract 0 k) (o := some x) (by rw [take_data]; exact hx)
      cases hy : real32 (s.data.toList.drop (k + 1)) with
      | none =>
        have h2 := readNarrowReal_of (s.extract (k + 1) s.size) (o := none) (by rw [drop_data]; exact hy)
        clear hx hy
        go_enter Tryd.func21, Tryd.ntmps21
        go_wp2_with (first
          | (go_at_call 28; refine (cut_some s k hks hs hk _).mono ?_; rintro e w' ⟨rfl, n, rfl⟩)
          | (go_at_call 22; (first | (with_reducible refine (h2 _).mono ?_) | (with_reducible refine (h1 _).mono ?_)); rintro e w' ⟨r, n, rfl, hr, rfl⟩; clear hr))
        go_ret3
        exact ⟨0, 0, _, rfl, rfl⟩
      | some y =>
        have h2 := readNarrowReal_of (s.extract (k + 1) s.size) (o := some y) (by rw [drop_data]; exact hy)
        clear hx hy
        go_enter Tryd.func21, Tryd.ntmps21
        go_wp2_with (first
          | (go_at_call 28; refine (cut_some s k hks hs hk _).mono ?_; rintro e w' ⟨rfl, n, rfl⟩)
          | (go_at_call 22; (first | ((with_reducible refine (h2 _).mono ?_); rintro e w' ⟨b, n, rfl, hr, rfl⟩; have HB := Lib.hid (hr _ rfl); clear hr) | ((with_reducible refine (h1 _).mono ?_); rintro e w' ⟨a, n, rfl, hr, rfl⟩; have HA := Lib.hid (hr _ rfl); clear hr))))
        go_ret3
        exact ⟨_, _, _, ⟨rfl, HA.out, HB.out⟩, rfl⟩

/-- A narrow complex number of these values, or none. -/
def ReadsC (o : Option (Nat × Nat)) (w : World) (e : Ending) (w' : World) : Prop :=
  ∃ a b, (match o with
    | some (x, y) => e = .returned (.tuple #[.complex .f32 a b, .int .i64 0]) ∧ cn .f32 a = cn .f32 x ∧ cn .f32 b = cn .f32 y
    | none => e = .returned (.tuple #[.complex .f32 0 0, .int .i64 5])) ∧ Below w.heap.size w w'

theorem readNarrow_impl (s : ByteArray) (hs : s.size ≤ 1048576) (w : World) :
    Calls Tryd.prog 10 #[.string s] w (ReadsC (bothOf real32 s.data.toList) w) := by
  have hp := readParts32_any s hs
  generalize bothOf real32 s.data.toList = o at *
  rcases o with _ | ⟨x, y⟩
  · go_enter Tryd.func10, Tryd.ntmps10
    go_wp2_with (go_at_call 21; refine (hp _).mono ?_; rintro e w' ⟨a, b, n, rfl, rfl⟩)
    go_ret2
    exact ⟨0, 0, rfl, below_draws (Below.refl _ _) _⟩
  · go_enter Tryd.func10, Tryd.ntmps10
    go_wp2_with (go_at_call 21; refine (hp _).mono ?_; rintro e w' ⟨a, b, n, ⟨rfl, ha, hb⟩, rfl⟩; have HA := Lib.hid ha; have HB := Lib.hid hb; clear ha hb)
    go_ret2
    exact ⟨_, _, ⟨rfl, HA.out, HB.out⟩, below_draws (Below.refl _ _) _⟩

/-- Widening goes by the value. -/
theorem widen_cn {a c : Nat} (h : cn .f32 a = cn .f32 c) : floatToFloatBits .f32 a .f64 = floatToFloatBits .f32 c .f64 := by
  by_cases ha : nan FloatKind.f32.format a = true
  · rw [cn_none ha] at h
    rw [widen_nan ha, widen_nan (nan_of_cn h.symm)]
  · have ha : nan FloatKind.f32.format a = false := by simpa using ha
    rw [cn_some ha] at h
    rw [(num_of_cn h.symm).2]

end Go.Proofs.YtnbbkdjfhbcecaaDoor
