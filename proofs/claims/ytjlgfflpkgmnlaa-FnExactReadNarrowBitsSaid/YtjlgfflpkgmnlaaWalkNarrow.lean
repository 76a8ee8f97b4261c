import Derived.Test.YtjlgfflpkgmnlaaWalkRead3
import Derived.Test.YtjlgfflpkgmnlaaWalkNext32
/-
  The walks of ReadNarrowBits.
-/
set_option linter.unusedVariables false
set_option linter.unusedSimpArgs false
namespace Go.Proofs.Ytjlgfflpkgmnlaa
open Go.RowKit Flt Hex

/-- The law of the walk: a narrow complex number, widened. -/
theorem wpList_widenC {P : Program} (w : World) {ops : Array Oper} {rest : List Oper} {o : Oper} {a : Act} {Q : Exit → Act → World → Prop} (hw : Region.wanted o (yielded ops a.tmps) = true)
    (src dst : TypeId) (x : Operand) (ho : o.op = Op.convert src dst x) (u v : Nat) (hx : a.eval x = .complex .f32 u v) (hs : (P.underlying src).isSome = true) (hd : P.underlying dst = some (.complex .f64))
    (hK : ∀ r s n, cn .f64 r = floatToFloatBits .f32 u .f64 → cn .f64 s = floatToFloatBits .f32 v .f64 → r < 18446744073709551616 → s < 18446744073709551616 → wpList P ops Q rest (a.put o.dst (.complex .f64 r s)) (w.drewN n)) : wpList P ops Q (o :: rest) a w := by
  refine BigFrame.wpList_want hw fun K hK' => ?_
  have one : ∀ (w : World) (u : Nat), ∃ r n, (Conv.floatToFloat .f32 u .f64).run P w = .ok (.float .f64 r) (w.drewN n) ∧ cn .f64 r = floatToFloatBits .f32 u .f64 ∧ r < 18446744073709551616 := by
    intro w u
    by_cases hu : nan FloatKind.f32.format u = true
    · obtain ⟨s, t, e⟩ := read_nan Ieee.single hbi32 (x := u) hu
      have d1 : FloatKind.f32.decode u = .nan s t := e
      have c := cut_nanConv .f64 u (w.tape w.drawn (.nanConv .f64 u))
      refine ⟨_, 1, ?_, by rw [widen_nan hu]; exact cn_none c.1, c.2⟩
      simp [Conv.floatToFloat, d1, Question.forced]; rfl
    · have hu : nan FloatKind.f32.format u = false := by simpa using hu
      obtain ⟨v, h1, h2, h3⟩ := widen_num hu
      exact ⟨v, 0, run_floatToFloat w h1, by rw [h1, cn_some h2], h3⟩
  obtain ⟨r, n, e1, h1, h2⟩ := one w u
  obtain ⟨s, m, e2, h3, h4⟩ := one (w.drewN n) v
  have hk := hK' _ _ (hK r s (n + m) h1 h3 h2 h4)
  rw [World.drewN_drewN] at e2
  have hr : (convert src dst (.complex .f32 u v)).run P w = .ok (.complex .f64 r s) (w.drewN (n + m)) := by
    obtain ⟨t, hs'⟩ := Option.isSome_iff_exists.1 hs
    cases t <;> simp [convert, run_underlying hs', run_underlying hd, Conv.complexToComplex, e1, e2]
  unfold Oper.wp
  simp [execOp, ho, hx, hr, Result.andThen]
  exact hk

def real32 (l : List UInt8) : Option Nat := realOf 8 (nan FloatKind.f32.format) 2143289344 l

/-- A narrow number is read: one of the same value, or none. -/
def ReadsN (o : Option Nat) (w : World) (e : Ending) (w' : World) : Prop :=
  ∃ r n, e = .returned (.tuple #[.float .f32 r, .bool o.isSome]) ∧ (∀ v, o = some v → cn .f32 r = cn .f32 v) ∧ w' = w.drewN n

theorem l01ReadNarrow_of (s : ByteArray) {o : Option Nat} (h : real32 s.data.toList = o) (w : World) :
    Calls Try.prog 84 #[.string s] w (ReadsN o w) := by
  subst h
  have nn : nan FloatKind.f32.format 2143289344 = true := by decide
  by_cases hn : s.data.toList = [110, 97, 110]
  · have hr : real32 s.data.toList = some 2143289344 := by unfold real32 realOf; rw [if_pos hn]
    have ht : (s.toList == [110, 97, 110]) = true := by rw [bytes_list]; simpa using hn
    rw [hr]
    clear hr hn
    go_enter Try.func84, Try.ntmps84
    go_wp2_with (first
      | (go_at_call 120; refine (nan_call _).mono ?_; rintro e w' ⟨rfl, rfl⟩)
      | (refine wpList_narrow _ rfl 24 29 _ rfl 9221120237041090561 rfl (by kernel_rfl) Try.underlying29 ?_; intro r n hr; have HQ := Lib.hid (hr.nan (by decide)); clear hr))
    go_ret2
    exact ⟨_, _, rfl, (fun v e => by rw [← Option.some.inj e, cn_none nn, cn_none (‹Hid _›).out]), rfl⟩
  · have ht : (s.toList == [110, 97, 110]) = false := by rw [bytes_list]; simpa using hn
    have HB := l01Bits_any s 8 (by omega)
    cases hb : bitsRes 8 s.data.toList with
    | none =>
      rw [show real32 s.data.toList = none from realOf_none hn hb]
      rw [hb] at HB
      clear hb hn
      go_enter Try.func84, Try.ntmps84
      go_wp2_with (first | (go_at_call 125; refine (HB _).mono ?_; rintro e w' ⟨rfl, rfl⟩; simp only [bitsVal]) | go_in)
      go_ret2
      exact ⟨_, 0, rfl, (fun v e => by cases e), rfl⟩
    | some v =>
      rw [hb] at HB
      have lv := bits8_lt hb
      have lv' : (v : Int) ≤ 4294967295 := by omega
      by_cases hv : nan FloatKind.f32.format v = true
      · rw [show real32 s.data.toList = none from realOf_nan hn hb hv]
        have ho : FloatKind.f32.format.order v v = none := ord_nan_l _ hv
        clear hb hn hv lv
        go_enter Try.func84, Try.ntmps84
        go_wp2_with (first | (go_at_call 125; refine (HB _).mono ?_; rintro e w' ⟨rfl, rfl⟩; simp only [bitsVal]) | go_in)
        go_ret2
        exact ⟨_, 0, rfl, (fun v e => by cases e), rfl⟩
      · have hv : nan FloatKind.f32.format v = false := by simpa using hv
        rw [show real32 s.data.toList = some v from realOf_num hn hb hv]
        have ho : FloatKind.f32.format.order v v = some .eq := ord_eq hv hv rfl
        clear hb hn hv lv
        go_enter Try.func84, Try.ntmps84
        go_wp2_with (first | (go_at_call 125; refine (HB _).mono ?_; rintro e w' ⟨rfl, rfl⟩; simp only [bitsVal]) | go_in)
        go_ret2
        exact ⟨_, 0, rfl, (fun v e => by rw [Option.some.inj e]), rfl⟩

theorem readNarrowReal_of (s : ByteArray) {o : Option Nat} (h : real32 s.data.toList = o) (w : World) :
    Calls Try.prog 86 #[.string s] w (ReadsN o w) := by
  subst h
  have nn : nan FloatKind.f32.format 2143289344 = true := by decide
  by_cases hn : s.data.toList = [110, 97, 110]
  · have hr : real32 s.data.toList = some 2143289344 := by unfold real32 realOf; rw [if_pos hn]
    have ht : (s.toList == [110, 97, 110]) = true := by rw [bytes_list]; simpa using hn
    rw [hr]
    clear hr hn
    go_enter Try.func86, Try.ntmps86
    go_wp2_with (first
      | (go_at_call 120; refine (nan_call _).mono ?_; rintro e w' ⟨rfl, rfl⟩)
      | (refine wpList_narrow _ rfl 24 29 _ rfl 9221120237041090561 rfl (by kernel_rfl) Try.underlying29 ?_; intro r n hr; have HQ := Lib.hid (hr.nan (by decide)); clear hr))
    go_ret2
    exact ⟨_, _, rfl, (fun v e => by rw [← Option.some.inj e, cn_none nn, cn_none (‹Hid _›).out]), rfl⟩
  · have ht : (s.toList == [110, 97, 110]) = false := by rw [bytes_list]; simpa using hn
    have HB := readDigits_any s 8 (by omega)
    cases hb : bitsRes 8 s.data.toList with
    | none =>
      rw [show real32 s.data.toList = none from realOf_none hn hb]
      rw [hb] at HB
      clear hb hn
      go_enter Try.func86, Try.ntmps86
      go_wp2_with (first | (go_at_call 127; refine (HB _).mono ?_; rintro e w' ⟨rfl, rfl⟩; simp only [bitsVal]) | go_in)
      go_ret2
      exact ⟨_, 0, rfl, (fun v e => by cases e), rfl⟩
    | some v =>
      rw [hb] at HB
      have lv := bits8_lt hb
      have lv' : (v : Int) ≤ 4294967295 := by omega
      by_cases hv : nan FloatKind.f32.format v = true
      · rw [show real32 s.data.toList = none from realOf_nan hn hb hv]
        clear hb hn lv
        go_enter Try.func86, Try.ntmps86
        go_wp2_with (first
          | (go_at_call 127; refine (HB _).mono ?_; rintro e w' ⟨rfl, rfl⟩; simp only [bitsVal])
          | (refine wpList_widen _ rfl 29 24 _ rfl v rfl (by kernel_rfl) Try.underlying24 ?_; intro r n hr hr1; have hr' : FloatKind.f64.format.order r r = none := ord_nan_l _ (nan_of_cn (hr.trans (widen_nan hv))); clear hr hr1)
          | go_in)
        go_ret2
        exact ⟨_, _, rfl, (fun v e => by cases e), rfl⟩
      · have hv : nan FloatKind.f32.format v = false := by simpa using hv
        rw [show real32 s.data.toList = some v from realOf_num hn hb hv]
        obtain ⟨u, hu, nu, lu⟩ := widen_num hv
        have c6 := conv64_num hu
        have huu : FloatKind.f64.format.order u u = some .eq := ord_eq nu nu rfl
        clear hb hn hv lv hu nu lu
        go_enter Try.func86, Try.ntmps86
        go_wp2_with (first | (go_at_call 127; refine (HB _).mono ?_; rintro e w' ⟨rfl, rfl⟩; simp only [bitsVal]) | go_in)
        go_ret2
        exact ⟨_, 0, rfl, (fun v e => by rw [Option.some.inj e]), rfl⟩

theorem real32_nil : real32 (⟨#[]⟩ : ByteArray).data.toList = none := realOf_nil (by decide)

/-- Two narrow numbers of these values, or none. -/
def ReadsP (o : Option (Nat × Nat)) (w : World) (e : Ending) (w' : World) : Prop :=
  ∃ a b n, (match o with
    | some (x, y) => e = .returned (.tuple #[.float .f32 a, .float .f32 b, .int .i64 0]) ∧ cn .f32 a = cn .f32 x ∧ cn .f32 b = cn .f32 y
    | none => e = .returned (.tuple #[.float .f32 0, .float .f32 0, .int .i64 5])) ∧ w' = w.drewN n

set_option maxHeartbeats 4000000 in
theorem readParts32_any (s : ByteArray) (hs : s.size ≤ 1048576) (w : World) :
    Calls Try.prog 85 #[.string s, .func (.func 86) #[] #[]] w (ReadsP (bothOf real32 s.data.toList) w) := by
  by_cases hp : Lib.indexByte s.data.toList 32 = -1
  · rw [both_none hp]
    have h2 := readNarrowReal_of ⟨#[]⟩ real32_nil
    cases hx : real32 s.data.toList with
    | none =>
      have h1 := readNarrowReal_of s hx
      clear hx
      go_enter Try.func85, Try.ntmps85
      go_wp2_with (first
        | (go_at_call 126; refine (cut_none s hp _).mono ?_; rintro e w' ⟨rfl, rfl⟩)
        | (go_at_call 86; (first | (with_reducible refine (h2 _).mono ?_) | (with_reducible refine (h1 _).mono ?_)); rintro e w' ⟨r, n, rfl, hr, rfl⟩; clear hr))
      go_ret3
      exact ⟨0, 0, _, rfl, rfl⟩
    | some x =>
      have h1 := readNarrowReal_of s hx
      clear hx
      go_enter Try.func85, Try.ntmps85
      go_wp2_with (first
        | (go_at_call 126; refine (cut_none s hp _).mono ?_; rintro e w' ⟨rfl, rfl⟩)
        | (go_at_call 86; (first | (with_reducible refine (h2 _).mono ?_) | (with_reducible refine (h1 _).mono ?_)); rintro e w' ⟨r, n, rfl, hr, rfl⟩; clear hr))
      go_ret3
      exact ⟨0, 0, _, rfl, rfl⟩
  · obtain ⟨k, hk⟩ : ∃ k : Nat, Lib.indexByte s.data.toList 32 = k := ⟨(Lib.indexByte s.data.toList 32).toNat, by have := Lib.indexByte_ge s.data.toList 32; omega⟩
    have hks : k < s.size := by
      have := (List.getElem?_eq_some_iff.1 (Lib.indexByte_some hk).1).1
      simpa using this
    rw [both_some hk]
    clear hp
    cases hx : real32 (s.data.toList.take k) with
    | none =>
      have h1 := readNarrowReal_of (s.extract 0 k) (o := none) (by rw [take_data]; exact hx)
      cases hy : real32 (s.data.toList.drop (k + 1)) with
      | none =>
        have h2 := readNarrowReal_of (s.extract (k + 1) s.size) (o := none) (by rw [drop_data]; exact hy)
        clear hx hy
        go_enter Try.func85, Try.ntmps85
        go_wp2_with (first
          | (go_at_call 126; refine (cut_some s k hks hs hk _).mono ?_; rintro e w' ⟨rfl, n, rfl⟩)
          | (go_at_call 86; (first | (with_reducible refine (h2 _).mono ?_) | (with_reducible refine (h1 _).mono ?_)); rintro e w' ⟨r, n, rfl, hr, rfl⟩; clear hr))
        go_ret3
        exact ⟨0, 0, _, rfl, rfl⟩
      | some y =>
        have h2 := readNarrowReal_of (s.extract (k + 1) s.size) (o := some y) (by rw [drop_data]; exact hy)
        clear hx hy
        go_enter Try.func85, Try.ntmps85
        go_wp2_with (first
          | (go_at_call 126; refine (cut_some s k hks hs hk _).mono ?_; rintro e w' ⟨rfl, n, rfl⟩)
          | (go_at_call 86; (first | (with_reducible refine (h2 _).mono ?_) | (with_reducible refine (h1 _).mono ?_)); rintro e w' ⟨r, n, rfl, hr, rfl⟩; clear hr))
        go_ret3
        exact ⟨0, 0, _, rfl, rfl⟩
    | some x =>
      have h1 := readNarrowReal_of (s.extract 0 k) (o := some x) (by rw [take_data]; exact hx)
      cases hy : real32 (s.data.toList.drop (k + 1)) with
      | none =>
        have h2 := readNarrowReal_of (s.extract (k + 1) s.size) (o := none) (by rw [drop_data]; exact hy)
        clear hx hy
        go_enter Try.func85, Try.ntmps85
        go_wp2_with (first
          | (go_at_call 126; refine (cut_some s k hks hs hk _).mono ?_; rintro e w' ⟨rfl, n, rfl⟩)
          | (go_at_call 86; (first | (with_reducible refine (h2 _).mono ?_) | (with_reducible refine (h1 _).mono ?_)); rintro e w' ⟨r, n, rfl, hr, rfl⟩; clear hr))
        go_ret3
        exact ⟨0, 0, _, rfl, rfl⟩
      | some y =>
        have h2 := readNarrowReal_of (s.extract (k + 1) s.size) (o := some y) (by rw [drop_data]; exact hy)
        clear hx hy
        go_enter Try.func85, Try.ntmps85
        go_wp2_with (first
          | (go_at_call 126; refine (cut_some s k hks hs hk _).mono ?_; rintro e w' ⟨rfl, n, rfl⟩)
          | (go_at_call 86; (first | ((with_reducible refine (h2 _).mono ?_); rintro e w' ⟨b, n, rfl, hr, rfl⟩; have HB := Lib.hid (hr _ rfl); clear hr) | ((with_reducible refine (h1 _).mono ?_); rintro e w' ⟨a, n, rfl, hr, rfl⟩; have HA := Lib.hid (hr _ rfl); clear hr))))
        go_ret3
        exact ⟨_, _, _, ⟨rfl, HA.out, HB.out⟩, rfl⟩

/-- A narrow complex number of these values, or none. -/
def ReadsC (o : Option (Nat × Nat)) (w : World) (e : Ending) (w' : World) : Prop :=
  ∃ a b, (match o with
    | some (x, y) => e = .returned (.tuple #[.complex .f32 a b, .int .i64 0]) ∧ cn .f32 a = cn .f32 x ∧ cn .f32 b = cn .f32 y
    | none => e = .returned (.tuple #[.complex .f32 0 0, .int .i64 5])) ∧ Below w.heap.size w w'

theorem readNarrow_impl (s : ByteArray) (hs : s.size ≤ 1048576) (w : World) :
    Calls Try.prog 31 #[.string s] w (ReadsC (bothOf real32 s.data.toList) w) := by
  have hp := readParts32_any s hs
  generalize bothOf real32 s.data.toList = o at *
  rcases o with _ | ⟨x, y⟩
  · go_enter Try.func31, Try.ntmps31
    go_wp2_with (go_at_call 85; refine (hp _).mono ?_; rintro e w' ⟨a, b, n, rfl, rfl⟩)
    go_ret2
    exact ⟨0, 0, rfl, below_draws (Below.refl _ _) _⟩
  · go_enter Try.func31, Try.ntmps31
    go_wp2_with (go_at_call 85; refine (hp _).mono ?_; rintro e w' ⟨a, b, n, ⟨rfl, ha, hb⟩, rfl⟩; have HA := Lib.hid ha; have HB := Lib.hid hb; clear ha hb)
    go_ret2
    exact ⟨_, _, ⟨rfl, HA.out, HB.out⟩, below_draws (Below.refl _ _) _⟩

set_option maxHeartbeats 1000000 in
theorem readNarrow_other (s : ByteArray) (hs : s.size ≤ 1048576) (hn : (wordsOf s).length ≠ 2) (w : World) :
    Calls Try.prog 30 #[.string s] w (ReadsC none w) := by
  have hne : wordsOf s ≠ [] := by unfold wordsOf; simp
  go_enter Try.func30, Try.ntmps30
  go_wp2_with fail
  refine (l01Split_any s hs w).mono ?_
  rintro e w1 ⟨v, rfl, hown, hb⟩
  obtain ⟨g, cap, rfl, -⟩ := row_open hown hne
  have hc : (((wordsOf s).length : Int) != 2) = true := by simp; omega
  clear hown hne hn
  go_wp2
  go_ret2
  exact ⟨0, 0, rfl, hb⟩

set_option maxHeartbeats 4000000 in
theorem readNarrow_two (s : ByteArray) (hs : s.size ≤ 1048576) (x y : ByteArray) (hw : wordsOf s = [x, y]) (o p : Option Nat) (hx : real32 x.data.toList = o) (hy : real32 y.data.toList = p) (w : World) :
    Calls Try.prog 30 #[.string s] w (ReadsC (pairOf o p) w) := by
  have h1 := l01ReadNarrow_of x hx
  have h2 := l01ReadNarrow_of y hy
  go_enter Try.func30, Try.ntmps30
  go_wp2_with fail
  refine (l01Split_any s hs w).mono ?_
  rintro e w1 ⟨v, rfl, hown, hb⟩
  rw [hw] at hown
  obtain ⟨g, cap, rfl, hc⟩ := row_open hown (by simp)
  have c0 := hc 0 x rfl
  have c1 := hc 1 y rfl
  clear hown hc hw hx hy hs
  cases o with
  | none =>
    cases p with
    | none =>
      go_wp2_with (go_at_call 84; (first | ((with_reducible refine (h2 _).mono ?_); rintro e w' ⟨r, n, rfl, hr, rfl⟩; clear hr) | ((with_reducible refine (h1 _).mono ?_); rintro e w' ⟨r, n, rfl, hr, rfl⟩; clear hr)))
      go_ret2
      exact ⟨0, 0, rfl, below_draws hb _⟩
    | some b =>
      go_wp2_with (go_at_call 84; (first | ((with_reducible refine (h2 _).mono ?_); rintro e w' ⟨r, n, rfl, hr, rfl⟩; clear hr) | ((with_reducible refine (h1 _).mono ?_); rintro e w' ⟨r, n, rfl, hr, rfl⟩; clear hr)))
      go_ret2
      exact ⟨0, 0, rfl, below_draws hb _⟩
  | some a =>
    cases p with
    | none =>
      go_wp2_with (go_at_call 84; (first | ((with_reducible refine (h2 _).mono ?_); rintro e w' ⟨r, n, rfl, hr, rfl⟩; clear hr) | ((with_reducible refine (h1 _).mono ?_); rintro e w' ⟨r, n, rfl, hr, rfl⟩; clear hr)))
      go_ret2
      exact ⟨0, 0, rfl, below_draws hb _⟩
    | some b =>
      go_wp2_with (go_at_call 84; (first | ((with_reducible refine (h2 _).mono ?_); rintro e w' ⟨q, n, rfl, hr, rfl⟩; have HB := Lib.hid (hr _ rfl); clear hr) | ((with_reducible refine (h1 _).mono ?_); rintro e w' ⟨r, n, rfl, hr, rfl⟩; have HA := Lib.hid (hr _ rfl); clear hr)))
      go_ret2
      exact ⟨_, _, ⟨rfl, HA.out, HB.out⟩, below_draws hb _⟩

theorem readNarrow_spec (s : ByteArray) (hs : s.size ≤ 1048576) (w : World) :
    Calls Try.prog 30 #[.string s] w (ReadsC (bothOf real32 s.data.toList) w) := by
  by_cases hp : Lib.indexByte s.data.toList 32 = -1
  · rw [both_none hp]
    exact readNarrow_other s hs (by rw [words_none hp]; decide) w
  · obtain ⟨k, hk⟩ : ∃ k : Nat, Lib.indexByte s.data.toList 32 = k := ⟨(Lib.indexByte s.data.toList 32).toNat, by have := Lib.indexByte_ge s.data.toList 32; omega⟩
    rw [both_some hk]
    by_cases hm : (32 : UInt8) ∈ s.data.toList.drop (k + 1)
    · have e : real32 (s.data.toList.drop (k + 1)) = none := realOf_space hm
      rw [e]
      have := words_many hk hm
      have h := readNarrow_other s hs (by omega) w
      have e2 : pairOf (real32 (s.data.toList.take k)) none = none := by cases real32 (s.data.toList.take k) <;> rfl
      rw [e2]; exact h
    · have hw := words_one hk hm
      have := readNarrow_two s hs _ _ hw _ _ rfl rfl w
      rwa [take_data, drop_data] at this

set_option maxHeartbeats 1000000 in
theorem sameComplex_cn (a b c d : Nat) (la : a < 18446744073709551616) (lb : b < 18446744073709551616) (h1 : cn .f64 a = cn .f64 c) (h2 : cn .f64 b = cn .f64 d) (w : World) :
    Calls Try.prog 29 #[.complex .f64 a b, .complex .f64 c d] w fun e w' => e = .returned (.bool true) ∧ w' = w := by
  have H1 := sameFloat_any a c h1 la
  have H2 := sameFloat_any b d h2 lb
  clear h1 h2
  go_enter Try.func29, Try.ntmps29
  go_wp2_with (go_at_call 23; (first | ((with_reducible refine (H1 _).mono ?_); rintro e w' ⟨rfl, rfl⟩) | ((with_reducible refine (H2 _).mono ?_); rintro e w' ⟨rfl, rfl⟩)))
  go_ret
  exact ⟨rfl, rfl⟩

/-- Widening goes by the value. -/
theorem widen_cn {a c : Nat} (h : cn .f32 a = cn .f32 c) : floatToFloatBits .f32 a .f64 = floatToFloatBits .f32 c .f64 := by
  by_cases ha : nan FloatKind.f32.format a = true
  · rw [cn_none ha] at h
    rw [widen_nan ha, widen_nan (nan_of_cn h.symm)]
  · have ha : nan FloatKind.f32.format a = false := by simpa using ha
    rw [cn_some ha] at h
    rw [(num_of_cn h.symm).2]

set_option maxRecDepth 100000 in
set_option maxHeartbeats 2000000 in
theorem readNarrow_law (s : ByteArray) (w : World) (hm : s.size ≤ maxLen) :
    Calls Try.prog 10 #[.string s] w fun e w' => e = .returned (.bool true) ∧ Below w.heap.size w w' := by
  by_cases hs : s.size ≤ 1048576
  · have h1 := readNarrow_spec s hs
    have h2 := readNarrow_impl s hs
    generalize bothOf real32 s.data.toList = o at *
    rcases o with _ | ⟨x, y⟩
    · go_enter Try.func10, Try.ntmps10
      go_wp2_with fail
      refine (h1 _).mono ?_
      rintro e w1 ⟨a, b, rfl, hb1⟩
      go_wp2_with fail
      refine (h2 _).mono ?_
      rintro e w2 ⟨c, d, rfl, hb2⟩
      have hb : Below w.heap.size w w2 := hb1.trans (hb2.mono hb1.size)
      clear hb1 hb2 h1 h2
      have tok1 : True := trivial
      have tok2 : True := trivial
      go_wp2_with (first
        | (have _t := tok1; refine wpList_widenC _ rfl 43 38 _ rfl _ _ rfl (by kernel_rfl) Try.underlying38 ?_; intro r s1 n hr1 hs1 lr1 ls1; have hr1h := Lib.hid hr1; have hs1h := Lib.hid hs1; have lr1h := Lib.hid lr1; have ls1h := Lib.hid ls1; clear hr1 hs1 lr1 ls1; clear tok1)
        | (have _t := tok2; refine wpList_widenC _ rfl 43 38 _ rfl _ _ rfl (by kernel_rfl) Try.underlying38 ?_; intro q t1 n hr2 hs2 lr2 ls2; have hr2h := Lib.hid hr2; have hs2h := Lib.hid hs2; have lr2h := Lib.hid lr2; have ls2h := Lib.hid ls2; clear hr2 hs2 lr2 ls2; clear tok2)
        | (go_at_call 29; refine (sameComplex_cn _ _ _ _ lr1h.out ls1h.out (hr1h.out.trans hr2h.out.symm) (hs1h.out.trans hs2h.out.symm) _).mono ?_; rintro e w' ⟨rfl, rfl⟩))
      go_ret
      exact ⟨rfl, below_draws hb _⟩
    · go_enter Try.func10, Try.ntmps10
      go_wp2_with fail
      refine (h1 _).mono ?_
      rintro e w1 ⟨a, b, ⟨rfl, ha, hb'⟩, hb1⟩
      go_wp2_with fail
      refine (h2 _).mono ?_
      rintro e w2 ⟨c, d, ⟨rfl, hc, hd⟩, hb2⟩
      have hb : Below w.heap.size w w2 := hb1.trans (hb2.mono hb1.size)
      have E1 := Lib.hid (widen_cn (hc.trans ha.symm))
      have E2 := Lib.hid (widen_cn (hd.trans hb'.symm))
      clear hb1 hb2 h1 h2 ha hb' hc hd
      have tok1 : True := trivial
      have tok2 : True := trivial
      go_wp2_with (first
        | (have _t := tok1; refine wpList_widenC _ rfl 43 38 _ rfl _ _ rfl (by kernel_rfl) Try.underlying38 ?_; intro r s1 n hr1 hs1 lr1 ls1; have hr1h := Lib.hid hr1; have hs1h := Lib.hid hs1; have lr1h := Lib.hid lr1; have ls1h := Lib.hid ls1; clear hr1 hs1 lr1 ls1; clear tok1)
        | (have _t := tok2; refine wpList_widenC _ rfl 43 38 _ rfl _ _ rfl (by kernel_rfl) Try.underlying38 ?_; intro q t1 n hr2 hs2 lr2 ls2; have hr2h := Lib.hid hr2; have hs2h := Lib.hid hs2; have lr2h := Lib.hid lr2; have ls2h := Lib.hid ls2; clear hr2 hs2 lr2 ls2; clear tok2)
        | (go_at_call 29; refine (sameComplex_cn _ _ _ _ lr1h.out ls1h.out (hr1h.out.trans (E1.out.trans hr2h.out.symm)) (hs1h.out.trans (E2.out.trans hs2h.out.symm)) _).mono ?_; rintro e w' ⟨rfl, rfl⟩))
      go_ret
      exact ⟨rfl, below_draws hb _⟩
  · have hg : 1048576 < s.size := by omega
    clear hs
    go_enter Try.func10, Try.ntmps10
    go_wp2
    go_ret
    exact ⟨rfl, Below.refl _ _⟩
end Go.Proofs.Ytjlgfflpkgmnlaa
