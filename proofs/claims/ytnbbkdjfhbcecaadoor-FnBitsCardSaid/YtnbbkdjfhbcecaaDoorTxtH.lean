import Derived.Test.YtnbbkdjfhbcecaaDoorTxtG
import Derived.Test.YtnbbkdjfhbcecaaDoorWalkNarrow
import Derived.Test.YtnbbkdjfhbcecaaDoorNum
import Derived.Lib.Hide
/-
  The walks of what writes a number's bits: real numbers and complex ones.
-/
set_option linter.unusedVariables false
set_option linter.unusedSimpArgs false
namespace Go.Proofs.YtnbbkdjfhbcecaaDoor
open Go.RowKit Flt Hex

theorem tab_below {w w' : World} (h : Tab w) (hb : Below w.heap.size w w') : Tab w' := by
  unfold Tab at *
  rw [hb.cell (World.block_lt_of_cell? _ _ h)]
  exact h

/-- The text of a real number. -/
def Text64 (a : Nat) (t : ByteArray) : Prop := (nan FloatKind.f64.format a = true ∧ t = ⟨#[110, 97, 110]⟩) ∨ (nan FloatKind.f64.format a = false ∧ Says 16 a t)
def Text32 (a : Nat) (t : ByteArray) : Prop := (nan FloatKind.f32.format a = true ∧ t = ⟨#[110, 97, 110]⟩) ∨ (nan FloatKind.f32.format a = false ∧ Says 8 a t)

/-- Ends with a text. -/
def Texts (R : ByteArray → Prop) (w : World) (e : Ending) (w' : World) : Prop := ∃ t, e = .returned (.string t) ∧ R t ∧ Below w.heap.size w w'

theorem realText_any (a : Nat) (la : a < 18446744073709551616) (w : World) (ht : Tab w) :
    Calls Tryd.prog 20 #[.float .f64 a] w (Texts (Text64 a) w) := by
  by_cases ha : nan FloatKind.f64.format a = true
  · have ho : FloatKind.f64.format.order a a = none := ord_nan_l _ ha
    have HA := Lib.hid ha
    clear ha
    go_enter Tryd.func20, Tryd.ntmps20
    go_wp2_with (go_at_call 32; go_in)
    go_ret
    exact ⟨_, rfl, .inl ⟨HA.out, rfl⟩, Below.refl _ _⟩
  · have ha : nan FloatKind.f64.format a = false := by simpa using ha
    have ho : FloatKind.f64.format.order a a = some .eq := ord_eq ha ha rfl
    have hd := digitsOf_any a 16 (by omega) (by omega) (by omega)
    have HA := Lib.hid ha
    have HT := Lib.hid ht
    clear ha la ht
    go_enter Tryd.func20, Tryd.ntmps20
    go_wp2_with (first
      | (go_at_call 32; go_in)
      | (go_at_call 33; refine (hd _ HT.out).mono ?_; rintro e w' ⟨t, rfl, hs, hb⟩; have H1 := Lib.hid hs; have H2 := Lib.hid hb; clear hs hb))
    go_ret
    exact ⟨_, rfl, .inr ⟨HA.out, H1.out⟩, H2.out⟩

theorem narrowRealText_any (a : Nat) (la : a < 4294967296) (w : World) (ht : Tab w) :
    Calls Tryd.prog 23 #[.float .f32 a] w (Texts (Text32 a) w) := by
  by_cases ha : nan FloatKind.f32.format a = true
  · have hn : ∀ r, cn .f64 r = floatToFloatBits .f32 a .f64 → FloatKind.f64.format.order r r = none := by
      intro r hr
      rw [widen_nan ha] at hr
      by_cases h : nan FloatKind.f64.format r = true
      · exact ord_nan_l _ h
      · rw [cn_some (by simpa using h)] at hr
        cases hr
    have HA := Lib.hid ha
    clear ha
    go_enter Tryd.func23, Tryd.ntmps23
    go_wp2_with (first
      | (refine wpList_widen _ rfl 49 44 _ rfl a rfl (by kernel_rfl) Tryd.underlying44 ?_; intro r n hr hl; have ho := hn r hr; clear hr hl)
      | (go_at_call 32; go_in))
    go_ret
    exact ⟨_, rfl, .inl ⟨HA.out, rfl⟩, below_draws (Below.refl _ _) _⟩
  · have ha : nan FloatKind.f32.format a = false := by simpa using ha
    have hn : ∀ r, cn .f64 r = floatToFloatBits .f32 a .f64 → FloatKind.f64.format.order r r = some .eq := by
      intro r hr
      obtain ⟨v, e, hv, _⟩ := widen_num ha
      rw [e] at hr
      by_cases h : nan FloatKind.f64.format r = true
      · rw [cn_none h] at hr; cases hr
      · have h' : nan FloatKind.f64.format r = false := by simpa using h
        exact ord_eq h' h' rfl
    have hd := digitsOf_any a 8 (by omega) (by omega) (by omega)
    have HA := Lib.hid ha
    have HT := Lib.hid ht
    have la' : (a : Int) ≤ 4294967295 := by omega
    clear ha la ht
    go_enter Tryd.func23, Tryd.ntmps23
    go_wp2_with (first
      | (refine wpList_widen _ rfl 49 44 _ rfl a rfl (by kernel_rfl) Tryd.underlying44 ?_; intro r n hr hl; have ho := hn r hr; clear hr hl)
      | (go_at_call 32; go_in)
      | (go_at_call 33; refine (hd _ (tab_below HT.out (below_draws (Below.refl _ _) _))).mono ?_; rintro e w' ⟨t, rfl, hs, hb⟩; have H1 := Lib.hid hs; have H2 := Lib.hid hb; clear hs hb))
    go_ret
    exact ⟨_, rfl, .inr ⟨HA.out, H1.out⟩, below_step (below_draws (Below.refl _ _) _) H2.out (Nat.le_refl _)⟩

theorem text64_len {a : Nat} {t : ByteArray} (h : Text64 a t) : t.size ≤ 16 := by
  rcases h with ⟨_, rfl⟩ | ⟨_, _, h⟩
  · decide
  · omega
theorem text32_len {a : Nat} {t : ByteArray} (h : Text32 a t) : t.size ≤ 8 := by
  rcases h with ⟨_, rfl⟩ | ⟨_, _, h⟩
  · decide
  · omega

/-- The text of two parts. -/
def Both (R S : ByteArray → Prop) (l : ByteArray) : Prop := ∃ t s, R t ∧ S s ∧ l = t ++ ⟨#[32]⟩ ++ s

theorem bitsText_any (a b : Nat) (la : a < 18446744073709551616) (lb : b < 18446744073709551616) (w : World) (ht : Tab w) :
    Calls Tryd.prog 9 #[.complex .f64 a b] w (Texts (Both (Text64 a) (Text64 b)) w) := by
  have h1 := realText_any a la w ht
  have h2 := realText_any b lb
  have HT := Lib.hid ht
  clear la lb ht
  go_enter Tryd.func9, Tryd.ntmps9
  go_wp2_with (go_at_call 20; (first
    | ((with_reducible refine h1.mono ?_); rintro e w1 ⟨t, rfl, hs, hb⟩; have H1 := Lib.hid hs; have L1 := text64_len hs; have HB1 := Lib.hid hb; clear hs hb h1)
    | (refine (h2 _ (tab_below HT.out HB1.out)).mono ?_; rintro e w2 ⟨s, rfl, hs, hb⟩; have H2 := Lib.hid hs; have L2 := text64_len hs; have HB2 := Lib.hid hb; clear hs hb)))
  go_ret
  exact ⟨_, rfl, ⟨_, _, H1.out, H2.out, rfl⟩, below_step HB1.out HB2.out HB1.out.size⟩

theorem narrowBitsText_any (a b : Nat) (la : a < 4294967296) (lb : b < 4294967296) (w : World) (ht : Tab w) :
    Calls Tryd.prog 11 #[.complex .f32 a b] w (Texts (Both (Text32 a) (Text32 b)) w) := by
  have h1 := narrowRealText_any a la w ht
  have h2 := narrowRealText_any b lb
  have HT := Lib.hid ht
  clear la lb ht
  go_enter Tryd.func11, Tryd.ntmps11
  go_wp2_with (go_at_call 23; (first
    | ((with_reducible refine h1.mono ?_); rintro e w1 ⟨t, rfl, hs, hb⟩; have H1 := Lib.hid hs; have L1 := text32_len hs; have HB1 := Lib.hid hb; clear hs hb h1)
    | (refine (h2 _ (tab_below HT.out HB1.out)).mono ?_; rintro e w2 ⟨s, rfl, hs, hb⟩; have H2 := Lib.hid hs; have L2 := text32_len hs; have HB2 := Lib.hid hb; clear hs hb)))
  go_ret
  exact ⟨_, rfl, ⟨_, _, H1.out, H2.out, rfl⟩, below_step HB1.out HB2.out HB1.out.size⟩
end Go.Proofs.YtnbbkdjfhbcecaaDoor
