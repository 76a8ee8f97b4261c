import Derived.Test.YtnbbkdjfhbcecaaDoorTxtI
import Derived.Test.YtnbbkdjfhbcecaaDoorSrc2
import Derived.Lib.Hide
/-
  FnBits: what is written of a number is read again.
-/
set_option linter.unusedVariables false
set_option linter.unusedSimpArgs false
namespace Go.Proofs.YtnbbkdjfhbcecaaDoor
open Go.RowKit Flt Hex

theorem l01NaN_any (a : Nat) (w : World) :
    Calls Tryd.prog 45 #[.float .f64 a] w fun e w' => e = .returned (.bool (nan FloatKind.f64.format a)) ∧ w' = w := by
  by_cases ha : nan FloatKind.f64.format a = true
  · have ho : FloatKind.f64.format.order a a = none := ord_nan_l _ ha
    rw [ha]
    clear ha
    go_enter Tryd.func45, Tryd.ntmps45
    go_wp2
    go_ret
    exact ⟨rfl, rfl⟩
  · have ha : nan FloatKind.f64.format a = false := by simpa using ha
    have ho : FloatKind.f64.format.order a a = some .eq := ord_eq ha ha rfl
    rw [ha]
    clear ha
    go_enter Tryd.func45, Tryd.ntmps45
    go_wp2
    go_ret
    exact ⟨rfl, rfl⟩

theorem l01SameFloat_cn (a b : Nat) (h : cn .f64 a = cn .f64 b) (w : World) :
    Calls Tryd.prog 37 #[.float .f64 a, .float .f64 b] w fun e w' => e = .returned (.bool true) ∧ w' = w := by
  have na := l01NaN_any a
  have nb := l01NaN_any b
  by_cases ha : nan FloatKind.f64.format a = true
  · have hb : nan FloatKind.f64.format b = true := by
      rw [cn_none ha] at h
      by_cases hb : nan FloatKind.f64.format b = true
      · exact hb
      · rw [cn_some (by simpa using hb)] at h; cases h
    rw [ha] at na
    rw [hb] at nb
    clear ha hb h
    go_enter Tryd.func37, Tryd.ntmps37
    go_wp2_with (go_at_call 45; (first | ((with_reducible refine (na _).mono ?_); rintro e w' ⟨rfl, rfl⟩) | ((with_reducible refine (nb _).mono ?_); rintro e w' ⟨rfl, rfl⟩)))
    go_ret
    exact ⟨rfl, rfl⟩
  · have ha : nan FloatKind.f64.format a = false := by simpa using ha
    have hb : nan FloatKind.f64.format b = false := by
      rw [cn_some ha] at h
      by_cases hb : nan FloatKind.f64.format b = true
      · rw [cn_none hb] at h; cases h
      · simpa using hb
    obtain rfl : a = b := by rw [cn_some ha, cn_some hb] at h; exact Option.some.inj h
    rw [ha] at na
    clear ha hb h nb
    go_enter Tryd.func37, Tryd.ntmps37
    go_wp2_with (go_at_call 45; refine (na _).mono ?_; rintro e w' ⟨rfl, rfl⟩)
    go_ret
    exact ⟨rfl, rfl⟩

theorem l01Same_cn (a b c d : Nat) (h1 : cn .f64 a = cn .f64 c) (h2 : cn .f64 b = cn .f64 d) (w : World) :
    Calls Tryd.prog 24 #[.complex .f64 a b, .complex .f64 c d] w fun e w' => e = .returned (.bool true) ∧ w' = w := by
  have s1 := l01SameFloat_cn a c h1
  have s2 := l01SameFloat_cn b d h2
  clear h1 h2
  go_enter Tryd.func24, Tryd.ntmps24
  go_wp2_with (go_at_call 37; (first | ((with_reducible refine (s1 _).mono ?_); rintro e w' ⟨rfl, rfl⟩) | ((with_reducible refine (s2 _).mono ?_); rintro e w' ⟨rfl, rfl⟩)))
  go_ret
  exact ⟨rfl, rfl⟩

theorem sameNumber_cn (a b c d : Nat) (h1 : cn .f64 a = cn .f64 c) (h2 : cn .f64 b = cn .f64 d) (w : World) :
    Calls Tryd.prog 12 #[.complex .f64 a b, .complex .f64 c d] w fun e w' => e = .returned (.bool true) ∧ w' = w := by
  have s1 := l01Same_cn a b c d h1 h2
  clear h1 h2
  go_enter Tryd.func12, Tryd.ntmps12
  go_wp2_with (go_at_call 24; refine (s1 _).mono ?_; rintro e w' ⟨rfl, rfl⟩)
  go_ret
  exact ⟨rfl, rfl⟩

theorem widen_same {a c : Nat} (h : cn .f32 a = cn .f32 c) : floatToFloatBits .f32 a .f64 = floatToFloatBits .f32 c .f64 := by
  by_cases ha : nan FloatKind.f32.format a = true
  · have hc : nan FloatKind.f32.format c = true := by
      rw [cn_none ha] at h
      by_cases hb : nan FloatKind.f32.format c = true
      · exact hb
      · rw [cn_some (by simpa using hb)] at h; cases h
    rw [widen_nan ha, widen_nan hc]
  · have ha : nan FloatKind.f32.format a = false := by simpa using ha
    by_cases hc : nan FloatKind.f32.format c = true
    · rw [cn_some ha, cn_none hc] at h; cases h
    · rw [cn_some ha, cn_some (by simpa using hc)] at h
      rw [Option.some.inj h]

theorem sameNarrow_cn (a b c d : Nat) (h1 : cn .f32 a = cn .f32 c) (h2 : cn .f32 b = cn .f32 d) (w : World) :
    Calls Tryd.prog 13 #[.complex .f32 a b, .complex .f32 c d] w fun e w' => e = .returned (.bool true) ∧ ∃ n, w' = w.drewN n := by
  have k1 := widen_same h1
  have k2 := widen_same h2
  clear h1 h2
  have tok1 : True := trivial
  go_enter Tryd.func13, Tryd.ntmps13
  go_wp2_with (first
    | (have _t := tok1; refine wpList_widenC _ rfl 27 24 _ rfl a b rfl (by kernel_rfl) Tryd.underlying24 ?_; intro r s n hr hs lr ls; have HR := Lib.hid hr; have HS := Lib.hid hs; clear hr hs lr ls tok1)
    | (refine wpList_widenC _ rfl 27 24 _ rfl c d rfl (by kernel_rfl) Tryd.underlying24 ?_; intro r' s' n' hr hs lr ls; have HS' := l01Same_cn r s r' s' (by rw [HR.out, hr, k1]) (by rw [HS.out, hs, k2]); clear hr hs lr ls)
    | (go_at_call 24; refine (HS' _).mono ?_; rintro e w' ⟨rfl, rfl⟩))
  go_ret
  exact ⟨rfl, _, rfl⟩

/-- Ends with this value; floats may have been drawn. -/
theorem readBits_of (l : ByteArray) (hl : l.size ≤ 100) {o : Option (Nat × Nat)} (h : bothOf real64 l.data.toList = o) (w : World) :
    Calls Tryd.prog 8 #[.string l] w (Drew1 (cVal .f64 o) w) := by
  subst h
  exact readBits_impl l (by omega) w

theorem readNarrow_of (l : ByteArray) (hl : l.size ≤ 100) {o : Option (Nat × Nat)} (h : bothOf real32 l.data.toList = o) (w : World) :
    Calls Tryd.prog 10 #[.string l] w (ReadsC o w) := by
  subst h
  exact readNarrow_impl l (by omega) w

theorem read64_cn (a : Nat) : cn .f64 a = cn .f64 (read64 a) := by
  unfold read64
  split
  · rename_i h
    rw [cn_none h, cn_none (by decide)]
  · rfl
theorem read32_cn (a : Nat) : cn .f32 a = cn .f32 (read32 a) := by
  unfold read32
  split
  · rename_i h
    rw [cn_none h, cn_none (by decide)]
  · rfl

theorem more_len {l : ByteArray} (h : l.size ≤ 33) : (l ++ ⟨#[32]⟩).size ≤ 100 := by
  have hz : (⟨#[32]⟩ : ByteArray).size = 1 := rfl
  simp [ByteArray.size_append]
  omega

set_option maxRecDepth 100000 in
set_option maxHeartbeats 4000000 in
theorem fnBits_law (a0 : Option Addr) (len0 cap0 : Nat) (z0 : List Int) (a1 : Option Addr) (len1 cap1 : Nat) (z1 : List Int) (w : World) (h0 : IsRow .u8 w a0 len0 cap0 z0) (h1 : IsRow .u8 w a1 len1 cap1 z1) (ht : Tab w) :
    Calls Tryd.prog 3 #[.slice a0 len0 cap0, .slice a1 len1 cap1] w fun e w' => e = .returned (.bool true) ∧ Below w.heap.size w w' := by
  by_cases hl0 : len0 ≤ 3000
  · by_cases hl1 : len1 ≤ 3000
    · have HT := Lib.hid ht
      clear ht
      go_enter Tryd.func3, Tryd.ntmps3
      go_wp2_with (first | (go_at_call 4; go_in))
      refine (a2At_any a1 len1 cap1 z1 0 (by omega) 3 (by omega) (by omega) w h1).mono ?_
      rintro e w3 ⟨r, r0, r1, rfl, rfl⟩
      go_wp2_with fail
      obtain ⟨n, rfl⟩ : ∃ n : Nat, r = n := ⟨r.toNat, by omega⟩
      refine (a2Any_any a0 len0 cap0 z0 n (by omega) _ h0).mono ?_
      rintro e w1 ⟨x, y, lx, ly, rfl, hb⟩
      have HB := Lib.hid hb
      clear h0 h1 hl0 hl1 r0 r1 hb
      go_wp2_with fail
      refine (narrowOf_any x y _).mono ?_
      rintro e w2 ⟨u, v, hu, hv, rfl, hb⟩
      replace HB := Lib.hid (below_step HB.out hb HB.out.size)
      have lu := hu.lt
      have lv := hv.lt
      clear hu hv hb
      go_wp2_with fail
      refine (bitsText_any x y lx ly _ (tab_below HT.out HB.out)).mono ?_
      rintro e w3 ⟨l1, rfl, hl, hb⟩
      replace HB := Lib.hid (below_step HB.out hb HB.out.size)
      have k1 := both64_len hl
      have hr1 := readBits_of l1 (by omega) (both64 hl)
      clear hl hb
      go_wp2_with fail
      refine (hr1 _).mono ?_
      rintro e w4 ⟨rfl, n1, rfl⟩
      replace HB := Lib.hid (below_draws HB.out n1)
      simp only [cVal]
      clear hr1
      go_wp2_with fail
      refine (narrowBitsText_any u v lu lv _ (tab_below HT.out HB.out)).mono ?_
      rintro e w5 ⟨l2, rfl, hl, hb⟩
      replace HB := Lib.hid (below_step HB.out hb HB.out.size)
      have k2 := both32_len hl
      have hr2 := readNarrow_of l2 (by omega) (both32 hl)
      clear hl hb
      go_wp2_with fail
      refine (hr2 _).mono ?_
      rintro e w6 ⟨p, q, ⟨rfl, hp, hq⟩, hb⟩
      replace HB := Lib.hid (below_step HB.out hb HB.out.size)
      have s1 := sameNumber_cn x y (read64 x) (read64 y) (read64_cn x) (read64_cn y)
      have s2 := sameNarrow_cn u v p q (by rw [hp]; exact read32_cn u) (by rw [hq]; exact read32_cn v)
      clear hp hq hb hr2
      go_wp2_with fail
      refine (s1 _).mono ?_
      rintro e w7 ⟨rfl, rfl⟩
      go_wp2_with fail
      refine (s2 _).mono ?_
      rintro e w8 ⟨rfl, n2, rfl⟩
      replace HB := Lib.hid (below_draws HB.out n2)
      clear s1 s2
      go_wp2_with fail
      refine (bitsText_any x y lx ly _ (tab_below HT.out HB.out)).mono ?_
      rintro e w9 ⟨l3, rfl, hl, hb⟩
      replace HB := Lib.hid (below_step HB.out hb HB.out.size)
      have k3 := both64_len hl
      have hr3 := readBits_of (l3 ++ ⟨#[32]⟩) (more_len k3) (both_more hl)
      clear hl hb
      go_wp2_with fail
      refine (hr3 _).mono ?_
      rintro e w10 ⟨rfl, n3, rfl⟩
      replace HB := Lib.hid (below_draws HB.out n3)
      simp only [cVal]
      clear hr3
      go_wp2_with fail
      refine (narrowBitsText_any u v lu lv _ (tab_below HT.out HB.out)).mono ?_
      rintro e w11 ⟨l4, rfl, hl, hb⟩
      replace HB := Lib.hid (below_step HB.out hb HB.out.size)
      have k4 := both32_len hl
      have hr4 := readBits_of l4 (by omega) rfl
      have hc := both_narrow hl
      clear hl hb
      generalize bothOf real64 l4.data.toList = o at hr4 hc
      rcases o with _ | ⟨c, d⟩
      · clear hc
        go_wp2_with fail
        refine (hr4 _).mono ?_
        rintro e w12 ⟨rfl, n4, rfl⟩
        replace HB := Lib.hid (below_draws HB.out n4)
        simp only [cVal]
        go_wp2
        go_ret
        exact ⟨rfl, HB.out⟩
      · obtain ⟨nu, nv⟩ := hc.resolve_left (by simp)
        go_wp2_with fail
        refine (hr4 _).mono ?_
        rintro e w12 ⟨rfl, n4, rfl⟩
        replace HB := Lib.hid (below_draws HB.out n4)
        simp only [cVal]
        go_wp2_with fail
        refine (narrowBitsText_any u v lu lv _ (tab_below HT.out HB.out)).mono ?_
        rintro e w13 ⟨l5, rfl, hl, hb⟩
        replace HB := Lib.hid (below_step HB.out hb HB.out.size)
        obtain rfl := both_nan hl nu nv
        clear hl hb
        go_wp2
        go_ret
        exact ⟨rfl, HB.out⟩
    · go_enter Tryd.func3, Tryd.ntmps3
      go_wp2_with (first | (go_at_call 4; go_in))
      go_ret
      exact ⟨rfl, Below.refl _ _⟩
  · go_enter Tryd.func3, Tryd.ntmps3
    go_wp2_with (first | (go_at_call 4; go_in))
    go_ret
    exact ⟨rfl, Below.refl _ _⟩
end Go.Proofs.YtnbbkdjfhbcecaaDoor
