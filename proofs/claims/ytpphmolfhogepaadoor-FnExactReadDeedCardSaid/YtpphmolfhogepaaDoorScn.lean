import Derived.Test.YtpphmolfhogepaaDoorShp
import Derived.Test.YtpphmolfhogepaaDoorDtI
import Derived.Test.YtpphmolfhogepaaDoorBwk
/-
  The scanner of the program: words, indices, and where it panics.
-/
set_option linter.unusedVariables false
set_option linter.unusedSimpArgs false
namespace Go.Proofs.YtpphmolfhogepaaDoor
open Go.RowKit

theorem expect_t (w : World) : Calls Tryd.prog 27 #[.bool true] w fun e w' => e = .returned (.tuple #[]) ∧ w' = w := by
  go_enter Tryd.func27, Tryd.ntmps27
  go_wp2
  go_end0
  exact ⟨rfl, rfl⟩
/-- A panic of the text's own. -/
def Pan (e : Ending) : Prop := ∃ u pv, e = .panicked [{ v := .iface u pv, recovered := false }]
theorem expect_f (w : World) : Calls Tryd.prog 27 #[.bool false] w fun e w' => Pan e ∧ w' = w := by
  go_enter Tryd.func27, Tryd.ntmps27
  go_wp2
  exact ⟨rfl, ⟨_, _, rfl⟩, rfl⟩

/-- What the library and the program read of their variables. -/
structure Glo (w : World) : Prop where
  env : Env w
  pow : Pow10 w
  tab : Tab9 w
theorem Glo.low {W w w' : World} {B : Nat} (h : Glo w) (hW : Glo W) (hB : W.heap.size ≤ B) (hb : Below B w w') : Glo w' := by
  obtain ⟨⟨⟨m, h1⟩, ⟨te, pe, h2⟩, ⟨tr, pr, h3⟩⟩, h4, h5⟩ := h
  obtain ⟨⟨⟨m', k1⟩, ⟨te', pe', k2⟩, ⟨tr', pr', k3⟩⟩, k4, k5⟩ := hW
  have l1 : 2 < B := Nat.lt_of_lt_of_le (World.block_lt_of_cell? _ _ k1) hB
  have l2 : 3 < B := Nat.lt_of_lt_of_le (World.block_lt_of_cell? _ _ k2) hB
  have l3 : 4 < B := Nat.lt_of_lt_of_le (World.block_lt_of_cell? _ _ k3) hB
  have l5 : 0 < B := Nat.lt_of_lt_of_le (World.block_lt_of_cell? _ _ (k5.word 0 (by decide))) hB
  have hg : Tryd.prog.globalNamed "internal/strconv.uint64pow10" = some 1 := by kernel_rfl
  have l4 : 1 < B := by
    have hc : W.cell? ⟨1, 0, none⟩ = some (.int .u64 1) := by
      rw [World.var?_cell hg k4]
      rfl
    exact Nat.lt_of_lt_of_le (World.block_lt_of_cell? _ _ hc) hB
  refine ⟨⟨⟨m, by rw [hb.cell l1]; exact h1⟩, ⟨te, pe, by rw [hb.cell l2]; exact h2⟩, ⟨tr, pr, by rw [hb.cell l3]; exact h3⟩⟩, ?_, ⟨fun q hq => by rw [hb.cell l5]; exact h5.word q hq, fun q hq => by rw [hb.cell l5]; exact h5.cnt q hq⟩⟩
  exact var?_below hb hg l4 h4
theorem Glo.below {w w' : World} (h : Glo w) (hb : Below w.heap.size w w') : Glo w' := h.low h (Nat.le_refl _) hb

/-- The scanner in the world w: it stands ahead of the word k of ws. -/
structure Scan (W0 : World) (g b : Nat) (ws : List (List UInt8)) (k : Nat) (w : World) : Prop where
  kept : KeptBut W0.heap.size g W0 w
  hg : g < W0.heap.size
  hb : b < W0.heap.size
  ne : b ≠ g
  len : ws.length ≤ 4000001
  hk : k ≤ ws.length
  words : ∀ j, j < ws.length → W0.cell? ⟨b, j, none⟩ = some (.string (strOf (ws.getD j [])))
  cell : ∃ a, w.cell? ⟨g, 0, none⟩ = some (.slice a (ws.length - k) (ws.length - k)) ∧ (k < ws.length → a = some ⟨b, k, none⟩)
  free : w.frozen? ⟨g, 0, none⟩ = false
  glo : Glo W0
  low : ∃ W, Glo W ∧ W.heap.size ≤ g

theorem Scan.below {W0 : World} {g b : Nat} {ws : List (List UInt8)} {k : Nat} {w w' : World} (h : Scan W0 g b ws k w) (hb : Below w.heap.size w w') : Scan W0 g b ws k w' := by
  have hs := h.kept.size
  have hgw : g < w.heap.size := Nat.lt_of_lt_of_le h.hg hs
  obtain ⟨a, ha, hk⟩ := h.cell
  exact ⟨h.kept.trans (KeptBut.of_below hb hs), h.hg, h.hb, h.ne, h.len, h.hk, h.words, ⟨a, by rw [hb.cell hgw]; exact ha, hk⟩, by rw [hb.frozen hgw]; exact h.free, h.glo, h.low⟩
theorem KeptBut.low {n g : Nat} {W w : World} (h : KeptBut n g W w) (hg : g ≤ n) : Below g W w := ⟨h.os, h.tape, h.output, h.size, fun k hk => h.block k (by omega) (by omega)⟩
theorem Scan.glos {W0 : World} {g b : Nat} {ws : List (List UInt8)} {k : Nat} {w : World} (h : Scan W0 g b ws k w) : Glo w := by
  obtain ⟨W, hW, hWg⟩ := h.low
  exact h.glo.low hW hWg (h.kept.low (Nat.le_of_lt h.hg))
theorem Scan.word {W0 : World} {g b : Nat} {ws : List (List UInt8)} {k : Nat} {w : World} (h : Scan W0 g b ws k w) {j : Nat} (hj : j < ws.length) : w.cell? ⟨b, j, none⟩ = some (.string (strOf (ws.getD j []))) := by
  rw [h.kept.cell h.hb h.ne]
  exact h.words j hj

theorem Scan.next {W0 : World} {g b : Nat} {ws : List (List UInt8)} {k : Nat} {w : World} (h : Scan W0 g b ws k w) (hk : k < ws.length) {a : Option Addr} {L : Nat} (hL : ws.length = k + 1 + L) (ha : k + 1 < ws.length → a = some ⟨b, k + 1, none⟩) :
    Scan W0 g b ws (k + 1) (w.setCell ⟨g, 0, none⟩ (.slice a L L)) := by
  obtain ⟨a0, hc, -⟩ := h.cell
  have hf := h.free
  refine ⟨h.kept.setCell g 0 _ (.inl rfl), h.hg, h.hb, h.ne, h.len, hk, h.words, ⟨a, ?_, ha⟩, ?_, h.glo, h.low⟩
  · rw [show ws.length - (k + 1) = L by omega]
    go_simp
  · go_simp

set_option maxRecDepth 100000 in
set_option maxHeartbeats 4000000 in
theorem word_any {W0 : World} {g b : Nat} {ws : List (List UInt8)} {k : Nat} {w : World} (h : Scan W0 g b ws k w) (hk : k < ws.length) :
    Calls Tryd.prog 29 #[.pointer (some ⟨g, 0, none⟩)] w fun e w' => e = .returned (.string (strOf (ws.getD k []))) ∧ Scan W0 g b ws (k + 1) w' ∧ KeptBut w.heap.size g w w' := by
  obtain ⟨a, ha, hak⟩ := h.cell
  obtain rfl := hak hk
  have cw := h.word hk
  have hf := h.free
  have H := Lib.hid h
  have hlen := h.len
  have EX := Lib.hid expect_t
  obtain ⟨L, hL⟩ : ∃ L, ws.length - k = L := ⟨_, rfl⟩
  rw [hL] at ha
  have HM : Hid (ws.length = k + L ∧ 1 ≤ L) := ⟨by omega, by omega⟩
  have l1 : 1 ≤ L := by omega
  have l1' : (1 : Int) ≤ (L : Int) := by omega
  have l0 : (0 : Int) < (L : Int) := by omega
  have l0' : 0 < L := by omega
  have l2 : (L : Int) ≤ 9223372036854775807 := by omega
  generalize strOf (ws.getD k []) = S at cw ⊢
  clear h hak hL hk hlen
  go_enter Tryd.func29, Tryd.ntmps29
  go_wp2_with (go_at_call 27; refine (EX.out _).mono ?_; rintro e w1 ⟨rfl, rfl⟩)
  · go_ret
    exact ⟨rfl, H.out.next (by have := HM.out; omega) (by have := HM.out; omega) (fun h => by have := HM.out; omega), (KeptBut.refl _ _ _).setCell g 0 _ (.inl rfl)⟩
  · go_ret
    exact ⟨rfl, H.out.next (by have := HM.out; omega) (by have := HM.out; omega) (fun _ => rfl), (KeptBut.refl _ _ _).setCell g 0 _ (.inl rfl)⟩

/-- No word is left. -/
theorem word_end {W0 : World} {g b : Nat} {ws : List (List UInt8)} {w : World} (h : Scan W0 g b ws ws.length w) :
    Calls Tryd.prog 29 #[.pointer (some ⟨g, 0, none⟩)] w fun e w' => Pan e ∧ Scan W0 g b ws ws.length w' := by
  obtain ⟨a, ha, -⟩ := h.cell
  rw [Nat.sub_self] at ha
  have H := Lib.hid h
  have EX := Lib.hid expect_f
  clear h
  go_enter Tryd.func29, Tryd.ntmps29
  go_wp2_with (go_at_call 27; refine (EX.out _).mono ?_; rintro e w1 ⟨⟨u, pv, rfl⟩, rfl⟩)
  exact ⟨rfl, ⟨_, _, rfl⟩, H.out⟩


/-- The index with a text. -/
def idxB (t : List UInt8) : Bool := inZ (pz t) 0 999 && decide (Lib.itoa (pz t) = t)

set_option maxRecDepth 100000 in
set_option maxHeartbeats 4000000 in
theorem index_any {W0 : World} {g b : Nat} {ws : List (List UInt8)} {k : Nat} {w : World} (h : Scan W0 g b ws k w) (hk : k < ws.length) (hw : (ws.getD k []).length ≤ 2000000) :
    Calls Tryd.prog 30 #[.pointer (some ⟨g, 0, none⟩)] w fun e w' => Scan W0 g b ws (k + 1) w' ∧ KeptBut w.heap.size g w w' ∧ (idxB (ws.getD k []) = true → e = .returned (.int .i64 (pz (ws.getD k [])))) ∧ (idxB (ws.getD k []) = false → Pan e) := by
  have WD := Lib.hid (word_any h hk)
  have PI := Lib.hid (fun (W : World) (hW : Scan W0 g b ws (k + 1) W) => parseInt_any (ws.getD k []) (by omega) W hW.glos.env)
  have II := isIndex_any (pz (ws.getD k []))
  have DC := fun (hz : 0 ≤ pz (ws.getD k []) ∧ pz (ws.getD k []) ≤ 999) (W : World) (hW : Scan W0 g b ws (k + 1) W) => decP_any _ hz W hW.glos.pow
  obtain ⟨t, ht⟩ : ∃ t, ws.getD k [] = t := ⟨_, rfl⟩
  rw [ht] at WD PI II DC ⊢
  have heq := strOf_beq (Lib.itoa (pz t)) t
  have HX : Hid (idxB t = (inZ (pz t) 0 999 && decide (Lib.itoa (pz t) = t))) := rfl
  obtain ⟨z, hz⟩ : ∃ z, pz t = z := ⟨_, rfl⟩
  rw [hz] at PI II DC HX heq ⊢
  obtain ⟨ix, hix⟩ : ∃ x, idxB t = x := ⟨_, rfl⟩
  rw [hix] at HX ⊢
  have HI : Hid (inZ z 0 999 = true → 0 ≤ z ∧ z ≤ 999) := fun hh => inZ_iff.1 hh
  obtain ⟨p1, hp1⟩ : ∃ p, inZ z 0 999 = p := ⟨_, rfl⟩
  obtain ⟨p2, hp2⟩ : ∃ p, decide (Lib.itoa z = t) = p := ⟨_, rfl⟩
  rw [hp1] at II HX HI
  rw [hp2] at HX heq
  generalize strOf (Lib.itoa z) = S1 at DC heq
  generalize strOf t = S2 at WD PI heq
  have II := Lib.hid II
  have DC := Lib.hid DC
  have ET := Lib.hid expect_t
  have EF := Lib.hid expect_f
  clear h hk hw ht hz hix hp1 hp2
  go_enter Tryd.func30, Tryd.ntmps30
  go_wp2_with fail
  refine WD.out.mono ?_
  rintro e w1 ⟨rfl, hs1, hk1⟩
  have HS1 := Lib.hid hs1
  go_wp2_with fail
  refine (PI.out _ hs1).mono ?_
  rintro e w2 ⟨ev, rfl, hb2⟩
  have hs2 := hs1.below hb2
  have HS2 := Lib.hid hs2
  have HK2 := Lib.hid (hk1.trans (KeptBut.of_below hb2 hk1.size))
  clear hb2 hs1 HS1 hk1
  cases p1
  · have e : ix = false := by rw [HX.out]; rfl
    subst e
    clear hs2
    go_wp2_with (first
      | (go_at_call 16; with_reducible refine (II.out _).mono ?_; rintro e w3 ⟨rfl, rfl⟩)
      | (go_at_call 27; refine (EF.out _).mono ?_; rintro e w1 ⟨⟨u, pv, rfl⟩, rfl⟩)
      | fail)
    exact ⟨rfl, HS2.out, HK2.out, ⟨_, _, rfl⟩⟩
  · have D3 := Lib.hid (DC.out (HI.out rfl) _ hs2)
    clear hs2
    cases p2
    · have e : ix = false := by rw [HX.out]; rfl
      subst e
      go_wp2_with (first
        | (go_at_call 16; with_reducible refine (II.out _).mono ?_; rintro e w3 ⟨rfl, rfl⟩)
        | (go_at_call 19; with_reducible refine D3.out.mono ?_; rintro e w4 ⟨rfl, hb4⟩; have HS4 := Lib.hid (HS2.out.below hb4); have HK4 := Lib.hid (HK2.out.trans (KeptBut.of_below hb4 HK2.out.size)); clear hb4)
        | (go_at_call 27; refine (EF.out _).mono ?_; rintro e w1 ⟨⟨u, pv, rfl⟩, rfl⟩)
        | fail)
      exact ⟨rfl, HS4.out, HK4.out, ⟨_, _, rfl⟩⟩
    · have e : ix = true := by rw [HX.out]; rfl
      subst e
      go_wp2_with (first
        | (go_at_call 16; with_reducible refine (II.out _).mono ?_; rintro e w3 ⟨rfl, rfl⟩)
        | (go_at_call 19; with_reducible refine D3.out.mono ?_; rintro e w4 ⟨rfl, hb4⟩; have HS4 := Lib.hid (HS2.out.below hb4); have HK4 := Lib.hid (HK2.out.trans (KeptBut.of_below hb4 HK2.out.size)); clear hb4)
        | (go_at_call 27; refine (ET.out _).mono ?_; rintro e w1 ⟨rfl, rfl⟩)
        | fail)
      go_ret
      exact ⟨HS4.out, HK4.out, rfl⟩

theorem index_end {W0 : World} {g b : Nat} {ws : List (List UInt8)} {w : World} (h : Scan W0 g b ws ws.length w) :
    Calls Tryd.prog 30 #[.pointer (some ⟨g, 0, none⟩)] w fun e w' => Pan e ∧ Scan W0 g b ws ws.length w' := by
  have WD := Lib.hid (word_end h)
  clear h
  go_enter Tryd.func30, Tryd.ntmps30
  go_wp2_with fail
  refine WD.out.mono ?_
  rintro e w1 ⟨⟨u, pv, rfl⟩, hs1⟩
  exact ⟨rfl, ⟨_, _, rfl⟩, hs1⟩

end Go.Proofs.YtpphmolfhogepaaDoor
