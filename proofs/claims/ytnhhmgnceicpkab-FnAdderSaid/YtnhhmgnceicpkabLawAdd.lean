import Derived.Test.YtnhhmgnceicpkabAdBm
import Derived.Test.YtnhhmgnceicpkabAppW
import Derived.Test.YtnhhmgnceicpkabBlk
import Derived.Test.YtnhhmgnceicpkabAddP
import Derived.Test.YtnhhmgnceicpkabSameL
import Derived.Test.YtnhhmgnceicpkabAddL
/-
  The walk of the law FnAdder.
-/
set_option linter.unusedVariables false
set_option linter.unusedSimpArgs false
namespace Go.Proofs.Ytnhhmgnceicpkab
open Go.RowKit Flt Fast

/-- The cell in which the law holds its adder. -/
structure AdCell (W : World) (Ba : Nat) (n h : Nat) (a : Option Addr) (t cap : Nat) : Prop where
  c0 : W.cell? ⟨Ba, 0, none⟩ = some (.int .i64 n)
  c1 : W.cell? ⟨Ba, 1, none⟩ = some (.int .i64 h)
  c2 : W.cell? ⟨Ba, 2, none⟩ = some (.slice a t cap)
  f0 : W.frozen? ⟨Ba, 0, none⟩ = false
  f1 : W.frozen? ⟨Ba, 1, none⟩ = false
  f2 : W.frozen? ⟨Ba, 2, none⟩ = false
theorem AdCell.below {W W' : World} {B Ba n h t cap : Nat} {a : Option Addr} (k : AdCell W Ba n h a t cap) (hb : Below B W W') (hB : Ba < B) : AdCell W' Ba n h a t cap :=
  ⟨by rw [hb.cell hB]; exact k.c0, by rw [hb.cell hB]; exact k.c1, by rw [hb.cell hB]; exact k.c2, by rw [hb.frozen hB]; exact k.f0, by rw [hb.frozen hB]; exact k.f1, by rw [hb.frozen hB]; exact k.f2⟩
theorem AdCell.grown {W W' : World} {Ba n h t cap : Nat} {a : Option Addr} {row : Option Nat} (k : AdCell W Ba n h a t cap) (hg : W.grownBy W' row) (hne : row ≠ some Ba) : AdCell W' Ba n h a t cap := by
  have hB : Ba < W.heap.size := World.block_lt_of_cell? _ _ k.c0
  have hk : W'.heap[Ba]? = W.heap[Ba]? := hg.block Ba hB (fun e => hne e.symm)
  exact ⟨by rw [World.cell?_of_block (w := W) hk]; exact k.c0, by rw [World.cell?_of_block (w := W) hk]; exact k.c1, by rw [World.cell?_of_block (w := W) hk]; exact k.c2, by rw [World.frozen?_of_block (w := W) hk]; exact k.f0, by rw [World.frozen?_of_block (w := W) hk]; exact k.f1, by rw [World.frozen?_of_block (w := W) hk]; exact k.f2⟩

/-- How things stand behind b blocks: W0 is the world in which the blocks lay, Ba the adder's cell. -/
structure AdSt (W0 W : World) (n h b : Nat) (q : Nat → Nat → Z) (all : Value) (a : Option Addr) (t cap : Nat) (us ts : List C) : Prop where
  below : Below W0.heap.size W0 W
  cell : AdCell W W0.heap.size n h a t cap
  all : Row W (W0.heap.size + 1) 45 all (cvals us)
  told : FitsC us (toldL q n h b)
  tail : RdC W (.slice a t cap) ts
  fits : FitsC ts (tailL q n h b)
  len : ts.length = t
  far : ∀ x, a = some x → W0.heap.size < x.block

theorem AdSt.tlen {W0 W : World} {n h b : Nat} {q : Nat → Nat → Z} {all : Value} {a : Option Addr} {t cap : Nat} {us ts : List C} (k : AdSt W0 W n h b q all a t cap us ts) (hh : h ≤ n) : t = 0 ∨ t = n - h := by
  have e := k.fits.len
  rw [k.len] at e
  cases b with
  | zero => rw [tailL_zero] at e; exact .inl e
  | succ b => rw [tailL_len q hh] at e; exact .inr e
theorem AdSt.alen {W0 W : World} {n h b : Nat} {q : Nat → Nat → Z} {all : Value} {a : Option Addr} {t cap : Nat} {us ts : List C} (k : AdSt W0 W n h b q all a t cap us ts) (hh : h ≤ n) : us.length = b * h := by
  rw [k.told.len, toldL_len q hh]

theorem AdCell.store {W : World} {Ba n h t cap t' cap' : Nat} {a a' : Option Addr} (k : AdCell W Ba n h a t cap) :
    AdCell (((W.setCell ⟨Ba, 0, none⟩ (.int .i64 n)).setCell ⟨Ba, 1, none⟩ (.int .i64 h)).setCell ⟨Ba, 2, none⟩ (.slice a' t' cap')) Ba n h a' t' cap' := by
  have c0 := k.c0
  have c1 := k.c1
  have c2 := k.c2
  have f0 := k.f0
  have f1 := k.f1
  have f2 := k.f2
  exact ⟨by go_simp, by go_simp, by go_simp, by go_simp, by go_simp, by go_simp⟩

theorem RdC.grown {W W' : World} {a : Option Addr} {n cap : Nat} {xs : List C} {row : Option Nat} (h : RdC W (.slice a n cap) xs) (hg : W.grownBy W' row) (hne : ∀ x, a = some x → row ≠ some x.block) : RdC W' (.slice a n cap) xs := by
  obtain ⟨a', cap', e, h1, h2, h3⟩ := h
  refine ⟨a', cap', e, h1, h2, fun j hj => ?_⟩
  simp only [Value.slice.injEq] at e
  obtain ⟨g, o, e2, hg', hc⟩ := h3 j hj
  have hn := hne ⟨g, o, none⟩ (by rw [e.1, e2])
  have hk : W'.heap[g]? = W.heap[g]? := hg.block g hg' (fun e => hn e.symm)
  exact ⟨g, o, e2, Nat.lt_of_lt_of_le hg' hg.size, by rw [World.cell?_of_block (w := W) (a := ⟨g, o + j, none⟩) hk]; exact hc⟩

theorem AdSt.next {W0 W W7 W8 : World} {n h b : Nat} {q : Nat → Nat → Z} {all v' : Value} {a a2 : Option Addr} {t cap c2 : Nat} {us ts fs : List C} (k : AdSt W0 W n h b q all a t cap us ts) (hh : h ≤ n)
    (hfl : fs.length = n) (hff : FitsC fs (stepL (tailL q n h b) (q b) n)) (hb7 : Below W.heap.size W W7) (hrd : RdC W7 (.slice a2 (n - h) c2) (fs.drop h)) (hax : ∀ x, a2 = some x → W.heap.size ≤ x.block)
    (hg : W7.grownBy W8 all.ownBlock) (hrow : Row W8 (W0.heap.size + 1) 45 v' (cvals (us ++ fs.take h))) :
    AdSt W0 (((W8.setCell ⟨W0.heap.size, 0, none⟩ (.int .i64 n)).setCell ⟨W0.heap.size, 1, none⟩ (.int .i64 h)).setCell ⟨W0.heap.size, 2, none⟩ (.slice a2 (n - h) c2)) n h (b + 1) q v' a2 (n - h) c2 (us ++ fs.take h) (fs.drop h) := by
  have hBa : W0.heap.size < W.heap.size := World.block_lt_of_cell? _ _ k.cell.c0
  have hall : ∀ x, all.ownBlock = some x → W0.heap.size + 1 ≤ x ∧ x < W.heap.size := fun x e => k.all.lt x e
  have hb07 : Below W0.heap.size W0 W7 := below_step k.below hb7 (Nat.le_of_lt hBa)
  have hb08 : Below W0.heap.size W0 W8 := hb07.grown hg (by have := hb7.size; omega) (fun x e => by have := (hall x e).1; omega)
  have hc8 := (k.cell.below hb7 hBa).grown hg (fun e => by have := (hall _ e).1; omega)
  have hr8 : RdC W8 (.slice a2 (n - h) c2) (fs.drop h) := hrd.grown hg (fun x hx e => by have := hax x hx; have := (hall _ e).2; omega)
  refine ⟨((hb08.setCell (p := ⟨W0.heap.size, 0, none⟩) (Nat.le_refl _) _).setCell (p := ⟨W0.heap.size, 1, none⟩) (Nat.le_refl _) _).setCell (p := ⟨W0.heap.size, 2, none⟩) (Nat.le_refl _) _, hc8.store,
    row_set (row_set (row_set hrow _ _ _ (by omega)) _ _ _ (by omega)) _ _ _ (by omega), ?_, ((hr8.set _ _ _ (fun y hy => by have := hax y hy; omega)).set _ _ _ (fun y hy => by have := hax y hy; omega)).set _ _ _ (fun y hy => by have := hax y hy; omega), ?_, by rw [List.length_drop, hfl], fun x hx => by have := hax x hx; omega⟩
  · rw [told_succ q hh b]
    exact k.told.app (hff.take h)
  · rw [tail_succ q hh b]
    exact hff.drop h

/-- How things stand behind AddBlock: the next adder lies in the block Bx. -/
structure PostAdd (wr W : World) (Bx n h : Nat) (a2 : Option Addr) (c2 : Nat) (told : Value) (fs : List C) : Prop where
  below : Below wr.heap.size wr W
  d0 : W.cell? ⟨Bx, 0, none⟩ = some (.int .i64 n)
  d1 : W.cell? ⟨Bx, 1, none⟩ = some (.int .i64 h)
  d2 : W.cell? ⟨Bx, 2, none⟩ = some (.slice a2 (n - h) c2)
  rd : RdC W (.slice a2 (n - h) c2) (fs.drop h)
  far : ∀ x, a2 = some x → wr.heap.size ≤ x.block
  told : Row W wr.heap.size 45 told (cvals (fs.take h))
  new : wr.heap.size ≤ Bx

theorem PostAdd.step {wr W W' : World} {Bx n h c2 : Nat} {a2 : Option Addr} {told : Value} {fs : List C} (k : PostAdd wr W Bx n h a2 c2 told fs) (hb : Below W.heap.size W W') : PostAdd wr W' Bx n h a2 c2 told fs := by
  have hB : Bx < W.heap.size := World.block_lt_of_cell? _ _ k.d0
  exact ⟨below_step k.below hb k.below.size, by rw [hb.cell hB]; exact k.d0, by rw [hb.cell hB]; exact k.d1, by rw [hb.cell hB]; exact k.d2, k.rd.below hb, k.far, k.told.below hb (fun j e => (k.told.lt j e).2), k.new⟩

theorem PostAdd.grown {wr W W' : World} {Bx n h c2 : Nat} {a2 : Option Addr} {told : Value} {fs : List C} {row : Option Nat} (k : PostAdd wr W Bx n h a2 c2 told fs) (hg : W.grownBy W' row) (hne : ∀ x, row = some x → x < wr.heap.size) :
    W'.cell? ⟨Bx, 0, none⟩ = some (.int .i64 n) ∧ W'.cell? ⟨Bx, 1, none⟩ = some (.int .i64 h) ∧ W'.cell? ⟨Bx, 2, none⟩ = some (.slice a2 (n - h) c2) := by
  have hB : Bx < W.heap.size := World.block_lt_of_cell? _ _ k.d0
  have hk : W'.heap[Bx]? = W.heap[Bx]? := hg.block Bx hB (fun e => by have := hne _ e.symm; have := k.new; omega)
  exact ⟨by rw [World.cell?_of_block (w := W) hk]; exact k.d0, by rw [World.cell?_of_block (w := W) hk]; exact k.d1, by rw [World.cell?_of_block (w := W) hk]; exact k.d2⟩

theorem post1 {wr W' w6 : World} {n h c2 : Nat} {a2 : Option Addr} {told : Value} {fs : List C} (hW : Below wr.heap.size wr W') (hb : Below W'.heap.size W' w6) (hrd : RdC w6 (.slice a2 (n - h) c2) (fs.drop h)) (hax : ∀ x, a2 = some x → W'.heap.size ≤ x.block)
    (ht : Row w6 W'.heap.size 45 told (cvals (fs.take h))) :
    PostAdd wr (w6.alloc (.cells #[.int .i64 n, .int .i64 h, .slice a2 (n - h) c2] 52)) w6.heap.size n h a2 c2 told fs := by
  have hba : Below w6.heap.size w6 (w6.alloc (.cells #[.int .i64 n, .int .i64 h, .slice a2 (n - h) c2] 52)) := (Below.refl _ _).alloc (Nat.le_refl _) _
  have h6 : Below wr.heap.size wr w6 := below_step hW hb hW.size
  exact ⟨below_step h6 hba h6.size, by go_simp, by go_simp, by go_simp, hrd.below hba, fun x hx => Nat.le_trans hW.size (hax x hx), (ht.below hba (fun j e => (ht.lt j e).2)).base hW.size, h6.size⟩

theorem post2 {wr W' w6 : World} {n h c2 : Nat} {a2 : Option Addr} {told : Value} {fs : List C} (hW : Below wr.heap.size wr W') (hlt : wr.heap.size < W'.heap.size) (hb : Below W'.heap.size W' w6) (hrd : RdC w6 (.slice a2 (n - h) c2) (fs.drop h)) (hax : ∀ x, a2 = some x → W'.heap.size ≤ x.block)
    (ht : Row w6 W'.heap.size 45 told (cvals (fs.take h)))
    (g0 : w6.cell? ⟨wr.heap.size, 0, none⟩ = some (.int .i64 0)) (g1 : w6.cell? ⟨wr.heap.size, 1, none⟩ = some (.int .i64 0)) (g2 : w6.cell? ⟨wr.heap.size, 2, none⟩ = some (.slice none 0 0)) :
    PostAdd wr (((w6.setCell ⟨wr.heap.size, 0, none⟩ (.int .i64 n)).setCell ⟨wr.heap.size, 1, none⟩ (.int .i64 h)).setCell ⟨wr.heap.size, 2, none⟩ (.slice a2 (n - h) c2)) wr.heap.size n h a2 c2 told fs := by
  have h6 : Below wr.heap.size wr w6 := below_step hW hb hW.size
  exact ⟨((h6.setCell (p := ⟨wr.heap.size, 0, none⟩) (Nat.le_refl _) _).setCell (p := ⟨wr.heap.size, 1, none⟩) (Nat.le_refl _) _).setCell (p := ⟨wr.heap.size, 2, none⟩) (Nat.le_refl _) _, by go_simp, by go_simp, by go_simp,
    ((hrd.set _ _ _ (fun y hy => by have := hax y hy; omega)).set _ _ _ (fun y hy => by have := hax y hy; omega)).set _ _ _ (fun y hy => by have := hax y hy; omega), fun x hx => Nat.le_trans hW.size (hax x hx),
    (row_set (row_set (row_set ht _ _ _ (by omega)) _ _ _ (by omega)) _ _ _ (by omega)).base hW.size, Nat.le_refl _⟩

theorem rd_cell {w : World} {a : Option Addr} {cap : Nat} {vs : List Value} (h : Reads w (.slice a vs.length cap) vs) (b : Nat) (hb : b < vs.length) : ∃ g, a = some ⟨g, 0, none⟩ ∧ g < w.heap.size ∧ w.cell? ⟨g, b, none⟩ = some (vs.getD b undef) := by
  generalize hV : Value.slice a vs.length cap = V at h
  cases h with
  | none a cap => simp at hb
  | row g cap L cs hL h0 hcc hm hh =>
    simp only [Value.slice.injEq] at hV
    have := hh b (by omega)
    exact ⟨g, hV.1, World.block_lt_of_cell? _ _ this, this⟩

theorem fits_same {xs ys : List C} {zs : List Z} (h : FitsC xs zs) (k : FitsC ys zs) : xs.length = ys.length ∧ ∀ j, j < xs.length → ∃ z, IsC (xs.getD j (0, 0)) z ∧ IsC (ys.getD j (0, 0)) z :=
  ⟨by rw [h.len, k.len], fun j hj => ⟨_, h.good j hj, k.good j (by rw [k.len, ← h.len]; exact hj)⟩⟩

set_option maxRecDepth 100000 in
theorem f6big_f (a : Option Addr) (n cap : Nat) (hn : n ≤ 4096) (w : World) : Calls Try.prog 7 #[.slice a n cap] w fun e w' => e = .returned (.bool false) ∧ w' = w := by
  have g : decide (4096 < (n : Int)) = false := decide_eq_false (by omega)
  go_enter Try.func7, Try.ntmps7
  go_wp2
  go_ret
  exact ⟨rfl, rfl⟩
set_option maxRecDepth 100000 in
theorem f6big_t (a : Option Addr) (n cap : Nat) (hn : 4096 < n) (hm : (n : Int) ≤ 9223372036854775807) (w : World) : Calls Try.prog 7 #[.slice a n cap] w fun e w' => e = .returned (.bool true) ∧ w' = w := by
  have g : decide (4096 < (n : Int)) = true := decide_eq_true (by omega)
  go_enter Try.func7, Try.ntmps7
  go_wp2
  go_ret
  exact ⟨rfl, rfl⟩

set_option maxRecDepth 100000 in
set_option maxHeartbeats 16000000 in
theorem fnAdder_law (a0 : Option Addr) (len0 cap0 : Nat) (z0 : List Int) (a1 : Option Addr) (len1 cap1 : Nat) (z1 : List Int) (w : World) (h0 : IsRow .u8 w a0 len0 cap0 z0) (h1 : IsRow .u8 w a1 len1 cap1 z1) :
    Calls Try.prog 5 #[.slice a0 len0 cap0, .slice a1 len1 cap1] w fun e w' => e = .returned (.bool true) ∧ Below w.heap.size w w' := by
  have hm0 := isRow_len h0
  have hm1 := isRow_len h1
  by_cases hl0 : len0 ≤ 4096
  · have F0 := Lib.hid (f6big_f a0 len0 cap0 hl0)
    by_cases hl1 : len1 ≤ 4096
    · have F1 := Lib.hid (f6big_f a1 len1 cap1 hl1)
      obtain ⟨i0, hi, hy0, hy1, hy2⟩ := info_parts info_c128
      have R0 := Lib.hid (fun w1 (hb : Below w.heap.size w w1) => (⟨z0, isRow_below h0 hb⟩ : ∃ zs, IsRow .u8 w1 a0 len0 cap0 zs))
      have R1 := Lib.hid (fun w1 (hb : Below w.heap.size w w1) => (⟨z1, isRow_below h1 hb⟩ : ∃ zs, IsRow .u8 w1 a1 len1 cap1 zs))
      clear h0 h1 hl0 hl1
      go_enter Try.func5, Try.ntmps5
      go_wp2_with fail
      with_reducible refine (F0.out _).mono ?_
      rintro e w' ⟨rfl, rfl⟩
      go_wp2_with fail
      with_reducible refine (F1.out _).mono ?_
      rintro e w' ⟨rfl, rfl⟩
      go_wp2_with fail
      with_reducible refine (p6Pick_any _ a1 len1 cap1 (R1.out _ (Below.refl _ _)) 8 (by omega) (by omega)).mono ?_
      rintro e w1 ⟨s, rfl, hs, hb1⟩
      obtain ⟨n, hn⟩ : ∃ n, s + 1 = n := ⟨_, rfl⟩
      have hnI : 1 + (s : Int) = (n : Int) := by omega
      have hn1 : 1 ≤ n := by omega
      have hn8 : n ≤ 8 := by omega
      have HB1 := Lib.hid hb1
      clear hb1 hn
      go_wp2_with fail
      with_reducible refine (p6Pick_any _ a0 len0 cap0 (R0.out _ HB1.out) n (by omega) (by omega)).mono ?_
      rintro e w2 ⟨p, rfl, hp, hb2⟩
      obtain ⟨h, hh⟩ : ∃ h, p + 1 = h := ⟨_, rfl⟩
      have hhI : 1 + (p : Int) = (h : Int) := by omega
      have hh1 : 1 ≤ h := by omega
      have hhn : h ≤ n := by omega
      have HB2 := Lib.hid (below_step HB1.out hb2 HB1.out.size)
      clear hb2 hh
      go_wp2_with fail
      with_reducible refine (p6Blocks_any _ a1 len1 cap1 (R1.out _ HB2.out) n hn8).mono ?_
      rintro e w3 ⟨V, vs, bs, rfl, hD, hvs, hb3⟩
      have hblk := hD.blks
      obtain ⟨q, hq⟩ : ∃ q : Nat → Nat → Z, (fun b i => zOf ((bs b).getD i (0, 0))) = q := ⟨_, rfl⟩
      rw [hq] at hblk
      have HBLK := Lib.hid hblk
      have HB3 := Lib.hid (below_step HB2.out hb3 HB2.out.size)
      obtain ⟨aV, cV, rfl, hcI, -⟩ := hblk.find
      obtain ⟨c, hc⟩ : ∃ c, vs.length = c := ⟨_, rfl⟩
      have HC := Lib.hid hc
      rw [hc] at hvs hcI ⊢
      clear hD hblk hb3 hq hc F0 F1 R0 R1
      have NW0 := new_impl n h w3
      unfold NewTo adrV at NW0
      rw [if_pos (show AddOk n h 0 from ⟨by omega, by omega, .inl rfl⟩), if_pos (show AddOk n h 0 from ⟨by omega, by omega, .inl rfl⟩)] at NW0
      have NW := Lib.hid NW0
      clear NW0
      have VA := Lib.hid (valid_impl n h none 0 0 (by decide))
      rw [addB_t (show AddOk n h 0 from ⟨by omega, by omega, .inl rfl⟩)] at VA
      go_wp2_with fail
      with_reducible refine NW.out.mono ?_
      rintro e w4 ⟨rfl, hb4⟩
      have HBLK4 := Lib.hid (HBLK.out.below hb4)
      have HB4 := Lib.hid (below_step HB3.out hb4 HB3.out.size)
      have AC : Hid (AdCell (w4.alloc (.cells #[.int .i64 n, .int .i64 h, .slice none 0 0] 52)) w4.heap.size n h none 0 0) := ⟨by go_simp, by go_simp, by go_simp, by go_simp, by go_simp, by go_simp⟩
      have d0 := AC.out.c0
      have d1 := AC.out.c1
      have d2 := AC.out.c2
      clear hb4 NW HBLK HB1 HB2 HB3
      go_wp2_with fail
      with_reducible refine (VA.out _).mono ?_
      rintro e w5 ⟨rfl, hb5⟩
      have hsz5 : w4.heap.size + 1 ≤ w5.heap.size := by have := hb5.size; simp at this; omega
      have hbe5 : Below w4.heap.size w4 w5 := below_step ((Below.refl _ _).alloc (Nat.le_refl _) _) hb5 (by simp)
      have AC5 := AC.out.below hb5 (by simp)
      have hlit := World.ownsRow_lit w5 (e := 45) (base := w4.heap.size + 1) (size := 1) #[] 0 hsz5 (by unfold maxLen; omega) rfl
      have hST : AdSt w4 (w5.alloc (.cells #[] 45)) n h 0 q (.slice (some ⟨w5.heap.size, 0, none⟩) 0 0) none 0 0 [] [] :=
        ⟨hbe5.alloc hbe5.size _, AC5.below ((Below.refl w5.heap.size w5).alloc (Nat.le_refl _) _) (by omega), hlit, by (rw [show toldL q n h 0 = [] by simp [toldL, ovlL, addAll]]; exact FitsC.nil), ⟨none, 0, rfl, Nat.le_refl _, Nat.zero_le _, fun j hj => by simp at hj⟩, by (rw [tailL_zero]; exact FitsC.nil), rfl, fun x hx => by cases hx⟩
      have HST := Lib.hid hST
      clear hb5 hbe5 AC5 hlit hST AC VA d0 d1 d2 hsz5
      go_wp2
      go_loopw [10, 11] (fun all i wr => ∃ (b : Nat) (a : Option Addr) (t cap : Nat) (us ts : List C), i = .int .i64 b ∧ b ≤ c ∧ AdSt w4 wr n h b q all a t cap us ts) (fun _ i _ => c - (intOf i).toNat)
      case atStart => exact ⟨0, none, 0, 0, [], [], rfl, Nat.zero_le _, HST.out⟩
      case round =>
        clear HST
        obtain ⟨b, a, t, cap, us, ts, rfl, hbc, hst⟩ := hrel
        have HST := Lib.hid hst
        have hBa : w4.heap.size < wr.heap.size := World.block_lt_of_cell? _ _ hst.cell.c0
        have hblk := HBLK4.out.below hst.below
        have d0 := hst.cell.c0
        have d1 := hst.cell.c1
        have d2 := hst.cell.c2
        have hall : Hid (∀ x, u10.ownBlock = some x → w4.heap.size + 1 ≤ x ∧ x < wr.heap.size) := fun x e => hst.all.lt x e
        have htl := hst.tlen hhn
        have hal := hst.alen hhn
        have hbh : b * h ≤ 5 * 8 := Nat.mul_le_mul (by omega) (by omega)
        by_cases hlt : b < c
        · have hrdV := hblk.row
          have hcv := HC.out
          obtain ⟨gV, hgV, hgl, hcell⟩ := rd_cell hrdV b (by omega)
          subst hgV
          obtain ⟨hrb, hlb, hqb⟩ := hblk.each b (by omega)
          have hrb2 := hrb
          obtain ⟨ab, cb, e1, -, -, -⟩ := hrb2
          rw [e1, hlb] at hcell
          rw [e1, hlb] at hrb
          have AB : ∀ W, Below wr.heap.size wr W → Calls Try.prog 31 #[.agg #[.int .i64 n, .int .i64 h, .slice a t cap], .slice ab n cb] W (AddTo n h (tailL q n h b) (q b) W) := fun W hW => by
            have hl := hst.len
            subst hl
            exact addBlock_any n h hh1 hhn (by omega) (tailL q n h b) (q b) a cap ts (bs b) (.slice ab n cb) W (hst.tail.below hW) hst.fits htl (hrb.below hW) hlb hqb
          have AB := Lib.hid AB
          have VS := Lib.hid (fun a2 c2 => validS_any n h a2 (n - h) c2 (by omega))
          rw [show addB (n : Int) (h : Int) (n - h) = true from addB_t ⟨by omega, by omega, .inr (by omega)⟩] at VS
          have hbA : Below wr.heap.size wr (wr.alloc (.cells #[.int .i64 0, .int .i64 0, .slice none 0 0] 52)).drew := below_draws ((Below.refl _ _).alloc (Nat.le_refl _) _) 1
          have cA : (wr.alloc (.cells #[.int .i64 0, .int .i64 0, .slice none 0 0] 52)).drew.cell? ⟨gV, b, none⟩ = some (.slice ab n cb) := by rw [hbA.cell hgl]; exact hcell
          have dA0 : (wr.alloc (.cells #[.int .i64 0, .int .i64 0, .slice none 0 0] 52)).drew.cell? ⟨w4.heap.size, 0, none⟩ = some (.int .i64 n) := by rw [hbA.cell hBa]; exact d0
          have dA1 : (wr.alloc (.cells #[.int .i64 0, .int .i64 0, .slice none 0 0] 52)).drew.cell? ⟨w4.heap.size, 1, none⟩ = some (.int .i64 h) := by rw [hbA.cell hBa]; exact d1
          have dA2 : (wr.alloc (.cells #[.int .i64 0, .int .i64 0, .slice none 0 0] 52)).drew.cell? ⟨w4.heap.size, 2, none⟩ = some (.slice a t cap) := by rw [hbA.cell hBa]; exact d2
          clear hblk hrdV hgl hrb hlb hqb e1 hst htl hcv hbA
          go_wp2
          go_region_law (first
            | (go_simp; go_at_call 31; refine (AB.out _ (by first | exact below_draws (Below.refl _ _) 1 | exact below_draws ((Below.refl _ _).alloc (Nat.le_refl _) _) 1)).mono ?_; rintro e w6 ⟨a2, c2, told, fs, rfl, hfl, hff, hrd, hax, htold, hb6⟩; try (have g0 : w6.cell? ⟨wr.heap.size, 0, none⟩ = some (.int .i64 0) := by (rw [hb6.cell (by simp)]; go_simp)); try (have g1 : w6.cell? ⟨wr.heap.size, 1, none⟩ = some (.int .i64 0) := by (rw [hb6.cell (by simp)]; go_simp)); try (have g2 : w6.cell? ⟨wr.heap.size, 2, none⟩ = some (.slice none 0 0) := by (rw [hb6.cell (by simp)]; go_simp)); try (have e0 : w6.frozen? ⟨wr.heap.size, 0, none⟩ = false := by (rw [hb6.frozen (by simp)]; go_simp)); try (have e1 : w6.frozen? ⟨wr.heap.size, 1, none⟩ = false := by (rw [hb6.frozen (by simp)]; go_simp)); try (have e2 : w6.frozen? ⟨wr.heap.size, 2, none⟩ = false := by (rw [hb6.frozen (by simp)]; go_simp)); have HFL := Lib.hid hfl; have HFF := Lib.hid hff; have HRD := Lib.hid hrd; have HAX := Lib.hid hax; have HTO := Lib.hid htold; have HB6 := Lib.hid hb6; clear hfl hff hrd hax htold hb6)
            | (trace_state; fail))
          all_goals
            first
              | (have hp := post2 (wr := wr) (w6 := w6) (n := n) (h := h) (c2 := c2) (a2 := a2) (told := told) (fs := fs) (below_draws ((Below.refl _ _).alloc (Nat.le_refl _) _) 1) (by simp) HB6.out HRD.out HAX.out HTO.out g0 g1 g2
                 generalize ((w6.setCell ⟨wr.heap.size, 0, none⟩ (.int .i64 n)).setCell ⟨wr.heap.size, 1, none⟩ (.int .i64 h)).setCell ⟨wr.heap.size, 2, none⟩ (.slice a2 (n - h) c2) = w7 at hp ⊢
                 clear g0 g1 g2 e0 e1 e2 HB6 HRD HAX HTO)
              | (have hp := post1 (wr := wr) (w6 := w6) (n := n) (h := h) (c2 := c2) (a2 := a2) (told := told) (fs := fs) (below_draws (Below.refl _ _) 1) hb6 hrd hax htold
                 generalize w6.alloc (.cells #[.int .i64 n, .int .i64 h, .slice a2 (n - h) c2] 52) = w7 at hp ⊢
                 have HFL := Lib.hid hfl
                 have HFF := Lib.hid hff
                 clear hb6 hrd hax htold hfl hff)
            obtain ⟨at', ct, rfl⟩ := cform hp.told.reads
            have hlt2 : (cvals (fs.take h)).length = h := by (rw [cvals_length, List.length_take, HFL.out]; omega)
            rw [hlt2] at hp ⊢
            have p0 := hp.d0
            have p1 := hp.d1
            have p2 := hp.d2
            have HPA := Lib.hid hp
            clear hp hlt2 cA dA0 dA1 dA2 hcell
            go_wp2_with fail
            with_reducible refine (VS.out a2 c2 _).mono ?_
            rintro e w8 ⟨rfl, hb8⟩
            have HP8 := Lib.hid (HPA.out.step hb8)
            have HALL8 := Lib.hid (HST.out.all.below HP8.out.below (fun j e => (HST.out.all.lt j e).2))
            have hsz8 : w4.heap.size + 1 ≤ w8.heap.size := by have := HP8.out.below.size; omega
            have hul : us.length + (fs.take h).length ≤ 1000000 := by have := List.length_take_le h fs; omega
            clear hb8 HPA p0 p1 p2
            go_wp2_with (at_builtin; refine wpList_app rfl _ _ rfl Try.underlying36 i0 hi hy0 hy1 hy2 (w4.heap.size + 1) _ _ us (fs.take h) rfl rfl HALL8.out (RdC.of_row HP8.out.told) hsz8 hul ?_)
            intro v' w9 hrow hgrow
            obtain ⟨p0, p1, p2⟩ := HP8.out.grown hgrow (fun x e => (hall.out x e).2)
            have hc9 := (HST.out.cell.below HP8.out.below hBa).grown hgrow (fun e => by have := (hall.out _ e).1; omega)
            have d0 := hc9.c0
            have d1 := hc9.c1
            have d2 := hc9.c2
            have f0 := hc9.f0
            have f1 := hc9.f1
            have f2 := hc9.f2
            have hst2 := HST.out.next hhn HFL.out HFF.out HP8.out.below HP8.out.rd HP8.out.far hgrow hrow
            have HST2 := Lib.hid hst2
            clear hst2 hc9 hrow hgrow HP8 HALL8 HFL HFF hul hsz8
            go_wp2
            go_roundw
            case rel => first | exact ⟨b + 1, a2, _, c2, _, _, by go_num, by omega, HST2.out⟩ | ((repeat apply Exists.intro); refine ⟨?_, rfl⟩; exact ⟨b + 1, a2, _, c2, _, _, by go_num, by omega, HST2.out⟩)
            case measure => simp [intOf]; omega
        · have hbe : b = c := by omega
          subst hbe
          have hl := hst.len
          subst hl
          have HFI := Lib.hid (finish_any n h hh1 hhn (by omega) a cap ts wr hst.tail htl)
          have hvc : vs.length ≤ 64 := by have := HC.out; omega
          have hvt : vs.length ≠ 0 → ((vs.length : Int) - 1) * h + n ≤ 256 := fun _ => by
            have e : ((vs.length : Int) - 1) * (h : Int) ≤ 5 * 8 := by
              by_cases h0 : vs.length = 0
              · rw [h0]; simp
              · have e1 : ((vs.length : Int) - 1) * (h : Int) = (((vs.length - 1) * h : Nat) : Int) := by rw [show ((vs.length : Int) - 1) = ((vs.length - 1 : Nat) : Int) by omega]; simp
                have e2 : (vs.length - 1) * h ≤ 5 * 8 := Nat.mul_le_mul (by have := HC.out; omega) (by omega)
                rw [e1]; omega
            omega
          have OI := Lib.hid (fun W (hW : Below w4.heap.size w4 W) => ovl_impl (HBLK4.out.below hW) h ⟨hh1, hhn⟩ (by omega) hvc hvt)
          have OS := Lib.hid (fun W (hW : Below w4.heap.size w4 W) => ovl_spec (HBLK4.out.below hW) h ⟨hh1, hhn⟩ (by omega) hvc hvt)
          rw [HC.out] at OI OS
          have HZW := Lib.hid (show w4.heap.size ≤ wr.heap.size by omega)
          have HBW := Lib.hid hst.below
          clear hblk hst htl hvc hvt
          go_wp2_with fail
          refine HFI.out.mono ?_
          rintro e w6 ⟨rest, rfl, hrest, hb6⟩
          have HB6 := Lib.hid (below_step HBW.out hb6 HZW.out)
          have HRE := Lib.hid hrest
          have hz6 : wr.heap.size ≤ w6.heap.size := hb6.size
          have HBR6 := Lib.hid hb6
          clear hrest hb6 HFI d0 d1 d2
          go_wp2_with fail
          refine (OI.out _ HB6.out).mono ?_
          rintro e w7 ⟨whole, fw, rfl, hwr, hwf, hb7⟩
          have HB7 := Lib.hid (below_step HB6.out hb7 (by omega))
          have HBR7 := Lib.hid (below_step HBR6.out hb7 hz6)
          have HRE7 := Lib.hid (HRE.out.below hb7 (fun j e => (HRE.out.lt j e).2))
          have HWR := Lib.hid hwr
          have HWF := Lib.hid hwf
          have hz7 : w6.heap.size ≤ w7.heap.size := hb7.size
          clear hwr hwf hb7 HRE HBR6
          go_wp2_with fail
          refine (OS.out _ HB7.out).mono ?_
          rintro e w8 ⟨due, fd, rfl, hdue⟩
          have HB8 := Lib.hid (below_step HB7.out hdue.below (by omega))
          have HBR8 := Lib.hid (below_step HBR7.out hdue.below (by omega))
          have HRE8 := Lib.hid (HRE7.out.below hdue.below (fun j e => (HRE7.out.lt j e).2))
          have HWR8 := Lib.hid (HWR.out.below hdue.below (fun j e => (HWR.out.lt j e).2))
          have HDR := Lib.hid hdue.row
          have HDF := Lib.hid hdue.fits
          have hz8 : w7.heap.size ≤ w8.heap.size := hdue.below.size
          have hsame := fits_same HWF.out hdue.fits
          have HSS := Lib.hid (sameSignals_spec HWR8.out.reads hdue.row.reads hsame.1 hsame.2)
          obtain ⟨aw, cw, rfl⟩ := cform HWR8.out.reads
          obtain ⟨ad, cd, rfl⟩ := cform hdue.row.reads
          clear hdue hsame HWR HRE7 HBR7
          go_wp2_with fail
          refine HSS.out.mono ?_
          rintro e w9 ⟨rfl, n9, rfl⟩
          have HALL9 := Lib.hid ((HST.out.all.below HBR8.out (fun j e => (HST.out.all.lt j e).2)).drewN n9)
          have HRE9 := Lib.hid (RdC.of_row (HRE8.out.drewN n9))
          have HDR9 := Lib.hid (HDR.out.drewN n9)
          have hsz9 : w4.heap.size + 1 ≤ (w8.drewN n9).heap.size := by show _ ≤ w8.heap.size; omega
          have hul : us.length + ts.length ≤ 1000000 := by have := HST.out.fits.len; have h1 := HST.out.tlen hhn; omega
          have HB9 := Lib.hid (below_draws HB8.out n9)
          generalize w8.drewN n9 = w10 at *
          go_wp2_with (at_builtin; refine wpList_app rfl _ _ rfl Try.underlying36 i0 hi hy0 hy1 hy2 (w4.heap.size + 1) _ _ us ts rfl rfl HALL9.out HRE9.out hsz9 hul ?_)
          intro v' w11 hrow hgrow
          have hdr11 := HDR9.out.kept hgrow (by
            cases ho : (Value.slice ad (cvals fd).length cd).ownBlock with
            | none => exact .inl rfl
            | some x => exact .inr (fun e => by have h2 := HDR9.out.lt x ho; have h3 := hall.out x e.symm; omega))
          have hfa : FitsC (us ++ ts) (ovlL q n h b) := by
            have := HST.out.told.app HST.out.fits
            rwa [told_tail] at this
          have hsame := fits_same hfa HDF.out
          have HSS2 := Lib.hid (sameSignals_spec hrow.reads hdr11.reads hsame.1 hsame.2)
          have HB11 := Lib.hid (HB9.out.grown hgrow (by omega) (fun x e => by have := (hall.out x e).1; omega))
          obtain ⟨av, cv, rfl⟩ := cform hrow.reads
          clear hrow hgrow hdr11 hfa hsame
          go_wp2_with fail
          refine HSS2.out.mono ?_
          rintro e w12 ⟨rfl, n12, rfl⟩
          have HB12 := Lib.hid (below_draws (below_step HB4.out HB11.out HB4.out.size) n12)
          go_wp2
          go_ret
          exact ⟨rfl, HB12.out⟩
    · have F1 := Lib.hid (f6big_t a1 len1 cap1 (by omega) (by omega))
      clear h0 h1
      go_enter Try.func5, Try.ntmps5
      go_wp2_with fail
      with_reducible refine (F0.out _).mono ?_
      rintro e w' ⟨rfl, rfl⟩
      go_wp2_with fail
      with_reducible refine (F1.out _).mono ?_
      rintro e w' ⟨rfl, rfl⟩
      go_wp2
      go_ret
      exact ⟨rfl, Below.refl _ _⟩
  · have F0 := Lib.hid (f6big_t a0 len0 cap0 (by omega) (by omega))
    clear h0 h1
    go_enter Try.func5, Try.ntmps5
    go_wp2_with fail
    with_reducible refine (F0.out _).mono ?_
    rintro e w' ⟨rfl, rfl⟩
    go_wp2
    go_ret
    exact ⟨rfl, Below.refl _ _⟩

end Go.Proofs.Ytnhhmgnceicpkab
