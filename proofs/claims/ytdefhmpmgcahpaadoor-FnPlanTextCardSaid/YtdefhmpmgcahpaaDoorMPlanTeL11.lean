/-
  Several texts of this claim, one behind the other; each says what it holds.
-/
import Derived.Test.YtdefhmpmgcahpaaDoorWalkI64
import Derived.Shelf.Strconv.Itoa4
import Derived.Test.YtdefhmpmgcahpaaDoorBls
import Derived.Laws.IdiomStrings
import Derived.BigQuiet
import Derived.Laws.Concat
import Derived.Deep.RegionHeld3
import Derived.Test.YtdefhmpmgcahpaaDoorStr
import Derived.WalkSmall
import Derived.Test.YtdefhmpmgcahpaaDoorMPlanTeL5
/-
  strconv.FormatInt at base 10 at this program (the numbers are this seat's: lay-shelf.mjs and lay-plain.mjs wrote the rows).
-/
set_option maxRecDepth 100000
namespace Go.Proofs
open Go.Shelf
def Tryd.laysM173_ren : Go.Shelf.Ren := ⟨fun | 173 => 39 | 246 => 73 | 283 => 100 | 284 => 101 | 285 => 102 | 286 => 103 | 129 => 121 | 317 => 120 | 318 => 122 | 319 => 123 | 320 => 124 | 337 => 140 | 338 => 141 | n => n, fun | 2 => 2 | 3 => 3 | 9 => 9 | 4 => 4 | 171 => 136 | 0 => 0 | 53 => 106 | 37 => 22 | 5 => 5 | 173 => 139 | 212 => 176 | 51 => 177 | 20 => 20 | 213 => 178 | 46 => 146 | 232 => 201 | 233 => 202 | n => n, fun | 17 => 1 | 18 => 5 | 19 => 6 | n => n⟩
theorem Tryd.laysM173 : Go.Proofs.LaysM.n173 Tryd.prog Tryd.laysM173_ren := {
  mixed := by kernel_rfl
  f129 := Tryd.func121.trans (congrArg some (by kernel_rfl))
  f173 := Tryd.func39.trans (congrArg some (by kernel_rfl))
  f246 := Tryd.func73.trans (congrArg some (by kernel_rfl))
  f283 := Tryd.func100.trans (congrArg some (by kernel_rfl))
  f284 := Tryd.func101.trans (congrArg some (by kernel_rfl))
  f285 := Tryd.func102.trans (congrArg some (by kernel_rfl))
  f286 := Tryd.func103.trans (congrArg some (by kernel_rfl))
  f317 := Tryd.func120.trans (congrArg some (by kernel_rfl))
  f318 := Tryd.func122.trans (congrArg some (by kernel_rfl))
  f319 := Tryd.func123.trans (congrArg some (by kernel_rfl))
  f320 := Tryd.func124.trans (congrArg some (by kernel_rfl))
  f337 := Tryd.func140.trans (congrArg some (by kernel_rfl))
  f338 := Tryd.func141.trans (congrArg some (by kernel_rfl))
  t0 := Tryd.underlying0
  a0 := Tryd.isAgg0
  z0 := Tryd.sizeOf0
  v0 := Tryd.zeroValue0
  t2 := Tryd.underlying2
  a2 := Tryd.isAgg2
  z2 := Tryd.sizeOf2
  v2 := Tryd.zeroValue2
  t3 := Tryd.underlying3
  a3 := Tryd.isAgg3
  z3 := Tryd.sizeOf3
  v3 := Tryd.zeroValue3
  t4 := Tryd.underlying4
  a4 := Tryd.isAgg4
  z4 := Tryd.sizeOf4
  v4 := Tryd.zeroValue4
  t5 := Tryd.underlying5
  a5 := Tryd.isAgg5
  z5 := Tryd.sizeOf5
  v5 := Tryd.zeroValue5
  t9 := Tryd.underlying9
  a9 := Tryd.isAgg9
  z9 := Tryd.sizeOf9
  v9 := Tryd.zeroValue9
  t20 := Tryd.underlying20
  a20 := Tryd.isAgg20
  z20 := Tryd.sizeOf20
  v20 := Tryd.zeroValue20
  t37 := Tryd.underlying22
  a37 := Tryd.isAgg22
  z37 := Tryd.sizeOf22
  v37 := Tryd.zeroValue22
  t46 := Tryd.underlying146
  a46 := Tryd.isAgg146
  z46 := Tryd.sizeOf146
  v46 := Tryd.zeroValue146
  t51 := Tryd.underlying177
  a51 := Tryd.isAgg177
  z51 := Tryd.sizeOf177
  v51 := Tryd.zeroValue177
  t53 := Tryd.underlying106
  a53 := Tryd.isAgg106
  z53 := Tryd.sizeOf106
  v53 := Tryd.zeroValue106
  t171 := Tryd.underlying136
  a171 := Tryd.isAgg136
  z171 := Tryd.sizeOf136
  v171 := Tryd.zeroValue136
  t173 := Tryd.underlying139
  a173 := Tryd.isAgg139
  z173 := Tryd.sizeOf139
  v173 := Tryd.zeroValue139
  t212 := Tryd.underlying176
  a212 := Tryd.isAgg176
  z212 := Tryd.sizeOf176
  v212 := Tryd.zeroValue176
  t213 := Tryd.underlying178
  a213 := Tryd.isAgg178
  z213 := Tryd.sizeOf178
  t232 := Tryd.underlying201
  a232 := Tryd.isAgg201
  z232 := Tryd.sizeOf201
  v232 := Tryd.zeroValue201
  t233 := Tryd.underlying202
  a233 := Tryd.isAgg202
  z233 := Tryd.sizeOf202
  v233 := Tryd.zeroValue202
  g17 := by kernel_rfl
  g18 := by kernel_rfl
  g19 := by kernel_rfl
  i0 := by kernel_rfl
  i2 := by kernel_rfl
  i3 := by kernel_rfl
  i4 := by kernel_rfl
  i5 := by kernel_rfl
  i9 := by kernel_rfl
  i20 := by kernel_rfl
  i37 := by kernel_rfl
  i46 := by kernel_rfl
  i51 := by kernel_rfl
  i53 := by kernel_rfl
  i171 := by kernel_rfl
  i173 := by kernel_rfl
  i212 := by kernel_rfl
  i232 := by kernel_rfl
  i233 := by kernel_rfl
  m17 := by kernel_rfl
  m18 := by kernel_rfl
  m19 := by kernel_rfl }
end Go.Proofs
namespace Go.Proofs.YtdefhmpmgcahpaaDoor
open Go.RowKit

theorem formatInt_any (n : Int) (h0 : -9223372036854775808 ≤ n) (h1 : n ≤ 9223372036854775807) (w : World) (htab : Lib.TabIs Tryd.prog w "internal/strconv.uint64pow10" .u64 Lib.pow10Tab) :
    Calls Tryd.prog 39 #[.int .i64 n, .int .i64 10] w fun e w' => e = .returned (.string ⟨(Lib.itoa n).toArray⟩) ∧ ∃ k os, w' = Sort.grow (w.drewN k) os :=
  Any.strconv_FormatInt_10 Tryd.laysM173 n h0 h1 w htab

end Go.Proofs.YtdefhmpmgcahpaaDoor
/-
  Decimal of the model, l07Signed.
-/
set_option linter.unusedVariables false
set_option linter.unusedSimpArgs false
namespace Go.Proofs.YtdefhmpmgcahpaaDoor
open Go.RowKit

theorem byte_string (W : World) (g : Nat) (z : Int) (b : UInt8) (hz : z = (b.toNat : Int)) (h : W.cell? ⟨g, 0, none⟩ = some (.int .u8 z)) :
    (convert 22 9 (.slice (some ⟨g, 0, none⟩) 1 1)).run Tryd.prog W = .ok (.string ⟨#[b]⟩) W := by
  subst hz
  refine run_convert_bytes_back W _ _ 5 ⟨g, 0, none⟩ 1 [b] Tryd.underlying22 Tryd.underlying5 Tryd.underlying9 (fun j hj => ?_)
  have : j = 0 := by simpa using hj
  subst this
  simpa [Addr.add] using h

theorem dec_byte (d : Nat) (hd : d < 10) : ((48 + d : Nat) : Int) = ((UInt8.ofNat (48 + d)).toNat : Int) := by
  have : ∀ d : Fin 10, (UInt8.ofNat (48 + d.val)).toNat = 48 + d.val := by decide
  rw [this ⟨d, hd⟩]

theorem nDigits_low (u : Nat) : 10 ^ (Lib.nDigits u - 1) ≤ u ∨ Lib.nDigits u = 1 := by
  induction u using Nat.strongRecOn with
  | _ u ih =>
    by_cases h : u < 10
    · exact .inr (Lib.nDigits_small h)
    · left
      rw [Lib.nDigits_big h]
      have hp := Lib.nDigits_pos (u / 10)
      rcases ih (u / 10) (by omega) with h1 | h1
      · obtain ⟨k, hk⟩ : ∃ k, Lib.nDigits (u / 10) = k + 1 := ⟨Lib.nDigits (u / 10) - 1, by omega⟩
        rw [hk] at h1 ⊢
        simp only [Nat.add_sub_cancel] at h1 ⊢
        rw [Nat.pow_succ]
        omega
      · rw [h1]
        simp
        omega
theorem nDigits_le19 (u : Nat) (h : u < 2 ^ 63) : Lib.nDigits u ≤ 19 := by
  by_cases h0 : Lib.nDigits u ≤ 19
  · exact h0
  · exfalso
    have hp : 10 ^ (Lib.nDigits u - 1) ≤ u ∨ Lib.nDigits u = 1 := nDigits_low u
    rcases hp with hp | hp
    · have : 10 ^ 19 ≤ 10 ^ (Lib.nDigits u - 1) := Nat.pow_le_pow_right (by decide) (by omega)
      omega
    · omega

theorem itoa_len (n : Int) (h0 : -(2 ^ 63 - 1) ≤ n) (h1 : n < 2 ^ 63) : (Lib.itoa n).length ≤ 20 := by
  unfold Lib.itoa
  split
  · have := nDigits_le19 n.natAbs (by omega)
    rw [List.length_cons, Lib.decDigits_length]
    omega
  · have := nDigits_le19 n.toNat (by omega)
    rw [Lib.decDigits_length]
    omega

end Go.Proofs.YtdefhmpmgcahpaaDoor
/-
  Texts of numbers behind words; strings; the library's powers of ten.
-/
set_option linter.unusedVariables false
set_option linter.unusedSimpArgs false
namespace Go.Proofs.YtdefhmpmgcahpaaDoor
open Go.RowKit

/-- Numbers are written behind a text. -/
def txGo (t : List UInt8) (zs : List Int) : List UInt8 := zs.foldl (fun t z => t ++ (32 :: Lib.itoa z)) t
theorem tx_take {t : List UInt8} {zs : List Int} {k : Nat} (h : k < zs.length) : txGo t (zs.take (k + 1)) = txGo t (zs.take k) ++ (32 :: Lib.itoa (zs.getD k 0)) := by
  unfold txGo
  rw [List.take_add_one, List.getElem?_eq_getElem h, List.getD_eq_getElem?_getD, List.getElem?_eq_getElem h, List.foldl_append]
  rfl
theorem tx_len {t : List UInt8} {m : Nat} (ht : t.length ≤ m) {zs : List Int} (hz : ∀ z ∈ zs, -1024 ≤ z ∧ z ≤ 1024) : ∀ k, k ≤ zs.length → (txGo t (zs.take k)).length ≤ m + 21 * k
  | 0, _ => by simpa [txGo] using ht
  | k + 1, h => by
    rw [tx_take (by omega)]
    have h1 := tx_len ht hz k (by omega)
    have hm : zs.getD k 0 ∈ zs := by
      rw [List.getD_eq_getElem?_getD, List.getElem?_eq_getElem (by omega)]
      exact List.getElem_mem _
    have h2 := hz _ hm
    have h3 := itoa_len (zs.getD k 0) (by omega) (by omega)
    rw [List.length_append, List.length_cons]
    omega

/-- The library's table of powers of ten lies where it was laid. -/
def Pow10 (w : World) : Prop := Lib.TabIs Tryd.prog w "internal/strconv.uint64pow10" .u64 Lib.pow10Tab
theorem Pow10.below {w w' : World} (h : Pow10 w) (hb : Below w.heap.size w w') : Pow10 w' := by
  unfold Pow10 Lib.TabIs at *
  have hg : Tryd.prog.globalNamed "internal/strconv.uint64pow10" = some 1 := by kernel_rfl
  have hc : w.cell? ⟨1, 0, none⟩ = some (.int .u64 1) := by
    rw [World.var?_cell hg h]
    rfl
  exact var?_below hb hg (World.block_lt_of_cell? _ _ hc) h
theorem below_grow (w : World) (k : Nat) (os : Array Obj) : Below w.heap.size w (Sort.grow (w.drewN k) os) := by
  refine ⟨rfl, rfl, rfl, ?_, fun j hj => ?_⟩
  · simp [Sort.grow]
  · show ((w.drewN k).heap ++ os)[j]? = _
    rw [Array.getElem?_append_left (by exact hj)]
    rfl

end Go.Proofs.YtdefhmpmgcahpaaDoor
/-
  The text of a step: pure, and by the model.
-/
set_option linter.unusedVariables false
set_option linter.unusedSimpArgs false
namespace Go.Proofs.YtdefhmpmgcahpaaDoor
open Go.RowKit

/-- The text of a step; nothing of one that is not valid. -/
def stText (s : St) : List UInt8 := if validSt s then txGo (wordOf s.kind.toNat).data.toList (numsOf s.kind.toNat s.n s.k s.taps) else []

theorem word_len {q : Nat} (hq : q < 14) : (wordOf q).data.toList.length ≤ 6 := by
  rcases q with _ | _ | _ | _ | _ | _ | _ | _ | _ | _ | _ | _ | _ | _ | q
  all_goals first | decide | omega
theorem kinds13 {kd : Int} (h : 1 ≤ kd ∧ kd ≤ 13) : kd = 1 ∨ kd = 2 ∨ kd = 3 ∨ kd = 4 ∨ kd = 5 ∨ kd = 6 ∨ kd = 7 ∨ kd = 8 ∨ kd = 9 ∨ kd = 10 ∨ kd = 11 ∨ kd = 12 ∨ kd = 13 := by omega
theorem valid_kind {s : St} (h : validSt s = true) : 1 ≤ s.kind ∧ s.kind ≤ 13 := by
  by_cases hk : 1 ≤ s.kind ∧ s.kind ≤ 13
  · exact hk
  · exfalso
    have e : validSt s = false := by
      simp only [validSt]
      repeat (rw [if_neg (by omega)])
    rw [e] at h
    cases h
theorem valid_nums {s : St} (h : validSt s = true) : (numsOf s.kind.toNat s.n s.k s.taps).length ≤ 8 ∧ ∀ z ∈ numsOf s.kind.toNat s.n s.k s.taps, -1024 ≤ z ∧ z ≤ 1024 := by
  obtain ⟨k1, k2⟩ := valid_kind h
  obtain ⟨kd, n, k, taps⟩ := s
  simp only at k1 k2
  rcases kinds13 ⟨k1, k2⟩ with rfl | rfl | rfl | rfl | rfl | rfl | rfl | rfl | rfl | rfl | rfl | rfl | rfl
  all_goals simp [validSt, inZ, partsB] at h
  · rw [show numsOf (Int.toNat 1) n k taps = [n, k] from rfl]
    refine ⟨by simp, fun z hz => ?_⟩
    simp at hz
    omega
  · rw [show numsOf (Int.toNat 2) n k taps = [n] from rfl]
    refine ⟨by simp, fun z hz => ?_⟩
    simp at hz
    omega
  · rw [show numsOf (Int.toNat 3) n k taps = taps from rfl]
    refine ⟨by omega, fun z hz => ?_⟩
    have := h.2.2 z hz
    omega
  · rw [show numsOf (Int.toNat 4) n k taps = [n, k] from rfl]
    refine ⟨by simp, fun z hz => ?_⟩
    simp at hz
    omega
  · rw [show numsOf (Int.toNat 5) n k taps = [n] from rfl]
    refine ⟨by simp, fun z hz => ?_⟩
    simp at hz
    omega
  · rw [show numsOf (Int.toNat 6) n k taps = [n] from rfl]
    refine ⟨by simp, fun z hz => ?_⟩
    simp at hz
    omega
  · rw [show numsOf (Int.toNat 7) n k taps = [n] from rfl]
    refine ⟨by simp, fun z hz => ?_⟩
    simp at hz
    omega
  · rw [show numsOf (Int.toNat 8) n k taps = [n] from rfl]
    refine ⟨by simp, fun z hz => ?_⟩
    simp at hz
    omega
  · rw [show numsOf (Int.toNat 9) n k taps = [n] from rfl]
    refine ⟨by simp, fun z hz => ?_⟩
    simp at hz
    omega
  · rw [show numsOf (Int.toNat 10) n k taps = [n] from rfl]
    refine ⟨by simp, fun z hz => ?_⟩
    simp at hz
    omega
  · rw [show numsOf (Int.toNat 11) n k taps = [] from rfl]
    refine ⟨by simp, fun z hz => ?_⟩
    simp at hz
  · rw [show numsOf (Int.toNat 12) n k taps = [] from rfl]
    refine ⟨by simp, fun z hz => ?_⟩
    simp at hz
  · rw [show numsOf (Int.toNat 13) n k taps = [] from rfl]
    refine ⟨by simp, fun z hz => ?_⟩
    simp at hz

/-- How many numbers the text of a kind mentions, of the model's table. -/
theorem told_cnt {q : Nat} (h1 : 1 ≤ q) (h13 : q ≤ 13) (h3 : q ≠ 3) : toldL.getD q 0 = (cntOf q : Int) := by
  rcases q with _ | _ | _ | _ | _ | _ | _ | _ | _ | _ | _ | _ | _ | _ | q
  all_goals first | omega | decide

set_option maxRecDepth 100000 in
set_option maxHeartbeats 4000000 in
theorem words2_any (w : World) :
    Calls Tryd.prog 46 #[] w fun e w' => ∃ v b, e = .returned (.tuple #[.slice (some ⟨v, 0, none⟩) 14 14, .slice (some ⟨b, 0, none⟩) 14 14]) ∧ (∀ j, j < 14 → w'.cell? ⟨v, j, none⟩ = some (.string (wordOf j))) ∧ (∀ j, j < 14 → w'.cell? ⟨b, j, none⟩ = some (.int .i64 (toldL.getD j 0))) ∧ Below w.heap.size w w' := by
  go_enter Tryd.func46, Tryd.ntmps46
  go_wp2
  go_ret2
  refine ⟨_, _, rfl, ?_, ?_, ((Below.refl _ _).alloc (Nat.le_refl _) _).alloc (by simp) _⟩
  · intro j hj
    rcases j with _ | _ | _ | _ | _ | _ | _ | _ | _ | _ | _ | _ | _ | _ | j
    all_goals first | omega | (unfold wordOf; go_simp; done) | (unfold wordOf; go_simp; rfl)
  · intro j hj
    rcases j with _ | _ | _ | _ | _ | _ | _ | _ | _ | _ | _ | _ | _ | _ | j
    all_goals first | omega | (unfold toldL; go_simp; done) | (unfold toldL; go_simp; rfl)

end Go.Proofs.YtdefhmpmgcahpaaDoor
/-
  StepText of the model.
-/
set_option linter.unusedVariables false
set_option linter.unusedSimpArgs false
namespace Go.Proofs.YtdefhmpmgcahpaaDoor
open Go.RowKit

end Go.Proofs.YtdefhmpmgcahpaaDoor
/-
  StepText of the program.
-/
set_option linter.unusedVariables false
set_option linter.unusedSimpArgs false
namespace Go.Proofs.YtdefhmpmgcahpaaDoor
open Go.RowKit

set_option maxRecDepth 100000 in
set_option maxHeartbeats 8000000 in
theorem stepText_impl (s : St) (a : Option Addr) (c : Nat) (w : World) (ht : Tab w) (hp : Pow10 w) (hs : Reads w (.slice a s.taps.length c) (ints s.taps)) :
    Calls Tryd.prog 14 #[.agg #[.int .i64 s.kind, .int .i64 s.n, .int .i64 s.k, .slice a s.taps.length c]] w fun e w' => e = .returned (.string (strOf (stText s))) ∧ Below w.heap.size w w' := by
  obtain ⟨W, hW⟩ : ∃ W, W = w.alloc (.cells #[.int .i64 s.kind, .int .i64 s.n, .int .i64 s.k, .slice a s.taps.length c] 36) := ⟨_, rfl⟩
  have hlt : w.heap.size < W.heap.size := by rw [hW]; simp
  have hb0 : Below w.heap.size w W := by rw [hW]; exact (Below.refl _ _).alloc (Nat.le_refl _) _
  have C := validStep_impl s a c W (ht.below hb0) (hs.keep hb0)
  have HV := Lib.hid (fun (hv : validSt s = true) => And.intro (valid_kind hv) (valid_nums hv))
  obtain ⟨T, hT⟩ : ∃ T, stText s = T := ⟨_, rfl⟩
  rw [hT]
  unfold stText at hT
  obtain ⟨kd, n, k, taps⟩ := s
  simp only at hs hW C HV hT ⊢
  have hat : StepAt W w.heap.size 0 kd n k a taps.length c := by rw [hW]; exact ⟨by go_simp, by go_simp, by go_simp, by go_simp⟩
  obtain ⟨b, hbv⟩ : ∃ b, validSt ⟨kd, n, k, taps⟩ = b := ⟨_, rfl⟩
  rw [hbv] at C hT HV
  have C := Lib.hid C
  have HT := Lib.hid hT
  have HB0 := Lib.hid hb0
  have HAT := Lib.hid hat
  have HW := Lib.hid hW.symm
  have TB := Lib.hid (fun (W' : World) (hb : Below W.heap.size W W') => And.intro ((ht.below hb0).below hb) ((hp.below hb0).below hb))
  have RD := Lib.hid (fun (W' : World) (hb : Below W.heap.size W W') => (hs.keep hb0).keep hb)
  clear hT hb0 hat hs ht hp hbv
  clear hW
  obtain ⟨c0, c1, c2, c3⟩ := HAT.out
  go_enter Tryd.func14, Tryd.ntmps14
  go_wp2_with fail
  rw [HW.out]
  with_reducible refine C.out.mono ?_
  rintro e w1 ⟨rfl, hb1⟩
  have HB1 := Lib.hid hb1
  clear hb1 C c0 c1 c2 c3 HW
  obtain ⟨c0, c1, c2, c3⟩ := HAT.out.below HB1.out
  cases b
  · have e : T = [] := by rw [← HT.out]; rfl
    subst e
    go_wp2
    go_ret
    exact ⟨rfl, below_step' HB0.out HB1.out HB0.out.size⟩
  obtain ⟨⟨k1, k2⟩, n8, nz⟩ := HV.out rfl
  obtain ⟨q, rfl⟩ : ∃ q : Nat, kd = q := ⟨kd.toNat, by omega⟩
  have hT : txGo (wordOf q).data.toList (numsOf q n k taps) = T := HT.out
  simp only [Int.toNat_natCast] at n8 nz
  have hq14 : q < 14 := by omega
  have hqi : (q : Int) < 14 := by omega
  have hlen := tx_len (word_len hq14) nz
  obtain ⟨tb, hp1⟩ := TB.out w1 HB1.out
  have t1 := tb.word q hq14
  have NB := Lib.hid (numbersOf_any q hq14 n k taps a c w1 tb (RD.out w1 HB1.out) (fun w' hb => RD.out w' (below_step' HB1.out hb HB1.out.size)))
  obtain ⟨zs, hzs⟩ : ∃ zs, numsOf q n k taps = zs := ⟨_, rfl⟩
  obtain ⟨wd, hwd⟩ : ∃ wd, wordOf q = wd := ⟨_, rfl⟩
  rw [hzs] at NB hlen hT n8 nz
  rw [hwd] at t1 hlen hT
  have HLEN := Lib.hid hlen
  have HTT := Lib.hid hT
  have HN8 := Lib.hid n8
  have NZ := Lib.hid nz
  clear HT HV hT hlen nz k1 k2 n8 tb hp1 hzs hwd
  go_wp2_with fail
  with_reducible refine NB.out.mono ?_
  rintro e w2 ⟨a2, c2', rfl, hr2, hb2⟩
  have HB2 := Lib.hid (below_step' HB1.out hb2 HB1.out.size)
  have HR2 := Lib.hid hr2
  clear hb2 hr2 NB
  obtain ⟨L, hL⟩ : ∃ L, zs.length = L := ⟨_, rfl⟩
  have HLZ := Lib.hid hL
  have HRDX : Hid (∀ wr, Below w2.heap.size w2 wr → ∀ j, j < L → ∃ g, a2 = some ⟨g, 0, none⟩ ∧ wr.cell? ⟨g, j, none⟩ = some (.int .i64 (zs.getD j 0))) := fun wr hb j hj => by
    obtain ⟨a', c', e', -, hrd'⟩ := ints_find (HR2.out.keep hb)
    simp only [Value.slice.injEq] at e'
    obtain ⟨rfl, -, -⟩ := e'
    exact hrd' j (by omega)
  have HBX := HB2
  rw [hL]
  clear hL
  go_wp2
  have HST : Hid (Value.string wd = .string (strOf (txGo wd.data.toList (zs.take 0)))) := by
    rw [List.take_zero]
    rfl
  have HEND : Hid (txGo wd.data.toList (zs.take L) = T) := by
    rw [← HLZ.out, List.take_length]
    exact HTT.out
  have hL8 : L ≤ 8 := by rw [← HLZ.out]; exact HN8.out
  clear t1 c0 c1 c2 c3
  go_loopw [3, 17] (fun y i wr => ∃ (j : Nat), i = .int .i64 j ∧ y = .string (strOf (txGo wd.data.toList (zs.take j))) ∧ j ≤ L ∧ Below w2.heap.size w2 wr) (fun _ i _ => L - (intOf i).toNat)
  case atStart => exact ⟨0, rfl, HST.out, Nat.zero_le _, Below.refl _ _⟩
  case round =>
    obtain ⟨j, rfl, rfl, hj, hB⟩ := hrel
    have HB := Lib.hid hB
    by_cases hlt : j < L
    · obtain ⟨g, eg, cj⟩ := HRDX.out wr hB j hlt
      first
        | (subst eg)
        | (simp only [Option.some.injEq, Addr.mk.injEq, and_true] at eg; subst eg)
      obtain ⟨z, hz⟩ : ∃ z, zs.getD j 0 = z := ⟨_, rfl⟩
      rw [hz] at cj
      have hzb : -1024 ≤ z ∧ z ≤ 1024 := NZ.out z (by
        rw [← hz, List.getD_eq_getElem?_getD, List.getElem?_eq_getElem (by rw [HLZ.out]; exact hlt)]
        exact List.getElem_mem _)
      obtain ⟨-, hp⟩ := TB.out wr (below_step' HB2.out hB HB2.out.size)
      have SG := formatInt_any z (by omega) (by omega) wr hp
      have htl := HLEN.out j (by rw [HLZ.out]; exact hj)
      have hil := itoa_len z (by omega) (by omega)
      have htk : txGo wd.data.toList (zs.take (j + 1)) = txGo wd.data.toList (zs.take j) ++ (32 :: Lib.itoa z) := by rw [tx_take (by rw [HLZ.out]; exact hlt), hz]
      have hn8 := HN8.out
      have hlz := HLZ.out
      obtain ⟨tt, htt⟩ : ∃ tt, txGo wd.data.toList (zs.take j) = tt := ⟨_, rfl⟩
      obtain ⟨it, hit⟩ : ∃ it, Lib.itoa z = it := ⟨_, rfl⟩
      rw [htt] at htl htk ⊢
      rw [hit] at SG hil htk
      have a1 := fun w => str_add [32] it (by rw [List.length_singleton]; omega) w
      have a2 := fun w => str_add tt (32 :: it) (by rw [List.length_cons]; omega) w
      rw [show (⟨it.toArray⟩ : ByteArray) = strOf it from rfl] at SG
      have HNEXT : Hid (strOf (txGo wd.data.toList (zs.take (j + 1))) = strOf (tt ++ (32 :: it))) := congrArg strOf htk
      obtain ⟨E1, hE1⟩ : ∃ E, strOf (32 :: it) = E := ⟨_, rfl⟩
      obtain ⟨E2, hE2⟩ : ∃ E, strOf (tt ++ (32 :: it)) = E := ⟨_, rfl⟩
      obtain ⟨T1, hT1⟩ : ∃ E, strOf tt = E := ⟨_, rfl⟩
      obtain ⟨S1, hS1⟩ : ∃ E, strOf it = E := ⟨_, rfl⟩
      rw [hE2] at HNEXT
      rw [hS1] at SG
      rw [hT1]
      have b1 : ∀ w : World, (Op.stringOp .add ⟨#[32]⟩ S1).run Tryd.prog w = .ok (.string E1) w := fun w => by rw [← hS1, ← hE1]; exact a1 w
      have b2 : ∀ w : World, (Op.stringOp .add T1 E1).run Tryd.prog w = .ok (.string E2) w := fun w => by rw [← hT1, ← hE1, ← hE2]; exact a2 w
      have SG := Lib.hid SG
      have HJL := Lib.hid hlt
      clear hp hB hz hzb htl hil htk hn8 hlz htt hit a1 a2 hE1 hE2 hT1 hS1
      go_wp2_with fail
      with_reducible refine SG.out.mono ?_
      rintro e w5 ⟨rfl, dk, dos, rfl⟩
      have hb5 := below_grow wr dk dos
      generalize Sort.grow (wr.drewN dk) dos = w5 at hb5 ⊢
      have HB5 := Lib.hid (below_step' HB.out hb5 HB.out.size)
      clear hb5
      go_wp2
      go_roundw
      case rel => exact ⟨j + 1, by go_num, by rw [HNEXT.out], HJL.out, HB5.out⟩
      case measure => have := HJL.out; simp [intOf]; omega
    · obtain rfl : j = L := by omega
      rw [HEND.out]
      clear hB
      go_wp2
      go_ret
      exact ⟨rfl, below_step' HB0.out (below_step' HBX.out HB.out HBX.out.size) HB0.out.size⟩

end Go.Proofs.YtdefhmpmgcahpaaDoor
/-
  PlanText of both.
-/
set_option linter.unusedVariables false
set_option linter.unusedSimpArgs false
namespace Go.Proofs.YtdefhmpmgcahpaaDoor
open Go.RowKit

/-- Steps are written behind a text, each with a newline. -/
def ptGo (t : List UInt8) (ss : List St) : List UInt8 := ss.foldl (fun t s => t ++ (stText s ++ [10])) t
/-- The text of a plan; nothing of one that is not valid. -/
def plText (ss : List St) : List UInt8 := if validPl ss then ptGo [] ss else []

theorem pt_take {t : List UInt8} {ss : List St} {k : Nat} (h : k < ss.length) : ptGo t (ss.take (k + 1)) = ptGo t (ss.take k) ++ (stText (ss.getD k default) ++ [10]) := by
  unfold ptGo
  rw [List.take_add_one, List.getElem?_eq_getElem h, List.getD_eq_getElem?_getD, List.getElem?_eq_getElem h, List.foldl_append]
  rfl
theorem st_len (s : St) : (stText s).length ≤ 174 := by
  unfold stText
  by_cases hv : validSt s = true
  · rw [if_pos hv]
    obtain ⟨k1, k2⟩ := valid_kind hv
    obtain ⟨h1, h2⟩ := valid_nums hv
    have := tx_len (word_len (show s.kind.toNat < 14 by omega)) h2 _ (Nat.le_refl _)
    rw [List.take_length] at this
    omega
  · rw [if_neg hv]
    simp
theorem pt_len {ss : List St} : ∀ k, k ≤ ss.length → (ptGo [] (ss.take k)).length ≤ 175 * k
  | 0, _ => by simp [ptGo]
  | k + 1, h => by
    rw [pt_take (by omega)]
    have h1 := pt_len (ss := ss) k (by omega)
    have h2 := st_len (ss.getD k default)
    rw [List.length_append, List.length_append, List.length_singleton]
    omega

theorem validPl_len8 {ss : List St} (h : validPl ss = true) : ss.length ≤ 8 := by
  simp only [validPl, Bool.and_eq_true, decide_eq_true_eq] at h
  exact h.1

/-- What a round of either loop adds. -/
theorem pt_round {ss : List St} {j : Nat} (h : j < ss.length) (h8 : ss.length ≤ 8) :
    ∃ T S E1 E2 : ByteArray, strOf (ptGo [] (ss.take j)) = T ∧ strOf (stText (ss.getD j default)) = S ∧ strOf (ptGo [] (ss.take (j + 1))) = E2 ∧
      (∀ w : World, (Op.stringOp .add S ⟨#[10]⟩).run Tryd.prog w = .ok (.string E1) w) ∧ (∀ w : World, (Op.stringOp .add T E1).run Tryd.prog w = .ok (.string E2) w) := by
  have h1 := pt_len (ss := ss) j (by omega)
  have h2 := st_len (ss.getD j default)
  refine ⟨_, _, strOf (stText (ss.getD j default) ++ [10]), _, rfl, rfl, rfl, fun w => str_add _ [10] (by rw [List.length_singleton]; omega) w, fun w => ?_⟩
  rw [pt_take h]
  exact str_add _ _ (by rw [List.length_append, List.length_singleton]; omega) w

set_option maxRecDepth 100000 in
set_option maxHeartbeats 4000000 in
theorem planText_impl {w : World} {B : Nat} {V : Value} {ss : List St} {tv : Nat → Value} (h : StepsO w B V ss.length ss.length ss tv) (ht : Tab w) (hp : Pow10 w) :
    Calls Tryd.prog 9 #[.agg #[V]] w fun e w' => e = .returned (.string (strOf (plText ss))) ∧ Below w.heap.size w w' := by
  obtain ⟨a, cap, rfl⟩ := h.form
  have hb0 : Below w.heap.size w (w.alloc (.cells #[.slice a ss.length cap] 26)) := (Below.refl _ _).alloc (Nat.le_refl _) _
  obtain ⟨W, hW⟩ : ∃ W, W = w.alloc (.cells #[.slice a ss.length cap] 26) := ⟨_, rfl⟩
  have hlt : w.heap.size < W.heap.size := by rw [hW]; simp
  have p0 : W.cell? ⟨w.heap.size, 0, none⟩ = some (.slice a ss.length cap) := by rw [hW]; go_simp
  rw [← hW] at hb0
  have h1 := h.below hb0 (Nat.le_refl _)
  have HA := Lib.hid (fun j (hj : j < ss.length) => h1.at hj (Nat.le_refl _))
  have C := validPlan_impl h1 (ht.below hb0)
  have TB := Lib.hid (fun (W' : World) (hb : Below W.heap.size W W') => And.intro ((ht.below hb0).below hb) ((hp.below hb0).below hb))
  have HW := Lib.hid hW.symm
  have HB0 := Lib.hid hb0
  obtain ⟨R, hR⟩ : ∃ R, plText ss = R := ⟨_, rfl⟩
  rw [hR]
  unfold plText at hR
  have HL8 := Lib.hid (fun (hv : validPl ss = true) => validPl_len8 hv)
  obtain ⟨b, hbv⟩ : ∃ b, validPl ss = b := ⟨_, rfl⟩
  rw [hbv] at C hR HL8
  have C := Lib.hid C
  have HR := Lib.hid hR
  clear h hb0 hW h1 hR hbv ht hp
  go_enter Tryd.func9, Tryd.ntmps9
  go_wp2_with fail
  rw [HW.out]
  with_reducible refine C.out.mono ?_
  rintro e w1 ⟨rfl, hb1⟩
  have p1 : w1.cell? ⟨w.heap.size, 0, none⟩ = some (.slice a ss.length cap) := (hb1.cell hlt).trans p0
  have HB1 := Lib.hid hb1
  clear hb1 C HW
  cases b
  · have e : R = [] := by rw [← HR.out]; rfl
    subst e
    go_wp2
    go_ret
    exact ⟨rfl, below_step' HB0.out HB1.out HB0.out.size⟩
  have h8 := HL8.out rfl
  have HROUND := Lib.hid (fun j (hj : j < ss.length) => pt_round hj h8)
  have HEND : Hid (ptGo [] (ss.take ss.length) = R) := by rw [List.take_length]; exact HR.out
  have HST : Hid (Value.string ⟨#[]⟩ = .string (strOf (ptGo [] (ss.take 0)))) := by rw [List.take_zero]; rfl
  obtain ⟨L, hL⟩ : ∃ L, ss.length = L := ⟨_, rfl⟩
  rw [hL] at HA p0 p1 h8 HROUND HEND
  clear HR HL8 hL p0
  go_wp2
  go_loopw [3, 12] (fun y i wr => ∃ j : Nat, i = .int .i64 j ∧ y = .string (strOf (ptGo [] (ss.take j))) ∧ j ≤ L ∧ Below W.heap.size W wr) (fun _ i _ => L - (intOf i).toNat)
  case atStart => exact ⟨0, rfl, HST.out, Nat.zero_le _, HB1.out⟩
  case round =>
    obtain ⟨j, rfl, rfl, hj, hB⟩ := hrel
    have HB := Lib.hid hB
    clear hB p1
    by_cases hjl : j < L
    · obtain ⟨g, cp, ta, tc, e, -, -, hgw, -, c0, c1, c2, c3, hr⟩ := HA.out j hjl
      simp only [Value.slice.injEq] at e
      obtain ⟨rfl, -, rfl⟩ := e
      obtain ⟨T, S, E1, E2, hT, hS, hE, a1, a2⟩ := HROUND.out j hjl
      have HRE := Lib.hid (fun (w' : World) (hb : Below W.heap.size W w') => hr.reads.keep hb)
      obtain ⟨c0, c1, c2, c3⟩ := StepAt.below ⟨c0, c1, c2, c3⟩ HB.out
      rw [hT]
      have HE := Lib.hid hE
      obtain ⟨Q, hQ⟩ : ∃ Q, ss.getD j default = Q := ⟨_, rfl⟩
      rw [hQ] at c0 c1 c2 c3 HRE hS
      have hb3 : Below W.heap.size W (wr.alloc (.cells #[.int .i64 Q.kind, .int .i64 Q.n, .int .i64 Q.k, .slice ta Q.taps.length tc] 36)) := HB.out.alloc HB.out.size _
      have SP := stepText_impl Q ta tc _ (TB.out _ hb3).1 (TB.out _ hb3).2 (HRE.out _ hb3)
      rw [hS] at SP
      have SP := Lib.hid SP
      have HB3 := Lib.hid hb3
      have HJL := Lib.hid hjl
      clear hr hT hS hE hQ hb3
      go_wp2_with fail
      with_reducible refine SP.out.mono ?_
      rintro e w2 ⟨rfl, hb2⟩
      have HB2 := Lib.hid (below_step' HB3.out hb2 HB3.out.size)
      clear hb2 c0 c1 c2 c3
      go_wp2
      go_roundw
      case rel => exact ⟨j + 1, by go_num, by rw [HE.out], HJL.out, HB2.out⟩
      case measure => have := HJL.out; simp [intOf]; omega
    · obtain rfl : j = L := by omega
      rw [HEND.out]
      go_wp2
      go_ret
      exact ⟨rfl, below_step' HB0.out HB.out HB0.out.size⟩

end Go.Proofs.YtdefhmpmgcahpaaDoor
