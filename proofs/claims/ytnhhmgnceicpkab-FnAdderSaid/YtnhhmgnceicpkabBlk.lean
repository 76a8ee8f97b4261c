import Derived.Test.YtnhhmgnceicpkabDrw
import Derived.Test.YtnhhmgnceicpkabAddS
/-
  P6Blocks: blocks of a size, of whatever numbers.
-/
set_option linter.unusedVariables false
set_option linter.unusedSimpArgs false
namespace Go.Proofs.Ytnhhmgnceicpkab
open Go.RowKit Flt Fast

theorem info_rws : (Try.prog.info? 36).map (fun i => (i.zero, i.size, i.bytes)) = some (some (.slice none 0 0), 1, 24) := by kernel_rfl

theorem grown_own {w w1 w2 : World} {row r2 : Option Nat} (h : w.grownBy w1 row) (k : w1.grownBy w2 r2) (hB : ∀ b, r2 = some b → w.heap.size ≤ b) : w.grownBy w2 row :=
  ⟨k.os.trans h.os, k.tape.trans h.tape, k.output.trans h.output, Nat.le_trans h.size k.size, fun j hj hr => (k.block j (Nat.lt_of_lt_of_le hj h.size) (fun e => by have := hB j e.symm; omega)).trans (h.block j hj hr)⟩

theorem row_apart {w : World} {B1 B2 : Nat} {e1 e2 : TypeId} {v u : Value} {cs ds : List Value} (h : Row w B1 e1 v cs) (k : Row w B2 e2 u ds) (hne : e1 ≠ e2) : v.ownBlock = none ∨ v.ownBlock ≠ u.ownBlock := by
  rcases h.2 with ⟨rfl, -⟩ | ⟨g, cap, cur, rfl, -, hg, -⟩
  · exact .inl rfl
  · refine .inr fun e => ?_
    rcases k.2 with ⟨rfl, -⟩ | ⟨g', cap', cur', rfl, -, hg', -⟩
    · cases e
    · simp only [Value.ownBlock, Option.some.injEq] at e
      subst e
      rw [hg] at hg'
      simp only [Option.some.injEq, Obj.cells.injEq] at hg'
      exact hne hg'.2.1

/-- Blocks that are being drawn. -/
structure Drawn (W : World) (B n : Nat) (V : Value) (vs : List Value) (bs : Nat → List C) : Prop where
  row : Row W (B + 1) 36 V vs
  each : ∀ b, b < vs.length → Row W (B + 1) 45 (vs.getD b undef) (cvals (bs b)) ∧ (bs b).length = n ∧ WfC (bs b)

theorem Drawn.kept {W W' : World} {B n : Nat} {V : Value} {vs : List Value} {bs : Nat → List C} (h : Drawn W B n V vs bs) (hg : W.grownBy W' (some B)) : Drawn W' B n V vs bs :=
  ⟨h.row.kept hg (.inr fun e => by have := (h.row.lt _ e).1; omega), fun b hb => ⟨(h.each b hb).1.kept hg (.inr fun e => by have := ((h.each b hb).1.lt _ e).1; omega), (h.each b hb).2⟩⟩

theorem Drawn.next {W W' : World} {B n : Nat} {V V' u : Value} {vs : List Value} {bs : Nat → List C} {ts : List C} (h : Drawn W B n V vs bs) (hu : Row W (B + 1) 45 u (cvals ts)) (hl : ts.length = n) (hw : WfC ts)
    (hg : W.grownBy W' V.ownBlock) (hr : Row W' (B + 1) 36 V' (vs ++ [u])) : Drawn W' B n V' (vs ++ [u]) (fun i => if i = vs.length then ts else bs i) := by
  have ne : (45 : TypeId) ≠ 36 := by decide
  refine ⟨hr, fun b hb => ?_⟩
  by_cases hbl : b = vs.length
  · subst hbl
    rw [if_pos rfl, show (vs ++ [u]).getD vs.length undef = u by simp [List.getD]]
    exact ⟨hu.kept hg (row_apart hu h.row ne), hl, hw⟩
  · have hb2 : b < vs.length := by simp at hb; omega
    rw [if_neg hbl, show (vs ++ [u]).getD b undef = vs.getD b undef by simp [List.getD, List.getElem?_append_left, hb2]]
    obtain ⟨k1, k2⟩ := h.each b hb2
    exact ⟨k1.kept hg (row_apart k1 h.row ne), k2⟩

theorem Drawn.blks {W : World} {B n : Nat} {V : Value} {vs : List Value} {bs : Nat → List C} (h : Drawn W B n V vs bs) : Blks W V vs bs (fun b i => zOf ((bs b).getD i (0, 0))) n :=
  ⟨h.row.reads, fun b hb => by
    obtain ⟨k1, k2, k3⟩ := h.each b hb
    refine ⟨RdC.of_row k1, k2, fun i hi => ?_⟩
    have : (bs b).getD i (0, 0) ∈ bs b := by rw [List.getD_eq_getElem?_getD, List.getElem?_eq_getElem (by omega)]; exact List.getElem_mem _
    obtain ⟨l1, l2⟩ := k3 _ this
    exact ⟨IsF.self l1, IsF.self l2⟩⟩

set_option maxRecDepth 100000 in
set_option maxHeartbeats 8000000 in
theorem p6Blocks_any (w : World) (a : Option Addr) (len cap : Nat) (hr : ∃ zs, IsRow .u8 w a len cap zs) (n : Nat) (hn : n ≤ 8) :
    Calls Try.prog 28 #[.slice a len cap, .int .i64 n] w fun e w' => ∃ V vs bs, e = .returned V ∧ Drawn w' w.heap.size n V vs bs ∧ vs.length ≤ 5 ∧ Below w.heap.size w w' := by
  obtain ⟨i0, hi, hz0, hz1, hz2⟩ := info_parts info_c128
  obtain ⟨j0, hj, hy0, hy1, hy2⟩ := info_parts info_rws
  have HRB : Hid (Bytes w a len cap) := hr
  clear hr
  go_enter Try.func28, Try.ntmps28
  go_wp2_with (first | (go_at_call 46; go_in))
  have hS0 : Src w w.heap.size a len cap 0 ((w.alloc (.cells #[.slice a len cap, .int .i64 0, .int .u64 0] 126)).alloc (.cells #[] 36)) := src_new.alloc _
  have hrow0 : Row ((w.alloc (.cells #[.slice a len cap, .int .i64 0, .int .u64 0] 126)).alloc (.cells #[] 36)) (w.heap.size + 1) 36 (.slice (some ⟨w.heap.size + 1, 0, none⟩) 0 0) [] := by
    have := World.ownsRow_lit (w.alloc (.cells #[.slice a len cap, .int .i64 0, .int .u64 0] 126)) (e := 36) (base := w.heap.size + 1) (size := 1) #[] 0 (by simp) (by unfold maxLen; omega) rfl
    simp at this
    exact this
  refine (pick_any w w.heap.size a len cap HRB.out 0 (by omega) 6 (by omega) (by omega) _ hS0).mono ?_
  rintro e w1 ⟨r, j, r0, r1, rfl, l0, l1, hs, hg⟩
  obtain ⟨kk, rfl⟩ : ∃ kk : Nat, r = kk := ⟨r.toNat, by omega⟩
  have hrow1 : Row w1 (w.heap.size + 1) 36 (.slice (some ⟨w.heap.size + 1, 0, none⟩) 0 0) [] := hrow0.kept hg (.inr (by simp [Value.ownBlock]))
  have HS := Lib.hid hs
  have HD : Hid (Drawn w1 w.heap.size n (.slice (some ⟨w.heap.size + 1, 0, none⟩) 0 0) [] (fun _ => [])) := ⟨hrow1, fun b hb => by simp at hb⟩
  have hkk : kk ≤ 5 := by omega
  clear hs hg hrow0 hrow1 hS0
  go_wp2
  go_loopw [6, 7] (fun V k wr => ∃ (m : Nat) (vs : List Value) (bs : Nat → List C) (j : Int), k = .int .i64 m ∧ m + vs.length ≤ 5 ∧ 0 ≤ j ∧ j ≤ 2 + 100 * (vs.length : Int) ∧ Src w w.heap.size a len cap j wr ∧ Drawn wr w.heap.size n V vs bs) (fun _ k _ => (intOf k).toNat)
  case atStart => exact ⟨kk, [], _, j, rfl, by simpa using hkk, by omega, by simp; omega, HS.out, HD.out⟩
  case round =>
    clear HS HD
    obtain ⟨m, vs, bs, j, rfl, hm, hj0, hj1, hs, hd⟩ := hrel
    have HS := Lib.hid hs
    have HD := Lib.hid hd
    clear hs hd
    by_cases hlt : 0 < m
    · obtain ⟨wo, rfl⟩ : ∃ x, x = wr := ⟨_, rfl⟩
      have hB : w.heap.size < wo.heap.size := block_of_cell HS.out.code
      have hlit := World.ownsRow_lit wo (e := 45) (base := wo.heap.size) (size := 1) #[] 0 (Nat.le_refl _) (by unfold maxLen; omega) rfl
      have HLIT : Hid (Row (wo.alloc (.cells #[] 45)) wo.heap.size 45 (.slice (some ⟨wo.heap.size, 0, none⟩) 0 0) (cvals [])) := hlit
      have hga : wo.grownBy (wo.alloc (.cells #[] 45)) (some w.heap.size) := by
        have hb : Below wo.heap.size wo (wo.alloc (.cells #[] 45)) := (Below.refl _ _).alloc (Nat.le_refl _) _
        exact ⟨hb.os, hb.tape, hb.output, hb.size, fun k hk _ => hb.block k hk⟩
      have HGA := Lib.hid hga
      have HS1 := Lib.hid (HS.out.alloc (.cells #[] 45))
      have hvl : (vs.length : Int) ≤ 5 := by omega
      clear hlit hga
      go_wp2
      go_loopw [8, 9] (fun v k wq => ∃ (t : Nat) (ts : List C) (l : Int), k = .int .i64 t ∧ t ≤ n ∧ ts.length = t ∧ 0 ≤ l ∧ l ≤ j + 12 * (t : Int) ∧ Src w w.heap.size a len cap l wq ∧ Row wq wo.heap.size 45 v (cvals ts) ∧ WfC ts ∧ wo.grownBy wq (some w.heap.size)) (fun _ k _ => n - (intOf k).toNat)
      case atStart => exact ⟨0, [], j, rfl, Nat.zero_le _, rfl, hj0, by omega, HS1.out, HLIT.out, by (intro p hp; cases hp), HGA.out⟩
      case round =>
        obtain ⟨t, ts, l, rfl, ht, htl, hl0, hl1, hs, hrw, hwf, hg⟩ := hrel
        have HS2 := Lib.hid hs
        have HRW := Lib.hid hrw
        have HWF := Lib.hid hwf
        have HG := Lib.hid hg
        have HTL := Lib.hid htl
        clear hs hrw hwf hg htl
        by_cases htn : t < n
        · go_wp2_with fail
          refine (number_any w w.heap.size a len cap HRB.out l (by omega) _ HS2.out).mono ?_
          rintro e w2 ⟨p, q, l2, hp, hq, rfl, k0, k1, hs2, hg2⟩
          have hr2 := HRW.out.kept hg2 (.inr (fun e => by have := (HRW.out.lt _ e).1; omega))
          have hl8 : (cvals ts).length = t := by rw [cvals_length, HTL.out]
          have HR2 := Lib.hid hr2
          have HL8 := Lib.hid hl8
          have HS3 := Lib.hid hs2
          have HG2 := Lib.hid (grown_trans HG.out hg2)
          have HWN := Lib.hid (wfC_snoc HWF.out hp hq)
          have hsz2 : wo.heap.size ≤ w2.heap.size := HG2.out.size
          clear hs2 hg2 hr2 hl8 hp hq HS2 HRW HG
          go_wp2_with (at_builtin; refine wpList_append_own _ rfl _ _ 36 rfl wo.heap.size 45 i0 (.complex .f64 0 0) 1 16 Try.underlying36 hi hz0 hz1 hz2 rfl (by decide) _ _ _ rfl (HR2.out.alloc _) ⟨_, 0, none⟩ 1 1 [.complex .f64 p q] rfl rfl (cell_one_new _ _ _) (by intro u hu; simp at hu; subst hu; rfl) (by rw [HL8.out]; simp only [maxLen]; omega) (by rw [HL8.out]; omega) (by simp; omega) ?_)
          intro v' w3 hown' hgrow _
          have hlt' := (HR2.out.alloc (.cells #[.complex .f64 p q] 45)).lt
          have hba : Below w2.heap.size w2 (w2.alloc (.cells #[.complex .f64 p q] 45)) := (Below.refl _ _).alloc (Nat.le_refl _) _
          have hga : w2.grownBy (w2.alloc (.cells #[.complex .f64 p q] 45)) none := ⟨hba.os, hba.tape, hba.output, hba.size, fun k hk _ => hba.block k hk⟩
          have HG3 := Lib.hid (grown_own (grown_own HG2.out hga (fun b e => by cases e)) hgrow (fun b e => (hlt' b e).1))
          have HS4 := Lib.hid ((HS3.out.alloc _).other hgrow (fun e => by have := (hlt' _ e).1; omega) (fun k e => by have := (hlt' _ e).1; omega))
          have HO' : Hid (Row w3 wo.heap.size 45 v' (cvals (ts ++ [(p, q)]))) := by
            show w3.ownsRow _ _ _ _ _ _
            rw [cvals_snoc, List.length_append]
            exact hown'
          have HLN : Hid ((ts ++ [(p, q)]).length = t + 1) := by show (ts ++ [(p, q)]).length = t + 1; rw [List.length_append, HTL.out]; rfl
          clear hown' hgrow hlt' hba hga HR2 HS3 HG2 HL8
          go_wp2
          go_roundw
          case rel => first | exact ⟨t + 1, _, l2, by go_num, by omega, HLN.out, by omega, by omega, HS4.out, HO'.out, HWN.out, HG3.out⟩ | ((repeat apply Exists.intro); refine ⟨?_, rfl⟩; exact ⟨t + 1, _, l2, by go_num, by omega, HLN.out, by omega, by omega, HS4.out, HO'.out, HWN.out, HG3.out⟩)
          case measure => simp [intOf]; omega
        · have e : t = n := by omega
          subst e
          have hd2 := HD.out.kept HG.out
          have hrow := HRW.out
          obtain ⟨a8, c8, rfl⟩ := cform hrow.reads
          have hl8 : (cvals ts).length = t := by rw [cvals_length, HTL.out]
          rw [hl8] at hrow ⊢
          have HRW2 := Lib.hid (hrow.base (show w.heap.size + 1 ≤ wo.heap.size by omega))
          have HD2 := Lib.hid hd2
          have HVR := Lib.hid hd2.row
          have hvl2 : vs.length ≤ 5 := by omega
          have hsz2 : w.heap.size + 1 ≤ wr.heap.size := by have := HG.out.size; omega
          clear hd2 hrow hl8 HRW
          go_wp2_with (at_builtin; refine wpList_append_own _ rfl _ _ 40 rfl (w.heap.size + 1) 36 j0 (.slice none 0 0) 1 24 Try.underlying40 hj hy0 hy1 hy2 rfl (by decide) _ _ _ rfl (HVR.out.alloc _) ⟨_, 0, none⟩ 1 1 [.slice a8 t c8] rfl rfl (cell_one_new _ _ _) (by intro u hu; simp at hu; subst hu; rfl) (by simp only [maxLen]; omega) (by omega) (by simp; omega) ?_)
          intro V' w3 hown' hgrow _
          have hlt' := (HVR.out.alloc (.cells #[.slice a8 t c8] 36)).lt
          have hba : Below wr.heap.size wr (wr.alloc (.cells #[.slice a8 t c8] 36)) := (Below.refl _ _).alloc (Nat.le_refl _) _
          have hga : wr.grownBy (wr.alloc (.cells #[.slice a8 t c8] 36)) (some w.heap.size) := ⟨hba.os, hba.tape, hba.output, hba.size, fun k hk _ => hba.block k hk⟩
          have hown2 : Row w3 (w.heap.size + 1) 36 V' (vs ++ [.slice a8 t c8]) := by
            show w3.ownsRow _ _ _ _ _ _
            rw [List.length_append]
            exact hown'
          have HDN := Lib.hid ((HD2.out.kept hga).next (HRW2.out.alloc _) HTL.out HWF.out hgrow hown2)
          have HS5 := Lib.hid ((HS2.out.alloc (.cells #[.slice a8 t c8] 36)).other hgrow (fun e => by have := (hlt' _ e).1; omega) (fun k e => by have := (hlt' _ e).1; omega))
          have hvn : (vs ++ [Value.slice a8 t c8]).length = vs.length + 1 := by simp
          have HVN := Lib.hid hvn
          clear hown' hgrow hlt' hba hga hown2 HD2 HRW2 HVR hvn
          go_wp2
          go_roundw
          case rel =>
            have k1 : m - 1 + (vs ++ [Value.slice a8 t c8]).length ≤ 5 := by rw [HVN.out]; omega
            have k2 : l ≤ 2 + 100 * (((vs ++ [Value.slice a8 t c8]).length : Nat) : Int) := by rw [HVN.out]; omega
            first | exact ⟨m - 1, _, _, l, by go_num, k1, hl0, k2, HS5.out, HDN.out⟩ | ((repeat apply Exists.intro); refine ⟨?_, rfl⟩; exact ⟨m - 1, _, _, l, by go_num, k1, hl0, k2, HS5.out, HDN.out⟩)
          case measure => simp [intOf]; omega
    · have e : m = 0 := by omega
      subst e
      go_wp2
      go_ret
      exact ⟨_, vs, bs, rfl, HD.out, by omega, HS.out.below⟩

end Go.Proofs.Ytnhhmgnceicpkab
