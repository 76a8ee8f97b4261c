import Derived.Test.YtcoieclecmefiaaFlatQ
import Derived.Test.YtcoieclecmefiaaWinM
import Derived.Test.YtcoieclecmefiaaBlk
/-
  FnFlat: P6Powers, SameReals, f6abs.
-/
set_option linter.unusedVariables false
set_option linter.unusedSimpArgs false
namespace Go.Proofs.Ytcoieclecmefiaa
open Go.RowKit Flt Fast

/-- A word with a value. -/
def Has (u : Nat) (q : Rat) : Prop := Fin u ∧ fq u = q
theorem Has.lt {u : Nat} {q : Rat} (h : Has u q) : u < 18446744073709551616 := h.1.1
theorem Has.isF {u : Nat} {q : Rat} (h : Has u q) : IsF u (some u) := by
  refine IsF.lit ?_ h.1.1
  show nan Ieee.double u = false
  rw [nan64]
  have := h.1.2
  simp; omega
theorem Has.fv {u : Nat} {q : Rat} (h : Has u q) : Fv (some u) q := ⟨u, rfl, h.1, h.2⟩
theorem Has.of {u : Nat} {z : Option Nat} {q : Rat} (h : IsF u z) (hz : Fv z q) : Has u q := Fv.of_isF h hz
theorem has_int {u : Nat} {n : Int} (h : n.natAbs < 2 ^ 53) (e : floatOfInt .f64 n = u) : Has u (n : Rat) := by
  obtain ⟨x, e1, h1, h2⟩ := fv_int_exact h
  cases e1
  rw [e] at h1 h2
  exact ⟨h1, h2⟩
theorem has_one : Has 4607182418800017408 1 := has_int (n := 1) (by decide) (by decide)
theorem has_three : Has 4613937818241073152 3 := has_int (n := 3) (by decide) (by decide)
theorem has_eight : Has 4620693217682128896 8 := has_int (n := 8) (by decide) (by decide)
theorem has_zero : Has 0 0 := has_int (n := 0) (by decide) (by decide)

theorem has_eighth {x q : Nat} (hx : x ≤ 63) (hq : cn .f64 q = floatBits .quo .f64 (floatOfInt .f64 (1 + (x : Int))) 4620693217682128896) (hb : q < 2 ^ FloatKind.f64.format.width) : Has q (((1 + x : Nat) : Rat) / 8) := by
  have h1 : Fv (some (floatOfInt .f64 (1 + (x : Int)))) (((1 + x : Nat) : Int) : Rat) := by
    have := fv_int_exact (n := ((1 + x : Nat) : Int)) (by omega)
    rwa [show ((1 + x : Nat) : Int) = 1 + (x : Int) by omega] at this ⊢
  rw [Rat.intCast_natCast] at h1
  have hd : Dy 3 64 (((1 + x : Nat) : Rat) / 8) := ⟨((1 + x : Nat) : Int), by omega, by rw [two3, Rat.intCast_natCast]; exact Rat.div_mul_cancel (by decide)⟩
  exact Has.of (IsF.op (IsF.ofInt _) has_eight.isF hq hb) (hd.fv_div (by omega) (by omega) (by decide) h1 has_eight.fv)

theorem powers_snoc {ts cs : List Nat} {t x q : Nat} (hx : x ≤ 63) (htl : ts.length = t) (hcl : cs.length = t) (hc : ∀ i, i < t → 1 ≤ cs.getD i 0 ∧ cs.getD i 0 ≤ 64 ∧ Has (ts.getD i 0) (((cs.getD i 0 : Nat) : Rat) / 8)) (hq : Has q (((1 + x : Nat) : Rat) / 8)) :
    ∀ i, i < t + 1 → 1 ≤ (cs ++ [1 + x]).getD i 0 ∧ (cs ++ [1 + x]).getD i 0 ≤ 64 ∧ Has ((ts ++ [q]).getD i 0) ((((cs ++ [1 + x]).getD i 0 : Nat) : Rat) / 8) := by
  intro i hi
  by_cases hit : i < t
  · rw [show (cs ++ [1 + x]).getD i 0 = cs.getD i 0 by simp [List.getD, List.getElem?_append_left, hcl, hit], show (ts ++ [q]).getD i 0 = ts.getD i 0 by simp [List.getD, List.getElem?_append_left, htl, hit]]
    exact hc i hit
  · have : i = t := by omega
    subst this
    rw [show (cs ++ [1 + x]).getD i 0 = 1 + x by simp [List.getD, ← hcl], show (ts ++ [q]).getD i 0 = q by simp [List.getD, ← htl]]
    exact ⟨by omega, by omega, hq⟩

set_option maxRecDepth 100000 in
set_option maxHeartbeats 8000000 in
theorem p6Powers_any (w : World) (a : Option Addr) (len cap : Nat) (hr : ∃ zs, IsRow .u8 w a len cap zs) (n : Nat) (hn : n ≤ 20) :
    Calls Try.prog 24 #[.slice a len cap, .int .i64 n] w fun e w' => ∃ v fs cs, e = .returned v ∧ Row w' w.heap.size 29 v (flts fs) ∧ fs.length = n ∧ (∀ i, i < n → 1 ≤ List.getD cs i 0 ∧ List.getD cs i 0 ≤ 64 ∧ Has (fs.getD i 0) (((List.getD cs i 0 : Nat) : Rat) / 8)) ∧ Below w.heap.size w w' := by
  obtain ⟨i0, hi, hz0, hz1, hz2⟩ := info_parts info_f64
  have HRB : Hid (Bytes w a len cap) := hr
  clear hr
  go_enter Try.func24, Try.ntmps24
  go_wp2_with (first | (go_at_call 42; go_in))
  have hS0 : Src w w.heap.size a len cap 0 ((w.alloc (.cells #[.slice a len cap, .int .i64 0, .int .u64 0] 107)).alloc (.cells #[] 29)) := src_new.alloc _
  have hrow0 : Row ((w.alloc (.cells #[.slice a len cap, .int .i64 0, .int .u64 0] 107)).alloc (.cells #[] 29)) (w.heap.size + 1) 29 (.slice (some ⟨w.heap.size + 1, 0, none⟩) 0 0) [] := by
    have := World.ownsRow_lit (w.alloc (.cells #[.slice a len cap, .int .i64 0, .int .u64 0] 107)) (e := 29) (base := w.heap.size + 1) (size := 1) #[] 0 (by simp) (by unfold maxLen; omega) rfl
    simp at this
    exact this
  have HS := Lib.hid hS0
  have HR := Lib.hid hrow0
  clear hS0 hrow0
  go_loopw [6, 7] (fun v k wq => ∃ (t : Nat) (ts cs : List Nat) (l : Int), k = .int .i64 t ∧ t ≤ n ∧ ts.length = t ∧ cs.length = t ∧ 0 ≤ l ∧ l ≤ 2 * (t : Int) ∧ Src w w.heap.size a len cap l wq ∧ Row wq (w.heap.size + 1) 29 v (flts ts) ∧ (∀ i, i < t → 1 ≤ cs.getD i 0 ∧ cs.getD i 0 ≤ 64 ∧ Has (ts.getD i 0) (((cs.getD i 0 : Nat) : Rat) / 8))) (fun _ k _ => n - (intOf k).toNat)
  case atStart => exact ⟨0, [], [], 0, rfl, Nat.zero_le _, rfl, rfl, by omega, by omega, HS.out, HR.out, fun i hi => by omega⟩
  case round =>
    clear HS HR
    obtain ⟨t, ts, cs, l, rfl, ht, htl, hcl, hl0, hl1, hs, hrw, hc⟩ := hrel
    have HS := Lib.hid hs
    have HRW := Lib.hid hrw
    have HTL := Lib.hid htl
    have HCL := Lib.hid hcl
    have HC := Lib.hid hc
    clear hs hrw htl hcl hc
    by_cases htn : t < n
    · go_wp2_with fail
      go_at_call 62
      refine (pick_any w w.heap.size a len cap HRB.out l (by omega) 64 (by omega) (by omega) _ HS.out).mono ?_
      rintro e w2 ⟨r, j, r0, r1, rfl, k0, k1, hs2, hg2⟩
      obtain ⟨x, rfl⟩ : ∃ x : Nat, r = x := ⟨r.toNat, by omega⟩
      have hr2 := HRW.out.kept hg2 (.inr (fun e => by have := (HRW.out.lt _ e).1; omega))
      have HR2 := Lib.hid hr2
      have HS3 := Lib.hid hs2
      have hl8 : (flts ts).length = t := by rw [flts_length, HTL.out]
      have HL8 := Lib.hid hl8
      have hlt := HRW.out.lt
      have hsz2 : w.heap.size + 1 ≤ w2.heap.size := by
        have := block_of_cell hs2.code; omega
      clear hs2 hr2 hl8 hlt HRW HS
      go_wp2_with (first
        | (refine wpList_farith _ rfl .quo (by decide) _ _ _ _ rfl .f64 _ _ rfl rfl ?_; intro q m hq hb; have HQ := Lib.hid hq; have HQB := Lib.hid hb; clear hq hb)
        | (at_builtin; refine wpList_append_own _ rfl _ _ 49 rfl (w.heap.size + 1) 29 i0 (.float .f64 0) 1 8 Try.underlying49 hi hz0 hz1 hz2 rfl (by decide) _ _ _ rfl ((HR2.out.drewN m).alloc _) ⟨_, 0, none⟩ 1 1 [.float .f64 q] rfl rfl (cell_one_new _ _ _) (by intro u hu; simp at hu; subst hu; rfl) (by rw [HL8.out]; simp only [maxLen]; omega) (by rw [HL8.out]; omega) (by simp; omega) ?_; intro v' w3 hown' hgrow _))
      have hlt' := ((HR2.out.drewN m).alloc (.cells #[.float .f64 q] 29)).lt
      have HS4 := Lib.hid (((HS3.out.draws m).alloc (.cells #[.float .f64 q] 29)).other hgrow (fun e => by have := (hlt' _ e).1; omega) (fun k e => by have := (hlt' _ e).1; omega))
      have HO' : Hid (Row w3 (w.heap.size + 1) 29 v' (flts (ts ++ [q]))) := by
        show w3.ownsRow _ _ _ _ _ _
        rw [flts_snoc, List.length_append]
        exact hown'
      have HN := Lib.hid (powers_snoc (by omega) HTL.out HCL.out HC.out (has_eighth (by omega) HQ.out HQB.out))
      have HTL2 : Hid ((ts ++ [q]).length = t + 1) := by show (ts ++ [q]).length = t + 1; rw [List.length_append, HTL.out]; rfl
      have HCL2 : Hid ((cs ++ [1 + x]).length = t + 1) := by show (cs ++ [1 + x]).length = t + 1; rw [List.length_append, HCL.out]; rfl
      clear hown' hgrow hlt' HR2 HS3 HL8 HTL HCL HC HQ HQB
      go_roundw
      case rel => first | exact ⟨t + 1, _, _, j, by go_num, by omega, HTL2.out, HCL2.out, by omega, by omega, HS4.out, HO'.out, HN.out⟩ | ((repeat apply Exists.intro); refine ⟨?_, rfl⟩; exact ⟨t + 1, _, _, j, by go_num, by omega, HTL2.out, HCL2.out, by omega, by omega, HS4.out, HO'.out, HN.out⟩)
      case measure => simp [intOf]; omega
    · have e : n = t := by omega
      subst e
      go_wp2
      go_ret
      exact ⟨_, ts, cs, rfl, HRW.out.base (by omega), HTL.out, HC.out, HS.out.below⟩

end Go.Proofs.Ytcoieclecmefiaa
