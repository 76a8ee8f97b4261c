/-
  Several texts of this claim, one behind the other; each says what it holds.
-/
import Derived.Test.YtdefhmpmgcahpaaDoorRow
import Derived.Laws.AppendOwn
import Derived.Test.YtdefhmpmgcahpaaDoorSpl
import Derived.Test.YtdefhmpmgcahpaaDoorMPlanTeL14
import Derived.Test.YtdefhmpmgcahpaaDoorStr
import Derived.Test.YtdefhmpmgcahpaaDoorApw
import Derived.Test.YtdefhmpmgcahpaaDoorWalkSplitZ
import Derived.Laws.Strings
/-
  append of a row to an own row, also in a region that draws its order (cut out of ApO).
-/
set_option linter.unusedVariables false
set_option linter.unusedSimpArgs false
namespace Go.Proofs.YtdefhmpmgcahpaaDoor
open Go.RowKit

theorem app_own {P : Program} {t e : TypeId} (hu : P.underlying t = some (.slice e)) (i : TypeInfo) (hi : P.info? e = some i) {z : Value} (hz : i.zero = some z) {size : Nat} (hsz : i.size = size) {bytes : Nat} (hby : i.bytes = bytes) (hb64 : bytes ≤ 64) (hzs : z.cells.size = size) (hpos : 0 < size) (ty : TypeId)
    {w : World} {B B2 n m : Nat} {v u : Value} {xs ys : List Value} (hv : w.ownsRow B e size v n xs) (hr : w.ownsRow B2 e size u m ys) (h1 : ∀ x ∈ ys, x.oneCell' = true) (hB : B ≤ w.heap.size) (hl : n + m ≤ 1000000) :
    ∃ v' w', (Builtin.append_ #[t, t] ty #[v, u]).run P w = .ok v' w' ∧ w'.ownsRow B e size v' (n + m) (xs ++ ys) ∧ w.grownBy w' v.ownBlock := by
  have hbb : (n + m) * bytes ≤ 140737488355328 := by
    have := Nat.mul_le_mul hl hb64
    omega
  have hyl : ys.length = m * size := hr.1
  rcases hr.2 with ⟨rfl, hm0⟩ | ⟨g, cap, cur, rfl, -, hg, hnc, -⟩
  · subst hm0
    have : ys = [] := List.eq_nil_of_length_eq_zero (by rw [hyl]; simp)
    subst this
    refine ⟨v, w, ?_, by simpa using hv, ⟨rfl, rfl, rfl, Nat.le_refl _, fun _ _ _ => rfl⟩⟩
    rcases hv.2 with ⟨rfl, h0'⟩ | ⟨g, cap', cur, rfl, -, hg, hnc, -⟩
    · simp [Builtin.append_, run_underlying hu, sizeOf, typeInfo, hi, Builtin.lenOf, Builtin.firstCells, loadCells, loadCellsFrom]
    · simp [Builtin.append_, run_underlying hu, sizeOf, typeInfo, hi, Builtin.lenOf, Builtin.firstCells, loadCells, loadCellsFrom, hnc, storeCells]
  · have hn : ∀ (j : Nat) (u : Value), ys[j]? = some u → w.cell? ((⟨g, 0, none⟩ : Addr).add j) = some u := by
      intro j u hu
      have hj : j < ys.length := (List.getElem?_eq_some_iff.1 hu).1
      rw [show (⟨g, 0, none⟩ : Addr).add j = ⟨g, j, none⟩ by unfold Addr.add; split <;> simp_all, World.ownsRow.cellAt hr j (by omega)]
      exact hu
    obtain ⟨v', w', e1, e2, e3, -⟩ := run_append_own (P := P) w B t ty e i z size bytes hu hi hz hsz hby hzs hpos v n xs hv ⟨g, 0, none⟩ m cap ys hyl hn h1
      (by simp only [maxLen]; omega) hbb hB
    exact ⟨v', w', e1, e2, e3⟩

theorem step_appO {P : Program} {ops : Array Oper} {o : Oper} {a : Act} {w : World} {K : Act → World → Prop} {Q : Exit → Act → World → Prop} {E : Prop} (hgd : o.guard = none) (s x : Operand) (t e : TypeId)
    (ho : o.op = .call { callee := .builtin .append, args := #[s, x], argTypes := #[t, t] })
    (hu : P.underlying t = some (.slice e)) (i : TypeInfo) (hi : P.info? e = some i) {z : Value} (hz : i.zero = some z) {size : Nat} (hsz : i.size = size) {bytes : Nat} (hby : i.bytes = bytes) (hb64 : bytes ≤ 64) (hzs : z.cells.size = size) (hpos : 0 < size)
    (B B2 n m : Nat) (v u : Value) (xs ys : List Value) (hs : a.eval s = v) (hx : a.eval x = u) (hv : w.ownsRow B e size v n xs) (hr : w.ownsRow B2 e size u m ys) (h1 : ∀ x ∈ ys, x.oneCell' = true) (hB : B ≤ w.heap.size) (hl : n + m ≤ 1000000)
    (h : ∀ v' w', w'.ownsRow B e size v' (n + m) (xs ++ ys) → w.grownBy w' v.ownBlock → K (a.put o.dst v') w') :
    if Region.wanted o (yielded ops a.tmps) = true then Oper.wp P o a w K Q else E := by
  have hw : Region.wanted o (yielded ops a.tmps) = true := by simp [Region.wanted, hgd]
  rw [if_pos hw]
  obtain ⟨v', w', hrun, h2, h3⟩ := app_own hu i hi hz hsz hby hb64 hzs hpos o.type hv hr h1 hB hl
  unfold Oper.wp execOp
  simp only [ho, resolve, invoke, builtin, Sem.run_bind, Sem.run_pure, Result.andThen_ok, List.map_toArray, List.map_cons, List.map_nil, hs, hx, hrun]
  exact h v' w' h2 h3

end Go.Proofs.YtdefhmpmgcahpaaDoor
/-
  l01Split and l09Small of the model.
-/
set_option linter.unusedVariables false
set_option linter.unusedSimpArgs false
namespace Go.Proofs.YtdefhmpmgcahpaaDoor
open Go.RowKit

theorem strs_len (ts : List (List UInt8)) : (strs ts).length = ts.length := by simp [strs]
theorem strs_app (a b : List (List UInt8)) : strs (a ++ b) = strs a ++ strs b := by simp [strs]
theorem strs_one (ts : List (List UInt8)) : ∀ v ∈ strs ts, v.oneCell' = true := fun v hv => by
  obtain ⟨p, -, rfl⟩ := List.mem_map.1 hv
  rfl

/-- Where a text is cut so far: the pieces out, the rest from here on has no such byte up to i. -/
structure Cut (c : UInt8) (t : List UInt8) (out : List (List UInt8)) (from' i : Nat) : Prop where
  le : from' ≤ i
  lt : i ≤ t.length
  eq : splitL c t = out ++ splitL c (t.drop from')
  no : c ∉ (t.drop from').take (i - from')
theorem Cut.start (c : UInt8) (t : List UInt8) : Cut c t [] 0 0 := ⟨Nat.le_refl _, Nat.zero_le _, by simp, by simp⟩
theorem Cut.pass {c : UInt8} {t : List UInt8} {out : List (List UInt8)} {f i : Nat} (h : Cut c t out f i) (hi : i < t.length) (hc : t[i] ≠ c) : Cut c t out f (i + 1) := by
  obtain ⟨h1, h2, h3, h4⟩ := h
  refine ⟨by omega, by omega, h3, ?_⟩
  rw [show i + 1 - f = (i - f) + 1 by omega, List.take_add_one]
  intro hm
  rcases List.mem_append.1 hm with hm | hm
  · exact h4 hm
  · rw [List.getElem?_drop, show f + (i - f) = i by omega, List.getElem?_eq_getElem hi] at hm
    simp at hm
    exact hc hm.symm
theorem Cut.hit {c : UInt8} {t : List UInt8} {out : List (List UInt8)} {f i : Nat} (h : Cut c t out f i) (hi : i < t.length) (hc : t[i] = c) : Cut c t (out ++ [(t.drop f).take (i - f)]) (i + 1) (i + 1) := by
  obtain ⟨h1, h2, h3, h4⟩ := h
  refine ⟨Nat.le_refl _, hi, ?_, by simp⟩
  rw [h3, List.append_assoc]
  congr 1
  have e : t.drop f = (t.drop f).take (i - f) ++ c :: t.drop (i + 1) := by
    rw [← hc]
    have e1 : t.drop (i + 1) = (t.drop i).drop 1 := by rw [List.drop_drop]
    have e2 : t[i] :: t.drop (i + 1) = t.drop i := (List.drop_eq_getElem_cons hi).symm
    rw [e2]
    have e3 : t.drop i = (t.drop f).drop (i - f) := by rw [List.drop_drop]; congr 1; omega
    rw [e3, List.take_append_drop]
  conv => lhs; rw [e]
  rw [split_hit _ h4]
  rfl
theorem Cut.done {c : UInt8} {t : List UInt8} {out : List (List UInt8)} {f : Nat} (h : Cut c t out f t.length) : splitL c t = out ++ [t.drop f] := by
  obtain ⟨h1, h2, h3, h4⟩ := h
  rw [h3, split_none]
  rwa [List.take_of_length_le (by rw [List.length_drop]; omega)] at h4

theorem ext_take (t : List UInt8) (f i : Nat) : (strOf t).extract f i = strOf ((t.drop f).take (i - f)) := by
  unfold strOf
  apply ByteArray.ext
  apply Array.ext'
  rw [ByteArray.data_extract]
  simp
theorem spl_cut (t : List UInt8) : ∀ k, k ≤ t.length → Cut 32 t ((spl (strOf t) k).1.map (·.data.toList)) (spl (strOf t) k).2 k
  | 0, _ => Cut.start 32 t
  | k + 1, hk => by
    have ih := spl_cut t k (by omega)
    have hget : (strOf t).data.toList[k]? = some t[k] := by
      rw [strOf_list, List.getElem?_eq_getElem (by omega)]
    by_cases hc : t[k] = 32
    · have e : spl (strOf t) (k + 1) = ((spl (strOf t) k).1 ++ [(strOf t).extract (spl (strOf t) k).2 k], k + 1) := by
        show (if _ then _ else _) = _
        rw [if_pos (by rw [hget, hc])]
      rw [e]
      simp only [List.map_append, List.map_cons, List.map_nil]
      rw [ext_take, strOf_list]
      exact ih.hit (by omega) hc
    · have e : spl (strOf t) (k + 1) = spl (strOf t) k := by
        show (if _ then _ else _) = _
        rw [if_neg (by rw [hget]; simpa using hc)]
      rw [e]
      exact ih.pass (by omega) hc
theorem words_split (t : List UInt8) : (wordsOf (strOf t)).map Value.string = strs (splitL 32 t) := by
  have h := (spl_cut t t.length (Nat.le_refl _)).done
  unfold wordsOf
  rw [strOf_size, h, strs_app, List.map_append]
  congr 1
  · unfold strs
    rw [List.map_map]
    apply List.map_congr_left
    intro s _
    simp only [Function.comp_apply, strOf_self]
  · rw [ext_take]
    have : (t.drop (spl (strOf t) t.length).2).take (t.length - (spl (strOf t) t.length).2) = t.drop (spl (strOf t) t.length).2 := List.take_of_length_le (by rw [List.length_drop]; omega)
    rw [this]
    rfl
/-- l01Split of the model. -/
theorem splitM_any (t : List UInt8) (ht : t.length ≤ 1048576) (w : World) :
    Calls Tryd.prog 45 #[.string (strOf t), .int .u8 32] w fun e w' => ∃ u, e = .returned u ∧ Row w' w.heap.size 9 u (strs (splitL 32 t)) ∧ Below w.heap.size w w' := by
  refine (l01Split_any (strOf t) ht w).mono ?_
  rintro e w' ⟨v, rfl, ho, hb⟩
  refine ⟨v, rfl, ?_, hb⟩
  rw [← words_split]
  show w'.ownsRow _ _ _ _ _ _
  rw [List.length_map]
  exact ho

theorem strs_find {w : World} {B : Nat} {u : Value} {ts : List (List UInt8)} (h : Row w B 9 u (strs ts)) : ∃ a cap, u = .slice a ts.length cap ∧ ∀ j, j < ts.length → ∃ g, a = some ⟨g, 0, none⟩ ∧ g < w.heap.size ∧ w.cell? ⟨g, j, none⟩ = some (.string (strOf (ts.getD j []))) := by
  have hl := strs_len ts
  have hr := h.reads
  generalize hcs : strs ts = cs at hr hl
  cases hr with
  | none a cap =>
    have : ts.length = 0 := by rw [← hl]; rfl
    exact ⟨a, cap, by rw [this], fun j hj => by omega⟩
  | row g cap L cs hL h0 hc hm hcell =>
    refine ⟨_, cap, by rw [← hl, hL], fun j hj => ⟨g, rfl, World.block_lt_of_cell? _ _ (hcell 0 (by omega)), ?_⟩⟩
    rw [hcell j (by omega), ← hcs]
    unfold strs
    rw [List.getD_eq_getElem?_getD, List.getElem?_map, List.getElem?_eq_getElem hj, List.getD_eq_getElem?_getD, List.getElem?_eq_getElem hj]
    rfl

end Go.Proofs.YtdefhmpmgcahpaaDoor
/-
  l09Small of the model.
-/
set_option linter.unusedVariables false
set_option linter.unusedSimpArgs false
namespace Go.Proofs.YtdefhmpmgcahpaaDoor
open Go.RowKit

theorem byte_at (t : List UInt8) (k : Nat) (h : k < t.length) (h' : k < (strOf t).size) : (strOf t)[k]'h' = t[k]'h := by
  show (strOf t).data[k]'h' = t[k]'h
  simp [strOf]
theorem dVal_take {t : List UInt8} {k : Nat} (h : k < t.length) : dVal (t.take (k + 1)) = dVal (t.take k) * 10 + (t[k].toNat - 48) := by
  rw [List.take_add_one, List.getElem?_eq_getElem h, Option.toList_some, dVal_snoc]
theorem all_take {t : List UInt8} {k : Nat} (h : k < t.length) (ha : (t.take k).all isDig = true) (hd : isDig t[k] = true) : (t.take (k + 1)).all isDig = true := by
  rw [List.take_add_one, List.getElem?_eq_getElem h, Option.toList_some, List.all_append, ha]
  simp [hd]
theorem dVal_lt {t : List UInt8} (ha : t.all isDig = true) : ∀ k, k ≤ t.length → dVal (t.take k) < 10 ^ k
  | 0, _ => by simp [dVal]
  | k + 1, h => by
    have ih := dVal_lt ha k (by omega)
    rw [dVal_take (by omega), Nat.pow_succ]
    have hd : isDig t[k] = true := List.all_eq_true.1 ha _ (List.getElem_mem _)
    have : 48 ≤ t[k].toNat ∧ t[k].toNat ≤ 57 := by simpa [isDig] using hd
    omega
theorem dVal_small {t : List UInt8} (ha : t.all isDig = true) (hl : t.length ≤ 3) : dVal t < 1000 := by
  have h := dVal_lt ha t.length (Nat.le_refl _)
  rw [List.take_length] at h
  have : 10 ^ t.length ≤ 10 ^ 3 := Nat.pow_le_pow_right (by decide) hl
  omega

end Go.Proofs.YtdefhmpmgcahpaaDoor
/-
  l01Number and l07Read of the model.
-/
set_option linter.unusedVariables false
set_option linter.unusedSimpArgs false
namespace Go.Proofs.YtdefhmpmgcahpaaDoor
open Go.RowKit

theorem headD_at {t : List UInt8} (h : 0 < t.length) : t.headD 0 = t[0]'h := by
  cases t with
  | nil => cases h
  | cons a r => rfl
/-- A number or none, as the model hands it back. -/
def nV (r : Option Nat) : Value := .tuple #[.int .i64 ((r.getD 0 : Nat) : Int), .bool r.isSome]

set_option maxRecDepth 100000 in
set_option maxHeartbeats 4000000 in
theorem l01Number_any (t : List UInt8) (ht : t.length ≤ 1048576) (w : World) :
    Calls Tryd.prog 79 #[.string (strOf t)] w fun e w' => e = .returned (nV (numZ t)) ∧ w' = w := by
  have hlen : (strOf t).size = t.length := rfl
  by_cases h1 : t.length < 1
  · have e : numZ t = none := by unfold numZ; rw [if_neg (by omega)]
    have g1 : decide ((t.length : Int) < 1) = true := decide_eq_true (by omega)
    have g1' : decide (t.length < 1) = true := decide_eq_true h1
    have g1'' : t.length = 0 := by omega
    rw [e]
    clear e h1
    go_enter Tryd.func79, Tryd.ntmps79
    go_wp2
    go_ret2
    exact ⟨rfl, rfl⟩
  by_cases h3 : 9 < t.length
  · have e : numZ t = none := by unfold numZ; rw [if_neg (by omega)]
    have g1 : decide ((t.length : Int) < 1) = false := decide_eq_false (by omega)
    have g1' : decide (t.length < 1) = false := decide_eq_false h1
    have g1'' : decide (t.length = 0) = false := decide_eq_false (by omega)
    have g2 : decide ((9 : Int) < (t.length : Int)) = true := decide_eq_true (by omega)
    have g2' : decide (9 < t.length) = true := decide_eq_true h3
    rw [e]
    clear e h1 h3 ht
    go_enter Tryd.func79, Tryd.ntmps79
    go_wp2
    go_ret2
    exact ⟨rfl, rfl⟩
  have g1 : decide ((t.length : Int) < 1) = false := decide_eq_false (by omega)
  have g1' : decide (t.length < 1) = false := decide_eq_false h1
  have g1'' : decide (t.length = 0) = false := decide_eq_false (by omega)
  have g2 : decide ((9 : Int) < (t.length : Int)) = false := decide_eq_false (by omega)
  have g2' : decide (9 < t.length) = false := decide_eq_false h3
  have HL : Hid (1 ≤ t.length ∧ t.length ≤ 9) := ⟨by omega, by omega⟩
  have hl4 : (t.length : Int) ≤ 9223372036854775807 := by omega
  have h0 : 0 < t.length := by omega
  have h0' : 0 < (strOf t).size := h0
  have h0i : (0 : Int) < (t.length : Int) := by omega
  obtain ⟨c0, hc0⟩ : ∃ c, t[0]'h0 = c := ⟨_, rfl⟩
  have hb0 : (strOf t)[0]'h0' = c0 := (byte_at t 0 h0 h0').trans hc0
  have hhd : t.headD 0 = c0 := (headD_at h0).trans hc0
  have hcn : c0 = 48 ↔ c0.toNat = 48 := ⟨fun e => by rw [e]; rfl, fun e => by rw [← UInt8.ofNat_toNat (x := c0), e]; rfl⟩
  have HHD := Lib.hid hhd
  have HCN := Lib.hid hcn
  by_cases hz : c0.toNat = 48
  · by_cases hm : 1 < t.length
    · have e : numZ t = none := by
        unfold numZ
        rw [if_neg]
        rintro ⟨-, -, hh, -⟩
        exact hh ⟨hhd.trans (hcn.2 hz), hm⟩
      have z1 : (c0.toNat : Int) = 48 := by omega
      have z1' : decide (c0.toNat = 48) = true := decide_eq_true hz
      have z2 : decide ((1 : Int) < (t.length : Int)) = true := decide_eq_true (by omega)
      have z2' : decide (1 < t.length) = true := decide_eq_true hm
      rw [e]
      clear e h1 h3 ht hcn hhd hc0 hz hm
      go_enter Tryd.func79, Tryd.ntmps79
      go_wp2
      go_ret2
      exact ⟨rfl, rfl⟩
    · have HZ0 : Hid (¬ (t.headD 0 = 48 ∧ 1 < t.length)) := fun h => hm h.2
      have z1 : (c0.toNat : Int) = 48 := by omega
      have z1' : decide (c0.toNat = 48) = true := decide_eq_true hz
      have z2 : decide ((1 : Int) < (t.length : Int)) = false := decide_eq_false (by omega)
      have z2' : decide (1 < t.length) = false := decide_eq_false hm
      clear h1 h3 ht hcn hhd hc0 hz hm
      go_enter Tryd.func79, Tryd.ntmps79
      go_wp2
      clear g1 g1' g1'' g2 g2' z1 z1' z2 z2' hb0 h0i h0' h0
      go_loopw [4, 5] (fun n i wr => ∃ k : Nat, i = .int .i64 k ∧ n = .int .i64 (dVal (t.take k) : Nat) ∧ k ≤ t.length ∧ (t.take k).all isDig = true ∧ wr = w) (fun _ i _ => t.length - (intOf i).toNat)
      case atStart => exact ⟨0, rfl, rfl, Nat.zero_le _, rfl, rfl⟩
      case round =>
        obtain ⟨k, rfl, rfl, hk, hall, rfl⟩ := hrel
        have HA := Lib.hid hall
        by_cases hlt : k < t.length
        · have HK : Hid (k < t.length) := hlt
          obtain ⟨c, hc⟩ : ∃ c, t[k]'hlt = c := ⟨_, rfl⟩
          have hlt2 : k < (strOf t).size := hlt
          have hb : (strOf t)[k]'hlt2 = c := (byte_at t k hlt hlt2).trans hc
          have HC : Hid (t[k]'hlt = c) := hc
          have hlt' : (k : Int) < (t.length : Int) := by omega
          by_cases hd : isDig c = true
          · have hcd : 48 ≤ c.toNat ∧ c.toNat ≤ 57 := by simpa [isDig] using hd
            have e1 := dVal_take hlt
            rw [hc] at e1
            have hv : dVal (t.take k) < 1000000000 := by
              have h := dVal_lt (t := t.take k) hall k (by rw [List.length_take]; omega)
              rw [List.take_take, Nat.min_self] at h
              have : 10 ^ k ≤ 10 ^ 9 := Nat.pow_le_pow_right (by decide) (by have := HL.out; omega)
              omega
            have HN : Hid ((t.take (k + 1)).all isDig = true) := all_take hlt hall (by rw [hc]; exact hd)
            have q1 : decide ((c.toNat : Int) < 48) = false := decide_eq_false (by omega)
            have q1' : decide (c.toNat < 48) = false := decide_eq_false (by omega)
            have q2 : decide ((57 : Int) < (c.toNat : Int)) = false := decide_eq_false (by omega)
            have q2' : decide (57 < c.toNat) = false := decide_eq_false (by omega)
            obtain ⟨v, hvv⟩ : ∃ v, dVal (t.take k) = v := ⟨_, rfl⟩
            rw [hvv] at e1 hv ⊢
            have s1 : IntKind.i64.wrap ((v : Int) * 10) = (v : Int) * 10 := IntWalk.i64_in _ (by omega)
            have s2 : IntKind.u8.wrap ((c.toNat : Int) - 48) = (c.toNat : Int) - 48 := by
              have : ∀ x : Fin 10, IntKind.u8.wrap (((48 + x.val : Nat) : Int) - 48) = ((48 + x.val : Nat) : Int) - 48 := by decide
              have h := this ⟨c.toNat - 48, by omega⟩
              simp only [show 48 + (c.toNat - 48) = c.toNat by omega] at h
              exact h
            have s3 : IntKind.i64.wrap ((c.toNat : Int) - 48) = (c.toNat : Int) - 48 := IntWalk.i64_in _ (by omega)
            have s4 : IntKind.i64.wrap ((v : Int) * 10 + ((c.toNat : Int) - 48)) = ((v * 10 + (c.toNat - 48) : Nat) : Int) := by
              rw [IntWalk.i64_in _ (by omega)]
              omega
            have HE := Lib.hid e1
            have HN2 : Hid (((v * 10 + (c.toNat - 48) : Nat) : Int) = (dVal (t.take (k + 1)) : Nat)) := by
              show _ = _
              rw [e1]
            obtain ⟨v2, hv2⟩ : ∃ v2 : Int, ((v * 10 + (c.toNat - 48) : Nat) : Int) = v2 := ⟨_, rfl⟩
            rw [hv2] at s4 HN2
            obtain ⟨d, hdd⟩ : ∃ d : Int, (c.toNat : Int) - 48 = d := ⟨_, rfl⟩
            rw [hdd] at s2 s3 s4
            obtain ⟨m, hmm⟩ : ∃ m : Int, (v : Int) * 10 = m := ⟨_, rfl⟩
            rw [hmm] at s1 s4
            clear hall hc hd hcd hv e1 hvv hv2 hk
            go_wp2
            refine ⟨⟨k + 1, by go_num, by rw [HN2.out], HK.out, HN.out, trivial⟩, ?_⟩
            have := HK.out
            simp [intOf]
            omega
          · have hd' : isDig c = false := by simpa using hd
            have e : numZ t = none := by
              unfold numZ
              rw [if_neg]
              rintro ⟨-, -, -, ha⟩
              have := List.all_eq_true.1 ha _ (List.getElem_mem hlt)
              rw [hc, hd'] at this
              cases this
            have HE := Lib.hid e
            have hcd : c.toNat < 48 ∨ (48 ≤ c.toNat ∧ 57 < c.toNat) := by
              have : ¬ (48 ≤ c.toNat ∧ c.toNat ≤ 57) := fun h => hd (by simpa [isDig] using h)
              omega
            clear hall hc hd hd' e hk
            rcases hcd with hlow | ⟨hl8, hhi⟩
            · have q1 : decide ((c.toNat : Int) < 48) = true := decide_eq_true (by omega)
              have q1' : decide (c.toNat < 48) = true := decide_eq_true hlow
              go_wp2
              go_ret2
              exact ⟨by rw [HE.out]; rfl, rfl⟩
            · have q1 : decide ((c.toNat : Int) < 48) = false := decide_eq_false (by omega)
              have q1' : decide (c.toNat < 48) = false := decide_eq_false (by omega)
              have q2 : decide ((57 : Int) < (c.toNat : Int)) = true := decide_eq_true (by omega)
              have q2' : decide (57 < c.toNat) = true := decide_eq_true hhi
              go_wp2
              go_ret2
              exact ⟨by rw [HE.out]; rfl, rfl⟩
        · obtain rfl : k = t.length := by omega
          have e : numZ t = some (dVal t) := by
            unfold numZ
            rw [List.take_length] at hall
            rw [if_pos ⟨HL.out.1, HL.out.2, HZ0.out, hall⟩]
          rw [List.take_length]
          have HE := Lib.hid e
          clear e hall
          go_wp2
          go_ret2
          exact ⟨by rw [HE.out]; rfl, rfl⟩

  · have HZ0 : Hid (¬ (t.headD 0 = 48 ∧ 1 < t.length)) := fun h => hz (hcn.1 (hhd.symm.trans h.1))
    have z1 : ¬ (c0.toNat : Int) = 48 := by omega
    have z1' : decide (c0.toNat = 48) = false := decide_eq_false hz
    clear h1 h3 ht hcn hhd hc0 hz
    go_enter Tryd.func79, Tryd.ntmps79
    go_wp2
    clear g1 g1' g1'' g2 g2' z1 z1' hb0 h0i h0' h0
    go_loopw [4, 5] (fun n i wr => ∃ k : Nat, i = .int .i64 k ∧ n = .int .i64 (dVal (t.take k) : Nat) ∧ k ≤ t.length ∧ (t.take k).all isDig = true ∧ wr = w) (fun _ i _ => t.length - (intOf i).toNat)
    case atStart => exact ⟨0, rfl, rfl, Nat.zero_le _, rfl, rfl⟩
    case round =>
      obtain ⟨k, rfl, rfl, hk, hall, rfl⟩ := hrel
      have HA := Lib.hid hall
      by_cases hlt : k < t.length
      · have HK : Hid (k < t.length) := hlt
        obtain ⟨c, hc⟩ : ∃ c, t[k]'hlt = c := ⟨_, rfl⟩
        have hlt2 : k < (strOf t).size := hlt
        have hb : (strOf t)[k]'hlt2 = c := (byte_at t k hlt hlt2).trans hc
        have HC : Hid (t[k]'hlt = c) := hc
        have hlt' : (k : Int) < (t.length : Int) := by omega
        by_cases hd : isDig c = true
        · have hcd : 48 ≤ c.toNat ∧ c.toNat ≤ 57 := by simpa [isDig] using hd
          have e1 := dVal_take hlt
          rw [hc] at e1
          have hv : dVal (t.take k) < 1000000000 := by
            have h := dVal_lt (t := t.take k) hall k (by rw [List.length_take]; omega)
            rw [List.take_take, Nat.min_self] at h
            have : 10 ^ k ≤ 10 ^ 9 := Nat.pow_le_pow_right (by decide) (by have := HL.out; omega)
            omega
          have HN : Hid ((t.take (k + 1)).all isDig = true) := all_take hlt hall (by rw [hc]; exact hd)
          have q1 : decide ((c.toNat : Int) < 48) = false := decide_eq_false (by omega)
          have q1' : decide (c.toNat < 48) = false := decide_eq_false (by omega)
          have q2 : decide ((57 : Int) < (c.toNat : Int)) = false := decide_eq_false (by omega)
          have q2' : decide (57 < c.toNat) = false := decide_eq_false (by omega)
          obtain ⟨v, hvv⟩ : ∃ v, dVal (t.take k) = v := ⟨_, rfl⟩
          rw [hvv] at e1 hv ⊢
          have s1 : IntKind.i64.wrap ((v : Int) * 10) = (v : Int) * 10 := IntWalk.i64_in _ (by omega)
          have s2 : IntKind.u8.wrap ((c.toNat : Int) - 48) = (c.toNat : Int) - 48 := by
            have : ∀ x : Fin 10, IntKind.u8.wrap (((48 + x.val : Nat) : Int) - 48) = ((48 + x.val : Nat) : Int) - 48 := by decide
            have h := this ⟨c.toNat - 48, by omega⟩
            simp only [show 48 + (c.toNat - 48) = c.toNat by omega] at h
            exact h
          have s3 : IntKind.i64.wrap ((c.toNat : Int) - 48) = (c.toNat : Int) - 48 := IntWalk.i64_in _ (by omega)
          have s4 : IntKind.i64.wrap ((v : Int) * 10 + ((c.toNat : Int) - 48)) = ((v * 10 + (c.toNat - 48) : Nat) : Int) := by
            rw [IntWalk.i64_in _ (by omega)]
            omega
          have HE := Lib.hid e1
          have HN2 : Hid (((v * 10 + (c.toNat - 48) : Nat) : Int) = (dVal (t.take (k + 1)) : Nat)) := by
            show _ = _
            rw [e1]
          obtain ⟨v2, hv2⟩ : ∃ v2 : Int, ((v * 10 + (c.toNat - 48) : Nat) : Int) = v2 := ⟨_, rfl⟩
          rw [hv2] at s4 HN2
          obtain ⟨d, hdd⟩ : ∃ d : Int, (c.toNat : Int) - 48 = d := ⟨_, rfl⟩
          rw [hdd] at s2 s3 s4
          obtain ⟨m, hmm⟩ : ∃ m : Int, (v : Int) * 10 = m := ⟨_, rfl⟩
          rw [hmm] at s1 s4
          clear hall hc hd hcd hv e1 hvv hv2 hk
          go_wp2
          refine ⟨⟨k + 1, by go_num, by rw [HN2.out], HK.out, HN.out, trivial⟩, ?_⟩
          have := HK.out
          simp [intOf]
          omega
        · have hd' : isDig c = false := by simpa using hd
          have e : numZ t = none := by
            unfold numZ
            rw [if_neg]
            rintro ⟨-, -, -, ha⟩
            have := List.all_eq_true.1 ha _ (List.getElem_mem hlt)
            rw [hc, hd'] at this
            cases this
          have HE := Lib.hid e
          have hcd : c.toNat < 48 ∨ (48 ≤ c.toNat ∧ 57 < c.toNat) := by
            have : ¬ (48 ≤ c.toNat ∧ c.toNat ≤ 57) := fun h => hd (by simpa [isDig] using h)
            omega
          clear hall hc hd hd' e hk
          rcases hcd with hlow | ⟨hl8, hhi⟩
          · have q1 : decide ((c.toNat : Int) < 48) = true := decide_eq_true (by omega)
            have q1' : decide (c.toNat < 48) = true := decide_eq_true hlow
            go_wp2
            go_ret2
            exact ⟨by rw [HE.out]; rfl, rfl⟩
          · have q1 : decide ((c.toNat : Int) < 48) = false := decide_eq_false (by omega)
            have q1' : decide (c.toNat < 48) = false := decide_eq_false (by omega)
            have q2 : decide ((57 : Int) < (c.toNat : Int)) = true := decide_eq_true (by omega)
            have q2' : decide (57 < c.toNat) = true := decide_eq_true hhi
            go_wp2
            go_ret2
            exact ⟨by rw [HE.out]; rfl, rfl⟩
      · obtain rfl : k = t.length := by omega
        have e : numZ t = some (dVal t) := by
          unfold numZ
          rw [List.take_length] at hall
          rw [if_pos ⟨HL.out.1, HL.out.2, HZ0.out, hall⟩]
        rw [List.take_length]
        have HE := Lib.hid e
        clear e hall
        go_wp2
        go_ret2
        exact ⟨by rw [HE.out]; rfl, rfl⟩


end Go.Proofs.YtdefhmpmgcahpaaDoor
