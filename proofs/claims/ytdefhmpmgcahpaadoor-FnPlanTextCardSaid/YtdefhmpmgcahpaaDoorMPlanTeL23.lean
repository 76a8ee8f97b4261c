/-
  Several texts of this claim, one behind the other; each says what it holds.
-/
import Derived.Test.YtdefhmpmgcahpaaDoorSpl
import Derived.Test.YtdefhmpmgcahpaaDoorStr
import Derived.Lib.Bytealg
import Derived.Test.YtdefhmpmgcahpaaDoorKit
import Derived.Laws.Strings
/-
  The lines of a text: pure.
-/
set_option linter.unusedVariables false
set_option linter.unusedSimpArgs false
namespace Go.Proofs.YtdefhmpmgcahpaaDoor
open Go.RowKit

theorem idx_none {c : UInt8} : ∀ {a : List UInt8}, c ∉ a → Lib.indexByte a c = -1
  | [], _ => rfl
  | b :: a, h => by
    have hb : b ≠ c := fun e => h (by rw [e]; exact List.mem_cons_self)
    have ha := idx_none (a := a) (c := c) fun e => h (List.mem_cons_of_mem _ e)
    unfold Lib.indexByte
    rw [if_neg (by simpa using hb), ha]
    rfl
theorem idx_hit {c : UInt8} : ∀ {a : List UInt8} (r : List UInt8), c ∉ a → Lib.indexByte (a ++ c :: r) c = a.length
  | [], r, _ => by
    unfold Lib.indexByte
    simp
  | b :: a, r, h => by
    have hb : b ≠ c := fun e => h (by rw [e]; exact List.mem_cons_self)
    have ha := idx_hit (a := a) r (c := c) fun e => h (List.mem_cons_of_mem _ e)
    rw [List.cons_append]
    unfold Lib.indexByte
    rw [if_neg (by simpa using hb), ha, if_neg (by simp)]
    simp

/-- What is left of pieces behind the first k, with newlines between them. -/
def restL (ws : List (List UInt8)) (k : Nat) : List UInt8 := joinL 10 (ws.drop k)
/-- The line k: a piece with its newline; the last piece has none. -/
def lineL (ws : List (List UInt8)) (k : Nat) : List UInt8 := if k + 1 < ws.length then ws.getD k [] ++ [10] else ws.getD k []
/-- How many lines there are: the last piece counts if there is something in it. -/
def cntL (ws : List (List UInt8)) : Nat := if ws.getD (ws.length - 1) [] = [] then ws.length - 1 else ws.length

theorem rest_zero (t : List UInt8) : restL (splitL 10 t) 0 = t := by
  unfold restL
  rw [List.drop_zero, join_split]
theorem rest_mid {ws : List (List UInt8)} {k : Nat} (h : k + 1 < ws.length) : restL ws k = ws.getD k [] ++ 10 :: restL ws (k + 1) := by
  unfold restL
  rw [List.drop_eq_getElem_cons (show k < ws.length by omega), joinL_cons _ _ (by intro e; have := congrArg List.length e; simp at this; omega), List.getD_eq_getElem?_getD, List.getElem?_eq_getElem (by omega)]
  rfl
theorem rest_last {ws : List (List UInt8)} {k : Nat} (h : k + 1 = ws.length) : restL ws k = ws.getD k [] ∧ restL ws (k + 1) = [] := by
  unfold restL
  constructor
  · rw [List.drop_eq_getElem_cons (show k < ws.length by omega), List.drop_eq_nil_of_le (by omega), List.getD_eq_getElem?_getD, List.getElem?_eq_getElem (by omega)]
    rfl
  · rw [List.drop_eq_nil_of_le (by omega)]
    rfl
theorem cnt_le (ws : List (List UInt8)) : cntL ws ≤ ws.length := by
  unfold cntL
  split <;> omega
theorem cnt_ge (ws : List (List UInt8)) : ws.length - 1 ≤ cntL ws := by
  unfold cntL
  split <;> omega
theorem cnt_last {ws : List (List UInt8)} {k : Nat} (h : k < cntL ws) (e : k + 1 = ws.length) : ws.getD k [] ≠ [] := by
  unfold cntL at h
  split at h
  · omega
  · rename_i hn
    rwa [show ws.length - 1 = k by omega] at hn
theorem rest_ne {ws : List (List UInt8)} {k : Nat} (h : k < cntL ws) : restL ws k ≠ [] := by
  have := cnt_le ws
  by_cases e : k + 1 < ws.length
  · rw [rest_mid e]
    simp
  · have e' : k + 1 = ws.length := by omega
    rw [(rest_last e').1]
    exact cnt_last h e'
theorem rest_end {ws : List (List UInt8)} (h : ws ≠ []) : restL ws (cntL ws) = [] := by
  have hl := List.length_pos_iff.2 h
  unfold cntL
  split
  · rename_i hn
    rw [(rest_last (show ws.length - 1 + 1 = ws.length by omega)).1, hn]
  · have := (rest_last (show ws.length - 1 + 1 = ws.length by omega)).2
    rwa [show ws.length - 1 + 1 = ws.length by omega] at this
theorem line_rest {ws : List (List UInt8)} {k : Nat} (h : k < cntL ws) : restL ws k = lineL ws k ++ restL ws (k + 1) := by
  have := cnt_le ws
  unfold lineL
  by_cases e : k + 1 < ws.length
  · rw [if_pos e, rest_mid e, List.append_assoc]
    rfl
  · rw [if_neg e]
    have e' : k + 1 = ws.length := by omega
    rw [(rest_last e').1, (rest_last e').2, List.append_nil]
theorem rest_len {ws : List (List UInt8)} : ∀ k, k ≤ cntL ws → (restL ws k).length ≤ (restL ws 0).length
  | 0, _ => Nat.le_refl _
  | k + 1, h => by
    have h1 := rest_len (ws := ws) k (by omega)
    have h2 := congrArg List.length (line_rest (ws := ws) (show k < cntL ws by omega))
    rw [List.length_append] at h2
    omega
theorem getD_mem {ws : List (List UInt8)} {k : Nat} (h : k < ws.length) : ws.getD k [] ∈ ws := by
  rw [List.getD_eq_getElem?_getD, List.getElem?_eq_getElem h]
  exact List.getElem_mem h
/-- Where the first newline of what is left is. -/
theorem rest_idx {t : List UInt8} {k : Nat} (h : k < cntL (splitL 10 t)) :
    Lib.indexByte (restL (splitL 10 t) k) 10 = if k + 1 < (splitL 10 t).length then (((splitL 10 t).getD k []).length : Int) else -1 := by
  have := cnt_le (splitL 10 t)
  have hn : (10 : UInt8) ∉ (splitL 10 t).getD k [] := split_mem (getD_mem (by omega))
  by_cases e : k + 1 < (splitL 10 t).length
  · rw [if_pos e, rest_mid e]
    exact idx_hit _ hn
  · rw [if_neg e, (rest_last (show k + 1 = (splitL 10 t).length by omega)).1]
    exact idx_none hn

theorem ext_app (a b : List UInt8) : (strOf (a ++ b)).extract 0 a.length = strOf a ∧ (strOf (a ++ b)).extract a.length (a ++ b).length = strOf b := by
  unfold strOf
  constructor <;> (apply ByteArray.ext; apply Array.ext'; rw [ByteArray.data_extract]; simp)

end Go.Proofs.YtdefhmpmgcahpaaDoor
/-
  strings.TrimSuffix of a newline.
-/
set_option linter.unusedVariables false
set_option linter.unusedSimpArgs false
namespace Go.Proofs.YtdefhmpmgcahpaaDoor
open Go.RowKit

set_option maxRecDepth 100000 in
set_option maxHeartbeats 1000000 in
theorem hasSuffix_any (a : List UInt8) (c : UInt8) (hl : a.length ≤ 4000000) (w : World) :
    Calls Tryd.prog 99 #[.string (strOf (a ++ [c])), .string ⟨#[10]⟩] w fun e w' => e = .returned (.bool (decide (c = 10))) ∧ w' = w := by
  obtain ⟨t, ht⟩ : ∃ t, strOf (a ++ [c]) = t := ⟨_, rfl⟩
  obtain ⟨M, hM⟩ : ∃ M, a.length = M := ⟨_, rfl⟩
  have hs : t.size = M + 1 := by rw [← ht, strOf_size, List.length_append, hM]; rfl
  have hx : t.extract M (M + 1) = strOf [c] := by
    have h := (ext_app a [c]).2
    rw [ht, hM, List.length_append, hM] at h
    exact h
  have hq : ((strOf [c]).toList == (strOf [10]).toList) = decide (c = 10) := by
    rw [strOf_beq]
    simp
  have hz : (strOf [10]).toList = [10] := by rw [ByteArray.toList_eq, strOf_list]
  have hq' : ((strOf [c]).toList == [10]) = decide (c = 10) := by rw [← hz]; exact hq
  rw [ht]
  generalize strOf [c] = u at hx hq hq'
  generalize decide (c = 10) = b at hq hq'
  have w1 : IntKind.i64.wrap (((M + 1 : Nat) : Int) - 1) = (M : Int) := by rw [IntWalk.i64_in _ (by omega)]; omega
  have w2 : IntKind.i64.wrap ((M : Int) + 1 - 1) = (M : Int) := by rw [IntWalk.i64_in _ (by omega)]; omega
  have g1 : decide ((1 : Int) ≤ ((M + 1 : Nat) : Int)) = true := decide_eq_true (by omega)
  have g2 : decide ((1 : Int) ≤ (M : Int) + 1) = true := decide_eq_true (by omega)
  have g3 : decide (1 ≤ M + 1) = true := decide_eq_true (by omega)
  have w3 : wrap64 (M : Int) = (M : Int) := IntWalk.wrap64_in _ (by omega)
  have hm0 : (0 : Int) ≤ (M : Int) := by omega
  have hm1 : (M : Int) ≤ (M : Int) + 1 := by omega
  have hm2 : M ≤ M + 1 := by omega
  clear ht hl hM hq hz
  go_enter Tryd.func99, Tryd.ntmps99
  go_wp2
  go_ret
  exact ⟨rfl, rfl⟩

set_option maxRecDepth 100000 in
set_option maxHeartbeats 1000000 in
theorem trimS_any (a : List UInt8) (c : UInt8) (hl : a.length ≤ 4000000) (w : World) :
    Calls Tryd.prog 69 #[.string (strOf (a ++ [c])), .string ⟨#[10]⟩] w fun e w' => e = .returned (.string (strOf (if c = 10 then a else a ++ [c]))) ∧ w' = w := by
  have HS := Lib.hid (hasSuffix_any a c hl w)
  have hs : (strOf (a ++ [c])).size = a.length + 1 := by rw [strOf_size, List.length_append]; rfl
  have hx := (ext_app a [c]).1
  obtain ⟨M, hM⟩ : ∃ M, a.length = M := ⟨_, rfl⟩
  rw [hM] at hs hx
  have w1 : IntKind.i64.wrap (((M + 1 : Nat) : Int) - 1) = (M : Int) := by rw [IntWalk.i64_in _ (by omega)]; omega
  have w2 : IntKind.i64.wrap ((M : Int) + 1 - 1) = (M : Int) := by rw [IntWalk.i64_in _ (by omega)]; omega
  have w3 : wrap64 (M : Int) = (M : Int) := IntWalk.wrap64_in _ (by omega)
  have hm0 : (0 : Int) ≤ (M : Int) := by omega
  have hm1 : (M : Int) ≤ (M : Int) + 1 := by omega
  have hm2 : M ≤ M + 1 := by omega
  have HT : Hid (c = 10 → strOf (if c = 10 then a else a ++ [c]) = strOf a) := fun h => by rw [if_pos h]
  have HF : Hid (c ≠ 10 → strOf (if c = 10 then a else a ++ [c]) = strOf (a ++ [c])) := fun h => by rw [if_neg h]
  generalize strOf (if c = 10 then a else a ++ [c]) = R at HT HF
  generalize strOf (a ++ [c]) = T at HS hs hx HF
  generalize strOf a = S at hx HT
  clear hl hM
  by_cases hc : c = 10
  · obtain rfl := HT.out hc
    have e : decide (c = 10) = true := decide_eq_true hc
    rw [e] at HS
    clear e hc HT HF
    go_enter Tryd.func69, Tryd.ntmps69
    go_wp2_with fail
    refine HS.out.mono ?_
    rintro e w1 ⟨rfl, rfl⟩
    go_wp2
    go_ret
    exact ⟨rfl, rfl⟩
  · obtain rfl := HF.out hc
    have e : decide (c = 10) = false := decide_eq_false hc
    rw [e] at HS
    clear e hc HT HF
    go_enter Tryd.func69, Tryd.ntmps69
    go_wp2_with fail
    refine HS.out.mono ?_
    rintro e w1 ⟨rfl, rfl⟩
    go_wp2
    go_ret
    exact ⟨rfl, rfl⟩

set_option maxRecDepth 100000 in
theorem trim_any (a : List UInt8) (c : UInt8) (hl : a.length ≤ 4000000) (w : World) :
    Calls Tryd.prog 32 #[.string (strOf (a ++ [c])), .string ⟨#[10]⟩] w fun e w' => e = .returned (.string (strOf (if c = 10 then a else a ++ [c]))) ∧ w' = w := by
  have HS := Lib.hid (trimS_any a c hl w)
  generalize strOf (if c = 10 then a else a ++ [c]) = R at HS
  generalize strOf (a ++ [c]) = T at HS
  clear hl
  go_enter Tryd.func32, Tryd.ntmps32
  go_wp2_with fail
  refine HS.out.mono ?_
  rintro e w1 ⟨rfl, rfl⟩
  go_wp2
  go_ret
  exact ⟨rfl, rfl⟩

/-- A line without its newline is its piece. -/
theorem trim_line {t : List UInt8} (ht : t.length ≤ 4000000) {k : Nat} (hk : k < cntL (splitL 10 t)) (w : World) :
    Calls Tryd.prog 32 #[.string (strOf (lineL (splitL 10 t) k)), .string ⟨#[10]⟩] w fun e w' => e = .returned (.string (strOf ((splitL 10 t).getD k []))) ∧ w' = w := by
  have hw := cnt_le (splitL 10 t)
  have hm := getD_mem (ws := splitL 10 t) (k := k) (by omega)
  have hl := split_len_mem 10 hm
  have hn : (10 : UInt8) ∉ (splitL 10 t).getD k [] := split_mem hm
  by_cases e : k + 1 < (splitL 10 t).length
  · have := trim_any ((splitL 10 t).getD k []) 10 (by omega) w
    rw [if_pos rfl] at this
    unfold lineL
    rw [if_pos e]
    exact this
  · have hne := cnt_last hk (show k + 1 = (splitL 10 t).length by omega)
    unfold lineL
    rw [if_neg e]
    generalize (splitL 10 t).getD k [] = p at hl hn hne
    obtain ⟨a, c, rfl⟩ : ∃ a c, p = a ++ [c] := ⟨p.dropLast, p.getLast hne, (List.dropLast_concat_getLast hne).symm⟩
    have hc : c ≠ 10 := fun h => hn (by rw [h]; simp)
    have := trim_any a c (by rw [List.length_append] at hl; omega) w
    rwa [if_neg hc] at this

end Go.Proofs.YtdefhmpmgcahpaaDoor
