/-
  Several texts of this claim, one behind the other; each says what it holds.
-/
import Derived.Test.YtdefhmpmgcahpaaDoorMPlanTeL11
import Derived.Test.YtdefhmpmgcahpaaDoorSpl
import Derived.Test.YtdefhmpmgcahpaaDoorMPlanTeL14
import Derived.Test.YtdefhmpmgcahpaaDoorMPlanTeL5
import Derived.Test.YtdefhmpmgcahpaaDoorMPlanTeL22
import Derived.Test.YtdefhmpmgcahpaaDoorImpDZ
import Derived.Deep.MidRow
/-
  Steps that are read of their texts: pure.
-/
set_option linter.unusedVariables false
set_option linter.unusedSimpArgs false
namespace Go.Proofs.YtdefhmpmgcahpaaDoor
open Go.RowKit

theorem txS_app (a b : List UInt8) : ∀ zs : List Int, txGo (a ++ b) zs = a ++ txGo b zs := by
  intro zs
  unfold txGo
  induction zs generalizing b with
  | nil => rfl
  | cons z zs ih => simp only [List.foldl_cons, List.append_assoc]; exact ih _
theorem joinS_tx : ∀ (t : List UInt8) (zs : List Int), joinL 32 (t :: zs.map Lib.itoa) = txGo t zs
  | t, [] => rfl
  | t, z :: zs => by
    rw [List.map_cons, joinL_cons _ _ (by simp), joinS_tx]
    have : txGo t (z :: zs) = txGo (t ++ (32 :: Lib.itoa z)) zs := rfl
    rw [this, txS_app]
    have e := txS_app [32] (Lib.itoa z) zs
    rw [show (32 :: Lib.itoa z) = [32] ++ Lib.itoa z from rfl, e]
    rfl

def numsSt (s : St) : List Int := numsOf s.kind.toNat s.n s.k s.taps
/-- The words of a step's text. -/
def stWords (s : St) : List (List UInt8) := (wordOf s.kind.toNat).data.toList :: (numsSt s).map Lib.itoa
theorem stText_join {s : St} (h : validSt s = true) : joinL 32 (stWords s) = stText s := by
  unfold stWords stText numsSt
  rw [h, if_pos rfl, joinS_tx]
theorem wordOf_no {q : Nat} (h1 : 1 ≤ q) (h13 : q ≤ 13) : (32 : UInt8) ∉ (wordOf q).data.toList := by
  have hc : q = 1 ∨ q = 2 ∨ q = 3 ∨ q = 4 ∨ q = 5 ∨ q = 6 ∨ q = 7 ∨ q = 8 ∨ q = 9 ∨ q = 10 ∨ q = 11 ∨ q = 12 ∨ q = 13 := by omega
  rcases hc with rfl | rfl | rfl | rfl | rfl | rfl | rfl | rfl | rfl | rfl | rfl | rfl | rfl <;> decide
theorem wordOf_inj {p q : Nat} (p1 : 1 ≤ p) (p13 : p ≤ 13) (q1 : 1 ≤ q) (q13 : q ≤ 13) (h : (wordOf p).data.toList = (wordOf q).data.toList) : p = q := by
  have key : ∀ p q : Fin 14, 1 ≤ p.val → 1 ≤ q.val → (wordOf p.val).data.toList = (wordOf q.val).data.toList → p = q := by decide
  have := key ⟨p, by omega⟩ ⟨q, by omega⟩ p1 q1 h
  simpa using congrArg Fin.val this
theorem wordOf_ne {q : Nat} (h1 : 1 ≤ q) (h13 : q ≤ 13) : (wordOf q).data.toList ≠ [] := by
  have hc : q = 1 ∨ q = 2 ∨ q = 3 ∨ q = 4 ∨ q = 5 ∨ q = 6 ∨ q = 7 ∨ q = 8 ∨ q = 9 ∨ q = 10 ∨ q = 11 ∨ q = 12 ∨ q = 13 := by omega
  rcases hc with rfl | rfl | rfl | rfl | rfl | rfl | rfl | rfl | rfl | rfl | rfl | rfl | rfl <;> decide
theorem st_kind {s : St} (h : validSt s = true) : ∃ q : Nat, s.kind = q ∧ 1 ≤ q ∧ q ≤ 13 := by
  obtain ⟨k1, k2⟩ := valid_kind h
  exact ⟨s.kind.toNat, by omega, by omega, by omega⟩
theorem stText_split {s : St} (h : validSt s = true) : splitL 32 (stText s) = stWords s := by
  rw [← stText_join h]
  refine split_join (by unfold stWords; simp) fun t ht => ?_
  unfold stWords at ht
  rcases List.mem_cons.1 ht with rfl | ht
  · obtain ⟨q, e, q1, q13⟩ := st_kind h
    rw [e]
    exact wordOf_no q1 q13
  · obtain ⟨z, -, rfl⟩ := List.mem_map.1 ht
    exact itoa_no (by decide) (by decide)

/-- A valid step is the one with its numbers. -/
theorem with_nums {s : St} (h : validSt s = true) : withSt s.kind.toNat (numsSt s) = s := by
  obtain ⟨q, e, q1, q13⟩ := st_kind h
  obtain ⟨kd, n, k, taps⟩ := s
  simp only at e
  subst e
  unfold numsSt
  simp only [Int.toNat_natCast]
  rw [← ask_valid q1 q13] at h
  unfold askB at h
  simp only [Bool.and_eq_true] at h
  have h2 : sameSt ⟨q, n, k, taps⟩ (withSt q (numsOf q n k taps)) = true := by
    first | exact h.1.2 | exact h.2.1 | exact h.2 | exact h.1
  exact (sameSt_iff.1 h2).symm

/-- The step with a text, or none. -/
def ReadsSt (t : List UInt8) (r : Option St) : Prop := match r with | some s => validSt s = true ∧ stText s = t | none => ∀ s, validSt s = true → stText s ≠ t
theorem maps_inj : ∀ (a b : List Int), (∀ z ∈ a, -1024 ≤ z ∧ z ≤ 1024) → (∀ z ∈ b, -1024 ≤ z ∧ z ≤ 1024) → a.map Lib.itoa = b.map Lib.itoa → a = b := by
  intro a
  induction a with
  | nil => intro b _ _ e; cases b with | nil => rfl | cons _ _ => cases e
  | cons x a ih =>
    intro b ha hb e
    cases b with
    | nil => cases e
    | cons y b =>
      simp only [List.map_cons, List.cons.injEq] at e
      have hx := ha x (by simp)
      have hy := hb y (by simp)
      rw [itoa_inj (by omega) (by omega) (by omega) (by omega) e.1, ih b (fun z hz => ha z (List.mem_cons_of_mem _ hz)) (fun z hz => hb z (List.mem_cons_of_mem _ hz)) e.2]
theorem stWords_inj {s s' : St} (h : validSt s = true) (h' : validSt s' = true) (hw : stWords s = stWords s') : s = s' := by
  obtain ⟨q, k1, q1, q13⟩ := st_kind h
  obtain ⟨q', k2, q1', q13'⟩ := st_kind h'
  unfold stWords at hw
  simp only [List.cons.injEq] at hw
  obtain ⟨hw1, hw2⟩ := hw
  have e1 : s.kind.toNat = q := by rw [k1]; rfl
  have e2 : s'.kind.toNat = q' := by rw [k2]; rfl
  rw [e1, e2] at hw1
  obtain rfl : q = q' := wordOf_inj q1 q13 q1' q13' hw1
  have hn : numsSt s = numsSt s' := maps_inj _ _ (valid_nums h).2 (valid_nums h').2 hw2
  rw [← with_nums h, ← with_nums h', e1, e2, hn]
theorem stText_inj {s s' : St} (h : validSt s = true) (h' : validSt s' = true) (e : stText s = stText s') : s = s' := stWords_inj h h' (by rw [← stText_split h, ← stText_split h', e])
theorem ReadsSt.unique {t : List UInt8} {r r' : Option St} (h : ReadsSt t r) (h' : ReadsSt t r') : r = r' := by
  cases r with
  | none =>
    cases r' with
    | none => rfl
    | some d => exact absurd h'.2 (h d h'.1)
  | some d =>
    cases r' with
    | none => exact absurd h.2 (h' d h.1)
    | some d' => rw [stText_inj h.1 h'.1 (h.2.trans h'.2.symm)]

/-- The kind with a word, or 0. -/
def KindSt (t : List UInt8) (q : Nat) : Prop := (q = 0 ∧ ∀ j, 1 ≤ j → j ≤ 13 → (wordOf j).data.toList ≠ t) ∨ (1 ≤ q ∧ q ≤ 13 ∧ (wordOf q).data.toList = t)
theorem KindSt.eq {t : List UInt8} {q p : Nat} (h : KindSt t q) (p1 : 1 ≤ p) (p13 : p ≤ 13) (hp : (wordOf p).data.toList = t) : q = p := by
  rcases h with ⟨-, h⟩ | ⟨q1, q13, h⟩
  · exact absurd hp (h p p1 p13)
  · exact wordOf_inj q1 q13 p1 p13 (h.trans hp.symm)

/-- What the program reads: the step of the kind with the numbers that ParseInt hands back. -/
def stP (q : Nat) (t : List UInt8) : St := withSt q (((splitL 32 t).tail).map pz)
theorem stP_yes {t : List UInt8} {q : Nat} (h : validSt (stP q t) = true) (ht : stText (stP q t) = t) : ReadsSt t (some (stP q t)) := ⟨h, ht⟩
theorem stP_no {t : List UInt8} {q : Nat} (hq : KindSt ((splitL 32 t).headD []) q) (h : ¬ (validSt (stP q t) = true ∧ stText (stP q t) = t)) : ReadsSt t none := fun s hs e => by
  apply h
  have hw : splitL 32 t = stWords s := by rw [← e]; exact stText_split hs
  obtain ⟨p, k1, p1, p13⟩ := st_kind hs
  have e1 : s.kind.toNat = p := by rw [k1]; rfl
  have hqp : q = p := hq.eq p1 p13 (by rw [hw]; unfold stWords; rw [e1]; rfl)
  have hn := (valid_nums hs).2
  have hz : ((splitL 32 t).tail).map pz = numsSt s := by
    rw [hw]
    unfold stWords
    rw [List.tail_cons, List.map_map]
    have : ∀ z ∈ numsSt s, (pz ∘ Lib.itoa) z = z := fun z hz => by
      have := hn z hz
      exact pz_itoa (by omega) (by omega)
    rw [List.map_congr_left this]
    simp
  have hs2 : stP q t = s := by
    unfold stP
    rw [hz, hqp, ← e1]
    exact with_nums hs
  rw [hs2]
  exact ⟨hs, e⟩

end Go.Proofs.YtdefhmpmgcahpaaDoor
/-
  kindOf of the program.
-/
set_option linter.unusedVariables false
set_option linter.unusedSimpArgs false
namespace Go.Proofs.YtdefhmpmgcahpaaDoor
open Go.RowKit

theorem infoForms : (Tryd.prog.info? 64).map (·.size) = some 56 := by kernel_rfl
/-- The table as a value. -/
def formCells : List Value := [.string (wordOf 0), .int .i64 (cntOf 0), .int .i64 (loOf 0), .int .i64 (hiOf 0), .string (wordOf 1), .int .i64 (cntOf 1), .int .i64 (loOf 1), .int .i64 (hiOf 1), .string (wordOf 2), .int .i64 (cntOf 2), .int .i64 (loOf 2), .int .i64 (hiOf 2), .string (wordOf 3), .int .i64 (cntOf 3), .int .i64 (loOf 3), .int .i64 (hiOf 3), .string (wordOf 4), .int .i64 (cntOf 4), .int .i64 (loOf 4), .int .i64 (hiOf 4), .string (wordOf 5), .int .i64 (cntOf 5), .int .i64 (loOf 5), .int .i64 (hiOf 5), .string (wordOf 6), .int .i64 (cntOf 6), .int .i64 (loOf 6), .int .i64 (hiOf 6), .string (wordOf 7), .int .i64 (cntOf 7), .int .i64 (loOf 7), .int .i64 (hiOf 7), .string (wordOf 8), .int .i64 (cntOf 8), .int .i64 (loOf 8), .int .i64 (hiOf 8), .string (wordOf 9), .int .i64 (cntOf 9), .int .i64 (loOf 9), .int .i64 (hiOf 9), .string (wordOf 10), .int .i64 (cntOf 10), .int .i64 (loOf 10), .int .i64 (hiOf 10), .string (wordOf 11), .int .i64 (cntOf 11), .int .i64 (loOf 11), .int .i64 (hiOf 11), .string (wordOf 12), .int .i64 (cntOf 12), .int .i64 (loOf 12), .int .i64 (hiOf 12), .string (wordOf 13), .int .i64 (cntOf 13), .int .i64 (loOf 13), .int .i64 (hiOf 13)]
theorem formCells_at (j : Nat) (hj : j < 14) : formCells[j * 4]? = some (.string (wordOf j)) ∧ formCells[j * 4 + 1]? = some (.int .i64 (cntOf j)) ∧ formCells[j * 4 + 2]? = some (.int .i64 (loOf j)) ∧ formCells[j * 4 + 3]? = some (.int .i64 (hiOf j)) := by
  have hc : j = 0 ∨ j = 1 ∨ j = 2 ∨ j = 3 ∨ j = 4 ∨ j = 5 ∨ j = 6 ∨ j = 7 ∨ j = 8 ∨ j = 9 ∨ j = 10 ∨ j = 11 ∨ j = 12 ∨ j = 13 := by omega
  rcases hc with rfl | rfl | rfl | rfl | rfl | rfl | rfl | rfl | rfl | rfl | rfl | rfl | rfl | rfl <;> exact ⟨rfl, rfl, rfl, rfl⟩

theorem load_forms {w : World} (h : Tab w) : (loadVar 64 ⟨0, 0, none⟩).run Tryd.prog w = .ok (.agg formCells.toArray) w := by
  refine run_loadVar_mid _ _ _ _ formCells _ ?_ Tryd.underlying64 rfl infoForms
  intro j v hv
  have hj : j < 56 := (List.getElem?_eq_some_iff.1 hv).1
  have hq : j / 4 < 14 := by omega
  obtain ⟨e0, e1, e2, e3⟩ := formCells_at (j / 4) hq
  have hm : j = j / 4 * 4 ∨ j = j / 4 * 4 + 1 ∨ j = j / 4 * 4 + 2 ∨ j = j / 4 * 4 + 3 := by omega
  rw [Nat.zero_add]
  rcases hm with e | e | e | e
  · rw [e] at hv ⊢
    rw [e0] at hv
    rw [← hv]; exact h.word _ hq
  · rw [e] at hv ⊢
    rw [e1] at hv
    rw [← hv]; exact h.cnt _ hq
  · rw [e] at hv ⊢
    rw [e2] at hv
    rw [← hv]; exact h.lo _ hq
  · rw [e] at hv ⊢
    rw [e3] at hv
    rw [← hv]; exact h.hi _ hq

theorem form_index (k : Nat) (hk : k < 14) (w : World) : (Instr.index 64 (.agg formCells.toArray) (.int .i64 (k : Int))).run Tryd.prog w = .ok (.agg #[.string (wordOf k), .int .i64 (cntOf k), .int .i64 (loOf k), .int .i64 (hiOf k)]) w := by
  have hc : k = 0 ∨ k = 1 ∨ k = 2 ∨ k = 3 ∨ k = 4 ∨ k = 5 ∨ k = 6 ∨ k = 7 ∨ k = 8 ∨ k = 9 ∨ k = 10 ∨ k = 11 ∨ k = 12 ∨ k = 13 := by omega
  rcases hc with rfl | rfl | rfl | rfl | rfl | rfl | rfl | rfl | rfl | rfl | rfl | rfl | rfl | rfl <;> (show _ = _; kernel_rfl)

set_option maxRecDepth 100000 in
set_option maxHeartbeats 4000000 in
theorem kindOf_any (t : List UInt8) (w : World) (h : Tab w) :
    Calls Tryd.prog 43 #[.string (strOf t)] w fun e w' => ∃ q : Nat, e = .returned (.int .i64 q) ∧ KindSt t q ∧ Below w.heap.size w w' := by
  have LT := load_forms h
  have IX := form_index
  obtain ⟨T, hT⟩ : ∃ T, Value.agg formCells.toArray = T := ⟨_, rfl⟩
  rw [hT] at LT
  simp only [hT] at IX
  have HEQ : Hid (∀ j, ((wordOf j).toList == (strOf t).toList) = decide ((wordOf j).data.toList = t)) := fun j => by
    have := strOf_beq (wordOf j).data.toList t
    rw [strOf_self] at this
    exact this
  have IX := Lib.hid IX
  have LT := Lib.hid LT
  obtain ⟨S, hS⟩ : ∃ S, strOf t = S := ⟨_, rfl⟩
  simp only [hS] at HEQ ⊢
  clear hT h hS
  go_enter Tryd.func43, Tryd.ntmps43
  go_wp2_with (refine wpList_loadV rfl _ _ rfl _ rfl T LT.out ?_)
  go_loopw [6] (fun i wr => ∃ k : Nat, i = .int .i64 k ∧ k ≤ 14 ∧ (∀ j, j < k → (wordOf j).data.toList ≠ t) ∧ Below w.heap.size w wr) (fun i _ => 14 - (intOf i).toNat)
  case atStart => exact ⟨0, rfl, by decide, fun j hj => by omega, Below.refl _ _⟩
  case round =>
    obtain ⟨k, rfl, hk9, hj, hB⟩ := hrel
    have HJ := Lib.hid hj
    have HB := Lib.hid hB
    clear hj hB
    by_cases hk : k < 14
    · have hix := IX.out k hk
      have heq := HEQ.out k
      have hk' : (k : Int) < 14 := by omega
      have HK := Lib.hid hk
      obtain ⟨p, hp⟩ : ∃ p, decide ((wordOf k).data.toList = t) = p := ⟨_, rfl⟩
      rw [hp] at heq
      have HP := Lib.hid hp
      generalize wordOf k = D at hix heq
      generalize (cntOf k : Int) = N at hix
      generalize loOf k = N1 at hix
      generalize hiOf k = N2 at hix
      clear hp hk
      cases p
      · go_wp2
        go_roundw
        case rel => exact ⟨k + 1, by go_num, HK.out, fun j hj => by
            by_cases e : j = k
            · subst e; exact of_decide_eq_false HP.out
            · exact HJ.out j (by omega), HB.out.alloc HB.out.size _⟩
        case measure => have := HK.out; simp [intOf]; omega
      · go_wp2
        go_ret
        refine ⟨k, rfl, ?_, HB.out.alloc HB.out.size _⟩
        have hkt : (wordOf k).data.toList = t := of_decide_eq_true HP.out
        by_cases h0 : k = 0
        · subst h0
          exact .inl ⟨rfl, fun j h1 h8 e => wordOf_ne h1 h8 (e.trans hkt.symm)⟩
        · exact .inr ⟨by omega, by have := HK.out; omega, hkt⟩
    · obtain rfl : k = 14 := by omega
      clear hk
      go_wp2
      go_ret
      exact ⟨0, rfl, .inl ⟨rfl, fun j h1 h8 e => HJ.out j (by omega) e⟩, HB.out⟩

end Go.Proofs.YtdefhmpmgcahpaaDoor
/-
  What the model reads of a step's text: pure.
-/
set_option linter.unusedVariables false
set_option linter.unusedSimpArgs false
namespace Go.Proofs.YtdefhmpmgcahpaaDoor
open Go.RowKit

/-- A valid step with a text: its kind and its numbers are those of the text. -/
theorem reads_facts {t : List UInt8} {s : St} {q : Nat} (hs : validSt s = true) (e : stText s = t) (hq : KindSt ((splitL 32 t).headD []) q) :
    1 ≤ q ∧ q ≤ 13 ∧ s.kind = q ∧ (splitL 32 t).tail = (numsSt s).map Lib.itoa ∧ withSt q (numsSt s) = s := by
  have hw : splitL 32 t = stWords s := by rw [← e]; exact stText_split hs
  obtain ⟨p, k1, p1, p13⟩ := st_kind hs
  have e1 : s.kind.toNat = p := by rw [k1]; rfl
  have hqp : q = p := hq.eq p1 p13 (by rw [hw]; unfold stWords; rw [e1]; rfl)
  subst hqp
  refine ⟨p1, p13, k1, by rw [hw]; rfl, ?_⟩
  have := with_nums hs
  rwa [e1] at this

/-- A word that is no number: no step has the text. -/
theorem reads_word {t : List UInt8} {q j : Nat} (hq : KindSt ((splitL 32 t).headD []) q) (hj : 1 + j < (splitL 32 t).length) (h : rdZ ((splitL 32 t).getD (1 + j) []) = none) : ReadsSt t none := fun s hs e => by
  obtain ⟨-, -, -, ht, -⟩ := reads_facts hs e hq
  have hn := (valid_nums hs).2
  have hl : j < (numsSt s).length := by
    have := congrArg List.length ht
    rw [List.length_tail, List.length_map] at this
    omega
  have e2 : (splitL 32 t).getD (1 + j) [] = Lib.itoa (numsSt s)[j] := by
    have h1 : (splitL 32 t).tail[j]? = ((numsSt s).map Lib.itoa)[j]? := by rw [ht]
    rw [List.getElem?_tail, List.getElem?_map, List.getElem?_eq_getElem hl] at h1
    rw [List.getD_eq_getElem?_getD, Nat.add_comm 1 j, h1]
    rfl
  have hz := hn _ (List.getElem_mem hl)
  rw [e2, rdZ_itoa (by omega)] at h
  cases h

/-- The numbers of a text. -/
def NumsT (t : List UInt8) (zs : List Int) : Prop := (splitL 32 t).tail = zs.map Lib.itoa
theorem nums_of {t : List UInt8} {zs : List Int} (hl : 1 + zs.length = (splitL 32 t).length) (h : ∀ j, j < zs.length → rdZ ((splitL 32 t).getD (1 + j) []) = some (zs.getD j 0)) : NumsT t zs := by
  unfold NumsT
  apply List.ext_getElem
  · rw [List.length_tail, List.length_map]; omega
  · intro j h1 h2
    rw [List.length_map] at h2
    have := rdZ_some (h j h2)
    rw [List.getElem_map, List.getElem_tail]
    rw [List.getD_eq_getElem?_getD, List.getElem?_eq_getElem h2, Nat.add_comm 1 j, List.getD_eq_getElem?_getD, List.getElem?_eq_getElem (by rw [List.length_tail] at h1; omega)] at this
    exact this.symm
theorem nums_same {t : List UInt8} {zs : List Int} {s : St} {q : Nat} (hz : NumsT t zs) (hr : ∀ z ∈ zs, ∃ u, rdZ (Lib.itoa z) = some u ∧ u = z) (hs : validSt s = true) (e : stText s = t) (hq : KindSt ((splitL 32 t).headD []) q) : numsSt s = zs := by
  obtain ⟨-, -, -, ht, -⟩ := reads_facts hs e hq
  have hn := (valid_nums hs).2
  unfold NumsT at hz
  have em : (numsSt s).map Lib.itoa = zs.map Lib.itoa := ht.symm.trans hz
  have e1 : ((numsSt s).map Lib.itoa).map rdZ = (zs.map Lib.itoa).map rdZ := by rw [em]
  rw [List.map_map, List.map_map] at e1
  rw [List.map_congr_left (g := some) (fun z hz => by have := hn z hz; exact rdZ_itoa (by omega)), List.map_congr_left (l := zs) (g := some) (fun z hz => by obtain ⟨u, h1, h2⟩ := hr z hz; rw [← h2]; show rdZ _ = _; rw [h2, h1, h2])] at e1
  exact (List.map_inj_right (fun _ _ h => Option.some.inj h)).1 e1

/-- No kind has the text's first word. -/
theorem reads_zero {t : List UInt8} (hq : KindSt ((splitL 32 t).headD []) 0) : ReadsSt t none := fun s hs e => by
  have := (reads_facts hs e hq).1
  omega
theorem nums_cnt {s : St} {q : Nat} (hk : s.kind = q) (h3 : q ≠ 3) : (numsSt s).length = cntOf q := by
  unfold numsSt numsOf
  rw [hk, Int.toNat_natCast, if_neg h3, List.length_take]
  have := cntOf_le h3
  simp
  omega
theorem take_two {zs : List Int} {c : Nat} (hc : c ≤ 2) (h : zs.length = c) : [zs.getD 0 0, zs.getD 1 0].take c = zs := by
  match zs, h with
  | [], h => subst h; rfl
  | [a], h => subst h; rfl
  | [a, b], h => subst h; rfl
  | a :: b :: d :: r, h => simp at h; omega
theorem nums_with {q : Nat} {zs : List Int} (h : q = 3 ∨ zs.length = cntOf q) : (withSt q zs).kind = q ∧ numsSt (withSt q zs) = zs := by
  unfold numsSt withSt numsOf
  by_cases h3 : q = 3
  · subst h3
    exact ⟨rfl, rfl⟩
  · rw [if_neg h3]
    simp only [Int.toNat_natCast]
    rw [if_neg h3]
    exact ⟨trivial, take_two (cntOf_le h3) (by rcases h with h | h; exact absurd h h3; exact h)⟩
/-- Too many numbers or too few. -/
theorem reads_told {t : List UInt8} {zs : List Int} {q : Nat} (hz : NumsT t zs) (hr : ∀ z ∈ zs, ∃ u, rdZ (Lib.itoa z) = some u ∧ u = z) (hq : KindSt ((splitL 32 t).headD []) q) (h3 : q ≠ 3) (hc : zs.length ≠ cntOf q) : ReadsSt t none := fun s hs e => by
  obtain ⟨-, -, k1, -, -⟩ := reads_facts hs e hq
  exact hc (by rw [← nums_same hz hr hs e hq]; exact nums_cnt k1 h3)
theorem reads_bad {t : List UInt8} {zs : List Int} {q : Nat} (hz : NumsT t zs) (hr : ∀ z ∈ zs, ∃ u, rdZ (Lib.itoa z) = some u ∧ u = z) (hq : KindSt ((splitL 32 t).headD []) q) (hv : validSt (withSt q zs) = false) : ReadsSt t none := fun s hs e => by
  obtain ⟨-, -, -, -, hw⟩ := reads_facts hs e hq
  rw [nums_same hz hr hs e hq] at hw
  rw [hw, hs] at hv
  cases hv
theorem reads_good {t : List UInt8} {zs : List Int} {q : Nat} (hz : NumsT t zs) (hq : KindSt ((splitL 32 t).headD []) q) (h1 : 1 ≤ q) (hc : q = 3 ∨ zs.length = cntOf q) (hv : validSt (withSt q zs) = true) : ReadsSt t (some (withSt q zs)) := by
  refine ⟨hv, ?_⟩
  obtain ⟨e1, e2⟩ := nums_with hc
  have hw : stWords (withSt q zs) = splitL 32 t := by
    unfold stWords
    rw [e1, e2, Int.toNat_natCast, ← hz]
    rcases hq with ⟨h0, -⟩ | ⟨-, -, h⟩
    · omega
    · rw [h]
      cases hs : splitL 32 t with
      | nil => exact absurd hs (splitL_ne 32 t)
      | cons a r => rfl
  rw [← stText_join hv, hw, join_split]
/-- A number that was read of a word is read of its text. -/
theorem rd_back {t : List UInt8} {z : Int} (h : rdZ t = some z) : ∃ u, rdZ (Lib.itoa z) = some u ∧ u = z := ⟨z, by rw [rdZ_some h]; exact h, rfl⟩

end Go.Proofs.YtdefhmpmgcahpaaDoor
