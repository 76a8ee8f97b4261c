import Derived.Lib.Split
import Derived.Lib.SplitLaws
/-
  Texts that are cut at a byte. No program.
-/
set_option linter.unusedVariables false
set_option linter.unusedSimpArgs false
namespace Go.Proofs.YtdefhmpmgcahpaaDoor

/-- A text cut at each instance of a byte. -/
def splitL (c : UInt8) : List UInt8 → List (List UInt8)
  | [] => [[]]
  | b :: r => if b = c then [] :: splitL c r else (b :: (splitL c r).headD []) :: (splitL c r).tail
/-- Pieces, with a byte between them. -/
def joinL (c : UInt8) : List (List UInt8) → List UInt8
  | [] => []
  | [t] => t
  | t :: u :: ts => t ++ c :: joinL c (u :: ts)

theorem splitL_ne (c : UInt8) (t : List UInt8) : splitL c t ≠ [] := by
  cases t with
  | nil => simp [splitL]
  | cons b r => simp only [splitL]; split <;> simp
theorem splitL_cons (c : UInt8) (t : List UInt8) : ∃ h ts, splitL c t = h :: ts := by
  cases h : splitL c t with
  | nil => exact absurd h (splitL_ne c t)
  | cons a b => exact ⟨a, b, rfl⟩
theorem joinL_cons (c : UInt8) (t : List UInt8) {ts : List (List UInt8)} (h : ts ≠ []) : joinL c (t :: ts) = t ++ c :: joinL c ts := by
  cases ts with
  | nil => exact absurd rfl h
  | cons u us => rfl

theorem join_split (c : UInt8) : ∀ t : List UInt8, joinL c (splitL c t) = t
  | [] => rfl
  | b :: r => by
    have ih := join_split c r
    obtain ⟨h, ts, e⟩ := splitL_cons c r
    simp only [splitL]
    split
    · rename_i hb
      rw [joinL_cons _ _ (splitL_ne c r), ih, hb]; rfl
    · rw [e] at ih ⊢
      simp only [List.headD_cons, List.tail_cons]
      cases ts with
      | nil => simp only [joinL] at ih ⊢; rw [ih]
      | cons u us => simp only [joinL, List.cons_append] at ih ⊢; rw [ih]

theorem split_none {c : UInt8} : ∀ {t : List UInt8}, c ∉ t → splitL c t = [t]
  | [], _ => rfl
  | b :: r, h => by
    have hb : b ≠ c := fun e => h (by rw [e]; exact List.mem_cons_self)
    have hr : c ∉ r := fun e => h (List.mem_cons_of_mem _ e)
    simp only [splitL, if_neg hb, split_none hr]
    rfl
theorem split_hit {c : UInt8} : ∀ {a : List UInt8} (r : List UInt8), c ∉ a → splitL c (a ++ c :: r) = a :: splitL c r
  | [], r, _ => by simp [splitL]
  | b :: a, r, h => by
    have hb : b ≠ c := fun e => h (by rw [e]; exact List.mem_cons_self)
    have hr : c ∉ a := fun e => h (List.mem_cons_of_mem _ e)
    simp only [List.cons_append, splitL, if_neg hb, split_hit r hr]
    rfl
theorem split_join {c : UInt8} : ∀ {ts : List (List UInt8)}, ts ≠ [] → (∀ t ∈ ts, c ∉ t) → splitL c (joinL c ts) = ts
  | [], h, _ => absurd rfl h
  | [t], _, h => split_none (h t List.mem_cons_self)
  | t :: u :: ts, _, h => by
    rw [joinL_cons _ _ (by simp), split_hit _ (h t List.mem_cons_self), split_join (by simp) (fun x hx => h x (List.mem_cons_of_mem _ hx))]
theorem split_mem {c : UInt8} : ∀ {t p : List UInt8}, p ∈ splitL c t → c ∉ p
  | [], p, h => by
    simp only [splitL, List.mem_cons, List.not_mem_nil, or_false] at h
    subst h
    exact List.not_mem_nil
  | b :: r, p, h => by
    obtain ⟨hd, ts, e⟩ := splitL_cons c r
    have ih : ∀ q ∈ splitL c r, c ∉ q := fun q hq => split_mem hq
    simp only [splitL] at h
    split at h
    · rcases List.mem_cons.1 h with rfl | h
      · exact List.not_mem_nil
      · exact ih p h
    · rename_i hb
      rw [e] at h ih
      simp only [List.headD_cons, List.tail_cons] at h
      rcases List.mem_cons.1 h with rfl | h
      · intro hc
        rcases List.mem_cons.1 hc with e | hc
        · exact hb e.symm
        · exact ih hd List.mem_cons_self hc
      · exact ih p (List.mem_cons_of_mem _ h)
theorem split_len (c : UInt8) : ∀ t : List UInt8, (splitL c t).length ≤ t.length + 1
  | [] => by simp [splitL]
  | b :: r => by
    have ih := split_len c r
    obtain ⟨hd, ts, e⟩ := splitL_cons c r
    simp only [splitL]
    split
    · simpa using ih
    · rw [e] at ih ⊢
      simp only [List.tail_cons, List.length_cons] at ih ⊢
      omega
theorem split_len_mem (c : UInt8) : ∀ {t p : List UInt8}, p ∈ splitL c t → p.length ≤ t.length
  | [], p, h => by
    simp only [splitL, List.mem_cons, List.not_mem_nil, or_false] at h
    subst h
    simp
  | b :: r, p, h => by
    obtain ⟨hd, ts, e⟩ := splitL_cons c r
    have ih : ∀ q ∈ splitL c r, q.length ≤ r.length := fun q hq => split_len_mem c hq
    simp only [splitL] at h
    split at h
    · rcases List.mem_cons.1 h with rfl | h
      · simp
      · have := ih p h; simp; omega
    · rw [e] at h ih
      simp only [List.headD_cons, List.tail_cons] at h
      rcases List.mem_cons.1 h with rfl | h
      · have := ih hd List.mem_cons_self; simpa using this
      · have := ih p (List.mem_cons_of_mem _ h); simp; omega

theorem first_of {c : UInt8} : ∀ {t : List UInt8}, c ∈ t → ∃ a r, t = a ++ c :: r ∧ c ∉ a
  | [], h => by cases h
  | b :: t, h => by
    by_cases hb : b = c
    · exact ⟨[], t, by rw [hb]; rfl, List.not_mem_nil⟩
    · have ht : c ∈ t := by
        rcases List.mem_cons.1 h with e | h
        · exact absurd e.symm hb
        · exact h
      obtain ⟨a, r, rfl, ha⟩ := first_of ht
      exact ⟨b :: a, r, rfl, fun hc => by
        rcases List.mem_cons.1 hc with e | hc
        · exact hb e.symm
        · exact ha hc⟩
theorem index_first {c : UInt8} : ∀ (a r : List UInt8), c ∉ a → Lib.index (a ++ c :: r) [c] = a.length
  | [], r, _ => by simp [Lib.index, List.isPrefixOf]
  | b :: a, r, h => by
    have hb : c ≠ b := fun e => h (by rw [e]; exact List.mem_cons_self)
    have ih := index_first a r (fun e => h (List.mem_cons_of_mem _ e))
    have hb' : (c == b) = false := by simpa using hb
    simp only [List.cons_append, Lib.index, List.isPrefixOf, hb', Bool.false_and, Bool.false_eq_true, if_false, ih]
    rw [if_neg (by simp)]
    simp
theorem index_none {c : UInt8} : ∀ {t : List UInt8}, c ∉ t → Lib.index t [c] = -1
  | [], _ => rfl
  | b :: t, h => by
    have hb : c ≠ b := fun e => h (by rw [e]; exact List.mem_cons_self)
    have ih := index_none (fun e => h (List.mem_cons_of_mem b e))
    have hb' : (c == b) = false := by simpa using hb
    simp only [Lib.index, List.isPrefixOf, hb', Bool.false_and, Bool.false_eq_true, if_false, ih]
    rfl

/-- The shelf's pieces are these. -/
theorem splitK_one (c : UInt8) (t : List UInt8) : Lib.splitK [c] 0 (t.count c) t = splitL c t := by
  have key : ∀ (n : Nat) (t : List UInt8), t.length ≤ n → Lib.splitK [c] 0 (t.count c) t = splitL c t := by
    intro n
    induction n with
    | zero =>
      intro t ht
      have : t = [] := List.eq_nil_of_length_eq_zero (by omega)
      subst this
      rfl
    | succ n ih =>
      intro t ht
      by_cases hc : c ∈ t
      · obtain ⟨a, r, rfl, ha⟩ := first_of hc
        have hn : (a ++ c :: r).count c = r.count c + 1 := by
          rw [List.count_append, List.count_cons_self, List.count_eq_zero.2 ha]
          omega
        rw [hn, Lib.splitK, index_first a r ha, split_hit r ha]
        rw [if_neg (by simp)]
        have e1 : ((a.length : Int)).toNat = a.length := Int.toNat_natCast _
        rw [e1]
        have hr : Lib.splitK [c] 0 (r.count c) r = splitL c r := ih r (by simp at ht; omega)
        simp only [Nat.add_zero, List.length_singleton]
        rw [List.take_left, show (a ++ c :: r).drop (a.length + 1) = r by rw [← List.drop_drop, List.drop_left]; rfl, hr]
      · rw [List.count_eq_zero.2 hc, split_none hc]
        rfl
  exact key _ t (Nat.le_refl _)
theorem splitB_one (c : UInt8) (s : ByteArray) : (Lib.splitB ⟨#[c]⟩ 0 (Lib.countB s ⟨#[c]⟩) s).map (·.data.toList) = splitL c s.data.toList := by
  rw [Lib.splitB_data]
  have : Lib.countB s ⟨#[c]⟩ = s.data.toList.count c := Lib.count_one c _
  rw [this]
  exact splitK_one c _

end Go.Proofs.YtdefhmpmgcahpaaDoor
