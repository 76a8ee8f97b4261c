import Derived.Test.YtdefhmpmgcahpaaDoorMPlanTeL20
import Derived.Maps.AppendAt
/-
  The walk of the model's l01Split: the words between blanks.
-/
set_option linter.unusedVariables false
set_option linter.unusedSimpArgs false
namespace Go.Proofs.YtdefhmpmgcahpaaDoor
open Go.RowKit Flt Hex

/-- The words before place k, and where the next one begins. -/
def spl (s : ByteArray) : Nat → List ByteArray × Nat
  | 0 => ([], 0)
  | k + 1 => if s.data.toList[k]? = some 32 then ((spl s k).1 ++ [s.extract (spl s k).2 k], k + 1) else spl s k

/-- All words. -/
def wordsOf (s : ByteArray) : List ByteArray := (spl s s.size).1 ++ [s.extract (spl s s.size).2 s.size]

theorem spl_le (s : ByteArray) : ∀ k, (spl s k).2 ≤ k ∧ (spl s k).1.length ≤ k
  | 0 => ⟨Nat.le_refl _, Nat.le_refl _⟩
  | k + 1 => by
    have := spl_le s k
    unfold spl
    split
    · simp; omega
    · omega

theorem infoStr : (Tryd.prog.info? 9).map (fun i => (i.zero, i.size, i.bytes)) = some (some (.string ⟨#[]⟩), 1, 16) := by kernel_rfl

/-- The words lie in a new row. -/
def Words (ws : List ByteArray) (w : World) (e : Ending) (w' : World) : Prop :=
  ∃ v, e = .returned v ∧ w'.ownsRow w.heap.size 9 1 v ws.length (ws.map Value.string) ∧ Below w.heap.size w w'

set_option maxRecDepth 100000 in
set_option maxHeartbeats 1000000 in
theorem l01Split_any (s : ByteArray) (hs : s.size ≤ 1048576) (w : World) :
    Calls Tryd.prog 45 #[.string s, .int .u8 32] w (Words (wordsOf s) w) := by
  obtain ⟨i0, hi, hz0, hz1, hz2⟩ := info_parts infoStr
  go_enter Tryd.func45, Tryd.ntmps45
  go_wp2
  go_loopw [5, 6, 7] (fun v f i wr => ∃ k : Nat, k ≤ s.size ∧ i = .int .i64 k ∧ f = .int .i64 ((spl s k).2 : Nat) ∧ wr.ownsRow w.heap.size 9 1 v (spl s k).1.length ((spl s k).1.map Value.string) ∧ Below w.heap.size w wr) (fun _ _ i _ => s.size - (intOf i).toNat)
  case atStart => exact ⟨0, Nat.zero_le _, rfl, rfl, World.ownsRow_made w #[] 0 (Nat.le_refl _) (by decide) rfl, (Below.refl _ _).alloc (Nat.le_refl _) _⟩
  case round =>
    obtain ⟨k, hk, rfl, rfl, hown, hb⟩ := hrel
    obtain ⟨l1, l2⟩ := spl_le s k
    by_cases hlt : k < s.size
    · have hget : s.data.toList[k]? = some s[k] := by
        rw [List.getElem?_eq_getElem (by simpa using hlt)]; rfl
      by_cases hsp : s[k] = 32
      · have HS : Hid (spl s (k + 1) = ((spl s k).1 ++ [s.extract (spl s k).2 k], k + 1)) := by
          show (if _ then _ else _) = _
          rw [if_pos (by rw [hget, hsp])]
        have hc : ((s[k].toNat : Int) == 32) = true := by rw [hsp]; decide
        clear hget hsp
        generalize hW : (spl s k).1 = W at *
        generalize hF : (spl s k).2 = F at *
        have HW := Lib.hid hW
        have HF := Lib.hid hF
        have HO := Lib.hid hown
        clear hW hF hown
        go_wp2_with (at_builtin; refine wpList_append_own _ rfl _ _ 67 rfl w.heap.size 9 i0 (.string ⟨#[]⟩) 1 16 Tryd.underlying67 hi hz0 hz1 hz2 rfl (by decide) _ _ _ rfl (HO.out.alloc _) ⟨wr.heap.size, 0, none⟩ 1 1 [.string (s.extract F k)] rfl rfl (cell_one_new _ _ _) (by intro u hu; simp at hu; subst hu; rfl) (by simp only [maxLen]; omega) (by omega) (by have := hb.size; simp; omega) ?_)
        intro v' w1 hown' hgrow _
        have hlt' := (HO.out.alloc (.cells #[.string (s.extract F k)] 9)).lt
        have hb' : Below w.heap.size w w1 := (hb.alloc hb.size _).grown hgrow (by have := hb.size; simp; omega) (fun b e => (hlt' b e).1)
        have HO' := Lib.hid hown'
        clear hown' hgrow hlt'
        go_wp2
        go_roundw
        case rel =>
          refine ⟨k + 1, by omega, by go_num, by rw [HS.out]; go_num, ?_, hb'⟩
          rw [HS.out]
          have := HO'.out
          simpa using this
        case measure => simp [intOf]; omega
      · have HS : Hid (spl s (k + 1) = spl s k) := by
          show (if _ then _ else _) = _
          rw [if_neg (by rw [hget]; simpa using hsp)]
        have hc : ((s[k].toNat : Int) == 32) = false := by
          rw [beq_eq_false_iff_ne]
          intro e
          apply hsp
          apply UInt8.toNat_inj.1
          rw [show (32 : UInt8).toNat = 32 from rfl]
          omega
        clear hget hsp
        have HO := Lib.hid hown
        clear hown
        go_wp2
        go_roundw
        case rel => exact ⟨k + 1, by omega, by go_num, by rw [HS.out], by rw [HS.out]; exact HO.out, hb⟩
        case measure => simp [intOf]; omega
    · have e : k = s.size := by omega
      subst e
      have HO := Lib.hid hown
      clear hown
      go_wp2_with (at_builtin; refine wpList_append_own _ rfl _ _ 67 rfl w.heap.size 9 i0 (.string ⟨#[]⟩) 1 16 Tryd.underlying67 hi hz0 hz1 hz2 rfl (by decide) _ _ _ rfl (HO.out.alloc _) ⟨wr.heap.size, 0, none⟩ 1 1 [.string (s.extract (spl s s.size).2 s.size)] rfl rfl (cell_one_new _ _ _) (by intro u hu; simp at hu; subst hu; rfl) (by simp only [maxLen]; omega) (by omega) (by have := hb.size; simp; omega) ?_)
      intro v' w1 hown' hgrow _
      have hlt' := (HO.out.alloc (.cells #[.string (s.extract (spl s s.size).2 s.size)] 9)).lt
      have hb' : Below w.heap.size w w1 := (hb.alloc hb.size _).grown hgrow (by have := hb.size; simp; omega) (fun b e => (hlt' b e).1)
      have HO' := Lib.hid hown'
      clear hown' hgrow hlt'
      go_wp2
      go_ret
      refine ⟨_, rfl, ?_, hb'⟩
      have := HO'.out
      unfold wordsOf
      simpa using this

/-- How many blanks there are: none, one or more. -/
theorem spl_none {s : ByteArray} (h : Lib.indexByte s.data.toList 32 = -1) : ∀ k, spl s k = ([], 0)
  | 0 => rfl
  | k + 1 => by
    show (if _ then _ else _) = _
    rw [if_neg (Lib.indexByte_none h k)]
    exact spl_none h k

theorem spl_first {s : ByteArray} {p : Nat} (h : Lib.indexByte s.data.toList 32 = p) : ∀ k, k ≤ p → spl s k = ([], 0)
  | 0, _ => rfl
  | k + 1, hk => by
    show (if _ then _ else _) = _
    rw [if_neg ((Lib.indexByte_some h).2 k (by omega))]
    exact spl_first h k (by omega)

theorem spl_more {s : ByteArray} {p : Nat} (h : Lib.indexByte s.data.toList 32 = p) : ∀ j, (∀ i, p < i → i < p + 1 + j → s.data.toList[i]? ≠ some 32) → spl s (p + 1 + j) = ([s.extract 0 p], p + 1)
  | 0, _ => by
    show (if _ then _ else _) = _
    rw [if_pos (Lib.indexByte_some h).1, spl_first h p (Nat.le_refl _)]
    rfl
  | j + 1, hj => by
    show (if s.data.toList[p + 1 + j]? = some 32 then _ else spl s (p + 1 + j)) = _
    rw [if_neg (hj (p + 1 + j) (by omega) (by omega))]
    exact spl_more h j (fun i h1 h2 => hj i h1 (by omega))

theorem spl_len {s : ByteArray} : ∀ k j, (spl s k).1.length ≤ (spl s (k + j)).1.length
  | k, 0 => Nat.le_refl _
  | k, j + 1 => by
    have := spl_len (s := s) k j
    rw [show k + (j + 1) = (k + j) + 1 by omega]
    show _ ≤ (if _ then _ else _ : List ByteArray × Nat).1.length
    split
    · simp; omega
    · exact this

theorem spl_two {s : ByteArray} {p i : Nat} (h : Lib.indexByte s.data.toList 32 = p) (h1 : p < i) (h2 : s.data.toList[i]? = some 32) (j : Nat) : 2 ≤ (spl s (i + 1 + j)).1.length := by
  refine Nat.le_trans ?_ (spl_len (i + 1) j)
  show 2 ≤ (if _ then _ else _ : List ByteArray × Nat).1.length
  rw [if_pos h2]
  have e0 : 1 ≤ (spl s (p + 1)).1.length := by
    show 1 ≤ (if _ then _ else _ : List ByteArray × Nat).1.length
    rw [if_pos (Lib.indexByte_some h).1]; simp
  have := spl_len (s := s) (p + 1) (i - (p + 1))
  rw [show p + 1 + (i - (p + 1)) = i by omega] at this
  simp; omega

theorem words_none {s : ByteArray} (h : Lib.indexByte s.data.toList 32 = -1) : (wordsOf s).length = 1 := by
  unfold wordsOf; rw [spl_none h]; rfl
theorem words_one {s : ByteArray} {p : Nat} (h : Lib.indexByte s.data.toList 32 = p) (hn : (32 : UInt8) ∉ s.data.toList.drop (p + 1)) : wordsOf s = [s.extract 0 p, s.extract (p + 1) s.size] := by
  have hp : p < s.size := by
    have := (List.getElem?_eq_some_iff.1 (Lib.indexByte_some h).1).1
    simpa using this
  unfold wordsOf
  have e := spl_more h (s.size - (p + 1)) (fun i h1 h2 hc => hn (by
    have : (s.data.toList.drop (p + 1))[i - (p + 1)]? = some 32 := by rw [List.getElem?_drop, show p + 1 + (i - (p + 1)) = i by omega]; exact hc
    exact List.mem_of_getElem? this))
  rw [show p + 1 + (s.size - (p + 1)) = s.size by omega] at e
  rw [e]; rfl
theorem words_many {s : ByteArray} {p : Nat} (h : Lib.indexByte s.data.toList 32 = p) (hn : (32 : UInt8) ∈ s.data.toList.drop (p + 1)) : 3 ≤ (wordsOf s).length := by
  obtain ⟨i, hi⟩ := List.getElem?_of_mem hn
  rw [List.getElem?_drop] at hi
  have hl := (List.getElem?_eq_some_iff.1 hi).1
  have e := spl_two h (i := p + 1 + i) (by omega) hi (s.size - (p + 1 + i + 1))
  have hl' : p + 1 + i < s.size := by simpa using hl
  rw [show p + 1 + i + 1 + (s.size - (p + 1 + i + 1)) = s.size by omega] at e
  unfold wordsOf
  simp; omega
end Go.Proofs.YtdefhmpmgcahpaaDoor
