import Derived.Test.YtfdmohnmilecnaaDoorLenM
/-
  IsTimeless of both.
-/
set_option linter.unusedVariables false
set_option linter.unusedSimpArgs false
namespace Go.Proofs.YtfdmohnmilecnaaDoor
open Go.RowKit

/-- Steps that look at each number alone, whenever it comes. -/
def tmlSt (s : St) : Bool := decide (s.kind = 1) || decide (s.kind = 11) || decide (s.kind = 12) || decide (s.kind = 13)

theorem all_false {p : St → Bool} {ss : List St} {j : Nat} (hj : j < ss.length) (hf : p (ss.getD j default) = false) : ss.all p = false := by
  refine List.all_eq_false.2 ⟨ss[j], List.getElem_mem _, ?_⟩
  rw [List.getD_eq_getElem?_getD, List.getElem?_eq_getElem hj] at hf
  simpa using hf
theorem all_true {p : St → Bool} {ss : List St} (hall : ∀ j, j < ss.length → p (ss.getD j default) = true) : ss.all p = true := by
  refine List.all_eq_true.2 fun s hs => ?_
  obtain ⟨j, hj, rfl⟩ := List.getElem_of_mem hs
  have := hall j hj
  rwa [List.getD_eq_getElem?_getD, List.getElem?_eq_getElem hj] at this

set_option maxRecDepth 100000 in
set_option maxHeartbeats 4000000 in
theorem tml_model {w : World} {B b : Nat} {V : Value} {ss : List St} {tv : Nat → Value} (h : StepsO w B V ss.length ss.length ss tv) (hp : w.cell? ⟨b, 0, none⟩ = some V) :
    Calls Tryd.prog 86 #[.pointer (some ⟨b, 0, none⟩)] w fun e w' => e = .returned (.bool (ss.all tmlSt)) ∧ w' = w := by
  have HA := Lib.hid (fun j (hj : j < ss.length) => h.at hj (Nat.le_refl _))
  have hmax := h.len
  obtain ⟨a, cap, rfl⟩ := h.form
  have HF := Lib.hid (fun j (hj : j < ss.length) => all_false (p := tmlSt) hj)
  have HT := Lib.hid (all_true (p := tmlSt) (ss := ss))
  obtain ⟨A, hA⟩ : ∃ A, ss.all tmlSt = A := ⟨_, rfl⟩
  rw [hA] at HF HT ⊢
  obtain ⟨L, hL⟩ : ∃ L, ss.length = L := ⟨_, rfl⟩
  rw [hL] at HA HF HT hmax hp
  have hmx : (L : Int) ≤ 9223372036854775807 := by omega
  clear h hA hL hmax
  go_enter Tryd.func86, Tryd.ntmps86
  go_wp2
  go_loopw [3] (fun i wr => ∃ k : Nat, i = .int .i64 k ∧ k ≤ L ∧ (∀ j, j < k → tmlSt (ss.getD j default) = true) ∧ wr = w) (fun i _ => L - (intOf i).toNat)
  case atStart => exact ⟨0, rfl, Nat.zero_le _, fun j hj => by omega, rfl⟩
  case round =>
    obtain ⟨k, rfl, hk, hj, rfl⟩ := hrel
    have HJ := Lib.hid hj
    clear hj
    by_cases hlt : k < L
    · obtain ⟨g, cp, ta, tc, e, -, -, hg, -, c0, -⟩ := HA.out k hlt
      simp only [Value.slice.injEq] at e
      obtain ⟨rfl, -, rfl⟩ := e
      obtain ⟨S, hS⟩ : ∃ S, ss.getD k default = S := ⟨_, rfl⟩
      rw [hS] at c0
      obtain ⟨v, hv⟩ : ∃ v, tmlSt S = v := ⟨_, rfl⟩
      have HV : Hid (tmlSt (ss.getD k default) = v) := by show tmlSt (ss.getD k default) = v; rw [hS, ← hv]
      obtain ⟨kd, hkd⟩ : ∃ kd, S.kind = kd := ⟨_, rfl⟩
      unfold tmlSt at hv
      rw [hkd] at c0 hv
      clear hS hkd
      by_cases h1 : kd = 1
      · subst h1
        have e : v = true := by rw [← hv]; rfl
        subst e
        have HK : Hid (∀ j, j < k + 1 → tmlSt (ss.getD j default) = true) := fun j hj => by
          by_cases e : j = k
          · rw [e]; exact HV.out
          · exact HJ.out j (by omega)
        clear hv
        go_wp2
        go_roundw
        case rel => exact ⟨k + 1, by go_num, by omega, HK.out, (by first | rfl | trivial)⟩
        case measure => simp [intOf]; omega
      · by_cases h2 : kd = 11
        · subst h2
          have e : v = true := by rw [← hv]; rfl
          subst e
          have HK : Hid (∀ j, j < k + 1 → tmlSt (ss.getD j default) = true) := fun j hj => by
            by_cases e : j = k
            · rw [e]; exact HV.out
            · exact HJ.out j (by omega)
          clear hv h1
          go_wp2
          go_roundw
          case rel => exact ⟨k + 1, by go_num, by omega, HK.out, (by first | rfl | trivial)⟩
          case measure => simp [intOf]; omega
        · by_cases h3 : kd = 12
          · subst h3
            have e : v = true := by rw [← hv]; rfl
            subst e
            have HK : Hid (∀ j, j < k + 1 → tmlSt (ss.getD j default) = true) := fun j hj => by
              by_cases e : j = k
              · rw [e]; exact HV.out
              · exact HJ.out j (by omega)
            clear hv h1 h2
            go_wp2
            go_roundw
            case rel => exact ⟨k + 1, by go_num, by omega, HK.out, (by first | rfl | trivial)⟩
            case measure => simp [intOf]; omega
          · by_cases h4 : kd = 13
            · subst h4
              have e : v = true := by rw [← hv]; rfl
              subst e
              have HK : Hid (∀ j, j < k + 1 → tmlSt (ss.getD j default) = true) := fun j hj => by
                by_cases e : j = k
                · rw [e]; exact HV.out
                · exact HJ.out j (by omega)
              clear hv h1 h2 h3
              go_wp2
              go_roundw
              case rel => exact ⟨k + 1, by go_num, by omega, HK.out, (by first | rfl | trivial)⟩
              case measure => simp [intOf]; omega
            · have e : v = false := by rw [← hv]; simp [h1, h2, h3, h4]
              subst e
              have e : A = false := HF.out k hlt HV.out
              subst e
              have b1 : (kd == 1) = false := by simpa using h1
              have b2 : (kd == 11) = false := by simpa using h2
              have b3 : (kd == 12) = false := by simpa using h3
              have b4 : (kd == 13) = false := by simpa using h4
              clear hv HF HT HJ
              go_wp2
              go_ret
              exact ⟨rfl, rfl⟩
    · have e : k = L := by omega
      subst e
      have e : A = true := HT.out HJ.out
      subst e
      go_wp2
      go_ret
      exact ⟨rfl, rfl⟩

set_option maxRecDepth 100000 in
theorem isTimeless_spec {w : World} {B : Nat} {V : Value} {ss : List St} {tv : Nat → Value} (h : StepsO w B V ss.length ss.length ss tv) :
    Calls Tryd.prog 44 #[.agg #[V]] w fun e w' => e = .returned (.tuple #[.bool (validPl ss && ss.all tmlSt), .int .i64 (if validPl ss then 0 else 1)]) ∧ Below w.heap.size w w' := by
  obtain ⟨a, cap, rfl⟩ := h.form
  have hb : Below w.heap.size w (w.alloc (.cells #[.slice a ss.length cap] 43)) := (Below.refl _ _).alloc (Nat.le_refl _) _
  have p0 : (w.alloc (.cells #[.slice a ss.length cap] 43)).cell? ⟨w.heap.size, 0, none⟩ = some (.slice a ss.length cap) := by go_simp
  have hlt : w.heap.size < (w.alloc (.cells #[.slice a ss.length cap] 43)).heap.size := by simp
  have C := Lib.hid (l07Ok_any (b := w.heap.size) (h.below hb (Nat.le_refl _)) p0)
  have TM := Lib.hid (fun w1 (hb1 : Below (w.alloc (.cells #[.slice a ss.length cap] 43)).heap.size (w.alloc (.cells #[.slice a ss.length cap] 43)) w1) => tml_model (b := w.heap.size) ((h.below hb (Nat.le_refl _)).below hb1 (Nat.le_refl _)) ((hb1.cell hlt).trans p0))
  have HB := Lib.hid hb
  obtain ⟨A, hA⟩ : ∃ A, validPl ss = A := ⟨_, rfl⟩
  obtain ⟨D, hD⟩ : ∃ A, ss.all tmlSt = A := ⟨_, rfl⟩
  rw [hA] at C ⊢
  rw [hD] at TM ⊢
  clear h hb p0 hlt hA hD
  go_enter Tryd.func44, Tryd.ntmps44
  go_wp2_with fail
  refine C.out.mono ?_
  rintro e w1 ⟨rfl, hb1⟩
  have HB1 := Lib.hid (below_step' HB.out hb1 HB.out.size)
  have T1 := Lib.hid (TM.out w1 hb1)
  clear hb1 TM C
  cases A
  · go_wp2
    go_ret2
    exact ⟨rfl, HB1.out⟩
  · go_wp2_with fail
    refine T1.out.mono ?_
    rintro e w2 ⟨rfl, rfl⟩
    go_wp2
    go_ret2
    exact ⟨rfl, HB1.out⟩

section
variable (n k : Int) (t : Value) (w : World)
theorem tml_1 : Calls Tryd.prog 120 #[.iface 146 (.agg #[.int .i64 1, .int .i64 n, .int .i64 k, t])] w fun e w' => e = .returned (.bool false) ∧ w' = w := by
  have a1 : ∀ w : World, (Instr.typeAssert (.iface 146 (.agg #[.int .i64 1, .int .i64 n, .int .i64 k, t])) 109 146 true).run Tryd.prog w = .ok (.tuple #[.agg #[.int .i64 1, .int .i64 n, .int .i64 k, t], .bool true]) w := fun _ => by kernel_rfl
  have a11 : ∀ w : World, (Instr.typeAssert (.iface 146 (.agg #[.int .i64 1, .int .i64 n, .int .i64 k, t])) 109 147 true).run Tryd.prog w = .ok (.tuple #[.agg #[.int .i64 0, .int .i64 0, .int .i64 0, .slice none 0 0], .bool false]) w := fun _ => by kernel_rfl
  have a12 : ∀ w : World, (Instr.typeAssert (.iface 146 (.agg #[.int .i64 1, .int .i64 n, .int .i64 k, t])) 109 148 true).run Tryd.prog w = .ok (.tuple #[.agg #[.int .i64 0, .int .i64 0, .int .i64 0, .slice none 0 0], .bool false]) w := fun _ => by kernel_rfl
  have a13 : ∀ w : World, (Instr.typeAssert (.iface 146 (.agg #[.int .i64 1, .int .i64 n, .int .i64 k, t])) 109 149 true).run Tryd.prog w = .ok (.tuple #[.agg #[.int .i64 0, .int .i64 0, .int .i64 0, .slice none 0 0], .bool false]) w := fun _ => by kernel_rfl
  go_enter Tryd.func120, Tryd.ntmps120
  go_wp2
  go_ret
  exact ⟨rfl, rfl⟩
theorem tml_2 : Calls Tryd.prog 120 #[.iface 171 (.agg #[.int .i64 2, .int .i64 n, .int .i64 k, t])] w fun e w' => e = .returned (.bool true) ∧ w' = w := by
  have a1 : ∀ w : World, (Instr.typeAssert (.iface 171 (.agg #[.int .i64 2, .int .i64 n, .int .i64 k, t])) 109 146 true).run Tryd.prog w = .ok (.tuple #[.agg #[.int .i64 0, .int .i64 0, .int .i64 0, .slice none 0 0], .bool false]) w := fun _ => by kernel_rfl
  have a11 : ∀ w : World, (Instr.typeAssert (.iface 171 (.agg #[.int .i64 2, .int .i64 n, .int .i64 k, t])) 109 147 true).run Tryd.prog w = .ok (.tuple #[.agg #[.int .i64 0, .int .i64 0, .int .i64 0, .slice none 0 0], .bool false]) w := fun _ => by kernel_rfl
  have a12 : ∀ w : World, (Instr.typeAssert (.iface 171 (.agg #[.int .i64 2, .int .i64 n, .int .i64 k, t])) 109 148 true).run Tryd.prog w = .ok (.tuple #[.agg #[.int .i64 0, .int .i64 0, .int .i64 0, .slice none 0 0], .bool false]) w := fun _ => by kernel_rfl
  have a13 : ∀ w : World, (Instr.typeAssert (.iface 171 (.agg #[.int .i64 2, .int .i64 n, .int .i64 k, t])) 109 149 true).run Tryd.prog w = .ok (.tuple #[.agg #[.int .i64 0, .int .i64 0, .int .i64 0, .slice none 0 0], .bool false]) w := fun _ => by kernel_rfl
  go_enter Tryd.func120, Tryd.ntmps120
  go_wp2
  go_ret
  exact ⟨rfl, rfl⟩
theorem tml_3 : Calls Tryd.prog 120 #[.iface 172 (.agg #[.int .i64 3, .int .i64 n, .int .i64 k, t])] w fun e w' => e = .returned (.bool true) ∧ w' = w := by
  have a1 : ∀ w : World, (Instr.typeAssert (.iface 172 (.agg #[.int .i64 3, .int .i64 n, .int .i64 k, t])) 109 146 true).run Tryd.prog w = .ok (.tuple #[.agg #[.int .i64 0, .int .i64 0, .int .i64 0, .slice none 0 0], .bool false]) w := fun _ => by kernel_rfl
  have a11 : ∀ w : World, (Instr.typeAssert (.iface 172 (.agg #[.int .i64 3, .int .i64 n, .int .i64 k, t])) 109 147 true).run Tryd.prog w = .ok (.tuple #[.agg #[.int .i64 0, .int .i64 0, .int .i64 0, .slice none 0 0], .bool false]) w := fun _ => by kernel_rfl
  have a12 : ∀ w : World, (Instr.typeAssert (.iface 172 (.agg #[.int .i64 3, .int .i64 n, .int .i64 k, t])) 109 148 true).run Tryd.prog w = .ok (.tuple #[.agg #[.int .i64 0, .int .i64 0, .int .i64 0, .slice none 0 0], .bool false]) w := fun _ => by kernel_rfl
  have a13 : ∀ w : World, (Instr.typeAssert (.iface 172 (.agg #[.int .i64 3, .int .i64 n, .int .i64 k, t])) 109 149 true).run Tryd.prog w = .ok (.tuple #[.agg #[.int .i64 0, .int .i64 0, .int .i64 0, .slice none 0 0], .bool false]) w := fun _ => by kernel_rfl
  go_enter Tryd.func120, Tryd.ntmps120
  go_wp2
  go_ret
  exact ⟨rfl, rfl⟩
theorem tml_4 : Calls Tryd.prog 120 #[.iface 173 (.agg #[.int .i64 4, .int .i64 n, .int .i64 k, t])] w fun e w' => e = .returned (.bool true) ∧ w' = w := by
  have a1 : ∀ w : World, (Instr.typeAssert (.iface 173 (.agg #[.int .i64 4, .int .i64 n, .int .i64 k, t])) 109 146 true).run Tryd.prog w = .ok (.tuple #[.agg #[.int .i64 0, .int .i64 0, .int .i64 0, .slice none 0 0], .bool false]) w := fun _ => by kernel_rfl
  have a11 : ∀ w : World, (Instr.typeAssert (.iface 173 (.agg #[.int .i64 4, .int .i64 n, .int .i64 k, t])) 109 147 true).run Tryd.prog w = .ok (.tuple #[.agg #[.int .i64 0, .int .i64 0, .int .i64 0, .slice none 0 0], .bool false]) w := fun _ => by kernel_rfl
  have a12 : ∀ w : World, (Instr.typeAssert (.iface 173 (.agg #[.int .i64 4, .int .i64 n, .int .i64 k, t])) 109 148 true).run Tryd.prog w = .ok (.tuple #[.agg #[.int .i64 0, .int .i64 0, .int .i64 0, .slice none 0 0], .bool false]) w := fun _ => by kernel_rfl
  have a13 : ∀ w : World, (Instr.typeAssert (.iface 173 (.agg #[.int .i64 4, .int .i64 n, .int .i64 k, t])) 109 149 true).run Tryd.prog w = .ok (.tuple #[.agg #[.int .i64 0, .int .i64 0, .int .i64 0, .slice none 0 0], .bool false]) w := fun _ => by kernel_rfl
  go_enter Tryd.func120, Tryd.ntmps120
  go_wp2
  go_ret
  exact ⟨rfl, rfl⟩
theorem tml_5 : Calls Tryd.prog 120 #[.iface 174 (.agg #[.int .i64 5, .int .i64 n, .int .i64 k, t])] w fun e w' => e = .returned (.bool true) ∧ w' = w := by
  have a1 : ∀ w : World, (Instr.typeAssert (.iface 174 (.agg #[.int .i64 5, .int .i64 n, .int .i64 k, t])) 109 146 true).run Tryd.prog w = .ok (.tuple #[.agg #[.int .i64 0, .int .i64 0, .int .i64 0, .slice none 0 0], .bool false]) w := fun _ => by kernel_rfl
  have a11 : ∀ w : World, (Instr.typeAssert (.iface 174 (.agg #[.int .i64 5, .int .i64 n, .int .i64 k, t])) 109 147 true).run Tryd.prog w = .ok (.tuple #[.agg #[.int .i64 0, .int .i64 0, .int .i64 0, .slice none 0 0], .bool false]) w := fun _ => by kernel_rfl
  have a12 : ∀ w : World, (Instr.typeAssert (.iface 174 (.agg #[.int .i64 5, .int .i64 n, .int .i64 k, t])) 109 148 true).run Tryd.prog w = .ok (.tuple #[.agg #[.int .i64 0, .int .i64 0, .int .i64 0, .slice none 0 0], .bool false]) w := fun _ => by kernel_rfl
  have a13 : ∀ w : World, (Instr.typeAssert (.iface 174 (.agg #[.int .i64 5, .int .i64 n, .int .i64 k, t])) 109 149 true).run Tryd.prog w = .ok (.tuple #[.agg #[.int .i64 0, .int .i64 0, .int .i64 0, .slice none 0 0], .bool false]) w := fun _ => by kernel_rfl
  go_enter Tryd.func120, Tryd.ntmps120
  go_wp2
  go_ret
  exact ⟨rfl, rfl⟩
theorem tml_6 : Calls Tryd.prog 120 #[.iface 175 (.agg #[.int .i64 6, .int .i64 n, .int .i64 k, t])] w fun e w' => e = .returned (.bool true) ∧ w' = w := by
  have a1 : ∀ w : World, (Instr.typeAssert (.iface 175 (.agg #[.int .i64 6, .int .i64 n, .int .i64 k, t])) 109 146 true).run Tryd.prog w = .ok (.tuple #[.agg #[.int .i64 0, .int .i64 0, .int .i64 0, .slice none 0 0], .bool false]) w := fun _ => by kernel_rfl
  have a11 : ∀ w : World, (Instr.typeAssert (.iface 175 (.agg #[.int .i64 6, .int .i64 n, .int .i64 k, t])) 109 147 true).run Tryd.prog w = .ok (.tuple #[.agg #[.int .i64 0, .int .i64 0, .int .i64 0, .slice none 0 0], .bool false]) w := fun _ => by kernel_rfl
  have a12 : ∀ w : World, (Instr.typeAssert (.iface 175 (.agg #[.int .i64 6, .int .i64 n, .int .i64 k, t])) 109 148 true).run Tryd.prog w = .ok (.tuple #[.agg #[.int .i64 0, .int .i64 0, .int .i64 0, .slice none 0 0], .bool false]) w := fun _ => by kernel_rfl
  have a13 : ∀ w : World, (Instr.typeAssert (.iface 175 (.agg #[.int .i64 6, .int .i64 n, .int .i64 k, t])) 109 149 true).run Tryd.prog w = .ok (.tuple #[.agg #[.int .i64 0, .int .i64 0, .int .i64 0, .slice none 0 0], .bool false]) w := fun _ => by kernel_rfl
  go_enter Tryd.func120, Tryd.ntmps120
  go_wp2
  go_ret
  exact ⟨rfl, rfl⟩
theorem tml_7 : Calls Tryd.prog 120 #[.iface 177 (.agg #[.int .i64 7, .int .i64 n, .int .i64 k, t])] w fun e w' => e = .returned (.bool true) ∧ w' = w := by
  have a1 : ∀ w : World, (Instr.typeAssert (.iface 177 (.agg #[.int .i64 7, .int .i64 n, .int .i64 k, t])) 109 146 true).run Tryd.prog w = .ok (.tuple #[.agg #[.int .i64 0, .int .i64 0, .int .i64 0, .slice none 0 0], .bool false]) w := fun _ => by kernel_rfl
  have a11 : ∀ w : World, (Instr.typeAssert (.iface 177 (.agg #[.int .i64 7, .int .i64 n, .int .i64 k, t])) 109 147 true).run Tryd.prog w = .ok (.tuple #[.agg #[.int .i64 0, .int .i64 0, .int .i64 0, .slice none 0 0], .bool false]) w := fun _ => by kernel_rfl
  have a12 : ∀ w : World, (Instr.typeAssert (.iface 177 (.agg #[.int .i64 7, .int .i64 n, .int .i64 k, t])) 109 148 true).run Tryd.prog w = .ok (.tuple #[.agg #[.int .i64 0, .int .i64 0, .int .i64 0, .slice none 0 0], .bool false]) w := fun _ => by kernel_rfl
  have a13 : ∀ w : World, (Instr.typeAssert (.iface 177 (.agg #[.int .i64 7, .int .i64 n, .int .i64 k, t])) 109 149 true).run Tryd.prog w = .ok (.tuple #[.agg #[.int .i64 0, .int .i64 0, .int .i64 0, .slice none 0 0], .bool false]) w := fun _ => by kernel_rfl
  go_enter Tryd.func120, Tryd.ntmps120
  go_wp2
  go_ret
  exact ⟨rfl, rfl⟩
theorem tml_8 : Calls Tryd.prog 120 #[.iface 178 (.agg #[.int .i64 8, .int .i64 n, .int .i64 k, t])] w fun e w' => e = .returned (.bool true) ∧ w' = w := by
  have a1 : ∀ w : World, (Instr.typeAssert (.iface 178 (.agg #[.int .i64 8, .int .i64 n, .int .i64 k, t])) 109 146 true).run Tryd.prog w = .ok (.tuple #[.agg #[.int .i64 0, .int .i64 0, .int .i64 0, .slice none 0 0], .bool false]) w := fun _ => by kernel_rfl
  have a11 : ∀ w : World, (Instr.typeAssert (.iface 178 (.agg #[.int .i64 8, .int .i64 n, .int .i64 k, t])) 109 147 true).run Tryd.prog w = .ok (.tuple #[.agg #[.int .i64 0, .int .i64 0, .int .i64 0, .slice none 0 0], .bool false]) w := fun _ => by kernel_rfl
  have a12 : ∀ w : World, (Instr.typeAssert (.iface 178 (.agg #[.int .i64 8, .int .i64 n, .int .i64 k, t])) 109 148 true).run Tryd.prog w = .ok (.tuple #[.agg #[.int .i64 0, .int .i64 0, .int .i64 0, .slice none 0 0], .bool false]) w := fun _ => by kernel_rfl
  have a13 : ∀ w : World, (Instr.typeAssert (.iface 178 (.agg #[.int .i64 8, .int .i64 n, .int .i64 k, t])) 109 149 true).run Tryd.prog w = .ok (.tuple #[.agg #[.int .i64 0, .int .i64 0, .int .i64 0, .slice none 0 0], .bool false]) w := fun _ => by kernel_rfl
  go_enter Tryd.func120, Tryd.ntmps120
  go_wp2
  go_ret
  exact ⟨rfl, rfl⟩
theorem tml_9 : Calls Tryd.prog 120 #[.iface 179 (.agg #[.int .i64 9, .int .i64 n, .int .i64 k, t])] w fun e w' => e = .returned (.bool true) ∧ w' = w := by
  have a1 : ∀ w : World, (Instr.typeAssert (.iface 179 (.agg #[.int .i64 9, .int .i64 n, .int .i64 k, t])) 109 146 true).run Tryd.prog w = .ok (.tuple #[.agg #[.int .i64 0, .int .i64 0, .int .i64 0, .slice none 0 0], .bool false]) w := fun _ => by kernel_rfl
  have a11 : ∀ w : World, (Instr.typeAssert (.iface 179 (.agg #[.int .i64 9, .int .i64 n, .int .i64 k, t])) 109 147 true).run Tryd.prog w = .ok (.tuple #[.agg #[.int .i64 0, .int .i64 0, .int .i64 0, .slice none 0 0], .bool false]) w := fun _ => by kernel_rfl
  have a12 : ∀ w : World, (Instr.typeAssert (.iface 179 (.agg #[.int .i64 9, .int .i64 n, .int .i64 k, t])) 109 148 true).run Tryd.prog w = .ok (.tuple #[.agg #[.int .i64 0, .int .i64 0, .int .i64 0, .slice none 0 0], .bool false]) w := fun _ => by kernel_rfl
  have a13 : ∀ w : World, (Instr.typeAssert (.iface 179 (.agg #[.int .i64 9, .int .i64 n, .int .i64 k, t])) 109 149 true).run Tryd.prog w = .ok (.tuple #[.agg #[.int .i64 0, .int .i64 0, .int .i64 0, .slice none 0 0], .bool false]) w := fun _ => by kernel_rfl
  go_enter Tryd.func120, Tryd.ntmps120
  go_wp2
  go_ret
  exact ⟨rfl, rfl⟩
theorem tml_10 : Calls Tryd.prog 120 #[.iface 180 (.agg #[.int .i64 10, .int .i64 n, .int .i64 k, t])] w fun e w' => e = .returned (.bool true) ∧ w' = w := by
  have a1 : ∀ w : World, (Instr.typeAssert (.iface 180 (.agg #[.int .i64 10, .int .i64 n, .int .i64 k, t])) 109 146 true).run Tryd.prog w = .ok (.tuple #[.agg #[.int .i64 0, .int .i64 0, .int .i64 0, .slice none 0 0], .bool false]) w := fun _ => by kernel_rfl
  have a11 : ∀ w : World, (Instr.typeAssert (.iface 180 (.agg #[.int .i64 10, .int .i64 n, .int .i64 k, t])) 109 147 true).run Tryd.prog w = .ok (.tuple #[.agg #[.int .i64 0, .int .i64 0, .int .i64 0, .slice none 0 0], .bool false]) w := fun _ => by kernel_rfl
  have a12 : ∀ w : World, (Instr.typeAssert (.iface 180 (.agg #[.int .i64 10, .int .i64 n, .int .i64 k, t])) 109 148 true).run Tryd.prog w = .ok (.tuple #[.agg #[.int .i64 0, .int .i64 0, .int .i64 0, .slice none 0 0], .bool false]) w := fun _ => by kernel_rfl
  have a13 : ∀ w : World, (Instr.typeAssert (.iface 180 (.agg #[.int .i64 10, .int .i64 n, .int .i64 k, t])) 109 149 true).run Tryd.prog w = .ok (.tuple #[.agg #[.int .i64 0, .int .i64 0, .int .i64 0, .slice none 0 0], .bool false]) w := fun _ => by kernel_rfl
  go_enter Tryd.func120, Tryd.ntmps120
  go_wp2
  go_ret
  exact ⟨rfl, rfl⟩
theorem tml_11 : Calls Tryd.prog 120 #[.iface 147 (.agg #[.int .i64 11, .int .i64 n, .int .i64 k, t])] w fun e w' => e = .returned (.bool false) ∧ w' = w := by
  have a1 : ∀ w : World, (Instr.typeAssert (.iface 147 (.agg #[.int .i64 11, .int .i64 n, .int .i64 k, t])) 109 146 true).run Tryd.prog w = .ok (.tuple #[.agg #[.int .i64 0, .int .i64 0, .int .i64 0, .slice none 0 0], .bool false]) w := fun _ => by kernel_rfl
  have a11 : ∀ w : World, (Instr.typeAssert (.iface 147 (.agg #[.int .i64 11, .int .i64 n, .int .i64 k, t])) 109 147 true).run Tryd.prog w = .ok (.tuple #[.agg #[.int .i64 11, .int .i64 n, .int .i64 k, t], .bool true]) w := fun _ => by kernel_rfl
  have a12 : ∀ w : World, (Instr.typeAssert (.iface 147 (.agg #[.int .i64 11, .int .i64 n, .int .i64 k, t])) 109 148 true).run Tryd.prog w = .ok (.tuple #[.agg #[.int .i64 0, .int .i64 0, .int .i64 0, .slice none 0 0], .bool false]) w := fun _ => by kernel_rfl
  have a13 : ∀ w : World, (Instr.typeAssert (.iface 147 (.agg #[.int .i64 11, .int .i64 n, .int .i64 k, t])) 109 149 true).run Tryd.prog w = .ok (.tuple #[.agg #[.int .i64 0, .int .i64 0, .int .i64 0, .slice none 0 0], .bool false]) w := fun _ => by kernel_rfl
  go_enter Tryd.func120, Tryd.ntmps120
  go_wp2
  go_ret
  exact ⟨rfl, rfl⟩
theorem tml_12 : Calls Tryd.prog 120 #[.iface 148 (.agg #[.int .i64 12, .int .i64 n, .int .i64 k, t])] w fun e w' => e = .returned (.bool false) ∧ w' = w := by
  have a1 : ∀ w : World, (Instr.typeAssert (.iface 148 (.agg #[.int .i64 12, .int .i64 n, .int .i64 k, t])) 109 146 true).run Tryd.prog w = .ok (.tuple #[.agg #[.int .i64 0, .int .i64 0, .int .i64 0, .slice none 0 0], .bool false]) w := fun _ => by kernel_rfl
  have a11 : ∀ w : World, (Instr.typeAssert (.iface 148 (.agg #[.int .i64 12, .int .i64 n, .int .i64 k, t])) 109 147 true).run Tryd.prog w = .ok (.tuple #[.agg #[.int .i64 0, .int .i64 0, .int .i64 0, .slice none 0 0], .bool false]) w := fun _ => by kernel_rfl
  have a12 : ∀ w : World, (Instr.typeAssert (.iface 148 (.agg #[.int .i64 12, .int .i64 n, .int .i64 k, t])) 109 148 true).run Tryd.prog w = .ok (.tuple #[.agg #[.int .i64 12, .int .i64 n, .int .i64 k, t], .bool true]) w := fun _ => by kernel_rfl
  have a13 : ∀ w : World, (Instr.typeAssert (.iface 148 (.agg #[.int .i64 12, .int .i64 n, .int .i64 k, t])) 109 149 true).run Tryd.prog w = .ok (.tuple #[.agg #[.int .i64 0, .int .i64 0, .int .i64 0, .slice none 0 0], .bool false]) w := fun _ => by kernel_rfl
  go_enter Tryd.func120, Tryd.ntmps120
  go_wp2
  go_ret
  exact ⟨rfl, rfl⟩
theorem tml_13 : Calls Tryd.prog 120 #[.iface 149 (.agg #[.int .i64 13, .int .i64 n, .int .i64 k, t])] w fun e w' => e = .returned (.bool false) ∧ w' = w := by
  have a1 : ∀ w : World, (Instr.typeAssert (.iface 149 (.agg #[.int .i64 13, .int .i64 n, .int .i64 k, t])) 109 146 true).run Tryd.prog w = .ok (.tuple #[.agg #[.int .i64 0, .int .i64 0, .int .i64 0, .slice none 0 0], .bool false]) w := fun _ => by kernel_rfl
  have a11 : ∀ w : World, (Instr.typeAssert (.iface 149 (.agg #[.int .i64 13, .int .i64 n, .int .i64 k, t])) 109 147 true).run Tryd.prog w = .ok (.tuple #[.agg #[.int .i64 0, .int .i64 0, .int .i64 0, .slice none 0 0], .bool false]) w := fun _ => by kernel_rfl
  have a12 : ∀ w : World, (Instr.typeAssert (.iface 149 (.agg #[.int .i64 13, .int .i64 n, .int .i64 k, t])) 109 148 true).run Tryd.prog w = .ok (.tuple #[.agg #[.int .i64 0, .int .i64 0, .int .i64 0, .slice none 0 0], .bool false]) w := fun _ => by kernel_rfl
  have a13 : ∀ w : World, (Instr.typeAssert (.iface 149 (.agg #[.int .i64 13, .int .i64 n, .int .i64 k, t])) 109 149 true).run Tryd.prog w = .ok (.tuple #[.agg #[.int .i64 13, .int .i64 n, .int .i64 k, t], .bool true]) w := fun _ => by kernel_rfl
  go_enter Tryd.func120, Tryd.ntmps120
  go_wp2
  go_ret
  exact ⟨rfl, rfl⟩

end

theorem enter_tml (args : Array Value) (w : World) : (callFunc 120 args).run Tryd.prog w = .ok (.enter 120 args) w := by kernel_rfl

theorem tml1_any (s : St) (hk : 1 ≤ s.kind ∧ s.kind ≤ 13) (t : Value) (w : World) :
    Calls Tryd.prog 120 #[ifV s t] w fun e w' => e = .returned (.bool (!tmlSt s)) ∧ w' = w := by
  obtain ⟨kd, n, k, taps⟩ := s
  simp only at hk
  rcases kind_cases hk with rfl | rfl | rfl | rfl | rfl | rfl | rfl | rfl | rfl | rfl | rfl | rfl | rfl
  · exact tml_1 n k t w
  · exact tml_2 n k t w
  · exact tml_3 n k t w
  · exact tml_4 n k t w
  · exact tml_5 n k t w
  · exact tml_6 n k t w
  · exact tml_7 n k t w
  · exact tml_8 n k t w
  · exact tml_9 n k t w
  · exact tml_10 n k t w
  · exact tml_11 n k t w
  · exact tml_12 n k t w
  · exact tml_13 n k t w

/-- How a row of steps that can be run is read. -/
theorem chain_find {w : World} {B L : Nat} {V : Value} {ss : List St} {tv : Nat → Value} (h : Row w B 109 V (ifVs ss tv L)) :
    ∃ a cap, V = .slice a L cap ∧ (L : Int) ≤ 9223372036854775807 ∧ ∀ j, j < L → ∃ g, a = some ⟨g, 0, none⟩ ∧ g < w.heap.size ∧ w.cell? ⟨g, j, none⟩ = some (ifV (ss.getD j default) (tv j)) := by
  have h' := h
  rcases h.shape with ⟨a, cap, rfl, e⟩ | ⟨g, cap, rfl, h0, _, hg, h1, h2⟩
  · have e := congrArg List.length e
    rw [ifVs_length] at e
    simp at e
    subst e
    exact ⟨a, cap, rfl, by simp, fun j hj => by omega⟩
  · rw [ifVs_length] at h1 h' ⊢
    refine ⟨_, cap, rfl, by unfold maxLen at h2; omega, fun j hj => ⟨g, rfl, hg, ?_⟩⟩
    rw [h'.cellAt hj, ifVs_getD hj]

set_option maxRecDepth 100000 in
set_option maxHeartbeats 4000000 in
theorem indexTml_any {w : World} {B : Nat} {V : Value} {ss : List St} {tv : Nat → Value} (h : Row w B 109 V (ifVs ss tv ss.length)) (hk : ∀ j, j < ss.length → 1 ≤ (ss.getD j default).kind ∧ (ss.getD j default).kind ≤ 13) :
    Calls Tryd.prog 141 #[V, .func (.func 120) #[] #[]] w fun e w' => ∃ r : Int, e = .returned (.int .i64 r) ∧ decide (0 ≤ r) = !ss.all tmlSt ∧ w' = w := by
  obtain ⟨a, cap, rfl, hmx, hrd⟩ := chain_find h
  have HRD := Lib.hid hrd
  have HKD := Lib.hid hk
  have HF := Lib.hid (fun j (hj : j < ss.length) => all_false (p := tmlSt) hj)
  have HT := Lib.hid (all_true (p := tmlSt) (ss := ss))
  obtain ⟨A, hA⟩ : ∃ A, ss.all tmlSt = A := ⟨_, rfl⟩
  rw [hA] at HF HT ⊢
  obtain ⟨L, hL⟩ : ∃ L, ss.length = L := ⟨_, rfl⟩
  rw [hL] at HRD HKD HF HT hmx ⊢
  have hfn := enter_tml
  clear h hrd hA hL hk
  go_enter Tryd.func141, Tryd.ntmps141
  go_wp2
  go_loopw [8] (fun i wr => ∃ k : Nat, i = .int .i64 k ∧ k ≤ L ∧ (∀ j, j < k → tmlSt (ss.getD j default) = true) ∧ wr = w) (fun i _ => L - (intOf i).toNat)
  case atStart => exact ⟨0, rfl, Nat.zero_le _, fun j hj => by omega, rfl⟩
  case round =>
    obtain ⟨k, rfl, hk, hj, rfl⟩ := hrel
    have HJ := Lib.hid hj
    clear hj
    by_cases hlt : k < L
    · obtain ⟨g, rfl, hg, c0⟩ := HRD.out k hlt
      have C := tml1_any (ss.getD k default) (HKD.out k hlt) (tv k) wr
      obtain ⟨z, hz⟩ : ∃ z, ifV (ss.getD k default) (tv k) = z := ⟨_, rfl⟩
      rw [hz] at c0 C
      obtain ⟨v, hv⟩ : ∃ v, tmlSt (ss.getD k default) = v := ⟨_, rfl⟩
      rw [hv] at C
      have HV := Lib.hid hv
      have C := Lib.hid C
      obtain ⟨zt, zu, rfl⟩ : ∃ t u, z = .iface t u := ⟨_, _, hz.symm⟩
      clear hz hv
      go_wp2_with fail
      with_reducible refine C.out.mono ?_
      rintro e w2 ⟨rfl, rfl⟩
      cases v
      · have e : A = false := HF.out k hlt HV.out
        subst e
        go_wp2
        go_ret
        exact ⟨_, rfl, decide_eq_true (by omega), rfl⟩
      · have HK : Hid (∀ j, j < k + 1 → tmlSt (ss.getD j default) = true) := fun j hj => by
          by_cases e : j = k
          · rw [e]; exact HV.out
          · exact HJ.out j (by omega)
        go_wp2
        go_roundw
        case rel => exact ⟨k + 1, by go_num, by omega, HK.out, (by first | rfl | trivial)⟩
        case measure => simp [intOf]; omega
    · have e : k = L := by omega
      subst e
      have e : A = true := HT.out HJ.out
      subst e
      go_wp2
      go_ret
      exact ⟨_, rfl, by decide, rfl⟩

set_option maxRecDepth 100000 in
theorem tmlChain_any {w : World} {B : Nat} {V : Value} {ss : List St} {tv : Nat → Value} (h : Row w B 109 V (ifVs ss tv ss.length)) (hk : ∀ j, j < ss.length → 1 ≤ (ss.getD j default).kind ∧ (ss.getD j default).kind ≤ 13) :
    Calls Tryd.prog 87 #[V] w fun e w' => e = .returned (.bool (ss.all tmlSt)) ∧ w' = w := by
  have I := indexTml_any h hk
  obtain ⟨a, cap, rfl, -⟩ := chain_find h
  have CF : Calls Tryd.prog 119 #[.slice a ss.length cap, .func (.func 120) #[] #[]] w fun e w' => e = .returned (.bool (!ss.all tmlSt)) ∧ w' = w := by
    have I := Lib.hid I
    clear h hk
    go_enter Tryd.func119, Tryd.ntmps119
    go_wp2_with fail
    with_reducible refine I.out.mono ?_
    rintro e w' ⟨r, rfl, hr, rfl⟩
    have HR := Lib.hid hr
    clear hr
    go_wp2
    go_ret
    exact ⟨by rw [← HR.out]; rfl, rfl⟩
  have CF := Lib.hid CF
  obtain ⟨A, hA⟩ : ∃ A, ss.all tmlSt = A := ⟨_, rfl⟩
  rw [hA] at CF ⊢
  clear h hk I hA
  go_enter Tryd.func87, Tryd.ntmps87
  go_wp2_with fail
  with_reducible refine CF.out.mono ?_
  rintro e w' ⟨rfl, rfl⟩
  go_wp2
  go_ret
  exact ⟨by simp, rfl⟩

set_option maxRecDepth 100000 in
set_option maxHeartbeats 4000000 in
theorem isTimeless_impl {w : World} {B : Nat} {V : Value} {ss : List St} {tv : Nat → Value} (h : StepsO w B V ss.length ss.length ss tv) (ht : Tab w) :
    Calls Tryd.prog 45 #[.agg #[V]] w fun e w' => e = .returned (.tuple #[.bool (validPl ss && ss.all tmlSt), .int .i64 (if validPl ss then 0 else 1)]) ∧ Below w.heap.size w w' := by
  obtain ⟨a, cap, rfl⟩ := h.form
  have hb : Below w.heap.size w (w.alloc (.cells #[.slice a ss.length cap] 43)) := (Below.refl _ _).alloc (Nat.le_refl _) _
  have PO := Lib.hid (planOf_any (h.below hb (Nat.le_refl _)) (ht.below hb))
  have HB := Lib.hid hb
  have HSB := Lib.hid (fun (hv : validPl ss = true) => validPl_st hv)
  unfold PlanTo at PO
  obtain ⟨A, hA⟩ : ∃ A, validPl ss = A := ⟨_, rfl⟩
  rw [hA] at PO HSB ⊢
  clear h ht hb hA
  go_enter Tryd.func45, Tryd.ntmps45
  go_wp2_with fail
  with_reducible refine PO.out.mono ?_
  rintro e w1 ⟨V', rfl, hV, hb1⟩
  have HB1 := Lib.hid (below_step' HB.out hb1 HB.out.size)
  clear hb1 PO
  cases A
  · have e : V' = .slice none 0 0 := by simpa using hV
    subst e
    clear hV
    simp only [Bool.false_eq_true, if_false]
    go_wp2
    go_ret2
    exact ⟨rfl, HB1.out.alloc HB1.out.size _⟩
  · have hR : Row w1 (w.alloc (.cells #[.slice a ss.length cap] 43)).heap.size 109 V' (ifVs ss tv ss.length) := by simpa using hV
    have hb2 : Below w1.heap.size w1 (w1.alloc (.cells #[V'] 102)) := (Below.refl _ _).alloc (Nat.le_refl _) _
    have TC := Lib.hid (tmlChain_any (hR.below hb2 (fun k e => (hR.lt k e).2)) (fun j hj => ⟨(HSB.out rfl j hj).k1, (HSB.out rfl j hj).k2⟩))
    obtain ⟨a', c', rfl⟩ := hR.form
    have HB2 := Lib.hid (below_step' HB1.out hb2 HB1.out.size)
    rw [ifVs_length] at TC HB2 ⊢
    simp only [if_true]
    clear hR hV hb2 HSB
    go_wp2_with fail
    with_reducible refine TC.out.mono ?_
    rintro e w2 ⟨rfl, rfl⟩
    go_wp2
    go_ret2
    exact ⟨by simp, HB2.out⟩

end Go.Proofs.YtfdmohnmilecnaaDoor
