import Derived.Test.YtalhmppgmgfilaaListC
/-
  The walk of the law on TurnsOf.
-/
set_option linter.unusedVariables false
set_option linter.unusedSimpArgs false
namespace Go.Proofs.Ytalhmppgmgfilaa
open Go.RowKit Flt Turn

theorem World.ownsRow_base {w : World} {B B' : Nat} {e : TypeId} {v : Value} {cs : List Value} (h : Row w B' e v cs) (hB : B ≤ B') : Row w B e v cs := by
  refine ⟨h.1, ?_⟩
  rcases h.2 with hn | ⟨g, cap, cur, rfl, hb, r⟩
  · exact .inl hn
  · exact .inr ⟨g, cap, cur, rfl, Nat.le_trans hB hb, r⟩

/-- What TurnsOf returns. -/
def TurnsR (n : Int) (w : World) (e : Ending) (w' : World) : Prop :=
  ∃ v xs c, e = .returned (.tuple #[v, .int .i64 c]) ∧ Row w' w.heap.size 24 v (cvals xs) ∧ Below w.heap.size w w' ∧
    ((∃ m : Nat, n = m ∧ 1 ≤ m ∧ m ≤ 1024 ∧ c = 0 ∧ xs.length = m ∧ ∀ i, i < m → IsC (xs.getD i (0, 0)) (turn m i)) ∨ (¬ (1 ≤ n ∧ n ≤ 1024) ∧ xs = [] ∧ c = 2))

theorem enter_TurnsOf1 (args : Array Value) (w : World) : (callFunc 41 args).run Try.prog w = .ok (.enter 41 args) w := by kernel_rfl

/-- What the closure finds: its cache and the number. -/
def HasTurns (B0 B1 B2 n c : Nat) (w : World) : Prop := Cache w B1 c ∧ w.cell? ⟨B2, 0, none⟩ = some (.map (some B1)) ∧ w.cell? ⟨B0, 0, none⟩ = some (.int .i64 n)

theorem HasTurns.kept {B0 B1 B2 n c : Nat} {w w' : World} {row : Option Nat} (h : HasTurns B0 B1 B2 n c w) (hg : w.grownBy w' row) (h0 : some B0 ≠ row) (h1 : some B1 ≠ row) (h2 : some B2 ≠ row) : HasTurns B0 B1 B2 n c w' :=
  ⟨h.1.kept hg h1, hg.cell h.2.1 h2, hg.cell h.2.2 h0⟩

set_option maxRecDepth 100000 in
theorem turnsOf1_any (B0 B1 B2 n k c : Nat) (w : World) (hn : 0 < n) (hn2 : n ≤ 100000) (hk : k ≤ n) (hc : c ≤ 4000000000000000000) (h02 : B0 ≠ B1) (h12 : B2 ≠ B1) (h : HasTurns B0 B1 B2 n c w) :
    Calls Try.prog 41 #[.int .i64 k, .pointer (some ⟨B2, 0, none⟩), .pointer (some ⟨B0, 0, none⟩)] w fun e w2 => ∃ p : C, e = .returned (cval p) ∧ IsC p (turn n k) ∧ HasTurns B0 B1 B2 n (c + 8) w2 ∧ w.grownBy w2 (some B1) := by
  obtain ⟨h1, h2, h3⟩ := h
  have T := turn_cache n k B1 c w hn hn2 hk h1 hc
  have H2 := Lib.hid h2
  have H3 := Lib.hid h3
  clear h1
  go_enter Try.func41, Try.ntmps41
  go_wp2_with fail
  refine T.mono ?_
  rintro e w2 ⟨a, b, rfl, ha, hb, hc2, hg2⟩
  have HR : Hid (IsC (a, b) (turn n k)) := ⟨ha, hb⟩
  have HH : Hid (HasTurns B0 B1 B2 n (c + 8) w2) := ⟨hc2, hg2.cell H2.out (by simpa using h12), hg2.cell H3.out (by simpa using h02)⟩
  have HG := Lib.hid hg2
  clear ha hb hc2 hg2 T h2 h3
  go_wp2
  go_ret
  exact ⟨(a, b), rfl, HR.out, HH.out, HG.out⟩

set_option maxRecDepth 100000 in
set_option maxHeartbeats 4000000 in
theorem turnsOf_impl (n : Int) (w : World) :
    Calls Try.prog 19 #[.int .i64 n] w (TurnsR n w) := by
  by_cases a1 : 1 ≤ n
  · by_cases a2 : n ≤ 1024
    · obtain ⟨m, rfl⟩ : ∃ m : Nat, n = m := ⟨n.toNat, by omega⟩
      have b1 : 1 ≤ m := by omega
      have b2 : m ≤ 1024 := by omega
      have g1 : decide (1 ≤ (m : Int)) = true := by simp <;> omega
      have g2 : decide ((m : Int) ≤ 1024) = true := by simp <;> omega
      have hmm := @run_makeMap Try.prog
      clear a1 a2
      go_enter Try.func19, Try.ntmps19
      go_wp2_with (go_at_call 38; go_in)
      have hH : HasTurns w.heap.size (w.heap.size + 1) (w.heap.size + 1 + 1) m 0 (((w.alloc (.cells #[.int .i64 m] 2)).alloc (.map #[] 0)).alloc (.cells #[.map (some (w.heap.size + 1))] 65)) := by
        refine ⟨?_, by go_simp, by go_simp⟩
        have := (Cache.made (w.alloc (.cells #[.int .i64 m] 2))).alloc (.cells #[.map (some (w.heap.size + 1))] 65)
        simpa using this
      have hG : Below w.heap.size w (((w.alloc (.cells #[.int .i64 m] 2)).alloc (.map #[] 0)).alloc (.cells #[.map (some (w.heap.size + 1))] 65)) :=
        (((Below.refl _ _).alloc (Nat.le_refl _) _).alloc (by simp) _).alloc (by simp; omega) _
      have hsz : (((w.alloc (.cells #[.int .i64 m] 2)).alloc (.map #[] 0)).alloc (.cells #[.map (some (w.heap.size + 1))] 65)).heap.size = w.heap.size + 3 := by simp
      generalize (((w.alloc (.cells #[.int .i64 m] 2)).alloc (.map #[] 0)).alloc (.cells #[.map (some (w.heap.size + 1))] 65)) = W at hH hG hsz ⊢
      refine (listOf_c128 41 _ m (by omega) (turn m) (fun i w' => HasTurns w.heap.size (w.heap.size + 1) (w.heap.size + 1 + 1) m (8 * i) w') (some (w.heap.size + 1)) W enter_TurnsOf1
        (fun k hk => by cases hk; omega) (fun w' hg => hH.kept hg (by simp) (by simp) (by simp)) (fun i w1 w2 hs h hg => h.kept hg (by simp; omega) (by simp; omega) (by simp; omega)) ?_).mono ?_
      · intro i w1 hi hs hI
        exact (turnsOf1_any _ _ _ m i (8 * i) w1 (by omega) (by omega) (by omega) (by omega) (by omega) (by omega) hI).mono (fun e w2 ⟨p, he, hp, hh, hg⟩ => ⟨p, he, hp, by rw [show 8 * (i + 1) = 8 * i + 8 by omega]; exact hh, hg⟩)
      · rintro e w2 ⟨v, xs, rfl, hr, hx, hgd, -, hg⟩
        have HR : Hid (Row w2 w.heap.size 24 v (cvals xs)) := World.ownsRow_base hr (by omega)
        have HX := Lib.hid hx
        have HGD := Lib.hid hgd
        have HB := Lib.hid (hG.grown hg (by omega) (fun b e => by cases e; omega))
        clear hr hx hgd hg hH hG hsz hmm
        go_wp2
        go_ret2
        exact ⟨_, xs, 0, rfl, HR.out, HB.out, .inl ⟨m, rfl, b1, b2, rfl, HX.out, HGD.out⟩⟩
    · have hn : ¬ (1 ≤ n ∧ n ≤ 1024) := by omega
      have HN := Lib.hid hn
      have g1 : decide (1 ≤ n) = true := by simp <;> omega
      have g2 : decide (n ≤ 1024) = false := by simp <;> omega
      clear hn a1 a2
      go_enter Try.func19, Try.ntmps19
      go_wp2_with (go_at_call 38; go_in)
      go_ret2
      exact ⟨_, [], 2, rfl, World.ownsRow_nil _ _ _ _, (Below.refl _ _).alloc (Nat.le_refl _) _, .inr ⟨HN.out, rfl, rfl⟩⟩
  · have hn : ¬ (1 ≤ n ∧ n ≤ 1024) := by omega
    have HN := Lib.hid hn
    have g1 : decide (1 ≤ n) = false := by simp <;> omega
    clear hn a1
    go_enter Try.func19, Try.ntmps19
    go_wp2_with (go_at_call 38; go_in)
    go_ret2
    exact ⟨_, [], 2, rfl, World.ownsRow_nil _ _ _ _, (Below.refl _ _).alloc (Nat.le_refl _) _, .inr ⟨HN.out, rfl, rfl⟩⟩

/-- TurnsOf of both is one, up to NaNs. -/
theorem turnsR_same {n c c' : Int} {xs ys : List C}
    (h : (∃ m : Nat, n = m ∧ 1 ≤ m ∧ m ≤ 1024 ∧ c = 0 ∧ xs.length = m ∧ ∀ i, i < m → IsC (xs.getD i (0, 0)) (turn m i)) ∨ (¬ (1 ≤ n ∧ n ≤ 1024) ∧ xs = [] ∧ c = 2))
    (h' : (∃ m : Nat, n = m ∧ 1 ≤ m ∧ m ≤ 1024 ∧ c' = 0 ∧ ys.length = m ∧ ∀ i, i < m → IsC (ys.getD i (0, 0)) (turn m i)) ∨ (¬ (1 ≤ n ∧ n ≤ 1024) ∧ ys = [] ∧ c' = 2)) :
    c = c' ∧ xs.length = ys.length ∧ (∀ j, j < ys.length → ∃ z, IsC (ys.getD j (0, 0)) z ∧ IsC (xs.getD j (0, 0)) z) ∧ ys.length ≤ 1024 := by
  rcases h with ⟨m, rfl, h1, h2, rfl, hl, hg⟩ | ⟨hn, rfl, rfl⟩
  · rcases h' with ⟨m', e, _, _, rfl, hl', hg'⟩ | ⟨hn', _⟩
    · obtain rfl : m = m' := by omega
      exact ⟨rfl, by omega, fun j hj => ⟨turn m j, hg' j (by omega), hg j (by omega)⟩, by omega⟩
    · omega
  · rcases h' with ⟨m', e, _, _, _⟩ | ⟨_, rfl, rfl⟩
    · omega
    · exact ⟨rfl, rfl, fun j hj => by simp at hj, by simp⟩

end Go.Proofs.Ytalhmppgmgfilaa
