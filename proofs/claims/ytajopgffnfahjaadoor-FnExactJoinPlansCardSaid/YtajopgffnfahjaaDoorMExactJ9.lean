/-
  Several texts of this claim, one behind the other; each says what it holds.
-/
import Derived.Test.YtajopgffnfahjaaDoorMExactJ8
import Derived.Test.YtajopgffnfahjaaDoorRows
import Derived.LaidMore
import Derived.OpenShut
import Derived.ProofKit
import Derived.Deep.CutRange
/-
  What lies apart from what is marked: changes between two places of the memory, and the state of a law whose results are plans.
-/
set_option linter.unusedVariables false
set_option linter.unusedSimpArgs false
namespace Go.Proofs.YtajopgffnfahjaaDoor
open Go.RowKit

theorem mkN_bound : ∀ (ss : List St) (m : Nat), (∀ j, j < ss.length → (ss.getD j default).taps.length ≤ 1048576) → mkN ss m ≤ m + ss.length * 1048579
  | [], m, _ => by simp [mkN]
  | s :: ss, m, h => by
    have h0 := h 0 (by simp)
    simp only [List.getD_cons_zero] at h0
    have ih := mkN_bound ss (m + 3 + s.taps.length) (fun j hj => by have := h (j + 1) (by simpa using hj); simpa using this)
    simp only [mkN, List.length_cons]
    omega

/-- Only what lies from lo to hi is changed, and new things are made. -/
structure Ch (lo hi : Nat) (w w' : World) : Prop where
  os : w'.os = w.os
  tape : w'.tape = w.tape
  output : w'.output = w.output
  size : w.heap.size ≤ w'.heap.size
  block : ∀ b, b < w.heap.size → b < lo ∨ hi ≤ b → w'.heap[b]? = w.heap[b]?
theorem Ch.of_below {lo hi : Nat} {w w' : World} (h : Below w.heap.size w w') : Ch lo hi w w' := ⟨h.os, h.tape, h.output, h.size, fun b hb _ => h.block b hb⟩
theorem Ch.low {lo hi B : Nat} {w w' : World} (h : Ch lo hi w w') (hB : B ≤ lo) (hlo : lo ≤ w.heap.size) : Below B w w' := ⟨h.os, h.tape, h.output, h.size, fun b hb => h.block b (by omega) (.inl (by omega))⟩
theorem Ch.cell {lo hi : Nat} {w w' : World} (h : Ch lo hi w w') {p : Addr} (hp : p.block < w.heap.size) (ho : p.block < lo ∨ hi ≤ p.block) : w'.cell? p = w.cell? p := World.cell?_of_block (w := w) (h.block p.block hp ho)

/-- Steps that lie below a place. -/
def Under (V : Value) (tv : Nat → Value) (n hi : Nat) : Prop := (∀ b, V.ownBlock = some b → b < hi) ∧ ∀ j, j < n → ∀ b, (tv j).ownBlock = some b → b < hi
theorem StepsO.under {w : World} {B n : Nat} {V : Value} {ss : List St} {tv : Nat → Value} (h : StepsO w B V n n ss tv) : Under V tv n w.heap.size := ⟨fun b e => (h.lt b e).2, fun j hj b e => ((h.each j hj).lt b e).2⟩
theorem Only.ch {lo hi n : Nat} {V : Value} {tv : Nat → Value} {ss : List St} {w w' : World} (h : Only V tv n w w') (hs : StepsO w lo V n n ss tv) (hu : Under V tv n hi) : Ch lo hi w w' :=
  ⟨h.os, h.tape, h.output, h.size, fun b hb ho => h.block b hb (fun e => by have h1 := hs.lt b e; have h2 := hu.1 b e; omega) (fun j hj e => by have h1 := (hs.each j hj).lt b e; have h2 := hu.2 j hj b e; omega)⟩

theorem ownsRow_blk {w w' : World} {B : Nat} {e : TypeId} {sz n : Nat} {v : Value} {cs : List Value} (h : w.ownsRow B e sz v n cs) (hb : ∀ k, v.ownBlock = some k → w'.heap[k]? = w.heap[k]?) : w'.ownsRow B e sz v n cs := by
  refine ⟨h.1, ?_⟩
  rcases h.2 with hn | ⟨g, cap, cur, rfl, hbb, hgg, rest⟩
  · exact .inl hn
  · refine .inr ⟨g, cap, cur, rfl, hbb, ?_, rest⟩
    rw [hb g (by simp [Value.ownBlock])]
    exact hgg
theorem StepsO.ch {lo hi B n : Nat} {V : Value} {tv : Nat → Value} {ss : List St} {w w' : World} (h : StepsO w B V n n ss tv) (c : Ch lo hi w w') (ho : hi ≤ B ∨ Under V tv n lo) : StepsO w' B V n n ss tv := by
  obtain ⟨⟨cs, h1, h2⟩, h3, h4⟩ := h
  refine ⟨⟨cs, ownsRow_blk h1 fun k e => c.block k (ownsRow_lt h1 k e).2 ?_, h2⟩, fun j hj => ownsRow_blk (h3 j hj) fun k e => c.block k ((h3 j hj).lt k e).2 ?_, h4⟩
  · rcases ho with ho | ho
    · exact .inr (by have := ownsRow_lt h1 k e; omega)
    · exact .inl (ho.1 k e)
  · rcases ho with ho | ho
    · exact .inr (by have := (h3 j hj).lt k e; omega)
    · exact .inl (ho.2 j hj k e)

/-- The state of a region that makes plans of its arguments, asks a function, and stores what it returns: which plans stand (P, Q), and where the place of the result lies, if it has been made. -/
structure RS (B0 : World) (ss rs : List St) (W : World) (oP oQ : Option (Value × (Nat → Value))) (oc : Option Nat) : Prop where
  below : Below B0.heap.size B0 W
  p : ∀ V tv, oP = some (V, tv) → StepsO W B0.heap.size V ss.length ss.length ss tv
  q : ∀ V tv, oQ = some (V, tv) → StepsO W B0.heap.size V rs.length rs.length rs tv
  c : ∀ c, oc = some c → B0.heap.size ≤ c ∧ c < W.heap.size ∧ W.cell? ⟨c, 0, none⟩ = some (.slice none 0 0) ∧ W.frozen? ⟨c, 0, none⟩ = false

section
variable {B0 W : World} {ss rs : List St} {oP oQ : Option (Value × (Nat → Value))} {oc : Option Nat}
theorem RS.start (hb : Below B0.heap.size B0 W) : RS B0 ss rs W none none none := ⟨hb, (fun _ _ e => by cases e), (fun _ _ e => by cases e), (fun _ e => by cases e)⟩
theorem RS.on {w' : World} (h : RS B0 ss rs W oP oQ oc) (hb : Below W.heap.size W w') : RS B0 ss rs w' oP oQ oc :=
  ⟨below_step' h.below hb h.below.size, fun V tv e => (h.p V tv e).below hb (Nat.le_refl _), fun V tv e => (h.q V tv e).below hb (Nat.le_refl _),
    fun c e => by
      obtain ⟨h1, h2, h3, h4⟩ := h.c c e
      exact ⟨h1, Nat.lt_of_lt_of_le h2 hb.size, (hb.cell (by exact h2)).trans h3, (hb.frozen (by exact h2)).trans h4⟩⟩
theorem RS.alloc (h : RS B0 ss rs W oP oQ none) : RS B0 ss rs (W.alloc (.cells #[.slice none 0 0] 28)) oP oQ (some W.heap.size) := by
  have h' := h.on ((Below.refl W.heap.size W).alloc (Nat.le_refl _) (.cells #[.slice none 0 0] 28))
  refine ⟨h'.below, h'.p, h'.q, fun c e => ?_⟩
  simp only [Option.some.injEq] at e
  subst e
  refine ⟨h.below.size, by simp, by go_simp, by go_simp⟩
theorem RS.drew (h : RS B0 ss rs W oP oQ oc) : RS B0 ss rs W.drew oP oQ oc := h.on (below_draws (Below.refl _ _) 1)
theorem RS.withP {w' : World} {tvo : Option (Value × (Nat → Value))} (h : RS B0 ss rs W tvo oQ oc) {V : Value} {tv : Nat → Value} (hp : StepsO w' W.heap.size V ss.length ss.length ss tv) (hb : Below W.heap.size W w') : RS B0 ss rs w' (some (V, tv)) oQ oc := by
  have h' := h.on hb
  refine ⟨h'.below, fun V' tv' e => ?_, h'.q, h'.c⟩
  simp only [Option.some.injEq, Prod.mk.injEq] at e
  obtain ⟨rfl, rfl⟩ := e
  exact hp.base h.below.size
theorem RS.withQ {w' : World} {tvo : Option (Value × (Nat → Value))} (h : RS B0 ss rs W oP tvo oc) {V : Value} {tv : Nat → Value} (hp : StepsO w' W.heap.size V rs.length rs.length rs tv) (hb : Below W.heap.size W w') : RS B0 ss rs w' oP (some (V, tv)) oc := by
  have h' := h.on hb
  refine ⟨h'.below, h'.p, fun V' tv' e => ?_, h'.c⟩
  simp only [Option.some.injEq, Prod.mk.injEq] at e
  obtain ⟨rfl, rfl⟩ := e
  exact hp.base h.below.size
end

/-- What a function of plans has returned lies in a place of its own. -/
def JR (B0 : World) (D : Int) (Z : List St) (v v' : Value) (W : World) : Prop :=
  ∃ c a cap tv, v = .pointer (some ⟨c, 0, none⟩) ∧ v' = .int .i64 D ∧ B0.heap.size ≤ c ∧ c < W.heap.size ∧ W.cell? ⟨c, 0, none⟩ = some (.slice a Z.length cap) ∧ StepsO W B0.heap.size (.slice a Z.length cap) Z.length Z.length Z tv ∧ Below B0.heap.size B0 W

theorem JR.stored {B0 W : World} {ss rs Z : List St} {oP oQ : Option (Value × (Nat → Value))} {c : Nat} (h : RS B0 ss rs W oP oQ (some c)) {D : Int} {a : Option Addr} {cap B1 : Nat} {tv : Nat → Value} (hs : StepsO W B1 (.slice a Z.length cap) Z.length Z.length Z tv) (hB : B0.heap.size ≤ B1) (hc : c < B1) :
    JR B0 D Z (.pointer (some ⟨c, 0, none⟩)) (.int .i64 D) (W.setCell ⟨c, 0, none⟩ (.slice a Z.length cap)) := by
  obtain ⟨h1, h2, h3, h4⟩ := h.c c rfl
  refine ⟨c, a, cap, tv, rfl, rfl, h1, by simpa using h2, ?_, (hs.other _ hc).base hB, h.below.setCell h1 _⟩
  go_simp
theorem JR.fresh {B0 W : World} {ss rs Z : List St} {oP oQ : Option (Value × (Nat → Value))} (h : RS B0 ss rs W oP oQ none) {D : Int} {a : Option Addr} {cap B1 : Nat} {tv : Nat → Value} (hs : StepsO W B1 (.slice a Z.length cap) Z.length Z.length Z tv) (hB : B0.heap.size ≤ B1) :
    JR B0 D Z (.pointer (some ⟨W.heap.size, 0, none⟩)) (.int .i64 D) (W.alloc (.cells #[.slice a Z.length cap] 28)) := by
  refine ⟨W.heap.size, a, cap, tv, rfl, rfl, h.below.size, by simp, by go_simp, ?_, h.below.alloc h.below.size _⟩
  exact (hs.below ((Below.refl W.heap.size W).alloc (Nat.le_refl _) _) (Nat.le_refl _)).base hB

/-- The state of the law behind its calls: the model's plan and the program's lie in places of their own, apart. -/
structure P2 (W0 : World) (Z : List St) (c6 g n6 bg : Nat) (V6 V9 : Value) (t6 t9 : Nat → Value) (Zg : List St) (W : World) : Prop where
  below : Below W0.heap.size W0 W
  k6 : W.cell? ⟨c6, 0, none⟩ = some V6
  kg : W.cell? ⟨g, 0, none⟩ = some V9
  s6 : StepsO W W0.heap.size V6 Z.length Z.length Z t6
  s9 : StepsO W bg V9 Z.length Z.length Zg t9
  in6 : Under V6 t6 Z.length n6
  in9 : Under V9 t9 Z.length g
  o0 : W0.heap.size ≤ c6
  o1 : c6 < n6
  o2 : n6 ≤ bg
  o3 : bg ≤ g
  o4 : g < W.heap.size

section
variable {W0 W w' : World} {Z Zg : List St} {c6 g n6 bg lo hi : Nat} {V6 V9 : Value} {t6 t9 : Nat → Value}
theorem P2.ch (h : P2 W0 Z c6 g n6 bg V6 V9 t6 t9 Zg W) (c : Ch lo hi W w') (h1 : n6 ≤ lo) (h2 : hi ≤ bg) (h3 : lo ≤ W.heap.size) : P2 W0 Z c6 g n6 bg V6 V9 t6 t9 Zg w' := by
  obtain ⟨b, k6, kg, s6, s9, i6, i9, o0, o1, o2, o3, o4⟩ := h
  refine ⟨b.trans (c.low (by omega) h3), (c.cell (by show c6 < _; omega) (.inl (by show c6 < _; omega))).trans k6, (c.cell (by show g < _; omega) (.inr (by show _ ≤ g; omega))).trans kg, s6.ch c (.inr ⟨fun b e => by have := i6.1 b e; omega, fun j hj b e => by have := i6.2 j hj b e; omega⟩), s9.ch c (.inl h2), i6, i9, o0, o1, o2, o3, Nat.lt_of_lt_of_le o4 c.size⟩
theorem P2.on (h : P2 W0 Z c6 g n6 bg V6 V9 t6 t9 Zg W) (hb : Below W.heap.size W w') : P2 W0 Z c6 g n6 bg V6 V9 t6 t9 Zg w' := by
  have := h.o2
  have := h.o3
  have := h.o4
  exact h.ch (lo := n6) (hi := n6) (Ch.of_below hb) (Nat.le_refl _) (by omega) (by omega)
theorem P2.mark (h : P2 W0 Z c6 g n6 bg V6 V9 t6 t9 Zg W) {Z' : List St} (ho : Only V9 t9 Z.length W w') (hs : StepsO w' bg V9 Z.length Z.length Z' t9) : P2 W0 Z c6 g n6 bg V6 V9 t6 t9 Z' w' := by
  obtain ⟨b, k6, kg, s6, s9, i6, i9, o0, o1, o2, o3, o4⟩ := h
  have c := ho.ch s9 i9
  exact ⟨b.trans (c.low (by omega) (by omega)), (c.cell (by show c6 < _; omega) (.inl (by show c6 < _; omega))).trans k6, (c.cell (by show g < _; omega) (.inr (by show _ ≤ g; omega))).trans kg, s6.ch c (.inr ⟨fun b e => by have := i6.1 b e; omega, fun j hj b e => by have := i6.2 j hj b e; omega⟩), hs, i6, i9, o0, o1, o2, o3, Nat.lt_of_lt_of_le o4 c.size⟩
end


theorem RS.toP {B0 : World} {ss rs : List St} {f : Nat} {sv : Value} (T : ∀ W, Below B0.heap.size B0 W → Calls Tryd.prog f #[.agg #[sv]] W fun e w' => ∃ V tv, e = .returned (.agg #[V]) ∧ StepsO w' W.heap.size V ss.length ss.length ss tv ∧ Below W.heap.size W w') :
    ∀ W oQ oc, RS B0 ss rs W none oQ oc → Calls Tryd.prog f #[.agg #[sv]] W fun e w' => ∃ a cap tv, e = .returned (.agg #[.slice a ss.length cap]) ∧ RS B0 ss rs w' (some (.slice a ss.length cap, tv)) oQ oc := fun W oQ oc hR =>
  (T W hR.below).mono fun e w' ⟨V, tv, he, hO, hb⟩ => by
    obtain ⟨a, cap, rfl⟩ := hO.form
    exact ⟨a, cap, tv, he, hR.withP hO hb⟩
theorem RS.toQ {B0 : World} {ss rs : List St} {f : Nat} {sv : Value} (T : ∀ W, Below B0.heap.size B0 W → Calls Tryd.prog f #[.agg #[sv]] W fun e w' => ∃ V tv, e = .returned (.agg #[V]) ∧ StepsO w' W.heap.size V rs.length rs.length rs tv ∧ Below W.heap.size W w') :
    ∀ W oP oc, RS B0 ss rs W oP none oc → Calls Tryd.prog f #[.agg #[sv]] W fun e w' => ∃ a cap tv, e = .returned (.agg #[.slice a rs.length cap]) ∧ RS B0 ss rs w' oP (some (.slice a rs.length cap, tv)) oc := fun W oP oc hR =>
  (T W hR.below).mono fun e w' ⟨V, tv, he, hO, hb⟩ => by
    obtain ⟨a, cap, rfl⟩ := hO.form
    exact ⟨a, cap, tv, he, hR.withQ hO hb⟩
theorem RS.join {B0 : World} {ss rs Z : List St} {D : Int} {f : Nat}
    (J : ∀ W V V2 tv tv2, Below B0.heap.size B0 W → StepsO W B0.heap.size V ss.length ss.length ss tv → StepsO W B0.heap.size V2 rs.length rs.length rs tv2 → Calls Tryd.prog f #[.agg #[V], .agg #[V2]] W (JoinTo D Z W)) :
    ∀ W V V2 tv tv2 oc, RS B0 ss rs W (some (V, tv)) (some (V2, tv2)) oc → Calls Tryd.prog f #[.agg #[V], .agg #[V2]] W fun e w' => ∃ a cap t B1, e = .returned (.tuple #[.agg #[.slice a Z.length cap], .int .i64 D]) ∧
      RS B0 ss rs w' (some (V, tv)) (some (V2, tv2)) oc ∧ StepsO w' B1 (.slice a Z.length cap) Z.length Z.length Z t ∧ B0.heap.size ≤ B1 ∧ ∀ c, oc = some c → c < B1 := fun W V V2 tv tv2 oc hR =>
  (J W V V2 tv tv2 hR.below (hR.p _ _ rfl) (hR.q _ _ rfl)).mono fun e w' ⟨V', t, he, hO, hb⟩ => by
    obtain ⟨a, cap, rfl⟩ := hO.form
    exact ⟨a, cap, t, _, he, hR.on hb, hO, hR.below.size, fun c hc => (hR.c c hc).2.1⟩

/-- The state of the law ahead of its marks: the arguments' copies too. -/
structure P1 (W0 : World) (Z ss rs : List St) (c6 g n6 bg x0 x1 b5 b7 : Nat) (V6 V9 V5 V7 : Value) (t6 t9 t5 t7 : Nat → Value) (W : World) : Prop where
  m : P2 W0 Z c6 g n6 bg V6 V9 t6 t9 Z W
  k5 : W.cell? ⟨x0, 0, none⟩ = some V5
  k7 : W.cell? ⟨x1, 0, none⟩ = some V7
  s5 : StepsO W b5 V5 ss.length ss.length ss t5
  s7 : StepsO W b7 V7 rs.length rs.length rs t7
  in5 : Under V5 t5 ss.length x0
  in7 : Under V7 t7 rs.length x1
  o0 : n6 ≤ b5
  o1 : b5 ≤ x0
  o2 : x0 < b7
  o3 : b7 ≤ x1
  o4 : x1 < bg
section
variable {W0 W w' : World} {Z ss rs : List St} {c6 g n6 bg x0 x1 b5 b7 : Nat} {V6 V9 V5 V7 : Value} {t6 t9 t5 t7 : Nat → Value}
theorem P1.on (h : P1 W0 Z ss rs c6 g n6 bg x0 x1 b5 b7 V6 V9 V5 V7 t6 t9 t5 t7 W) (hb : Below W.heap.size W w') : P1 W0 Z ss rs c6 g n6 bg x0 x1 b5 b7 V6 V9 V5 V7 t6 t9 t5 t7 w' := by
  obtain ⟨m, k5, k7, s5, s7, i5, i7, o0, o1, o2, o3, o4⟩ := h
  have := m.o3
  have := m.o4
  exact ⟨m.on hb, (hb.cell (by show x0 < _; omega)).trans k5, (hb.cell (by show x1 < _; omega)).trans k7, s5.below hb (Nat.le_refl _), s7.below hb (Nat.le_refl _), i5, i7, o0, o1, o2, o3, o4⟩
theorem P1.drew (h : P1 W0 Z ss rs c6 g n6 bg x0 x1 b5 b7 V6 V9 V5 V7 t6 t9 t5 t7 W) : P1 W0 Z ss rs c6 g n6 bg x0 x1 b5 b7 V6 V9 V5 V7 t6 t9 t5 t7 W.drew := h.on (below_draws (Below.refl _ _) 1)
theorem P1.mark0 (h : P1 W0 Z ss rs c6 g n6 bg x0 x1 b5 b7 V6 V9 V5 V7 t6 t9 t5 t7 W) (ho : Only V5 t5 ss.length W w') :
    P2 W0 Z c6 g n6 bg V6 V9 t6 t9 Z w' ∧ w'.cell? ⟨x1, 0, none⟩ = some V7 ∧ StepsO w' b7 V7 rs.length rs.length rs t7 := by
  obtain ⟨m, k5, k7, s5, s7, i5, i7, o0, o1, o2, o3, o4⟩ := h
  have c := ho.ch s5 i5
  have := m.o3
  have := m.o4
  exact ⟨m.ch c o0 (by omega) (by omega), (c.cell (by show x1 < _; omega) (.inr (by show x0 ≤ x1; omega))).trans k7, s7.ch c (.inl (by omega))⟩
theorem P2.mark1 {Zg : List St} (h : P2 W0 Z c6 g n6 bg V6 V9 t6 t9 Zg W) (s7 : StepsO W b7 V7 rs.length rs.length rs t7) (i7 : Under V7 t7 rs.length x1) (ho : Only V7 t7 rs.length W w') (h1 : n6 ≤ b7) (h2 : b7 ≤ x1) (h3 : x1 < bg) : P2 W0 Z c6 g n6 bg V6 V9 t6 t9 Zg w' := by
  have c := ho.ch s7 i7
  have := h.o3
  have := h.o4
  exact h.ch c h1 (by omega) (by omega)
end

theorem jL_bound (ss rs : List St) : mkN (jL ss rs) 1 ≤ 10000000000000 := by
  unfold jL
  split
  · rename_i h
    have hv : validPl ss = true ∧ validPl rs = true := by
      unfold jCode at h
      split at h
      · rename_i hv; simpa using hv
      · cases h
    have h1 := mkN_bound (ss ++ rs) 1 (fun j hj => by
      rw [getD_app]
      rw [List.length_append] at hj
      split
      · rename_i h; have := validPl_taps hv.1 j h; omega
      · have := validPl_taps hv.2 (j - ss.length) (by omega); omega)
    have := validPl_eight hv.1
    have := validPl_eight hv.2
    rw [List.length_append] at h1
    omega
  · simp [mkN]

end Go.Proofs.YtajopgffnfahjaaDoor
/-
  What the listed table reads as.
-/
set_option linter.unusedVariables false
namespace Go.Proofs.YtajopgffnfahjaaDoor
open Go.ChangeShapes Go.WideShapes Go.ChangeAt Go.RowKit

/-- A row of the table as it is listed. -/
def laidQ (q : Nat) : DataW Unit := .agg [.lit (.string (wordOf q).data.toList), .lit (.int .i64 (cntOf q)), .lit (.int .i64 (loOf q)), .lit (.int .i64 (hiOf q))]

theorem row_of {t : TypeId} {f0 f1 f2 f3 : Field} {P : Program} {w : World} {base : Nat} {spare : Nat → Bool} {held : Bool} {enc : TypeId × Value → Unit} {fuel : Nat} {cs : List Value} {x : DataW Unit × List MemPlace} {l : List UInt8} {c lo hi : Int}
    (ht : P.underlying t = some (.struct #[f0, f1, f2, f3])) (hone : Go.Deep.oneCellFields P #[f0, f1, f2, f3] = true)
    (e0 : P.underlying f0.type = some .string) (e1 : P.underlying f1.type = some (.int .i64)) (e2 : P.underlying f2.type = some (.int .i64)) (e3 : P.underlying f3.type = some (.int .i64)) (hC : P.cellsOf t = 4)
    (h : DataW.trod enc P w base spare held fuel t cs = some x) (hx : x.1 = .agg [.lit (.string l), .lit (.int .i64 c), .lit (.int .i64 lo), .lit (.int .i64 hi)]) :
    ∃ s : ByteArray, s.data.toList = l ∧ cs = [.string s, .int .i64 c, .int .i64 lo, .int .i64 hi] := by
  obtain ⟨xs, n, _, ex, hl, hxl, hf⟩ := DataW.trod_struct ht h
  obtain ⟨a, b, d, e, rfl⟩ := four_cells (hl.trans hC)
  have hx4 : xs.length = 4 := hxl
  obtain ⟨o0, k0⟩ := Go.Deep.hone_of hone 0 f0 rfl
  obtain ⟨o1, k1⟩ := Go.Deep.hone_of hone 1 f1 rfl
  obtain ⟨o2, k2⟩ := Go.Deep.hone_of hone 2 f2 rfl
  obtain ⟨o3, k3⟩ := Go.Deep.hone_of hone 3 f3 rfl
  have g0 := hf 0 f0 rfl
  have g1 := hf 1 f1 rfl
  have g2 := hf 2 f2 rfl
  have g3 := hf 3 f3 rfl
  rw [o0, k0, List.getElem?_eq_getElem (by omega)] at g0
  rw [o1, k1, List.getElem?_eq_getElem (by omega)] at g1
  rw [o2, k2, List.getElem?_eq_getElem (by omega)] at g2
  rw [o3, k3, List.getElem?_eq_getElem (by omega)] at g3
  simp only [List.drop, List.take] at g0 g1 g2 g3
  obtain ⟨s, q0, y0, _⟩ := DataW.trod_string e0 g0
  obtain ⟨z1, q1, y1, _⟩ := DataW.trod_int e1 g1
  obtain ⟨z2, q2, y2, _⟩ := DataW.trod_int e2 g2
  obtain ⟨z3, q3, y3, _⟩ := DataW.trod_int e3 g3
  have he : xs.map (·.1) = [.lit (.string l), .lit (.int .i64 c), .lit (.int .i64 lo), .lit (.int .i64 hi)] := by
    rw [ex] at hx
    exact DataW.agg.inj hx
  have hi : ∀ j (hj : j < xs.length), ([.lit (.string l), .lit (.int .i64 c), .lit (.int .i64 lo), .lit (.int .i64 hi)] : List (DataW Unit))[j]? = some (xs[j]).1 := fun j hj => by
    rw [← he, List.getElem?_map, List.getElem?_eq_getElem hj]
    rfl
  have r0 := hi 0 (by omega)
  have r1 := hi 1 (by omega)
  have r2 := hi 2 (by omega)
  have r3 := hi 3 (by omega)
  rw [y0] at r0
  rw [y1] at r1
  rw [y2] at r2
  rw [y3] at r3
  simp at r0 r1 r2 r3
  simp only [List.cons.injEq, and_true] at q0 q1 q2 q3
  subst q0; subst q1; subst q2; subst q3; subst r1; subst r2; subst r3
  exact ⟨s, r0.symm, rfl⟩

set_option maxRecDepth 100000 in
theorem tab_of {W : World} {cs : Array Value} {fuel : Nat} {x : DataW Unit × List MemPlace} {enc : TypeId × Value → Unit} {base : Nat} {spare : Nat → Bool} {held : Bool} (hv : W.var? Tryd.prog "loop.example/g01155/impl.forms" = some cs)
    (hd : DataW.trod enc Tryd.prog W base spare held fuel 103 cs.toList = some x) (hx : x.1 = .agg ((List.range 14).map laidQ)) : Tab W := by
  have hg : Tryd.prog.globalNamed "loop.example/g01155/impl.forms" = some 0 := by kernel_rfl
  obtain ⟨xs, m, _, ex, _, hl, hel⟩ := DataW.trod_array Tryd.underlying103 hd
  have c4 : Tryd.prog.cellsOf 102 = 4 := by kernel_rfl
  have e3 : xs.map (·.1) = (List.range 14).map laidQ := by
    rw [ex] at hx
    exact DataW.agg.inj hx
  have key : ∀ q, q < 14 → cs[q * 4]? = some (.string (wordOf q)) ∧ cs[q * 4 + 1]? = some (.int .i64 (cntOf q)) ∧ cs[q * 4 + 2]? = some (.int .i64 (loOf q)) ∧ cs[q * 4 + 3]? = some (.int .i64 (hiOf q)) := fun q hq => by
    have hE := hel q hq
    rw [c4, List.getElem?_eq_getElem (by omega)] at hE
    have hx1 : (xs[q]'(by omega)).1 = laidQ q := by
      have : (xs.map (·.1))[q]? = some (laidQ q) := by rw [e3]; simp [hq]
      rw [List.getElem?_map, List.getElem?_eq_getElem (by omega)] at this
      simpa using this
    obtain ⟨s, hs, hcs⟩ := row_of Tryd.underlying102 (by kernel_rfl) Tryd.underlying9 Tryd.underlying3 Tryd.underlying2 Tryd.underlying2 c4 hE hx1
    have hs' : s = wordOf q := by
      apply ByteArray.ext
      apply Array.ext'
      exact hs
    subst hs'
    have hat : ∀ j, j < 4 → cs[q * 4 + j]? = ([.string (wordOf q), .int .i64 (cntOf q), .int .i64 (loOf q), .int .i64 (hiOf q)] : List Value)[j]? := fun j hj => by
      rw [← hcs, List.getElem?_take, if_pos hj, List.getElem?_drop]
      simp
    exact ⟨hat 0 (by decide), hat 1 (by decide), hat 2 (by decide), hat 3 (by decide)⟩
  refine ⟨fun q hq => ?_, fun q hq => ?_, fun q hq => ?_, fun q hq => ?_⟩
  · rw [World.var?_cell hg hv]; exact (key q hq).1
  · rw [World.var?_cell hg hv]; exact (key q hq).2.1
  · rw [World.var?_cell hg hv]; exact (key q hq).2.2.1
  · rw [World.var?_cell hg hv]; exact (key q hq).2.2.2

set_option maxRecDepth 100000 in
theorem of_laid {W : World} (h : laidMetH Tryd.prog [("loop.example/g01155/impl.forms", Rows.laid_loop_example_g01155_impl_forms)] W) : Tab W := by
  rw [MakeChecks.laidMetH_plain _ _ _ (by kernel_rfl)] at h
  obtain ⟨ps, ⟨g0, t0, cs0, f0, p0, q0, hg0, ht0, hv0, hd0, _⟩, _⟩ := h
  obtain rfl := Option.some.inj ((show Tryd.prog.globalNamed "loop.example/g01155/impl.forms" = some 0 by kernel_rfl).symm.trans hg0)
  obtain rfl := Option.some.inj ((show (Tryd.prog.globals[0]?).map (·.type) = some 103 by kernel_rfl).symm.trans ht0)
  exact tab_of hv0 hd0 rfl

end Go.Proofs.YtajopgffnfahjaaDoor
/-
  szPlan.
-/
set_option linter.unusedVariables false
set_option linter.unusedSimpArgs false
namespace Go.Proofs.YtajopgffnfahjaaDoor
open Go.RowKit

theorem StepsIn.form {w : World} {v : Value} {ss : List St} (h : StepsIn w v ss) : ∃ a cap, v = .slice a ss.length cap := by
  cases h with
  | nil a cap => exact ⟨a, cap, rfl⟩
  | row x cap L ss tv hL h0 hc hm hb hh => exact ⟨_, cap, by rw [hL]⟩

theorem szPlan_any {v : Value} {ss : List St} {w : World} (h : PlanIn w v ss) (left : Nat) (hf : left ≤ 1048576) :
    Calls Tryd.prog 8 #[v, .int .i64 left] w (SzTo left (ss.length ≤ 1048576 ∧ ∀ j, j < ss.length → (ss.getD j default).taps.length ≤ 1048576) w) := by
  obtain ⟨sv, rfl, h⟩ := h
  have HB : Hid (Below w.heap.size w (w.alloc (.cells #[sv] 24))) := (Below.refl _ _).alloc (Nat.le_refl _) _
  have T := Lib.hid (szStepS_any (h.below HB.out) left hf)
  clear h
  go_enter Tryd.func8, Tryd.ntmps8
  go_wp2_with fail
  refine T.out.mono ?_
  rintro e w1 ⟨r, rfl, hr, hb⟩
  have HB2 := Lib.hid (below_step' HB.out hb HB.out.size)
  clear hb
  rcases hr with rfl | ⟨r0, rl, ok⟩
  · go_wp2
    go_ret
    exact ⟨_, rfl, .inl rfl, HB2.out⟩
  · have g : ¬ r < 0 := by omega
    have HOK := Lib.hid ok
    clear ok
    go_wp2
    go_ret
    exact ⟨_, rfl, .inr ⟨r0, rl, HOK.out⟩, HB2.out⟩

end Go.Proofs.YtajopgffnfahjaaDoor
/-
  The law of JoinPlans.
-/
set_option linter.unusedVariables false
set_option linter.unusedSimpArgs false
namespace Go.Proofs.YtajopgffnfahjaaDoor
open Go.RowKit

set_option maxRecDepth 100000 in
set_option maxHeartbeats 16000000 in
theorem exactJoinPlans_law (v : Value) (ss : List St) (v' : Value) (rs : List St) (w : World) (h : PlanIn w v ss) (h' : PlanIn w v' rs) (ht : Tab w) :
    Calls Tryd.prog 3 #[v, v'] w fun e w' => e = .returned (.bool true) ∧ Below w.heap.size w w' := by
  obtain ⟨sv, rfl, -⟩ := id h
  obtain ⟨sv', rfl, -⟩ := id h'
  obtain ⟨W0, hW0⟩ : ∃ W0, W0 = (w.alloc (.cells #[sv] 24)).alloc (.cells #[sv'] 24) := ⟨_, rfl⟩
  have hb0 : Below w.heap.size w W0 := by rw [hW0]; exact ((Below.refl _ _).alloc (Nat.le_refl _) _).alloc (by simp) _
  have hsz : W0.heap.size = w.heap.size + 1 + 1 := by rw [hW0]; simp
  have hlt : w.heap.size < W0.heap.size := by omega
  have hlt' : w.heap.size + 1 < W0.heap.size := by omega
  have c0 : W0.cell? ⟨w.heap.size, 0, none⟩ = some sv := by rw [hW0]; go_simp
  have c1 : W0.cell? ⟨w.heap.size + 1, 0, none⟩ = some sv' := by rw [hW0]; go_simp
  have HW0 := Lib.hid hW0.symm
  have HC : Hid (∀ W, Below W0.heap.size W0 W → W.cell? ⟨w.heap.size, 0, none⟩ = some sv ∧ W.cell? ⟨w.heap.size + 1, 0, none⟩ = some sv') := fun W hb => ⟨(hb.cell hlt).trans c0, (hb.cell hlt').trans c1⟩
  have SZ := szPlan_any (h.below hb0) 1048576 (Nat.le_refl _)
  simp only [Int.cast_ofNat_Int] at SZ
  have SZ := Lib.hid SZ
  have SZ' := Lib.hid (fun (W : World) (hb : Below W0.heap.size W0 W) (m : Nat) (hm : m ≤ 1048576) => szPlan_any (h'.below (below_step' hb0 hb hb0.size)) m hm)
  have TO := Lib.hid (fun (W : World) (hb : Below W0.heap.size W0 W) (hl : ss.length ≤ 1048576 ∧ ∀ j, j < ss.length → (ss.getD j default).taps.length ≤ 1048576) => toPlan_any (h.below (below_step' hb0 hb hb0.size)) hl.1 hl.2)
  have TO' := Lib.hid (fun (W : World) (hb : Below W0.heap.size W0 W) (hl : rs.length ≤ 1048576 ∧ ∀ j, j < rs.length → (rs.getD j default).taps.length ≤ 1048576) => toPlan_any (h'.below (below_step' hb0 hb hb0.size)) hl.1 hl.2)
  have TA := Lib.hid (fun (W : World) (hb : Below W0.heap.size W0 W) => ht.below (below_step' hb0 hb hb0.size))
  have HB0 := Lib.hid hb0
  have HZB := Lib.hid (jL_bound ss rs)
  have JS := fun (W : World) (V V2 : Value) (tv tv2 : Nat → Value) (B B2 : Nat) (h : StepsO W B V ss.length ss.length ss tv) (h2 : StepsO W B2 V2 rs.length rs.length rs tv2) => joinPlans_spec h h2
  have JI := fun (W : World) (V V2 : Value) (tv tv2 : Nat → Value) (B B2 : Nat) (hb : Below W0.heap.size W0 W) (h : StepsO W B V ss.length ss.length ss tv) (h2 : StepsO W B2 V2 rs.length rs.length rs tv2) => joinPlans_impl h h2 (TA.out W hb)
  obtain ⟨D, hD⟩ : ∃ D, jCode ss rs = D := ⟨_, rfl⟩
  obtain ⟨Z, hZ⟩ : ∃ Z, jL ss rs = Z := ⟨_, rfl⟩
  simp only [hD, hZ] at JS JI
  rw [hZ] at HZB
  have JS := Lib.hid JS
  have JI := Lib.hid JI
  clear h h' hb0 hW0 ht hD hZ TA
  go_enter Tryd.func3, Tryd.ntmps3
  go_wp2_with fail
  rw [HW0.out]
  with_reducible refine SZ.out.mono ?_
  rintro e w1 ⟨r, rfl, hr, hb1⟩
  have HB1 := Lib.hid hb1
  obtain ⟨d0, d1⟩ := HC.out w1 hb1
  clear hb1 c0 c1 SZ
  rcases hr with rfl | ⟨r0, rl, hl⟩
  · go_wp2
    go_ret
    exact ⟨rfl, below_step' HB0.out HB1.out HB0.out.size⟩
  obtain ⟨m, rfl⟩ : ∃ m : Nat, r = m := ⟨r.toNat, by omega⟩
  have g : ¬ (m : Int) < 0 := by omega
  have g' : decide ((m : Int) < 0) = false := decide_eq_false g
  have S2 := Lib.hid (SZ'.out w1 HB1.out m (by omega))
  clear SZ'
  go_wp2_with fail
  with_reducible refine S2.out.mono ?_
  rintro e w2 ⟨r', rfl, hr', hb2⟩
  have HB2 := Lib.hid (below_step' HB1.out hb2 HB1.out.size)
  obtain ⟨d0, d1⟩ := HC.out w2 HB2.out
  clear hb2 S2
  rcases hr' with rfl | ⟨r0', rl', hl'⟩
  · go_wp2
    go_ret
    exact ⟨rfl, below_step' HB0.out HB2.out HB0.out.size⟩
  have g2 : ¬ r' < 0 := by omega
  have g2' : decide (r' < 0) = false := decide_eq_false g2
  have TP := Lib.hid (fun W hb => TO.out W hb hl)
  have TQ := Lib.hid (fun W hb => TO'.out W hb hl')
  have MS := Lib.hid (mkN_bound ss 1 hl.2)
  have MR := Lib.hid (fun m => mkN_bound rs m hl'.2)
  have HLS := Lib.hid hl.1
  have HLR := Lib.hid hl'.1
  clear TO TO' hl hl'
  -- the regions that make plans of both arguments and ask a function of them
  have R0 := Lib.hid (RS.start (ss := ss) (rs := rs) (Below.refl w2.heap.size w2)).drew
  have R0a := Lib.hid (RS.start (ss := ss) (rs := rs) (Below.refl w2.heap.size w2)).alloc.drew
  have TPR := Lib.hid (RS.toP (B0 := w2) (ss := ss) (rs := rs) (fun W hb => TP.out W (below_step' HB2.out hb HB2.out.size)))
  have TQR := Lib.hid (RS.toQ (B0 := w2) (ss := ss) (rs := rs) (fun W hb => TQ.out W (below_step' HB2.out hb HB2.out.size)))
  have JSR := Lib.hid (RS.join (B0 := w2) (ss := ss) (rs := rs) (fun W V V2 tv tv2 _ h h2 => JS.out W V V2 tv tv2 _ _ h h2))
  have HCB : Hid (∀ W, Below w2.heap.size w2 W → W.cell? ⟨w.heap.size, 0, none⟩ = some sv ∧ W.cell? ⟨w.heap.size + 1, 0, none⟩ = some sv') := fun W hb => HC.out W (below_step' HB2.out hb HB2.out.size)
  have R := R0
  go_wp2_with fail
  go_cut [6, 7] from 27 to 35 (fun v6 v7 wx => JR w2 D Z v6 v7 wx)
  case first =>
    go_region_held3 (fun w' => w'.cell? ⟨w.heap.size, 0, none⟩ = some sv ∧ w'.cell? ⟨w.heap.size + 1, 0, none⟩ = some sv')
      (first
        | exact ⟨d0, d1⟩
        | exact HCB.out _ R.out.below
        | exact HCB.out _ R0a.out.below
        | exact HCB.out _ (R.out.below.alloc R.out.below.size _)
        | exact HCB.out _ (R.out.below.setCell (R.out.c _ rfl).1 _)
        | exact HCB.out _ ((R.out.below.alloc R.out.below.size _).setCell R.out.below.size _)
        | go_keep)
      (first
        | (go_at_call 10; first
            | ((with_reducible show Calls _ _ #[.agg #[sv]] _ _); (first | (with_reducible refine (TPR.out _ _ _ R.out).mono ?_) | (with_reducible refine (TPR.out _ _ _ R.out.alloc).mono ?_) | (with_reducible refine (TPR.out _ _ _ R0a.out).mono ?_) | fail); rintro e wp ⟨pa, pc, tp, rfl, hR⟩; have R := Lib.hid hR; clear hR)
            | ((with_reducible show Calls _ _ #[.agg #[sv']] _ _); (first | (with_reducible refine (TQR.out _ _ _ R.out).mono ?_) | (with_reducible refine (TQR.out _ _ _ R.out.alloc).mono ?_) | (with_reducible refine (TQR.out _ _ _ R0a.out).mono ?_) | fail); rintro e wq ⟨qa, qc, tq, rfl, hR⟩; have R := Lib.hid hR; clear hR)
            | fail)
        | (go_at_call 9; (first | (with_reducible refine (JSR.out _ _ _ _ _ _ R.out).mono ?_) | (with_reducible refine (JSR.out _ _ _ _ _ _ R.out.alloc).mono ?_) | fail); rintro e w4 ⟨a4, c4, t4, B4, rfl, hR, hS4, hB4, hcB⟩; (try (obtain ⟨y0, y1, y2, y3⟩ := hR.c _ rfl)); have R := Lib.hid hR; have HS4 := Lib.hid hS4; have HB4 := Lib.hid hB4; have HCB4 := Lib.hid hcB; clear hR hS4 hB4 hcB)
        | fail)
    all_goals
      go_wp2
      go_meet
      first
        | exact JR.stored R.out HS4.out HB4.out (HCB4.out _ rfl)
        | exact JR.fresh R.out HS4.out HB4.out
  case rest =>
    obtain ⟨c6, a6, cp6, t6, rfl, rfl, hc6, hc6', k6, hS6, hB6⟩ := hcut
    have HBc := Lib.hid (below_step' HB2.out hB6 HB2.out.size)
    obtain ⟨d0, d1⟩ := HC.out wc HBc.out
    have HC6 : Hid (W0.heap.size ≤ c6) := Nat.le_trans HB2.out.size hc6
    have HC6' := Lib.hid hc6'
    have HS6 := Lib.hid (hS6.base HB2.out.size)
    have HK6 : Hid (∀ W, Below wc.heap.size wc W → W.cell? ⟨c6, 0, none⟩ = some (.slice a6 Z.length cp6)) := fun W hb => (hb.cell hc6').trans k6
    clear hc6 hc6' k6 hS6 hB6 R R0 R0a TPR TQR JSR HCB
    go_wp2_with fail
    with_reducible refine (TP.out wc HBc.out).mono ?_
    rintro e w5 ⟨V5, t5, rfl, hO5, hb5⟩
    obtain ⟨a5, c5, rfl⟩ := hO5.form
    have HU5 := Lib.hid hO5.under
    have HB5 := Lib.hid (below_step' HBc.out hb5 HBc.out.size)
    have hb5a : Below w5.heap.size w5 (w5.alloc (.cells #[.slice a5 ss.length c5] 28)) := (Below.refl _ _).alloc (Nat.le_refl _) _
    obtain ⟨W6, hW6⟩ : ∃ W6, W6 = w5.alloc (.cells #[.slice a5 ss.length c5] 28) := ⟨_, rfl⟩
    have hsz6 : W6.heap.size = w5.heap.size + 1 := by rw [hW6]; simp
    have hlt6 : w5.heap.size < W6.heap.size := by omega
    have e0 : W6.cell? ⟨w5.heap.size, 0, none⟩ = some (.slice a5 ss.length c5) := by rw [hW6]; go_simp
    rw [← hW6] at hb5a
    have HC5 := Lib.hid (below_step' hb5 hb5a hb5.size)
    have HB6 := Lib.hid (below_step' HB5.out hb5a HB5.out.size)
    have HO6 := Lib.hid (hO5.below hb5a (Nat.le_refl _))
    have HW6 := Lib.hid hW6.symm
    have k1 : (w5.alloc (.cells #[.slice a5 ss.length c5] 28)).cell? ⟨w.heap.size + 1, 0, none⟩ = some sv' := by rw [HW6.out]; exact (HC.out W6 HB6.out).2
    have hs5 := HB5.out.size
    have HS65 := Lib.hid hsz6
    have HWC5 : Hid (wc.heap.size ≤ w5.heap.size) := Lib.hid hb5.size
    clear hb5 hO5 hb5a hW6 d0 d1 hsz6
    go_wp2_with fail
    rw [HW6.out]
    clear k1
    go_wp2_with fail
    with_reducible refine (TQ.out W6 HB6.out).mono ?_
    rintro e w7 ⟨V7, t7, rfl, hO7, hb7⟩
    obtain ⟨a7, c7, rfl⟩ := hO7.form
    have HU7 := Lib.hid hO7.under
    have HB7 := Lib.hid (below_step' HB6.out hb7 HB6.out.size)
    have hb7a : Below w7.heap.size w7 (w7.alloc (.cells #[.slice a7 rs.length c7] 28)) := (Below.refl _ _).alloc (Nat.le_refl _) _
    obtain ⟨W8, hW8⟩ : ∃ W8, W8 = w7.alloc (.cells #[.slice a7 rs.length c7] 28) := ⟨_, rfl⟩
    have hsz8 : W8.heap.size = w7.heap.size + 1 := by rw [hW8]; simp
    have hlt8 : w7.heap.size < W8.heap.size := by omega
    have e1 : W8.cell? ⟨w7.heap.size, 0, none⟩ = some (.slice a7 rs.length c7) := by rw [hW8]; go_simp
    rw [← hW8] at hb7a
    have hb68 := below_step' hb7 hb7a hb7.size
    have hs7 := hb7.size
    have ne7 : ¬ w5.heap.size = w7.heap.size := by omega
    rw [← hb68.cell hlt6] at e0
    have k1 : (w7.alloc (.cells #[.slice a7 rs.length c7] 28)).cell? ⟨w5.heap.size, 0, none⟩ = some (.slice a5 ss.length c5) := by rw [← hW8]; exact e0
    have k2 : (w7.alloc (.cells #[.slice a7 rs.length c7] 28)).cell? ⟨w7.heap.size, 0, none⟩ = some (.slice a7 rs.length c7) := by rw [← hW8]; exact e1
    have hlt68 : w5.heap.size < W8.heap.size := Nat.lt_of_lt_of_le hlt6 hb68.size
    have HC8 := Lib.hid (below_step' HC5.out hb68 HC5.out.size)
    have HB8 := Lib.hid (below_step' HB7.out hb7a HB7.out.size)
    have HO8 := Lib.hid (HO6.out.below hb68 (Nat.le_refl _))
    have HO8' := Lib.hid (hO7.below hb7a (Nat.le_refl _))
    have HW8 := Lib.hid hW8.symm
    have IM := Lib.hid (JI.out W8 _ _ _ _ _ _ HB8.out HO8.out HO8'.out)
    have HS87 := Lib.hid hsz8
    have HS67 := Lib.hid hs7
    clear hb7 hO7 hb7a hW8 hb68 hsz8
    go_wp2_with fail
    rw [HW8.out]
    clear k1 k2
    go_wp2_with fail
    with_reducible refine IM.out.mono ?_
    rintro e w9 ⟨V9, t9, rfl, hO9, hb9⟩
    obtain ⟨a9, c9, rfl⟩ := hO9.form
    have HB9 := Lib.hid (below_step' HB8.out hb9 HB8.out.size)
    have hb9a : Below w9.heap.size w9 (w9.alloc (.cells #[.slice a9 Z.length c9] 28)) := (Below.refl _ _).alloc (Nat.le_refl _) _
    obtain ⟨X, hX⟩ : ∃ X, X = w9.alloc (.cells #[.slice a9 Z.length c9] 28) := ⟨_, rfl⟩
    have hszX : X.heap.size = w9.heap.size + 1 := by rw [hX]; simp
    have e9 : X.cell? ⟨w9.heap.size, 0, none⟩ = some (.slice a9 Z.length c9) := by rw [hX]; go_simp
    rw [← hX] at hb9a
    have hb8X := below_step' hb9 hb9a hb9.size
    have hP : P1 W0 Z ss rs c6 w9.heap.size wc.heap.size W8.heap.size w5.heap.size w7.heap.size wc.heap.size W6.heap.size (.slice a6 Z.length cp6) (.slice a9 Z.length c9) (.slice a5 ss.length c5) (.slice a7 rs.length c7) t6 t9 t5 t7 X := by
      have o1 := HC5.out.size
      have o2 := hb8X.size
      have o3 := hb9.size
      have q1 := HS65.out
      have q2 := HS87.out
      have q3 := HS67.out
      have hs5' : wc.heap.size ≤ w5.heap.size := HWC5.out
      refine ⟨⟨below_step' HB8.out hb8X HB8.out.size, HK6.out X (below_step' HC8.out hb8X HC8.out.size), e9, HS6.out.below (below_step' HC8.out hb8X HC8.out.size) (Nat.le_refl _), (hO9.below hb9a (Nat.le_refl _)), HS6.out.under, hO9.under, HC6.out, HC6'.out, by omega, o3, by omega⟩,
        (hb8X.cell hlt68).trans e0, (hb8X.cell hlt8).trans e1, HO8.out.below hb8X (Nat.le_refl _), HO8'.out.below hb8X (Nat.le_refl _), HU5.out, HU7.out, Nat.le_refl _, hs5', hlt6, hs7, hlt8⟩
    have k1 : (w9.alloc (.cells #[.slice a9 Z.length c9] 28)).cell? ⟨w9.heap.size, 0, none⟩ = some (.slice a9 Z.length c9) := by rw [← hX]; exact e9
    have k2 : (w9.alloc (.cells #[.slice a9 Z.length c9] 28)).cell? ⟨c6, 0, none⟩ = some (.slice a6 Z.length cp6) := by rw [← hX]; exact hP.m.k6
    have P := Lib.hid hP
    have HX := Lib.hid hX.symm
    have HE : Hid (∀ W, P1 W0 Z ss rs c6 w9.heap.size wc.heap.size W8.heap.size w5.heap.size w7.heap.size wc.heap.size W6.heap.size (.slice a6 Z.length cp6) (.slice a9 Z.length c9) (.slice a5 ss.length c5) (.slice a7 rs.length c7) t6 t9 t5 t7 W →
        W.cell? ⟨w.heap.size, 0, none⟩ = some sv ∧ W.cell? ⟨w.heap.size + 1, 0, none⟩ = some sv' ∧ W.cell? ⟨w5.heap.size, 0, none⟩ = some (.slice a5 ss.length c5) ∧ W.cell? ⟨w7.heap.size, 0, none⟩ = some (.slice a7 rs.length c7)) := fun W hP => ⟨(HC.out W hP.m.below).1, (HC.out W hP.m.below).2, hP.k5, hP.k7⟩
    clear hb9 hb9a hX e9 hb8X hP e0 e1 hO9 IM HK6 HS6 HO6 HO8 HO8' hlt6 hlt8 hlt68 hs5 hs7 ne7
    go_wp2_with fail
    rw [HX.out]
    clear k1 k2
    have kg := P.out.m.kg
    have k6 := P.out.m.k6
    go_wp2_with fail
    with_reducible refine (eqPlan_any P.out.m.s9 P.out.m.s6).mono ?_
    rintro e w11 ⟨rfl, hb11⟩
    have P := Lib.hid (P.out.on hb11)
    clear hb11 kg k6
    obtain ⟨d0, d1, e0, e1⟩ := HE.out w11 P.out
    have PD := Lib.hid P.out.drew
    go_wp2_with fail
    go_region_held3 (fun w' => w'.cell? ⟨w.heap.size, 0, none⟩ = some sv ∧ w'.cell? ⟨w.heap.size + 1, 0, none⟩ = some sv' ∧ w'.cell? ⟨w5.heap.size, 0, none⟩ = some (.slice a5 ss.length c5) ∧ w'.cell? ⟨w7.heap.size, 0, none⟩ = some (.slice a7 rs.length c7))
      (first
        | exact ⟨d0, d1, e0, e1⟩
        | exact HE.out _ P13.out
        | exact HE.out _ P12.out
        | go_keep)
      (first
        | (go_at_call 10; refine (TP.out _ PD.out.m.below).mono ?_; rintro e w12 ⟨V12, t12, rfl, hO12, hb12⟩; have HO12 := Lib.hid hO12; have P12 := Lib.hid (PD.out.on hb12); clear hb12 hO12)
        | (go_at_call 12; refine (eqPlan_any P12.out.s5 HO12.out).mono ?_; rintro e w13 ⟨rfl, hb13⟩; have P13 := Lib.hid (P12.out.on hb13); clear hb13)
        | fail)
    all_goals
      obtain ⟨d0, d1, e0, e1⟩ := HE.out w13 P13.out
      have PD := Lib.hid P13.out.drew
      clear P P12
      go_wp2_with fail
      go_region_held3 (fun w' => w'.cell? ⟨w.heap.size, 0, none⟩ = some sv ∧ w'.cell? ⟨w.heap.size + 1, 0, none⟩ = some sv' ∧ w'.cell? ⟨w5.heap.size, 0, none⟩ = some (.slice a5 ss.length c5) ∧ w'.cell? ⟨w7.heap.size, 0, none⟩ = some (.slice a7 rs.length c7))
        (first
          | exact ⟨d0, d1, e0, e1⟩
          | exact HE.out _ P15.out
          | exact HE.out _ P14.out
          | go_keep)
        (first
          | (go_at_call 10; refine (TQ.out _ PD.out.m.below).mono ?_; rintro e w14 ⟨V14, t14, rfl, hO14, hb14⟩; have HO14 := Lib.hid hO14; have P14 := Lib.hid (PD.out.on hb14); clear hb14 hO14)
          | (go_at_call 12; refine (eqPlan_any P14.out.s7 HO14.out).mono ?_; rintro e w15 ⟨rfl, hb15⟩; have P15 := Lib.hid (P14.out.on hb15); clear hb15)
          | fail)
      all_goals
        obtain ⟨d0, d1, e0, e1⟩ := HE.out w15 P15.out
        have hms := MS.out
        have hmr := MR.out (mkN ss 1)
        have hls := HLS.out
        have hlr := HLR.out
        obtain ⟨N1, hN1⟩ : ∃ N1, mkN ss 1 = N1 := ⟨_, rfl⟩
        have MK1 := Lib.hid (markPlan_any (m := 1) P15.out.s5 (by omega))
        have MK2 := Lib.hid (fun (W : World) (h : StepsO W W6.heap.size (.slice a7 rs.length c7) rs.length rs.length rs t7) => markPlan_any (m := mkN ss 1) h (by omega))
        obtain ⟨N2, hN2⟩ : ∃ N2, mkN rs (mkN ss 1) = N2 := ⟨_, rfl⟩
        rw [hN2] at MK2
        rw [hN1] at MK1 MK2
        clear hms hmr hls hlr hN1 hN2 PD P14 P13
        go_wp2_with fail
        refine MK1.out.mono ?_
        rintro e w17 ⟨rfl, -, ho17⟩
        obtain ⟨hp17, e1, hs17⟩ := P15.out.mark0 ho17
        have HP17 := Lib.hid hp17
        have HS17 := Lib.hid hs17
        have HR1 := Lib.hid (And.intro P15.out.o0 (And.intro P15.out.o1 (And.intro P15.out.o2 (And.intro P15.out.o3 P15.out.o4))))
        have HI7 := Lib.hid P15.out.in7
        clear ho17 hp17 hs17 P15 d0 d1 e0
        go_wp2_with fail
        with_reducible refine (MK2.out w17 HS17.out).mono ?_
        rintro e w18 ⟨rfl, -, ho18⟩
        have P := Lib.hid (HP17.out.mark1 HS17.out HI7.out ho18 (by have := HR1.out; omega) (by have := HR1.out; omega) (by have := HR1.out; omega))
        clear ho18 HP17 HS17 HI7 HR1 e1 MK1 MK2
        have gN : ¬ (N2 : Int) < 0 := by omega
        have gN' : decide ((N2 : Int) < 0) = false := decide_eq_false gN
        have kg := P.out.kg
        have k6 := P.out.k6
        go_wp2_with fail
        with_reducible refine (eqPlan_any P.out.s9 P.out.s6).mono ?_
        rintro e w19 ⟨rfl, hb19⟩
        have P := Lib.hid (P.out.on hb19)
        clear hb19 kg k6
        have kg := P.out.kg
        have k6 := P.out.k6
        obtain ⟨N3, hN3⟩ : ∃ N3, mkN Z 1 = N3 := ⟨_, rfl⟩
        have hzb := HZB.out
        have MK := Lib.hid (markPlan_any (m := 1) P.out.s9 hzb)
        have HD := Lib.hid (fun (W : World) (Z' : List St) (hm : Mkd Z 1 Z.length Z') (h : StepsO W W8.heap.size (.slice a9 Z.length c9) Z.length Z.length Z' t9) => heldPlan_any (m := 1) h hm hzb)
        rw [hN3] at MK HD
        have gM : ¬ (N3 : Int) < 0 := by omega
        have gM' : decide ((N3 : Int) < 0) = false := decide_eq_false gM
        clear hzb hN3 HZB
        go_wp2_with fail
        refine MK.out.mono ?_
        rintro e w20 ⟨rfl, ⟨Z', hmk, hs20⟩, ho20⟩
        have P := Lib.hid (P.out.mark ho20 hs20)
        have HMK := Lib.hid hmk
        clear hmk hs20 ho20 MK kg k6
        have kg := P.out.kg
        have k6 := P.out.k6
        go_wp2_with fail
        refine (HD.out w20 Z' HMK.out P.out.s9).mono ?_
        rintro e w21 ⟨rfl, hb21⟩
        have P := Lib.hid (P.out.on hb21)
        clear hb21 kg k6
        obtain ⟨d0, d1⟩ := HC.out w21 P.out.below
        have R0 := Lib.hid (RS.start (ss := ss) (rs := rs) (Below.refl w21.heap.size w21)).drew
        have R0a := Lib.hid (RS.start (ss := ss) (rs := rs) (Below.refl w21.heap.size w21)).alloc.drew
        have TPR := Lib.hid (RS.toP (B0 := w21) (ss := ss) (rs := rs) (fun W hb => TP.out W (below_step' P.out.below hb P.out.below.size)))
        have TQR := Lib.hid (RS.toQ (B0 := w21) (ss := ss) (rs := rs) (fun W hb => TQ.out W (below_step' P.out.below hb P.out.below.size)))
        have JSR := Lib.hid (RS.join (B0 := w21) (ss := ss) (rs := rs) (fun W V V2 tv tv2 hb h h2 => JI.out W V V2 tv tv2 _ _ (below_step' P.out.below hb P.out.below.size) h h2))
        have HCB : Hid (∀ W, Below w21.heap.size w21 W → W.cell? ⟨w.heap.size, 0, none⟩ = some sv ∧ W.cell? ⟨w.heap.size + 1, 0, none⟩ = some sv') := fun W hb => HC.out W (below_step' P.out.below hb P.out.below.size)
        have R := R0
        go_wp2_with fail
        go_cut [15, 16] from 94 to 102 (fun v6 v7 wx => JR w21 D Z v6 v7 wx)
        case first =>
          go_region_held3 (fun w' => w'.cell? ⟨w.heap.size, 0, none⟩ = some sv ∧ w'.cell? ⟨w.heap.size + 1, 0, none⟩ = some sv')
            (first
              | exact ⟨d0, d1⟩
              | exact HCB.out _ R.out.below
              | exact HCB.out _ R0a.out.below
              | exact HCB.out _ (R.out.below.alloc R.out.below.size _)
              | exact HCB.out _ (R.out.below.setCell (R.out.c _ rfl).1 _)
              | exact HCB.out _ ((R.out.below.alloc R.out.below.size _).setCell R.out.below.size _)
              | go_keep)
            (first
              | (go_at_call 10; first
                  | ((with_reducible show Calls _ _ #[.agg #[sv]] _ _); (first | (with_reducible refine (TPR.out _ _ _ R.out).mono ?_) | (with_reducible refine (TPR.out _ _ _ R.out.alloc).mono ?_) | (with_reducible refine (TPR.out _ _ _ R0a.out).mono ?_) | fail); rintro e wp ⟨pa, pc, tp, rfl, hR⟩; have R := Lib.hid hR; clear hR)
                  | ((with_reducible show Calls _ _ #[.agg #[sv']] _ _); (first | (with_reducible refine (TQR.out _ _ _ R.out).mono ?_) | (with_reducible refine (TQR.out _ _ _ R.out.alloc).mono ?_) | (with_reducible refine (TQR.out _ _ _ R0a.out).mono ?_) | fail); rintro e wq ⟨qa, qc, tq, rfl, hR⟩; have R := Lib.hid hR; clear hR)
                  | fail)
              | (go_at_call 11; (first | (with_reducible refine (JSR.out _ _ _ _ _ _ R.out).mono ?_) | (with_reducible refine (JSR.out _ _ _ _ _ _ R.out.alloc).mono ?_) | fail); rintro e w4 ⟨a4, c4, t4, B4, rfl, hR, hS4, hB4, hcB⟩; (try (obtain ⟨y0, y1, y2, y3⟩ := hR.c _ rfl)); have R := Lib.hid hR; have HS4 := Lib.hid hS4; have HB4 := Lib.hid hB4; have HCB4 := Lib.hid hcB; clear hR hS4 hB4 hcB)
              | fail)
          all_goals
            go_wp2
            go_meet
            first
              | exact JR.stored R.out HS4.out HB4.out (HCB4.out _ rfl)
              | exact JR.fresh R.out HS4.out HB4.out
        case rest =>
          obtain ⟨c15, a15, cp15, t15, rfl, rfl, hc15, hc15', k15, hS15, hB15⟩ := hcut
          have P := Lib.hid (P.out.on hB15)
          have HS15 := Lib.hid hS15
          clear hc15 hc15' hS15 hB15 R R0 R0a TPR TQR JSR HCB d0 d1
          have kg := P.out.kg
          have k6 := P.out.k6
          go_wp2_with fail
          with_reducible refine (eqPlan_any HS15.out P.out.s6).mono ?_
          rintro e w23 ⟨rfl, hb23⟩
          have P := Lib.hid (P.out.on hb23)
          clear hb23 kg k6 k15
          have kg := P.out.kg
          have k6 := P.out.k6
          go_wp2_with fail
          refine (HD.out w23 Z' HMK.out P.out.s9).mono ?_
          rintro e w24 ⟨rfl, hb24⟩
          have P := Lib.hid (P.out.on hb24)
          clear hb24 kg k6
          go_wp2
          go_ret
          exact ⟨rfl, below_step' HB0.out P.out.below HB0.out.size⟩

end Go.Proofs.YtajopgffnfahjaaDoor
