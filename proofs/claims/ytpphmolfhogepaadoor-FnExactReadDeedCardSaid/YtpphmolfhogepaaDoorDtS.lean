import Derived.Test.YtpphmolfhogepaaDoorDi
import Derived.Test.YtpphmolfhogepaaDoorTxG
import Derived.Deep.CutRange
import Derived.Deep.RegionLaw
/-
  The text of a deed: pure, and by the model.
-/
set_option linter.unusedVariables false
set_option linter.unusedSimpArgs false
namespace Go.Proofs.YtpphmolfhogepaaDoor
open Go.RowKit

def ddNums (d : Dd) : List Int := [d.a, d.b, d.c].take (ddCnt d.kind.toNat)
/-- The text of a deed; nothing of one that is not valid. -/
def ddText (d : Dd) : List UInt8 := if validDd d then txGo (ddWord d.kind.toNat).data.toList (ddNums d) else []

theorem tx_snoc (t : List UInt8) (zs : List Int) (z : Int) : txGo t (zs ++ [z]) = txGo t zs ++ (32 :: Lib.itoa z) := by
  unfold txGo
  rw [List.foldl_append]
  rfl
theorem ddWord_len {q : Nat} (hq : q < 9) : (ddWord q).data.toList.length ≤ 7 := by
  rcases q with _ | _ | _ | _ | _ | _ | _ | _ | _ | q
  all_goals first | decide | omega
theorem ddCnt_in {q : Nat} (h1 : 1 ≤ q) (h8 : q ≤ 8) : ddCnt q = 1 ∨ ddCnt q = 2 ∨ ddCnt q = 3 := by
  rcases kinds8 h1 h8 with rfl | rfl | rfl | rfl | rfl | rfl | rfl | rfl <;> simp [ddCnt]
theorem valid_dd {d : Dd} (h : validDd d = true) : (1 ≤ d.kind ∧ d.kind ≤ 8) ∧ (0 ≤ d.a ∧ d.a ≤ 999) ∧ (0 ≤ d.b ∧ d.b ≤ 999) ∧ (0 ≤ d.c ∧ d.c ≤ 999) := by
  unfold validDd at h
  simp only [Bool.and_eq_true] at h
  obtain ⟨⟨⟨⟨⟨h1, h2⟩, h3⟩, h4⟩, -⟩, -⟩ := h
  exact ⟨inZ_iff.1 h1, inZ_iff.1 h2, inZ_iff.1 h3, inZ_iff.1 h4⟩

theorem decM_any (z : Int) (h : 0 ≤ z ∧ z ≤ 999) (w : World) :
    Calls Tryd.prog 18 #[.int .i64 z] w fun e w' => e = .returned (.string (strOf (Lib.itoa z))) ∧ Below w.heap.size w w' := by
  obtain ⟨u, rfl⟩ : ∃ u : Nat, z = u := ⟨z.toNat, by omega⟩
  have e : Lib.itoa u = Lib.decDigits u := by unfold Lib.itoa; rw [if_neg (by omega)]; rfl
  rw [e]
  exact decimal_any 19 u (by omega) (by omega) w

set_option maxRecDepth 100000 in
set_option maxHeartbeats 4000000 in
theorem l09Names_any (w : World) :
    Calls Tryd.prog 17 #[] w fun e w' => ∃ v, e = .returned (.slice (some ⟨v, 0, none⟩) 9 9) ∧ (∀ j, j < 9 → w'.cell? ⟨v, j, none⟩ = some (.string (ddWord j))) ∧ v < w'.heap.size ∧ Below w.heap.size w w' := by
  go_enter Tryd.func17, Tryd.ntmps17
  go_wp2
  go_ret
  refine ⟨_, rfl, ?_, by simp, (Below.refl _ _).alloc (Nat.le_refl _) _⟩
  intro j hj
  rcases j with _ | _ | _ | _ | _ | _ | _ | _ | _ | j
  all_goals first | omega | (unfold ddWord; go_simp; done) | (unfold ddWord; go_simp; rfl)

set_option maxRecDepth 100000 in
set_option maxHeartbeats 8000000 in
theorem deedText_spec (d : Dd) (w : World) :
    Calls Tryd.prog 9 #[ddV d] w fun e w' => e = .returned (.string (strOf (ddText d))) ∧ Below w.heap.size w w' := by
  have VS := validDeed_spec d
  obtain ⟨p, hp⟩ : ∃ p, validDd d = p := ⟨_, rfl⟩
  rw [hp] at VS
  cases p
  · have e : ddText d = [] := by unfold ddText; rw [hp]; rfl
    rw [e]
    obtain ⟨kd, a, b, c⟩ := d
    unfold ddV at VS ⊢
    simp only at VS ⊢
    have VS := Lib.hid VS
    clear hp e
    go_enter Tryd.func9, Tryd.ntmps9
    go_wp2_with fail
    with_reducible refine (VS.out _).mono ?_
    rintro e w1 ⟨rfl, hb1⟩
    have HB1 := Lib.hid hb1
    clear hb1
    go_wp2
    go_ret
    exact ⟨rfl, below_step' ((Below.refl _ _).alloc (Nat.le_refl _) _) HB1.out (by simp)⟩
  obtain ⟨⟨k1, k2⟩, ha, hb, hc⟩ := valid_dd hp
  have e : ddText d = txGo (ddWord d.kind.toNat).data.toList (ddNums d) := by unfold ddText; rw [hp]; rfl
  obtain ⟨kd, a, b, c⟩ := d
  simp only at k1 k2 ha hb hc
  obtain ⟨q, rfl⟩ : ∃ q : Nat, kd = q := ⟨kd.toNat, by omega⟩
  have h1 : 1 ≤ q := by omega
  have h8 : q ≤ 8 := by omega
  have hq9 : (q : Int) < 9 := by omega
  have hwl := ddWord_len (show q < 9 by omega)
  have N1 := Lib.hid (l09Numbers_any q h1 h8)
  have HM := Lib.hid (ddCnt_in h1 h8)
  unfold ddNums at e
  simp only [Int.toNat_natCast] at e
  obtain ⟨m, hm⟩ : ∃ m, ddCnt q = m := ⟨_, rfl⟩
  rw [hm] at N1 HM e
  obtain ⟨wd, hwd⟩ : ∃ wd, ddWord q = wd := ⟨_, rfl⟩
  have hla := itoa_len a (by omega) (by omega)
  have hlb := itoa_len b (by omega) (by omega)
  have hlc := itoa_len c (by omega) (by omega)
  rw [hwd] at hwl e
  -- the texts
  have s0 : ∀ W : World, (Op.stringOp .add wd ⟨#[32]⟩).run Tryd.prog W = .ok (.string (strOf (wd.data.toList ++ [32]))) W := fun W => by
    have := str_add wd.data.toList [32] (by rw [List.length_singleton]; omega) W
    exact this
  have s1 : ∀ W : World, (Op.stringOp .add (strOf (wd.data.toList ++ [32])) (strOf (Lib.itoa a))).run Tryd.prog W = .ok (.string (strOf (txGo wd.data.toList [a]))) W := fun W => by
    rw [str_add _ _ (by rw [List.length_append, List.length_singleton]; omega) W]
    congr 3
    simp [txGo]
  have s2 : ∀ W : World, (Op.stringOp .add ⟨#[32]⟩ (strOf (Lib.itoa b))).run Tryd.prog W = .ok (.string (strOf (32 :: Lib.itoa b))) W := fun W => str_add [32] _ (by rw [List.length_singleton]; omega) W
  have s3 : ∀ W : World, (Op.stringOp .add (strOf (txGo wd.data.toList [a])) (strOf (32 :: Lib.itoa b))).run Tryd.prog W = .ok (.string (strOf (txGo wd.data.toList [a, b]))) W := fun W => by
    rw [str_add _ _ (by simp only [txGo, List.foldl_cons, List.foldl_nil, List.length_append, List.length_cons]; omega) W]
    rfl
  have s4 : ∀ W : World, (Op.stringOp .add ⟨#[32]⟩ (strOf (Lib.itoa c))).run Tryd.prog W = .ok (.string (strOf (32 :: Lib.itoa c))) W := fun W => str_add [32] _ (by rw [List.length_singleton]; omega) W
  have s5 : ∀ W : World, (Op.stringOp .add (strOf (txGo wd.data.toList [a, b])) (strOf (32 :: Lib.itoa c))).run Tryd.prog W = .ok (.string (strOf (txGo wd.data.toList [a, b, c]))) W := fun W => by
    rw [str_add _ _ (by simp only [txGo, List.foldl_cons, List.foldl_nil, List.length_append, List.length_cons]; omega) W]
    rfl
  have DA := decM_any a ha
  have DB := decM_any b hb
  have DC := decM_any c hc
  obtain ⟨T, hT⟩ : ∃ T, strOf (ddText ⟨q, a, b, c⟩) = T := ⟨_, rfl⟩
  rw [e] at hT
  rw [e, hT]
  have HT : Hid ((m = 1 → T = strOf (txGo wd.data.toList [a])) ∧ (m = 2 → T = strOf (txGo wd.data.toList [a, b])) ∧ (m = 3 → T = strOf (txGo wd.data.toList [a, b, c]))) :=
    ⟨fun h => by rw [← hT, h]; rfl, fun h => by rw [← hT, h]; rfl, fun h => by rw [← hT, h]; rfl⟩
  generalize strOf (txGo wd.data.toList [a, b, c]) = T3 at s5 HT
  generalize strOf (txGo wd.data.toList [a, b]) = T2 at s3 s5 HT
  generalize strOf (txGo wd.data.toList [a]) = T1 at s1 s3 HT
  generalize strOf (wd.data.toList ++ [32]) = T0 at s0 s1
  generalize strOf (32 :: Lib.itoa b) = B1 at s2 s3
  generalize strOf (32 :: Lib.itoa c) = C1 at s4 s5
  generalize strOf (Lib.itoa a) = A0 at s1 DA
  generalize strOf (Lib.itoa b) = B0 at s2 DB
  generalize strOf (Lib.itoa c) = C0 at s4 DC
  unfold ddV at VS ⊢
  simp only at VS ⊢
  have VS := Lib.hid VS
  have DA := Lib.hid DA
  have DB := Lib.hid DB
  have DC := Lib.hid DC
  have HBX : Hid (Below w.heap.size w (w.alloc (.cells #[.int .i64 q, .int .i64 a, .int .i64 b, .int .i64 c] 25))) := (Below.refl _ _).alloc (Nat.le_refl _) _
  obtain ⟨W, hW⟩ : ∃ W, W = w.alloc (.cells #[.int .i64 q, .int .i64 a, .int .i64 b, .int .i64 c] 25) := ⟨_, rfl⟩
  have hlt : w.heap.size < W.heap.size := by rw [hW]; simp
  have c0 : W.cell? ⟨w.heap.size, 0, none⟩ = some (.int .i64 q) := by rw [hW]; go_simp
  have c1 : W.cell? ⟨w.heap.size, 1, none⟩ = some (.int .i64 a) := by rw [hW]; go_simp
  have c2 : W.cell? ⟨w.heap.size, 2, none⟩ = some (.int .i64 b) := by rw [hW]; go_simp
  have c3 : W.cell? ⟨w.heap.size, 3, none⟩ = some (.int .i64 c) := by rw [hW]; go_simp
  rw [← hW] at HBX
  have HC : Hid (∀ w', Below W.heap.size W w' → w'.cell? ⟨w.heap.size, 0, none⟩ = some (.int .i64 q) ∧ w'.cell? ⟨w.heap.size, 1, none⟩ = some (.int .i64 a) ∧ w'.cell? ⟨w.heap.size, 2, none⟩ = some (.int .i64 b) ∧ w'.cell? ⟨w.heap.size, 3, none⟩ = some (.int .i64 c)) := fun w' hb => by
    rw [hb.cell hlt, hb.cell hlt, hb.cell hlt, hb.cell hlt]
    exact ⟨c0, c1, c2, c3⟩
  have HW := Lib.hid hW.symm
  have HQ : Hid (q < 9) := by show q < 9; omega
  have HWD : Hid (ddWord q = wd) := hwd
  clear hp ha hb hc e hW hm hwd hla hlb hlc hwl hT h1 h8 k1 k2
  go_enter Tryd.func9, Tryd.ntmps9
  go_wp2_with fail
  rw [HW.out]
  go_wp2_with fail
  with_reducible refine (VS.out _).mono ?_
  rintro e w1 ⟨rfl, hb1⟩
  have HB1 := Lib.hid hb1
  obtain ⟨d0, d1, d2, d3⟩ := HC.out w1 hb1
  clear hb1 c0 c1 c2 c3 VS
  go_wp2_with fail
  have HNM : Hid (∀ x, Below w1.heap.size w1 x → Calls Tryd.prog 17 #[] x fun e w' => ∃ v, e = .returned (.slice (some ⟨v, 0, none⟩) 9 9) ∧ w'.cell? ⟨v, q, none⟩ = some (.string wd) ∧ Below w1.heap.size w1 w' ∧ Below x.heap.size x w') := fun x hx => (l09Names_any x).mono fun e w' ⟨v, he, hc, hl, hb⟩ => ⟨v, he, by rw [hc q HQ.out, HWD.out], below_step' hx hb hx.size, hb⟩
  have HDA : Hid (∀ x, Below w1.heap.size w1 x → Calls Tryd.prog 18 #[.int .i64 a] x fun e w' => e = .returned (.string A0) ∧ Below w1.heap.size w1 w' ∧ Below x.heap.size x w') := fun x hx => (DA.out x).mono fun e w' ⟨he, hb⟩ => ⟨he, below_step' hx hb hx.size, hb⟩
  have HDR : Hid (Below w1.heap.size w1 w1.drew) := below_draws (Below.refl _ _) 1
  have HC1 : Hid (∀ w', Below w1.heap.size w1 w' → w'.cell? ⟨w.heap.size, 0, none⟩ = some (.int .i64 q) ∧ w'.cell? ⟨w.heap.size, 1, none⟩ = some (.int .i64 a) ∧ w'.cell? ⟨w.heap.size, 2, none⟩ = some (.int .i64 b) ∧ w'.cell? ⟨w.heap.size, 3, none⟩ = some (.int .i64 c)) := fun w' hb => HC.out w' (below_step' HB1.out hb HB1.out.size)
  go_cut [3] from 7 to 16 (fun v3 wx => v3 = .string T1 ∧ Below w1.heap.size w1 wx)
  case first =>
    go_region_with (first
        | (go_at_call 17; (with_reducible refine (HNM.out _ HDR.out).mono ?_); rintro e w7 ⟨v7, rfl, hv7, hb7, hx7⟩; obtain ⟨y0, y1, -, -⟩ := HC1.out _ hb7; have HB7 := Lib.hid hb7; clear hb7 hx7)
        | (go_at_call 18; (with_reducible refine (HDA.out _ HB7.out).mono ?_); rintro e w8 ⟨rfl, hb8, hx8⟩; have hv8 := hv7; rw [← hx8.cell (World.block_lt_of_cell? _ _ hv7)] at hv8; obtain ⟨z0, z1, -, -⟩ := HC1.out _ hb8; have HB8 := Lib.hid hb8; clear hb8 hx8)
        | fail)
    all_goals
      go_wp2
      go_meet
      exact ⟨rfl, HB8.out⟩
  case rest =>
    obtain ⟨rfl, hb9⟩ := hcut
    have HB9 := Lib.hid (below_step' HB1.out hb9 HB1.out.size)
    obtain ⟨y0, y1, y2, y3⟩ := HC1.out _ hb9
    have hn1 : decide ((1 : Int) < (m : Int)) = decide (1 < m) := by rw [decide_eq_decide]; omega
    have hn2 : decide ((2 : Int) < (m : Int)) = decide (2 < m) := by rw [decide_eq_decide]; omega
    obtain ⟨u1, hu1⟩ : ∃ p, decide (1 < m) = p := ⟨_, rfl⟩
    obtain ⟨u2, hu2⟩ : ∃ p, decide (2 < m) = p := ⟨_, rfl⟩
    rw [hu1] at hn1
    rw [hu2] at hn2
    have HU : Hid ((u1 = false → u2 = false ∧ m = 1) ∧ (u1 = true → u2 = false → m = 2) ∧ (u2 = true → m = 3)) := by
      have hM := HM.out
      refine ⟨fun h => ?_, fun h h' => ?_, fun h => ?_⟩
      · rw [h] at hu1
        have := of_decide_eq_false hu1
        exact ⟨by rw [← hu2]; exact decide_eq_false (by omega), by omega⟩
      · rw [h] at hu1
        rw [h'] at hu2
        have := of_decide_eq_true hu1
        have := of_decide_eq_false hu2
        omega
      · rw [h] at hu2
        have := of_decide_eq_true hu2
        omega
    clear hb9 HNM HDA HDR HC1 d0 d1 d2 d3 s0 s1
    cases u1
    · obtain ⟨rfl, rfl⟩ := (HU.out.1 rfl)
      have e := HT.out.1 rfl
      subst e
      go_wp2_with (go_at_call 15; with_reducible refine (N1.out _).mono ?_; rintro e w10 ⟨rfl, rfl⟩)
      go_ret
      exact ⟨rfl, below_step' HBX.out HB9.out HBX.out.size⟩
    go_wp2_with (go_at_call 15; with_reducible refine (N1.out _).mono ?_; rintro e w10 ⟨rfl, rfl⟩)
    with_reducible refine (DB.out _).mono ?_
    rintro e w11 ⟨rfl, hb11⟩
    have HB11 := Lib.hid (below_step' HB9.out hb11 HB9.out.size)
    obtain ⟨x0, x1, x2, x3⟩ := HC.out _ HB11.out
    clear hb11 y0 y1 y2 y3
    cases u2
    · obtain rfl : m = 2 := by have hU := HU.out; simp at hU; first | exact hU | exact hU.2 | exact hU.1
      have e := HT.out.2.1 rfl
      subst e
      go_wp2_with (go_at_call 15; with_reducible refine (N1.out _).mono ?_; rintro e w10 ⟨rfl, rfl⟩)
      go_ret
      exact ⟨rfl, below_step' HBX.out HB11.out HBX.out.size⟩
    obtain rfl : m = 3 := by have hU := HU.out; simp at hU; first | exact hU | exact hU.2 | exact hU.1
    have e := HT.out.2.2 rfl
    subst e
    go_wp2_with (go_at_call 15; with_reducible refine (N1.out _).mono ?_; rintro e w10 ⟨rfl, rfl⟩)
    with_reducible refine (DC.out _).mono ?_
    rintro e w12 ⟨rfl, hb12⟩
    have HB12 := Lib.hid (below_step' HB11.out hb12 HB11.out.size)
    clear hb12 x0 x1 x2 x3
    go_wp2
    go_ret
    exact ⟨rfl, below_step' HBX.out HB12.out HBX.out.size⟩

end Go.Proofs.YtpphmolfhogepaaDoor
