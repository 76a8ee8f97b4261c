import Derived.Test.YthinoegcijalpaaPFastJ
import Derived.Laws.EntriesVeiled
/-
  The program's fast transform, from its cache on.
-/
set_option linter.unusedVariables false
set_option linter.unusedSimpArgs false
namespace Go.Proofs.Ythinoegcijalpaa
open Go.RowKit Flt Turn Fast

set_option maxRecDepth 100000 in
set_option maxHeartbeats 4000000 in
/-- The program's fast transform. -/
theorem fast_impl (xs : List C) (v : Value) (B : Nat) (w : World) (h2 : xs.length ≤ 1024) (hw : WfC xs) (h : Row w B 34 v (cvals xs)) :
    Calls Try.prog 18 #[v] w (FastR xs w) := by
  have hmm := @run_makeMap Try.prog
  obtain ⟨a, cap, rfl⟩ := h.reads.form'
  have hcl : (cvals xs).length = xs.length := cvals_length xs
  rw [hcl] at h ⊢
  obtain ⟨n, hn⟩ : ∃ n, xs.length = n := ⟨_, rfl⟩
  rw [hn] at h h2 ⊢
  have HX := Lib.hid hn
  have HW := Lib.hid hw
  have HR := Lib.hid h
  clear h hn hcl hw
  go_enter Try.func18, Try.ntmps18
  go_wp2_with fail
  have hb : Below w.heap.size w (((w.alloc (.map #[] 0)).alloc (.cells #[.map (some w.heap.size)] 49)).alloc (.cells #[.func (.func 28) #[] #[.pointer (some ⟨w.heap.size + 1, 0, none⟩), .pointer (some ⟨w.heap.size + 1 + 1, 0, none⟩)]] 36)) :=
    (((Below.refl _ _).alloc (Nat.le_refl _) _).alloc (by simp) _).alloc (by simp; omega) _
  have he : Env (((w.alloc (.map #[] 0)).alloc (.cells #[.map (some w.heap.size)] 49)).alloc (.cells #[.func (.func 28) #[] #[.pointer (some ⟨w.heap.size + 1, 0, none⟩), .pointer (some ⟨w.heap.size + 1 + 1, 0, none⟩)]] 36)) w.heap.size 0 (w.heap.size + 1) (w.heap.size + 1 + 1) := by
    refine ⟨by go_simp, by go_simp, ?_⟩
    exact ((Cache.made w).alloc _).alloc _
  have hsz : w.heap.size ≤ (((w.alloc (.map #[] 0)).alloc (.cells #[.map (some w.heap.size)] 49)).alloc (.cells #[.func (.func 28) #[] #[.pointer (some ⟨w.heap.size + 1, 0, none⟩), .pointer (some ⟨w.heap.size + 1 + 1, 0, none⟩)]] 36)).heap.size := hb.size
  generalize (((w.alloc (.map #[] 0)).alloc (.cells #[.map (some w.heap.size)] 49)).alloc (.cells #[.func (.func 28) #[] #[.pointer (some ⟨w.heap.size + 1, 0, none⟩), .pointer (some ⟨w.heap.size + 1 + 1, 0, none⟩)]] 36)) = W at hb he hsz ⊢
  have hcost := costT_le h2
  refine (fastI_all (xs.length + 1) xs (.slice a n cap) B w.heap.size 0 (w.heap.size + 1) (w.heap.size + 1 + 1) W (Nat.lt_succ_self _) (by rw [HX.out]; exact h2) HW.out (HR.out.below hb (fun k e => (HR.out.lt k e).2)) he (by rw [HX.out]; omega)).mono ?_
  rintro e w2 ⟨v, ys, rfl, hr2, hw2, hf2, -, hk2⟩
  have HE : Hid (FastR xs w (.returned v) w2) := ⟨v, ys, rfl, hr2.base hsz, hw2, hf2, hb.trans ⟨hk2.os, hk2.tape, hk2.output, hk2.size, fun k hk => hk2.block k (by omega) (by omega)⟩⟩
  clear hr2 hw2 hf2 hk2 he hb hsz hmm HR
  go_wp2
  go_ret
  exact HE.out

end Go.Proofs.Ythinoegcijalpaa
