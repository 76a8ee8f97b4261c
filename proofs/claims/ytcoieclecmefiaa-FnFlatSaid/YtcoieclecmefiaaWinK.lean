import Derived.Test.YtcoieclecmefiaaWinJ
/-
  WindowWeights of both: the program.
-/
set_option linter.unusedVariables false
set_option linter.unusedSimpArgs false
namespace Go.Proofs.Ytcoieclecmefiaa
open Go.RowKit Flt Fast
attribute [local go_sem] run_fadd run_fsub run_fmul run_fquo run_cadd run_csub

theorem sq_get (xs : List Nat) (i : Nat) : sqO xs i = fop .mul .f64 (wO xs i) (wO xs i) := rfl

theorem enter_weights1 (args : Array Value) (w : World) : (callFunc 101 args).run Try.prog w = .ok (.enter 101 args) w := by kernel_rfl

set_option maxRecDepth 100000 in
theorem weights1_any (xs : List Nat) (hz : ∀ z ∈ xs, z < 18446744073709551616) (v : Value) (i b : Nat) (hi : i < xs.length) (w : World) (h : Reads w v (flts xs)) (hb : w.cell? ⟨b, 0, none⟩ = some v) :
    Calls Try.prog 101 #[.int .i64 i, .pointer (some ⟨b, 0, none⟩)] w fun e w' => ∃ q, e = .returned (fval q) ∧ IsF q (sqO xs i) ∧ Below w.heap.size w w' := by
  have hrd := fl_reads h
  have hcap := fl_cap h
  obtain ⟨a, cap, rfl⟩ := fl_form h
  rw [flts_length] at *
  obtain ⟨g, rfl, -, c1⟩ := hrd _ _ _ rfl i hi
  replace hcap := hcap _ _ _ rfl
  have hx := wO_isF hz hi
  obtain ⟨x, hxx⟩ : ∃ x, xs.getD i 0 = x := ⟨_, rfl⟩
  obtain ⟨n, hn⟩ : ∃ n, xs.length = n := ⟨_, rfl⟩
  rw [hxx] at c1 hx
  rw [hn] at hb hi hcap
  have C := Lib.hid (square_any x (wO xs i) hx)
  have HQ : Hid (∀ q, IsF q (fop .mul .f64 (wO xs i) (wO xs i)) → IsF q (sqO xs i)) := fun q hq => hq
  clear h hz hrd hxx hx hn
  go_enter Try.func101, Try.ntmps101
  go_wp2_with fail
  refine (C.out _).mono ?_
  rintro e w2 ⟨q, rfl, hq, hb2⟩
  have HX := Lib.hid (And.intro (HQ.out q hq) hb2)
  clear hq hb2
  simp only [fval]
  go_wp2
  go_ret
  exact ⟨q, rfl, HX.out⟩

set_option maxRecDepth 100000 in
set_option maxHeartbeats 4000000 in
theorem weightsAt_any (xs : List Nat) (hz : ∀ z ∈ xs, z < 18446744073709551616) (p c : Nat) (hp : p ≤ 256) (hl : xs.length ≤ 256) (hc64 : c ≤ 64) (v : Value) (w : World) (h : Reads w v (flts xs)) :
    Calls Try.prog 73 #[v, .int .i64 c, .int .i64 p] w fun e w' => ∃ u fs, e = .returned u ∧ Row w' w.heap.size 29 u (flts fs) ∧ FitsF fs (wgtL xs p c) ∧ Below w.heap.size w w' := by
  have hcap := fl_cap h
  have hform := fl_form h
  have hb0 : Below w.heap.size w (w.alloc (.cells #[v] 49)) := (Below.refl _ _).alloc (Nat.le_refl _) _
  have C := Lib.hid (fun (i : Nat) (hi : i < xs.length) (w1 : World) (b : Nat) (hr : Reads w1 v (flts xs)) => weights1_any xs hz v i b hi w1 hr)
  have HR := Lib.hid (fun w1 (hb : Below w.heap.size w w1) => h.below hb)
  have hWG : wgtL xs p c = addAll addO none (fun _ => sqO xs) (fun _ => xs.length) p c := rfl
  rw [hWG]
  have hn6 : xs.length ≤ 1000000 := by omega
  obtain ⟨a, cap, rfl⟩ := hform
  rw [flts_length] at *
  replace hcap := hcap _ _ _ rfl
  have c0 : (w.alloc (.cells #[.slice a xs.length cap] 49)).cell? ⟨w.heap.size, 0, none⟩ = some (.slice a xs.length cap) := by go_simp
  have L := Lib.hid (listOf_f64' 101 #[.pointer (some ⟨w.heap.size, 0, none⟩)] xs.length hn6 (sqO xs) (w.alloc (.cells #[.slice a xs.length cap] 49)) enter_weights1
    (fun i w1 hi hb => C.out i hi w1 w.heap.size (HR.out w1 (below_step hb0 hb hb0.size)) (by rw [hb.cell (by simp)]; exact c0)))
  obtain ⟨n, hn⟩ : ∃ n, xs.length = n := ⟨_, rfl⟩
  rw [hn] at L hb0 hcap hl c0 ⊢
  have HB0 := Lib.hid hb0
  clear h hz C HR hWG hn hb0
  go_enter Try.func73, Try.ntmps73
  go_wp2_with fail
  refine L.out.mono ?_
  rintro e w2 ⟨u, ss, rfl, hr, hss, hg, hb2⟩
  obtain ⟨au, cu, rfl⟩ := fl_form hr.reads
  rw [flts_length, hss] at hr ⊢
  have hbs := below_step HB0.out hb2 HB0.out.size
  have HB2 := Lib.hid hbs
  have HRU := Lib.hid hr
  have HG := Lib.hid hg
  have HSS := Lib.hid hss
  have d2 : (w2.alloc (.cells #[.slice au n cu] 49)).cell? ⟨w2.heap.size, 0, none⟩ = some (.slice au n cu) := by go_simp
  have REP := Lib.hid (repeat_any c hc64 (.slice au n cu) rfl w2.heap.size (w2.alloc (.cells #[.slice au n cu] 49)) d2)
  clear hr hg hb2 hbs d2 L hss
  go_wp2_with fail
  refine REP.out.mono ?_
  rintro e w3 ⟨V, rfl, hV, hb3⟩
  have hbA : Below w2.heap.size w2 (w2.alloc (.cells #[.slice au n cu] 49)) := (Below.refl _ _).alloc (Nat.le_refl _) _
  have hb23 := below_step hbA hb3 hbA.size
  have HB3 := Lib.hid (below_step HB2.out hb23 HB2.out.size)
  have hrd3 : Reads w3 (.slice au n cu) (flts ss) := (HRU.out.below hb23 (fun k e => (HRU.out.lt k e).2)).reads
  have S := Lib.hid (sumsAt_f64 (w := w3) hV.reads (fun _ => ss) (fun _ => sqO xs) (fun _ => n) p (fun b hb => by
    rw [List.length_replicate] at hb
    refine ⟨?_, HSS.out, HG.out⟩
    rw [show (List.replicate c (Value.slice au n cu)).getD b undef = .slice au n cu by simp [List.getD, hb]]
    exact hrd3) (fun _ => hl) (by rw [List.length_replicate]; exact hc64) hp)
  obtain ⟨aV, cV, rfl⟩ := fl_form hV.reads
  rw [List.length_replicate] at S ⊢
  clear hV hb3 hbA hb23 hrd3 REP
  go_wp2_with fail
  with_reducible refine S.out.mono ?_
  rintro e w4 ⟨t, fs, rfl, hS⟩
  have HS : Hid (Row w4 w.heap.size 29 t (flts fs) ∧ FitsF fs (addAll addO none (fun _ => sqO xs) (fun _ => n) p c) ∧ Below w.heap.size w w4) := ⟨hS.row.base HB3.out.size, hS.fits, below_step HB3.out hS.below HB3.out.size⟩
  clear hS
  go_wp2
  go_ret
  exact ⟨t, fs, rfl, HS.out⟩

end Go.Proofs.Ytcoieclecmefiaa
