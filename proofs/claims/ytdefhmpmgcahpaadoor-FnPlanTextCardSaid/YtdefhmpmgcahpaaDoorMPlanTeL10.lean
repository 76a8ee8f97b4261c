/-
  Several texts of this claim, one behind the other; each says what it holds.
-/
import Derived.Test.YtdefhmpmgcahpaaDoorStr
import Derived.Test.YtdefhmpmgcahpaaDoorSpl
import Derived.Test.YtdefhmpmgcahpaaDoorMPlanTeL14
import Derived.Shelf.Strings.Split
import Derived.Shelf.Strconv.ParseIntPublic10
import Derived.Test.YtdefhmpmgcahpaaDoorMPlanTeL19
import Derived.Test.YtdefhmpmgcahpaaDoorMPlanTeL22
import Derived.Test.YtdefhmpmgcahpaaDoorApw
import Derived.Test.YtdefhmpmgcahpaaDoorMPlanTeL11
import Derived.Test.YtdefhmpmgcahpaaDoorSt4
/-
  strings.Split and strconv.ParseInt at this program (the numbers are this seat's: lay-shelf.mjs and lay-plain.mjs wrote the rows).
-/
set_option maxRecDepth 100000
set_option linter.unusedVariables false
namespace Go.Proofs
open Go.Shelf
def Tryd.lays146_ren : Go.Shelf.Ren := ⟨fun | 146 => 40 | 221 => 74 | 268 => 104 | 138 => 105 | 143 => 106 | 195 => 125 | 197 => 126 | 218 => 127 | 219 => 128 | 260 => 142 | 217 => 98 | 225 => 143 | 224 => 144 | 267 => 145 | 266 => 119 | 314 => 148 | n => n, fun | 9 => 9 | 31 => 67 | 3 => 3 | 4 => 4 | 0 => 0 | 105 => 182 | 21 => 21 | 5 => 5 | 46 => 146 | 119 => 203 | 139 => 206 | 138 => 205 | 146 => 207 | 51 => 177 | n => n, fun | 1 => 4 | 3 => 7 | 4 => 8 | n => n⟩
theorem Tryd.lays146 : Go.Proofs.Lays.n146 Tryd.prog Tryd.lays146_ren := {
  mixed := by kernel_rfl
  f138 := Tryd.func105.trans (congrArg some (by kernel_rfl))
  f143 := Tryd.func106.trans (congrArg some (by kernel_rfl))
  f146 := Tryd.func40.trans (congrArg some (by kernel_rfl))
  f195 := Tryd.func125.trans (congrArg some (by kernel_rfl))
  f197 := Tryd.func126.trans (congrArg some (by kernel_rfl))
  f217 := Tryd.func98.trans (congrArg some (by kernel_rfl))
  f218 := Tryd.func127.trans (congrArg some (by kernel_rfl))
  f219 := Tryd.func128.trans (congrArg some (by kernel_rfl))
  f221 := Tryd.func74.trans (congrArg some (by kernel_rfl))
  f224 := Tryd.func144.trans (congrArg some (by kernel_rfl))
  f225 := Tryd.func143.trans (congrArg some (by kernel_rfl))
  f260 := Tryd.func142.trans (congrArg some (by kernel_rfl))
  f266 := Tryd.func119.trans (congrArg some (by kernel_rfl))
  f267 := Tryd.func145.trans (congrArg some (by kernel_rfl))
  f268 := Tryd.func104.trans (congrArg some (by kernel_rfl))
  f314 := Tryd.func148.trans (congrArg some (by kernel_rfl))
  t0 := Tryd.underlying0
  a0 := Tryd.isAgg0
  z0 := Tryd.sizeOf0
  v0 := Tryd.zeroValue0
  t3 := Tryd.underlying3
  a3 := Tryd.isAgg3
  z3 := Tryd.sizeOf3
  v3 := Tryd.zeroValue3
  t4 := Tryd.underlying4
  a4 := Tryd.isAgg4
  z4 := Tryd.sizeOf4
  v4 := Tryd.zeroValue4
  t5 := Tryd.underlying5
  a5 := Tryd.isAgg5
  z5 := Tryd.sizeOf5
  v5 := Tryd.zeroValue5
  t9 := Tryd.underlying9
  a9 := Tryd.isAgg9
  z9 := Tryd.sizeOf9
  v9 := Tryd.zeroValue9
  t21 := Tryd.underlying21
  a21 := Tryd.isAgg21
  z21 := Tryd.sizeOf21
  v21 := Tryd.zeroValue21
  t31 := Tryd.underlying67
  a31 := Tryd.isAgg67
  z31 := Tryd.sizeOf67
  v31 := Tryd.zeroValue67
  t46 := Tryd.underlying146
  a46 := Tryd.isAgg146
  z46 := Tryd.sizeOf146
  v46 := Tryd.zeroValue146
  t51 := Tryd.underlying177
  a51 := Tryd.isAgg177
  z51 := Tryd.sizeOf177
  v51 := Tryd.zeroValue177
  t105 := Tryd.underlying182
  a105 := Tryd.isAgg182
  z105 := Tryd.sizeOf182
  v105 := Tryd.zeroValue182
  t119 := Tryd.underlying203
  a119 := Tryd.isAgg203
  z119 := Tryd.sizeOf203
  t138 := Tryd.underlying205
  a138 := Tryd.isAgg205
  z138 := Tryd.sizeOf205
  v138 := Tryd.zeroValue205
  t139 := Tryd.underlying206
  a139 := Tryd.isAgg206
  z139 := Tryd.sizeOf206
  v139 := Tryd.zeroValue206
  t146 := Tryd.underlying207
  a146 := Tryd.isAgg207
  z146 := Tryd.sizeOf207
  v146 := Tryd.zeroValue207
  g1 := by kernel_rfl
  g3 := by kernel_rfl
  g4 := by kernel_rfl }
def Tryd.laysC174_ren : Go.Shelf.Ren := ⟨fun | 174 => 41 | 247 => 75 | 245 => 76 | 287 => 107 | 279 => 108 | 280 => 109 | 281 => 110 | 282 => 111 | 321 => 129 | 322 => 130 | 316 => 131 | 171 => 133 | 205 => 132 | 243 => 146 | 246 => 73 | 283 => 100 | 284 => 101 | 285 => 102 | 286 => 103 | 129 => 121 | 317 => 120 | 318 => 122 | 319 => 123 | 320 => 124 | 337 => 140 | 338 => 141 | n => n, fun | 9 => 9 | 3 => 3 | 2 => 2 | 75 => 70 | 85 => 71 | 4 => 4 | 167 => 143 | 5 => 5 | 53 => 106 | 175 => 144 | 46 => 146 | 168 => 147 | 37 => 22 | 0 => 0 | 210 => 187 | 21 => 21 | 127 => 194 | 145 => 197 | 143 => 195 | 171 => 136 | 173 => 139 | 212 => 176 | 51 => 177 | 20 => 20 | 213 => 178 | 232 => 201 | 233 => 202 | 80 => 209 | n => n, fun | 15 => 2 | 16 => 3 | 17 => 1 | 18 => 5 | 19 => 6 | n => n⟩
theorem Tryd.laysC174 : Go.Proofs.LaysC.n174 Tryd.prog Tryd.laysC174_ren := {
  mixed := by kernel_rfl
  f129 := Tryd.func121.trans (congrArg some (by kernel_rfl))
  f171 := Tryd.func133.trans (congrArg some (by kernel_rfl))
  f174 := Tryd.func41.trans (congrArg some (by kernel_rfl))
  f205 := Tryd.func132.trans (congrArg some (by kernel_rfl))
  f243 := Tryd.func146.trans (congrArg some (by kernel_rfl))
  f245 := Tryd.func76.trans (congrArg some (by kernel_rfl))
  f246 := Tryd.func73.trans (congrArg some (by kernel_rfl))
  f247 := Tryd.func75.trans (congrArg some (by kernel_rfl))
  f279 := Tryd.func108.trans (congrArg some (by kernel_rfl))
  f280 := Tryd.func109.trans (congrArg some (by kernel_rfl))
  f281 := Tryd.func110.trans (congrArg some (by kernel_rfl))
  f282 := Tryd.func111.trans (congrArg some (by kernel_rfl))
  f283 := Tryd.func100.trans (congrArg some (by kernel_rfl))
  f284 := Tryd.func101.trans (congrArg some (by kernel_rfl))
  f285 := Tryd.func102.trans (congrArg some (by kernel_rfl))
  f286 := Tryd.func103.trans (congrArg some (by kernel_rfl))
  f287 := Tryd.func107.trans (congrArg some (by kernel_rfl))
  f316 := Tryd.func131.trans (congrArg some (by kernel_rfl))
  f317 := Tryd.func120.trans (congrArg some (by kernel_rfl))
  f318 := Tryd.func122.trans (congrArg some (by kernel_rfl))
  f319 := Tryd.func123.trans (congrArg some (by kernel_rfl))
  f320 := Tryd.func124.trans (congrArg some (by kernel_rfl))
  f321 := Tryd.func129.trans (congrArg some (by kernel_rfl))
  f322 := Tryd.func130.trans (congrArg some (by kernel_rfl))
  f337 := Tryd.func140.trans (congrArg some (by kernel_rfl))
  f338 := Tryd.func141.trans (congrArg some (by kernel_rfl))
  t0 := Tryd.underlying0
  a0 := Tryd.isAgg0
  z0 := Tryd.sizeOf0
  v0 := Tryd.zeroValue0
  t2 := Tryd.underlying2
  a2 := Tryd.isAgg2
  z2 := Tryd.sizeOf2
  v2 := Tryd.zeroValue2
  t3 := Tryd.underlying3
  a3 := Tryd.isAgg3
  z3 := Tryd.sizeOf3
  v3 := Tryd.zeroValue3
  t4 := Tryd.underlying4
  a4 := Tryd.isAgg4
  z4 := Tryd.sizeOf4
  v4 := Tryd.zeroValue4
  t5 := Tryd.underlying5
  a5 := Tryd.isAgg5
  z5 := Tryd.sizeOf5
  v5 := Tryd.zeroValue5
  t9 := Tryd.underlying9
  a9 := Tryd.isAgg9
  z9 := Tryd.sizeOf9
  v9 := Tryd.zeroValue9
  t20 := Tryd.underlying20
  a20 := Tryd.isAgg20
  z20 := Tryd.sizeOf20
  v20 := Tryd.zeroValue20
  t21 := Tryd.underlying21
  a21 := Tryd.isAgg21
  z21 := Tryd.sizeOf21
  v21 := Tryd.zeroValue21
  t37 := Tryd.underlying22
  a37 := Tryd.isAgg22
  z37 := Tryd.sizeOf22
  v37 := Tryd.zeroValue22
  t46 := Tryd.underlying146
  a46 := Tryd.isAgg146
  z46 := Tryd.sizeOf146
  v46 := Tryd.zeroValue146
  t51 := Tryd.underlying177
  a51 := Tryd.isAgg177
  z51 := Tryd.sizeOf177
  v51 := Tryd.zeroValue177
  t53 := Tryd.underlying106
  a53 := Tryd.isAgg106
  z53 := Tryd.sizeOf106
  v53 := Tryd.zeroValue106
  t75 := Tryd.underlying70
  a75 := Tryd.isAgg70
  z75 := Tryd.sizeOf70
  v75 := Tryd.zeroValue70
  t85 := Tryd.underlying71
  a85 := Tryd.isAgg71
  z85 := Tryd.sizeOf71
  v85 := Tryd.zeroValue71
  t127 := Tryd.underlying194
  a127 := Tryd.isAgg194
  z127 := Tryd.sizeOf194
  v127 := Tryd.zeroValue194
  t143 := Tryd.underlying195
  a143 := Tryd.isAgg195
  z143 := Tryd.sizeOf195
  v143 := Tryd.zeroValue195
  t145 := Tryd.underlying197
  a145 := Tryd.isAgg197
  z145 := Tryd.sizeOf197
  v145 := Tryd.zeroValue197
  t167 := Tryd.underlying143
  a167 := Tryd.isAgg143
  z167 := Tryd.sizeOf143
  v167 := Tryd.zeroValue143
  t168 := Tryd.underlying147
  a168 := Tryd.isAgg147
  z168 := Tryd.sizeOf147
  v168 := Tryd.zeroValue147
  t171 := Tryd.underlying136
  a171 := Tryd.isAgg136
  z171 := Tryd.sizeOf136
  v171 := Tryd.zeroValue136
  t173 := Tryd.underlying139
  a173 := Tryd.isAgg139
  z173 := Tryd.sizeOf139
  v173 := Tryd.zeroValue139
  t175 := Tryd.underlying144
  a175 := Tryd.isAgg144
  z175 := Tryd.sizeOf144
  v175 := Tryd.zeroValue144
  t210 := Tryd.underlying187
  a210 := Tryd.isAgg187
  z210 := Tryd.sizeOf187
  v210 := Tryd.zeroValue187
  t212 := Tryd.underlying176
  a212 := Tryd.isAgg176
  z212 := Tryd.sizeOf176
  v212 := Tryd.zeroValue176
  t213 := Tryd.underlying178
  a213 := Tryd.isAgg178
  z213 := Tryd.sizeOf178
  t232 := Tryd.underlying201
  a232 := Tryd.isAgg201
  z232 := Tryd.sizeOf201
  v232 := Tryd.zeroValue201
  t233 := Tryd.underlying202
  a233 := Tryd.isAgg202
  z233 := Tryd.sizeOf202
  v233 := Tryd.zeroValue202
  g15 := by kernel_rfl
  g16 := by kernel_rfl
  g17 := by kernel_rfl
  g18 := by kernel_rfl
  g19 := by kernel_rfl
  t80 := Tryd.underlying209
  a80 := Tryd.isAgg209
  z80 := Tryd.sizeOf209
  v80 := Tryd.zeroValue209
  i0 := by kernel_rfl
  i2 := by kernel_rfl
  i3 := by kernel_rfl
  i4 := by kernel_rfl
  i5 := by kernel_rfl
  i9 := by kernel_rfl
  i20 := by kernel_rfl
  i21 := by kernel_rfl
  i37 := by kernel_rfl
  i46 := by kernel_rfl
  i51 := by kernel_rfl
  i53 := by kernel_rfl
  i75 := by kernel_rfl
  i80 := by kernel_rfl
  i85 := by kernel_rfl
  i127 := by kernel_rfl
  i143 := by kernel_rfl
  i145 := by kernel_rfl
  i167 := by kernel_rfl
  i168 := by kernel_rfl
  i171 := by kernel_rfl
  i173 := by kernel_rfl
  i175 := by kernel_rfl
  i210 := by kernel_rfl
  i212 := by kernel_rfl
  i232 := by kernel_rfl
  i233 := by kernel_rfl
  m15 := by kernel_rfl
  m16 := by kernel_rfl
  m17 := by kernel_rfl
  m18 := by kernel_rfl
  m19 := by kernel_rfl
  c0 := by kernel_rfl
  c2 := by kernel_rfl
  c3 := by kernel_rfl
  c4 := by kernel_rfl
  c5 := by kernel_rfl
  c9 := by kernel_rfl
  c20 := by kernel_rfl
  c21 := by kernel_rfl
  c37 := by kernel_rfl
  c46 := by kernel_rfl
  c51 := by kernel_rfl
  c53 := by kernel_rfl
  c75 := by kernel_rfl
  c80 := by kernel_rfl
  c85 := by kernel_rfl
  c127 := by kernel_rfl
  c143 := by kernel_rfl
  c145 := by kernel_rfl
  c167 := by kernel_rfl
  c168 := by kernel_rfl
  c171 := by kernel_rfl
  c173 := by kernel_rfl
  c175 := by kernel_rfl
  c210 := by kernel_rfl
  c212 := by kernel_rfl
  c213 := by kernel_rfl
  c232 := by kernel_rfl
  c233 := by kernel_rfl }
end Go.Proofs
namespace Go.Proofs.YtdefhmpmgcahpaaDoor
open Go.RowKit

/-- What the library's functions read of its variables. -/
structure Env (w : World) : Prop where
  maxLen : ∃ m, w.cell? ⟨4, 0, none⟩ = some (.int .i64 m)
  errS : ∃ te pe, w.cell? ⟨2, 0, none⟩ = some (.iface te pe)
  errR : ∃ te pe, w.cell? ⟨3, 0, none⟩ = some (.iface te pe)
theorem Env.below {w w' : World} (h : Env w) (hb : Below w.heap.size w w') : Env w' := by
  obtain ⟨⟨m, h1⟩, ⟨te, pe, h2⟩, ⟨tr, pr, h3⟩⟩ := h
  refine ⟨⟨m, ?_⟩, ⟨te, pe, ?_⟩, ⟨tr, pr, ?_⟩⟩
  · rw [hb.cell (World.block_lt_of_cell? _ _ h1)]; exact h1
  · rw [hb.cell (World.block_lt_of_cell? _ _ h2)]; exact h2
  · rw [hb.cell (World.block_lt_of_cell? _ _ h3)]; exact h3

theorem splitB_strs (c : UInt8) (t : List UInt8) : (Lib.splitB ⟨#[c]⟩ 0 (Lib.countB (strOf t) ⟨#[c]⟩) (strOf t)).map Value.string = strs (splitL c t) := by
  have h := splitB_one c (strOf t)
  rw [strOf_list] at h
  rw [← h]
  unfold strs
  rw [List.map_map]
  apply List.map_congr_left
  intro s _
  simp only [Function.comp_apply, strOf_self]
theorem splitB_count (c : UInt8) (t : List UInt8) : Lib.countB (strOf t) ⟨#[c]⟩ + 1 = (splitL c t).length := by
  have h := congrArg List.length (splitB_strs c t)
  rw [List.length_map, Lib.splitB_all ⟨#[c]⟩ (Nat.le_refl 1) 0 _ _ rfl] at h
  rw [h]
  simp [strs]

theorem split_any (t : List UInt8) (ht : t.length ≤ 4000000) (w : World) (he : Env w) :
    Calls Tryd.prog 40 #[.string (strOf t), .string ⟨#[32]⟩] w fun e w' => e = .returned (.slice (some ⟨w.heap.size, 0, none⟩) (splitL 32 t).length (splitL 32 t).length) ∧ w' = w.alloc (.cells (strs (splitL 32 t)).toArray 9) := by
  obtain ⟨m, hm⟩ := he.maxLen
  have C := Any.strings_Split Tryd.lays146 (by kernel_rfl) (strOf t) ⟨#[32]⟩ m w (by rw [strOf_size]; omega) hm (by decide)
  rw [splitB_strs, splitB_count] at C
  exact C

theorem below_bytes (w : World) (e : TypeId) (s : ByteArray) : Below w.heap.size w (Lib.bytesWorld w e s) := by
  refine ⟨rfl, rfl, rfl, ?_, fun j hj => Lib.bytesWorld_at_old w e s j hj⟩
  simp [Lib.bytesWorld, World.freeze, World.alloc, World.drew, -World.alloc_eq, -World.drew_eq]

theorem parseInt_any (t : List UInt8) (ht : t.length ≤ 4000000) (w : World) (he : Env w) :
    Calls Tryd.prog 41 #[.string (strOf t), .int .i64 10, .int .i64 64] w fun e w' => ∃ ev, e = .returned (.tuple #[.int .i64 (pz t), ev]) ∧ Below w.heap.size w w' := by
  have hl : (strOf t).data.toList = t := rfl
  obtain ⟨te, pe, h2⟩ := he.errS
  obtain ⟨tr, pr, h3⟩ := he.errR
  cases hp : Lib.parseIntB 64 t with
  | ok v =>
    have e : pz t = v := by unfold pz; rw [hp]
    rw [e]
    refine (Any.strconv_ParseInt_10_at64_ok Tryd.laysC174 (strOf t) (by rw [strOf_size]; omega) v (by rw [hl]; exact hp) w).mono fun e w' ⟨h1, h2⟩ => ⟨_, h1, ?_⟩
    rcases h2 with rfl | ⟨x, rfl⟩
    · exact Below.refl _ _
    · exact below_bytes _ _ _
  | «syntax» =>
    have e : pz t = 0 := by unfold pz; rw [hp]
    rw [e]
    refine (Any.strconv_ParseInt_10_at64_syntax Tryd.laysC174 (strOf t) (by rw [strOf_size]; omega) (by rw [hl]; exact hp) _ w h2 (.inr ⟨te, pe, rfl⟩)).mono fun e w' h => ?_
    obtain ⟨N, h1, _, _, h4⟩ := h
    exact ⟨_, h1, h4⟩
  | range =>
    have e : pz t = Lib.intSat 64 t := by unfold pz; rw [hp]
    rw [e]
    refine (Any.strconv_ParseInt_10_at64_range Tryd.laysC174 (strOf t) (by rw [strOf_size]; omega) (by rw [hl]; exact hp) _ w h3 (.inr ⟨tr, pr, rfl⟩)).mono fun e w' h => ?_
    obtain ⟨N, h1, _, _, h4⟩ := h
    exact ⟨_, h1, h4⟩

end Go.Proofs.YtdefhmpmgcahpaaDoor
/-
  ReadStep of the program.
-/
set_option linter.unusedVariables false
set_option linter.unusedSimpArgs false
namespace Go.Proofs.YtdefhmpmgcahpaaDoor
open Go.RowKit

def stR (r : Option St) : St := match r with | some s => s | none => ⟨0, 0, 0, []⟩
def rdC (r : Option St) : Int := match r with | some _ => 0 | none => 5
/-- What is read of a text. -/
def ReadStTo (t : List UInt8) (w : World) (e : Ending) (w' : World) : Prop := ∃ r v tv, ReadsSt t r ∧ e = .returned (.tuple #[v, .int .i64 (rdC r)]) ∧ StepO w' w.heap.size v (stR r) tv ∧ Below w.heap.size w w'

/-- What the library and the program read of their variables. -/
structure GloS (w : World) : Prop where
  env : Env w
  pow : Pow10 w
  tab : Tab w
theorem GloS.below {w w' : World} (h : GloS w) (hb : Below w.heap.size w w') : GloS w' := ⟨h.env.below hb, h.pow.below hb, h.tab.below hb⟩

theorem res_cell_tmpS {fn : Func} {p q : Tmp} {ty : TypeId} (h : fn.results = #[.cell p ty, .tmp q]) (tmps : Array Value) (P : Program) (w : World) {a : Addr} {v : Value} (ha : tmps.getD p undef = .pointer (some a)) (hv : (loadVar ty a).run P w = .ok v w) :
    (results fn tmps).run P w = .ok (.tuple #[v, tmps.getD q undef]) w := by
  have ha' : tmps[p]?.getD undef = .pointer (some a) := by simpa using ha
  simp only [results, h]
  simp [Sem.run_bind, Result.andThen, ha', asAddr, hv]
theorem load4S {w : World} {V : Nat} {a0 a1 a2 a3 : Value} (h0 : w.cell? ⟨V, 0, none⟩ = some a0) (h1 : w.cell? ⟨V, 1, none⟩ = some a1) (h2 : w.cell? ⟨V, 2, none⟩ = some a2) (h3 : w.cell? ⟨V, 3, none⟩ = some a3) :
    (loadVar 36 ⟨V, 0, none⟩).run Tryd.prog w = .ok (.agg #[a0, a1, a2, a3]) w := by
  refine run_loadVar_mid _ _ _ _ [a0, a1, a2, a3] _ ?_ Tryd.underlying36 rfl infoStep
  intro j v hv
  rcases j with _ | _ | _ | _ | j <;> simp at hv <;> subst hv <;> first | exact h0 | exact h1 | exact h2 | exact h3
theorem ints_one (z : Int) : ints [z] = [.int .i64 z] := rfl
theorem ints_take {zs : List Int} {j : Nat} (h : j < zs.length) : ints (zs.take j) ++ ints [zs.getD j 0] = ints (zs.take (j + 1)) := by
  rw [List.take_add_one, List.getD_eq_getElem?_getD, List.getElem?_eq_getElem h]
  show List.map _ _ ++ List.map _ [_] = List.map _ _
  rw [← List.map_append]
  rfl
theorem ints_oneCell (zs : List Int) : ∀ v ∈ ints zs, v.oneCell' = true := fun v hv => by
  obtain ⟨p, -, rfl⟩ := List.mem_map.1 hv
  rfl

set_option maxRecDepth 100000 in
set_option maxHeartbeats 8000000 in
theorem readStep_impl (t : List UInt8) (ht : t.length ≤ 1048576) (w : World) (hG : GloS w) :
    Calls Tryd.prog 15 #[.string (strOf t)] w (ReadStTo t w) := by
  have hb0 : Below w.heap.size w (w.alloc (.cells #[.int .i64 0, .int .i64 0, .int .i64 0, .slice none 0 0] 36)) := (Below.refl _ _).alloc (Nat.le_refl _) _
  obtain ⟨W, hW⟩ : ∃ W, W = w.alloc (.cells #[.int .i64 0, .int .i64 0, .int .i64 0, .slice none 0 0] 36) := ⟨_, rfl⟩
  have hWs : W.heap.size = w.heap.size + 1 := by rw [hW]; simp
  have r0 : W.cell? ⟨w.heap.size, 0, none⟩ = some (.int .i64 0) := by rw [hW]; go_simp
  have r1 : W.cell? ⟨w.heap.size, 1, none⟩ = some (.int .i64 0) := by rw [hW]; go_simp
  have r2 : W.cell? ⟨w.heap.size, 2, none⟩ = some (.int .i64 0) := by rw [hW]; go_simp
  have r3 : W.cell? ⟨w.heap.size, 3, none⟩ = some (.slice none 0 0) := by rw [hW]; go_simp
  have rf : ∀ j, W.frozen? ⟨w.heap.size, j, none⟩ = false := fun j => by rw [hW]; go_simp
  rw [← hW] at hb0
  have hlt : w.heap.size < W.heap.size := by omega
  have HR : Hid (∀ w', Below W.heap.size W w' → (w'.cell? ⟨w.heap.size, 0, none⟩ = some (.int .i64 0) ∧ w'.cell? ⟨w.heap.size, 1, none⟩ = some (.int .i64 0) ∧ w'.cell? ⟨w.heap.size, 2, none⟩ = some (.int .i64 0) ∧ w'.cell? ⟨w.heap.size, 3, none⟩ = some (.slice none 0 0)) ∧ ∀ j, w'.frozen? ⟨w.heap.size, j, none⟩ = false) := fun w' hb => by
    rw [hb.cell hlt, hb.cell hlt, hb.cell hlt, hb.cell hlt]
    exact ⟨⟨r0, r1, r2, r3⟩, fun j => by rw [hb.frozen hlt]; exact rf j⟩
  have HB0 := Lib.hid hb0
  have HW := Lib.hid hW.symm
  have HG := Lib.hid (fun (w' : World) (hb : Below W.heap.size W w') => (hG.below hb0).below hb)
  have SP := Lib.hid (split_any t (by omega) W (hG.below hb0).env)
  have HY := Lib.hid (fun q => @stP_yes t q)
  have HN := Lib.hid (fun q => @stP_no t q)
  have hlen := split_len 32 t
  have hne := List.length_pos_iff.2 (splitL_ne 32 t)
  have hml : ∀ p ∈ splitL 32 t, p.length ≤ 2000000 := fun p hp => by have := split_len_mem 32 hp; omega
  have HST : Hid (∀ q, stP q t = withSt q (((splitL 32 t).tail).map pz)) := fun q => rfl
  obtain ⟨ws, hws⟩ : ∃ ws, splitL 32 t = ws := ⟨_, rfl⟩
  rw [hws] at hlen hne hml HST
  simp only [hws] at SP HN
  obtain ⟨b, hb⟩ : ∃ b, W.heap.size = b := ⟨_, rfl⟩
  obtain ⟨L, hL⟩ : ∃ L, ws.length = L := ⟨_, rfl⟩
  have hLm : (L : Int) ≤ 9223372036854775807 := by omega
  have hL1 : 1 ≤ L := by omega
  have hL2 : L ≤ 1048577 := by omega
  obtain ⟨a', hsl', ha'⟩ := tail_slice b L hL1 hLm
  have HSL := Lib.hid hsl'
  rw [hL] at SP
  simp only [hb] at SP
  clear hW hb0 r0 r1 r2 r3 rf hsl' hG
  go_enter Tryd.func15, Tryd.ntmps15
  go_wp2_with fail
  rw [HW.out]
  refine SP.out.mono ?_
  rintro e w1 ⟨rfl, hw1⟩
  have hw1s : w1.heap.size = b + 1 := by rw [hw1, ← hb]; simp
  have hB1 : Below W.heap.size W w1 := by rw [hw1]; exact (Below.refl _ _).alloc (Nat.le_refl _) _
  have HF : Hid (∀ w', Below w1.heap.size w1 w' → ∀ j, j < L → w'.cell? ⟨b, j, none⟩ = some (.string (strOf (ws.getD j [])))) := fun w' hbw j hj => by
    rw [hbw.cell (show (⟨b, j, none⟩ : Addr).block < w1.heap.size by show b < _; omega), hw1, ← hb, World.cell?_alloc_new]
    simp [strs, hL, hj]
  have HB1 := Lib.hid hB1
  have HMEM : Hid (∀ j, j < L → (ws.getD j []).length ≤ 2000000) := fun j hj => by
    rw [List.getD_eq_getElem?_getD, List.getElem?_eq_getElem (by omega)]
    exact hml _ (List.getElem_mem _)
  have HLL := Lib.hid hL
  obtain ⟨m, hm⟩ : ∃ m, L - 1 = m := ⟨_, rfl⟩
  rw [hm] at HSL
  have HM : Hid (L = m + 1) := by show _ = _; omega
  have hmm : m ≤ 1048576 := by omega
  have hmi : (m : Int) ≤ 9223372036854775807 := by omega
  have HA : Hid (∀ j, j < m → a' = some ⟨b, 1, none⟩) := fun j hj => ha' (by omega)
  obtain ⟨zs, hzs⟩ : ∃ zs, (ws.tail).map pz = zs := ⟨_, rfl⟩
  have HZL : Hid (zs.length = m) := by
    show _ = _
    rw [← hzs, List.length_map, List.length_tail, hL]
    exact hm
  have HZD : Hid (∀ j, j < m → zs.getD j 0 = pz (ws.getD (1 + j) [])) := fun j hj => by
    rw [← hzs, List.getD_eq_getElem?_getD, List.getElem?_map, List.getElem?_tail, List.getD_eq_getElem?_getD, Nat.add_comm 1 j, List.getElem?_eq_getElem (show j + 1 < ws.length by omega)]
    rfl
  rw [hzs] at HST
  obtain ⟨i0, hi, hz0, hz1, hz2⟩ := info_parts' info_i64
  have HI : Hid (Tryd.prog.info? 2 = some i0) := hi
  have HZ0 := Lib.hid (And.intro hz0 (And.intro hz1 hz2))
  clear hw1 hB1 hml hL hzs hne hlen hi hz0 hz1 hz2 ha' SP hws hm hL2
  go_wp2_with (refine wpList_sliceV rfl _ _ _ rfl _ _ rfl rfl _ (HSL.out _) ?_)
  have HR0 : Hid (Row w1 w1.heap.size 2 (.slice none 0 0) (ints (zs.take 0))) := by
    rw [List.take_zero]
    exact ⟨rfl, .inl ⟨rfl, rfl⟩⟩
  have HMI := Lib.hid hmi
  have HW1S := Lib.hid hw1s
  have HBW := Lib.hid hb
  clear hw1s hb hWs

  go_loopw [5, 16] (fun v i wr => ∃ j : Nat, i = .int .i64 j ∧ j ≤ m ∧ Row wr w1.heap.size 2 v (ints (zs.take j)) ∧ Below w1.heap.size w1 wr) (fun _ i _ => m - (intOf i).toNat)
  case atStart => exact ⟨0, rfl, Nat.zero_le _, HR0.out, Below.refl _ _⟩
  case round =>
    obtain ⟨j, rfl, hjle, hR, hB⟩ := hrel
    have HB := Lib.hid hB
    have HRW := Lib.hid hR
    by_cases hjm : j < m
    · have hword := HF.out wr hB (1 + j) (by have := HM.out; omega)
      obtain rfl := HA.out j hjm
      have hji : (j : Int) < (m : Int) := by omega
      have HJ := Lib.hid hjm
      have hb0 := below_step' HB1.out hB HB1.out.size
      have PI := Lib.hid (parseInt_any (ws.getD (1 + j) []) (by have := HMEM.out (1 + j) (by have := HM.out; omega); omega) wr (HG.out _ hb0).env)
      have HZ := HZD.out j hjm
      rw [← HZ] at PI
      have HTK : Hid (ints (zs.take j) ++ ints [zs.getD j 0] = ints (zs.take (j + 1))) := by
        exact ints_take (by have := HZL.out; omega)
      generalize ws.getD (1 + j) [] = tw at hword PI HZ
      generalize zs.getD j 0 = z at PI HTK HZ
      obtain ⟨g, cap, rfl⟩ := hR.form
      clear hB hR hjm hjle hb0 HZ
      go_wp2_with fail
      refine PI.out.mono ?_
      rintro e w2 ⟨ev, rfl, hb2⟩
      have hs2 : w1.heap.size ≤ w2.heap.size := Nat.le_trans HB.out.size hb2.size
      have HRV := Lib.hid ((HRW.out.below hb2 (fun k e => (HRW.out.lt k e).2)).alloc (.cells #[.int .i64 z] 2))
      have HL : Hid (Reads (w2.alloc (.cells #[.int .i64 z] 2)) (.slice (some ⟨w2.heap.size, 0, none⟩) 1 1) (ints [z])) := by
        refine .row _ 1 1 _ rfl (by decide) (by decide) (by unfold maxLen; omega) fun j hj => ?_
        obtain rfl : j = 0 := by omega
        go_simp; try rfl
      have HB2 : Hid (Below w1.heap.size w1 w2) := below_step' HB.out hb2 HB.out.size
      have HLE : Hid ((ints (zs.take j)).length ≤ 1048576) := by
        show _ ≤ _
        rw [ints_length, List.length_take]
        omega
      have HS2 := Lib.hid hs2
      clear hb2 hs2 PI
      go_wp2_with (at_builtin; refine wpList_appR rfl _ _ 34 2 rfl Tryd.underlying34 i0 HI.out HZ0.out.1 HZ0.out.2.1 HZ0.out.2.2 (by decide) rfl w1.heap.size _ _ (ints (zs.take j)) (ints [z]) rfl rfl HRV.out HL.out (ints_oneCell _) (by have := HS2.out; simp; omega) (by have := HLE.out; rw [ints_length [z]]; simp at this ⊢; omega) ?_)
      intro v' w3 hr3 hg3
      rw [HTK.out] at hr3
      have HR3 := Lib.hid hr3
      have HB3 : Hid (Below w1.heap.size w1 w3) := (HB2.out.alloc HS2.out _).grown hg3 (by have := HS2.out; simp; omega) (fun b e => (HRV.out.lt b e).1)
      clear hr3 hg3
      go_wp2
      go_roundw
      case rel => exact ⟨j + 1, by go_num, HJ.out, HR3.out, HB3.out⟩
      case measure => have := HJ.out; simp [intOf]; omega
    · obtain rfl : j = m := by omega
      rw [List.take_of_length_le (by have := HZL.out; omega)] at hR
      clear HRW
      obtain ⟨g, cap, hv⟩ := hR.form
      rw [ints_length] at hv
      subst hv
      have HRW := Lib.hid hR
      have hword := HF.out wr hB 0 (by have := HM.out; omega)
      have hb0 := below_step' HB1.out hB HB1.out.size
      have HB9 := Lib.hid hb0
      have hmc : (0 : Int) < ((j + 1 : Nat) : Int) := by omega
      have KO := Lib.hid (kindOf_any (ws.getD 0 []) wr (HG.out _ hb0).tab)
      have HHD : Hid (ws.headD [] = ws.getD 0 []) := by
        show _ = _
        cases ws <;> rfl
      have HN := Lib.hid (HHD.out ▸ HN.out)
      generalize ws.getD 0 [] = tw at hword KO HN
      clear hR hjm hjle hB hb0
      go_wp2_with fail
      refine KO.out.mono ?_
      rintro e w2 ⟨q, rfl, hq, hb2⟩
      have HQ := Lib.hid hq
      have HB2 : Hid (Below W.heap.size W w2) := below_step' HB9.out hb2 HB9.out.size
      have hR2 := HRW.out.below hb2 (fun k e => (HRW.out.lt k e).2)
      have SW : ∃ (ra : Option Addr) (rc : Nat), Calls Tryd.prog 42 #[.int .i64 q, .slice g zs.length cap] w2 (fun e w' => e = .returned (.agg #[.int .i64 (stP q t).kind, .int .i64 (stP q t).n, .int .i64 (stP q t).k, .slice ra (stP q t).taps.length rc]) ∧ Below w2.heap.size w2 w') ∧
          Row w2 w1.heap.size 2 (.slice ra (stP q t).taps.length rc) (ints (stP q t).taps) := by
        rw [HST.out q]
        by_cases h3 : q = 3
        · subst h3
          exact ⟨g, cap, stepWith_filter _ _ _ _ rfl w2, hR2⟩
        · rw [show withSt q zs = ⟨q, zs.getD 0 0, zs.getD 1 0, []⟩ from if_neg h3]
          exact ⟨none, 0, stepWith_other q (by omega) zs g cap w2 hR2.reads, ⟨rfl, .inl ⟨rfl, rfl⟩⟩⟩
      obtain ⟨ra, rc, SW, hR⟩ := SW
      have HY1 := Lib.hid (HY.out q)
      have HN1 := Lib.hid (HN.out q HQ.out)
      clear hR2 hb2 hq HY HN KO HST HQ
      generalize stP q t = s at SW hR HY1 HN1
      obtain ⟨kd, n, k, taps⟩ := s
      simp only at SW hR
      have SW := Lib.hid SW
      have HRT := Lib.hid hR
      obtain ⟨TL, hTL⟩ : ∃ T, taps.length = T := ⟨_, rfl⟩
      rw [hTL] at SW
      have HTL := Lib.hid hTL
      clear hR hTL
      go_wp2_with fail
      refine SW.out.mono ?_
      rintro e w3 ⟨rfl, hb3⟩
      have HB3 : Hid (Below W.heap.size W w3) := below_step' HB2.out hb3 HB2.out.size
      have hR3 := (HRT.out.below hb3 (fun k e => (HRT.out.lt k e).2)).alloc (.cells #[.int .i64 kd, .int .i64 n, .int .i64 k, .slice ra TL rc] 36)
      have hB4 : Below W.heap.size W (w3.alloc (.cells #[.int .i64 kd, .int .i64 n, .int .i64 k, .slice ra TL rc] 36)) := HB3.out.alloc HB3.out.size _
      have C : ∀ j u, [Value.int .i64 kd, .int .i64 n, .int .i64 k, .slice ra TL rc][j]? = some u → (w3.alloc (.cells #[.int .i64 kd, .int .i64 n, .int .i64 k, .slice ra TL rc] 36)).cell? ⟨w3.heap.size, j, none⟩ = some u := by
        intro j u hu
        rcases j with _ | _ | _ | _ | j <;> simp at hu <;> subst hu <;> go_simp
      have c0 := C 0 _ rfl
      have c1 := C 1 _ rfl
      have c2 := C 2 _ rfl
      have c3 := C 3 _ rfl
      obtain ⟨w4, hw4⟩ : ∃ w4, w4 = w3.alloc (.cells #[.int .i64 kd, .int .i64 n, .int .i64 k, .slice ra TL rc] 36) := ⟨_, rfl⟩
      have hlt4 : w3.heap.size < w4.heap.size := by rw [hw4]; simp
      rw [← hw4] at hR3 hB4 c0 c1 c2 c3
      have V := validStep_impl ⟨kd, n, k, taps⟩ ra rc w4 (HG.out _ hB4).tab hR3.reads
      have TX := fun (W' : World) (hb : Below w4.heap.size w4 W') => stepText_impl ⟨kd, n, k, taps⟩ ra rc W' (HG.out _ (below_step' hB4 hb hB4.size)).tab (HG.out _ (below_step' hB4 hb hB4.size)).pow (hR3.reads.keep hb)
      simp only at V TX
      rw [HTL.out] at V
      simp only [HTL.out] at TX
      obtain ⟨p, hp⟩ : ∃ p, validSt ⟨kd, n, k, taps⟩ = p := ⟨_, rfl⟩
      rw [hp] at V HY1 HN1
      have heq := strOf_beq (stText ⟨kd, n, k, taps⟩) t
      obtain ⟨q2, hq2⟩ : ∃ p, decide (stText ⟨kd, n, k, taps⟩ = t) = p := ⟨_, rfl⟩
      rw [hq2] at heq
      have HQ2 := Lib.hid hq2
      generalize strOf (stText ⟨kd, n, k, taps⟩) = S1 at heq TX
      obtain ⟨S2, hS2⟩ : ∃ x, strOf t = x := ⟨_, rfl⟩
      rw [hS2] at heq ⊢
      have V := Lib.hid V
      have TX := Lib.hid TX
      clear hp hq2 hS2
      have HW4 := Lib.hid hw4.symm
      have HB4 := Lib.hid hB4
      have HR4 := Lib.hid hR3
      have HLT4 := Lib.hid hlt4
      clear hb3 C hw4 hB4 hR3 hlt4 SW HRT HB2 HB3
      go_wp2_with fail
      rw [HW4.out]
      refine V.out.mono ?_
      rintro e w5 ⟨rfl, hb5⟩
      have HLW1 : Hid (w.heap.size < w1.heap.size) := Nat.lt_of_lt_of_le hlt HB1.out.size
      have HB5 : Hid (Below W.heap.size W w5) := below_step' HB4.out hb5 HB4.out.size
      have HRW5 := Lib.hid (HR4.out.below hb5 (fun k e => (HR4.out.lt k e).2))
      have c0 := (hb5.cell HLT4.out).trans c0
      have c1 := (hb5.cell HLT4.out).trans c1
      have c2 := (hb5.cell HLT4.out).trans c2
      have c3 := (hb5.cell HLT4.out).trans c3
      have HL35 : Hid (w3.heap.size < w5.heap.size) := Nat.lt_of_lt_of_le HLT4.out hb5.size
      cases p
      · obtain ⟨⟨x0, x1, x2, x3⟩, xf⟩ := HR.out w5 HB5.out
        have f0 := xf 0
        have f1 := xf 1
        have f2 := xf 2
        have f3 := xf 3
        have hz : Hid (Has4 w5 w.heap.size (.int .i64 0) (.int .i64 0) (.int .i64 0) (.slice none 0 0)) := ⟨x0, x1, x2, x3⟩
        have HB : Hid (Below w.heap.size w w5) := below_step' HB0.out HB5.out HB0.out.size
        have HRN : Hid (ReadsSt t none) := HN1.out (fun h => by cases h.1)
        clear xf hb5
        go_wp2
        (try simp only [Exit.inBlock, Exit.then])
        refine bodyPost_ret (res_cell_tmpS rfl _ _ _ rfl (load4S (hz.out.set _ _ _ _).c0 (hz.out.set _ _ _ _).c1 (hz.out.set _ _ _ _).c2 (hz.out.set _ _ _ _).c3)) rfl ?_
        exact ⟨none, _, _, HRN.out, rfl, ⟨rfl, rfl, .inl ⟨rfl, rfl⟩⟩, st4_below HB.out _ _ _ _⟩
      · have TX5 := Lib.hid (TX.out w5 hb5)
        clear hb5
        go_wp2_with fail
        refine TX5.out.mono ?_
        rintro e w6 ⟨rfl, hb6⟩
        have HB6 : Hid (Below W.heap.size W w6) := below_step' HB5.out hb6 HB5.out.size
        have HRW6 := Lib.hid (HRW5.out.below hb6 (fun k e => (HRW5.out.lt k e).2))
        have c0 := (hb6.cell HL35.out).trans c0
        have c1 := (hb6.cell HL35.out).trans c1
        have c2 := (hb6.cell HL35.out).trans c2
        have c3 := (hb6.cell HL35.out).trans c3
        obtain ⟨⟨x0, x1, x2, x3⟩, xf⟩ := HR.out w6 HB6.out
        have f0 := xf 0
        have f1 := xf 1
        have f2 := xf 2
        have f3 := xf 3
        have hz : Hid (Has4 w6 w.heap.size (.int .i64 0) (.int .i64 0) (.int .i64 0) (.slice none 0 0)) := ⟨x0, x1, x2, x3⟩
        have HB : Hid (Below w.heap.size w w6) := below_step' HB0.out HB6.out HB0.out.size
        clear xf hb6
        cases q2
        · have HRN : Hid (ReadsSt t none) := HN1.out (fun h => absurd h.2 (of_decide_eq_false HQ2.out))
          go_wp2
          (try simp only [Exit.inBlock, Exit.then])
          refine bodyPost_ret (res_cell_tmpS rfl _ _ _ rfl (load4S (hz.out.set _ _ _ _).c0 (hz.out.set _ _ _ _).c1 (hz.out.set _ _ _ _).c2 (hz.out.set _ _ _ _).c3)) rfl ?_
          exact ⟨none, _, _, HRN.out, rfl, ⟨rfl, rfl, .inl ⟨rfl, rfl⟩⟩, st4_below HB.out _ _ _ _⟩
        · have HRS : Hid (ReadsSt t (some ⟨kd, n, k, taps⟩)) := HY1.out trivial (of_decide_eq_true HQ2.out)
          have HRX : Hid (Row (st4 w6 w.heap.size (.int .i64 kd) (.int .i64 n) (.int .i64 k) (.slice ra TL rc)) w.heap.size 2 (.slice ra TL rc) (ints taps)) := by
            have h := HRW6.out
            rw [HTL.out] at h
            have hne : (Value.slice ra TL rc).ownBlock ≠ some w.heap.size := fun e => by
              have := (h.lt _ e).1
              have := HLW1.out
              omega
            exact ((((h.base' (Nat.le_of_lt HLW1.out)).other _ hne).other _ hne).other _ hne).other _ hne
          go_wp2
          (try simp only [Exit.inBlock, Exit.then])
          refine bodyPost_ret (res_cell_tmpS rfl _ _ _ rfl (load4S (hz.out.set _ _ _ _).c0 (hz.out.set _ _ _ _).c1 (hz.out.set _ _ _ _).c2 (hz.out.set _ _ _ _).c3)) rfl ?_
          exact ⟨some ⟨kd, n, k, taps⟩, _, _, HRS.out, rfl, ⟨rfl, HRX.out⟩, st4_below HB.out _ _ _ _⟩

end Go.Proofs.YtdefhmpmgcahpaaDoor
