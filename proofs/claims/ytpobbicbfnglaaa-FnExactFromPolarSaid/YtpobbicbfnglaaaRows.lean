/-
  No cell of these rows narrows 'for every input' (looked for: loops, veiled, ifaces, maps, wideKeys, modest, calm, conditions, laid).
  DERIVED. THE GIVEN ROWS OF THIS SEAT. 10 by the template 'for every input the law returns true; each argument reads behind the call as it read before'; 0 by the template 'total and deterministic' (their statements: YtpobbicbfnglaaaTotals.lean).
  GIVEN WITH THE SEED: the statements are not yours to turn. If you find one false, say at which input.
  Laid BY PROGRAM, IN A SANDBOX (cutbox-rows.mjs): the forced cells as the released guide's own fill.sh prints them over the translation 22cf3daa6967ffa0… (all of the seat's roots in one cut). By AI agents, Wed Nov 11 2026. No macro, syntax, notation, axiom, sorry.
-/
import Derived.Test.YtpobbicbfnglaaaChecked
import GoSem.Claim
import GoSem.ClaimJoined
import GoSem.ClaimMapViews
import Derived.JoinedTies
import Derived.KernelRfl
namespace Go.Proofs.Ytpobbicbfnglaaa
/- THE CELL 'sum', in the pinned program and in every row, IS THE sha256 OF THE DUMP (.gsa) THAT YtpobbicbfnglaaaProg.lean LOADS. Nothing in Lean hashes anything: it is a label: what it is worth is what the hold of that sum in a sandbox is worth. -/
noncomputable def Try.pinned : Pinned := { name := "ytpobbicbfnglaaa", sum := "22cf3daa6967ffa05ec86a908ccc289775ccc21e46b169ee6d477af45363a03c", checked := Try.checked }
namespace Rows
def none {H : Type} : Left H := { results := [], args := [] }

/-- 'laws.FnExactSmoothPowers': WHATEVER THE INPUT: true; the input reads as it did. -/
def fnExactSmoothPowersSpec : ChangeSpec := { name := "fnExactSmoothPowers", fn := fun _ => fun
  | [d1, d2] => { results := [.lit (.bool true)], args := [d1, d2] }
  | _ => none }
def fnExactSmoothPowersRow : OpenClaim := { program := "ytpobbicbfnglaaa", sum := "22cf3daa6967ffa05ec86a908ccc289775ccc21e46b169ee6d477af45363a03c", func := "loop.example/g01155/laws.FnExactSmoothPowers", spec := "fnExactSmoothPowers", unfollowed := true, recurses := true, plainKeys := false, apart := false }
def FnExactSmoothPowersSaid : Prop := fnExactSmoothPowersRow.holds Try.pinned (OpenSpec.ofChange fnExactSmoothPowersSpec)

/-- ITS FALSE NEIGHBOUR: 'it returns false'. Refute it at one input. -/
def fnExactSmoothPowersWrong : ChangeSpec := { name := "fnExactSmoothPowers", fn := fun _ => fun
  | [d1, d2] => { results := [.lit (.bool false)], args := [d1, d2] }
  | _ => none }
def FnExactSmoothPowersWrongFalsely : Prop := fnExactSmoothPowersRow.holds Try.pinned (OpenSpec.ofChange fnExactSmoothPowersWrong)

/-- 'laws.FnExactPeaksOf': WHATEVER THE INPUT: true; the input reads as it did. -/
def fnExactPeaksOfSpec : ChangeSpec := { name := "fnExactPeaksOf", fn := fun _ => fun
  | [d1, d2] => { results := [.lit (.bool true)], args := [d1, d2] }
  | _ => none }
def fnExactPeaksOfRow : OpenClaim := { program := "ytpobbicbfnglaaa", sum := "22cf3daa6967ffa05ec86a908ccc289775ccc21e46b169ee6d477af45363a03c", func := "loop.example/g01155/laws.FnExactPeaksOf", spec := "fnExactPeaksOf", plainKeys := false, apart := false }
def FnExactPeaksOfSaid : Prop := fnExactPeaksOfRow.holds Try.pinned (OpenSpec.ofChange fnExactPeaksOfSpec)

/-- ITS FALSE NEIGHBOUR: 'it returns false'. Refute it at one input. -/
def fnExactPeaksOfWrong : ChangeSpec := { name := "fnExactPeaksOf", fn := fun _ => fun
  | [d1, d2] => { results := [.lit (.bool false)], args := [d1, d2] }
  | _ => none }
def FnExactPeaksOfWrongFalsely : Prop := fnExactPeaksOfRow.holds Try.pinned (OpenSpec.ofChange fnExactPeaksOfWrong)

/-- 'laws.FnExactPeakBetween': WHATEVER THE INPUT: true; the input reads as it did. -/
def fnExactPeakBetweenSpec : ChangeSpec := { name := "fnExactPeakBetween", fn := fun _ => fun
  | [d1, d2] => { results := [.lit (.bool true)], args := [d1, d2] }
  | _ => none }
def fnExactPeakBetweenRow : OpenClaim := { program := "ytpobbicbfnglaaa", sum := "22cf3daa6967ffa05ec86a908ccc289775ccc21e46b169ee6d477af45363a03c", func := "loop.example/g01155/laws.FnExactPeakBetween", spec := "fnExactPeakBetween", inPlace := ["math.Float64bits", "math.Float64frombits"], plainKeys := false, apart := false }
def FnExactPeakBetweenSaid : Prop := fnExactPeakBetweenRow.holds Try.pinned (OpenSpec.ofChange fnExactPeakBetweenSpec)

/-- ITS FALSE NEIGHBOUR: 'it returns false'. Refute it at one input. -/
def fnExactPeakBetweenWrong : ChangeSpec := { name := "fnExactPeakBetween", fn := fun _ => fun
  | [d1, d2] => { results := [.lit (.bool false)], args := [d1, d2] }
  | _ => none }
def FnExactPeakBetweenWrongFalsely : Prop := fnExactPeakBetweenRow.holds Try.pinned (OpenSpec.ofChange fnExactPeakBetweenWrong)

/-- 'laws.FnExactCentroidOf': WHATEVER THE INPUT: true; the input reads as it did. -/
def fnExactCentroidOfSpec : ChangeSpec := { name := "fnExactCentroidOf", fn := fun _ => fun
  | [d] => { results := [.lit (.bool true)], args := [d] }
  | _ => none }
def fnExactCentroidOfRow : OpenClaim := { program := "ytpobbicbfnglaaa", sum := "22cf3daa6967ffa05ec86a908ccc289775ccc21e46b169ee6d477af45363a03c", func := "loop.example/g01155/laws.FnExactCentroidOf", spec := "fnExactCentroidOf", unfollowed := true, recurses := true, plainKeys := false, apart := false }
def FnExactCentroidOfSaid : Prop := fnExactCentroidOfRow.holds Try.pinned (OpenSpec.ofChange fnExactCentroidOfSpec)

/-- ITS FALSE NEIGHBOUR: 'it returns false'. Refute it at one input. -/
def fnExactCentroidOfWrong : ChangeSpec := { name := "fnExactCentroidOf", fn := fun _ => fun
  | [d] => { results := [.lit (.bool false)], args := [d] }
  | _ => none }
def FnExactCentroidOfWrongFalsely : Prop := fnExactCentroidOfRow.holds Try.pinned (OpenSpec.ofChange fnExactCentroidOfWrong)

/-- 'laws.FnExactMedianOf': WHATEVER THE INPUT: true; the input reads as it did. -/
def fnExactMedianOfSpec : ChangeSpec := { name := "fnExactMedianOf", fn := fun _ => fun
  | [d] => { results := [.lit (.bool true)], args := [d] }
  | _ => none }
def fnExactMedianOfRow : OpenClaim := { program := "ytpobbicbfnglaaa", sum := "22cf3daa6967ffa05ec86a908ccc289775ccc21e46b169ee6d477af45363a03c", func := "loop.example/g01155/laws.FnExactMedianOf", spec := "fnExactMedianOf", inPlace := ["internal/reflectlite.ValueOf", "internal/reflectlite.Swapper", "(internal/reflectlite.Value).Len"], unfollowed := true, recurses := true, plainKeys := false, apart := false }
def FnExactMedianOfSaid : Prop := fnExactMedianOfRow.holds Try.pinned (OpenSpec.ofChange fnExactMedianOfSpec)

/-- ITS FALSE NEIGHBOUR: 'it returns false'. Refute it at one input. -/
def fnExactMedianOfWrong : ChangeSpec := { name := "fnExactMedianOf", fn := fun _ => fun
  | [d] => { results := [.lit (.bool false)], args := [d] }
  | _ => none }
def FnExactMedianOfWrongFalsely : Prop := fnExactMedianOfRow.holds Try.pinned (OpenSpec.ofChange fnExactMedianOfWrong)

/-- 'laws.FnExactPowersApart': WHATEVER THE INPUT: true; the input reads as it did. -/
def fnExactPowersApartSpec : ChangeSpec := { name := "fnExactPowersApart", fn := fun _ => fun
  | [d1, d2] => { results := [.lit (.bool true)], args := [d1, d2] }
  | _ => none }
def fnExactPowersApartRow : OpenClaim := { program := "ytpobbicbfnglaaa", sum := "22cf3daa6967ffa05ec86a908ccc289775ccc21e46b169ee6d477af45363a03c", func := "loop.example/g01155/laws.FnExactPowersApart", spec := "fnExactPowersApart", inPlace := ["math.Float64bits", "math.Float64frombits"], unfollowed := true, recurses := true, plainKeys := false, apart := false }
def FnExactPowersApartSaid : Prop := fnExactPowersApartRow.holds Try.pinned (OpenSpec.ofChange fnExactPowersApartSpec)

/-- ITS FALSE NEIGHBOUR: 'it returns false'. Refute it at one input. -/
def fnExactPowersApartWrong : ChangeSpec := { name := "fnExactPowersApart", fn := fun _ => fun
  | [d1, d2] => { results := [.lit (.bool false)], args := [d1, d2] }
  | _ => none }
def FnExactPowersApartWrongFalsely : Prop := fnExactPowersApartRow.holds Try.pinned (OpenSpec.ofChange fnExactPowersApartWrong)

/-- 'laws.FnExactWrapPhase': WHATEVER THE INPUT: true; the input reads as it did. -/
def fnExactWrapPhaseSpec : ChangeSpec := { name := "fnExactWrapPhase", fn := fun _ => fun
  | [d] => { results := [.lit (.bool true)], args := [d] }
  | _ => none }
def fnExactWrapPhaseRow : OpenClaim := { program := "ytpobbicbfnglaaa", sum := "22cf3daa6967ffa05ec86a908ccc289775ccc21e46b169ee6d477af45363a03c", func := "loop.example/g01155/laws.FnExactWrapPhase", spec := "fnExactWrapPhase", inPlace := ["math.archFloor", "math.Float64bits", "math.Float64frombits", "math.archTrunc"], plainKeys := false, apart := false }
def FnExactWrapPhaseSaid : Prop := fnExactWrapPhaseRow.holds Try.pinned (OpenSpec.ofChange fnExactWrapPhaseSpec)

/-- ITS FALSE NEIGHBOUR: 'it returns false'. Refute it at one input. -/
def fnExactWrapPhaseWrong : ChangeSpec := { name := "fnExactWrapPhase", fn := fun _ => fun
  | [d] => { results := [.lit (.bool false)], args := [d] }
  | _ => none }
def FnExactWrapPhaseWrongFalsely : Prop := fnExactWrapPhaseRow.holds Try.pinned (OpenSpec.ofChange fnExactWrapPhaseWrong)

/-- 'laws.FnExactUnwrapPhases': WHATEVER THE INPUT: true; the input reads as it did. -/
def fnExactUnwrapPhasesSpec : ChangeSpec := { name := "fnExactUnwrapPhases", fn := fun _ => fun
  | [d] => { results := [.lit (.bool true)], args := [d] }
  | _ => none }
def fnExactUnwrapPhasesRow : OpenClaim := { program := "ytpobbicbfnglaaa", sum := "22cf3daa6967ffa05ec86a908ccc289775ccc21e46b169ee6d477af45363a03c", func := "loop.example/g01155/laws.FnExactUnwrapPhases", spec := "fnExactUnwrapPhases", inPlace := ["math.archFloor", "math.Float64bits", "math.Float64frombits", "math.archTrunc"], unfollowed := true, recurses := true, plainKeys := false, apart := false }
def FnExactUnwrapPhasesSaid : Prop := fnExactUnwrapPhasesRow.holds Try.pinned (OpenSpec.ofChange fnExactUnwrapPhasesSpec)

/-- ITS FALSE NEIGHBOUR: 'it returns false'. Refute it at one input. -/
def fnExactUnwrapPhasesWrong : ChangeSpec := { name := "fnExactUnwrapPhases", fn := fun _ => fun
  | [d] => { results := [.lit (.bool false)], args := [d] }
  | _ => none }
def FnExactUnwrapPhasesWrongFalsely : Prop := fnExactUnwrapPhasesRow.holds Try.pinned (OpenSpec.ofChange fnExactUnwrapPhasesWrong)

/-- 'laws.FnExactDelaysOf': WHATEVER THE INPUT: true; the input reads as it did. -/
def fnExactDelaysOfSpec : ChangeSpec := { name := "fnExactDelaysOf", fn := fun _ => fun
  | [d] => { results := [.lit (.bool true)], args := [d] }
  | _ => none }
def fnExactDelaysOfRow : OpenClaim := { program := "ytpobbicbfnglaaa", sum := "22cf3daa6967ffa05ec86a908ccc289775ccc21e46b169ee6d477af45363a03c", func := "loop.example/g01155/laws.FnExactDelaysOf", spec := "fnExactDelaysOf", inPlace := ["math.archFloor", "math.Float64bits", "math.Float64frombits", "math.archTrunc"], unfollowed := true, recurses := true, plainKeys := false, apart := false }
def FnExactDelaysOfSaid : Prop := fnExactDelaysOfRow.holds Try.pinned (OpenSpec.ofChange fnExactDelaysOfSpec)

/-- ITS FALSE NEIGHBOUR: 'it returns false'. Refute it at one input. -/
def fnExactDelaysOfWrong : ChangeSpec := { name := "fnExactDelaysOf", fn := fun _ => fun
  | [d] => { results := [.lit (.bool false)], args := [d] }
  | _ => none }
def FnExactDelaysOfWrongFalsely : Prop := fnExactDelaysOfRow.holds Try.pinned (OpenSpec.ofChange fnExactDelaysOfWrong)

/-- 'laws.FnExactFromPolar': WHATEVER THE INPUT: true; the input reads as it did. -/
def fnExactFromPolarSpec : ChangeSpec := { name := "fnExactFromPolar", fn := fun _ => fun
  | [d1, d2] => { results := [.lit (.bool true)], args := [d1, d2] }
  | _ => none }
def fnExactFromPolarRow : OpenClaim := { program := "ytpobbicbfnglaaa", sum := "22cf3daa6967ffa05ec86a908ccc289775ccc21e46b169ee6d477af45363a03c", func := "loop.example/g01155/laws.FnExactFromPolar", spec := "fnExactFromPolar", inPlace := ["math.Float64frombits", "math.archFloor", "math.Float64bits", "math.archTrunc", "math.sqrt"], recurses := true, plainKeys := false, apart := false }
def FnExactFromPolarSaid : Prop := fnExactFromPolarRow.holds Try.pinned (OpenSpec.ofChange fnExactFromPolarSpec)

/-- ITS FALSE NEIGHBOUR: 'it returns false'. Refute it at one input. -/
def fnExactFromPolarWrong : ChangeSpec := { name := "fnExactFromPolar", fn := fun _ => fun
  | [d1, d2] => { results := [.lit (.bool false)], args := [d1, d2] }
  | _ => none }
def FnExactFromPolarWrongFalsely : Prop := fnExactFromPolarRow.holds Try.pinned (OpenSpec.ofChange fnExactFromPolarWrong)

/- THE SECOND FORM. 'bulk': how many values and letters a reading holds, each counted each time it is reached (what is shared counts as often as it is met; a slice's spare places count too). A statement '..UptoSaid' is the law's where the arguments, and the package variables that the reading takes, are together of bulk at most 1048576: NARROWER than '..Said'. Prove '..Said' where nothing that the law and all that it calls make is longer than what came in: it says more and counts as full. Else prove '..UptoSaid'. A law counts once. -/
mutual
def uptoBulk {H : Type} : DataW H → Nat
  | .lit (.string bytes) => bytes.length + 1
  | .lit _ => 1
  | .nil => 1
  | .ptr d => uptoBulk d + 1
  | .slice elems spare => uptoBulkAll elems + uptoBulkAll spare + 1
  | .agg parts => uptoBulkAll parts + 1
  | .iface _ d => uptoBulk d + 1
  | .map entries => uptoBulkEntries entries + 1
  | .held _ => 1
def uptoBulkAll {H : Type} : List (DataW H) → Nat
  | [] => 0
  | d :: r => uptoBulk d + uptoBulkAll r
def uptoBulkEntries {H : Type} : List (Lit × DataW H) → Nat
  | [] => 0
  | x :: r => uptoBulkEntry x + uptoBulkEntries r
def uptoBulkEntry {H : Type} : Lit × DataW H → Nat
  | (.string bytes, d) => bytes.length + uptoBulk d + 1
  | (_, d) => uptoBulk d + 1
 end
def uptoSmall : (H : Type) → List (DataW H) → Bool := fun _ ds => decide (uptoBulkAll ds ≤ 1048576)
def OpenSpec.upto (s : _root_.Go.ChangeSpec) : _root_.Go.OpenSpec := { _root_.Go.OpenSpec.ofChange s with cond := some uptoSmall }

/-- 'laws.FnExactSmoothPowers', WHERE WHAT IT READS IS OF BULK AT MOST 1048576: true; the input reads as it did. -/
def fnExactSmoothPowersUptoRow : OpenClaim := { program := "ytpobbicbfnglaaa", sum := "22cf3daa6967ffa05ec86a908ccc289775ccc21e46b169ee6d477af45363a03c", func := "loop.example/g01155/laws.FnExactSmoothPowers", spec := "fnExactSmoothPowers", unfollowed := true, recurses := true, plainKeys := false, apart := false, narrowed := true }
def FnExactSmoothPowersUptoSaid : Prop := fnExactSmoothPowersUptoRow.holds Try.pinned (OpenSpec.upto fnExactSmoothPowersSpec)

/-- 'laws.FnExactPeaksOf', WHERE WHAT IT READS IS OF BULK AT MOST 1048576: true; the input reads as it did. -/
def fnExactPeaksOfUptoRow : OpenClaim := { program := "ytpobbicbfnglaaa", sum := "22cf3daa6967ffa05ec86a908ccc289775ccc21e46b169ee6d477af45363a03c", func := "loop.example/g01155/laws.FnExactPeaksOf", spec := "fnExactPeaksOf", plainKeys := false, apart := false, narrowed := true }
def FnExactPeaksOfUptoSaid : Prop := fnExactPeaksOfUptoRow.holds Try.pinned (OpenSpec.upto fnExactPeaksOfSpec)

/-- 'laws.FnExactPeakBetween', WHERE WHAT IT READS IS OF BULK AT MOST 1048576: true; the input reads as it did. -/
def fnExactPeakBetweenUptoRow : OpenClaim := { program := "ytpobbicbfnglaaa", sum := "22cf3daa6967ffa05ec86a908ccc289775ccc21e46b169ee6d477af45363a03c", func := "loop.example/g01155/laws.FnExactPeakBetween", spec := "fnExactPeakBetween", inPlace := ["math.Float64bits", "math.Float64frombits"], plainKeys := false, apart := false, narrowed := true }
def FnExactPeakBetweenUptoSaid : Prop := fnExactPeakBetweenUptoRow.holds Try.pinned (OpenSpec.upto fnExactPeakBetweenSpec)

/-- 'laws.FnExactCentroidOf', WHERE WHAT IT READS IS OF BULK AT MOST 1048576: true; the input reads as it did. -/
def fnExactCentroidOfUptoRow : OpenClaim := { program := "ytpobbicbfnglaaa", sum := "22cf3daa6967ffa05ec86a908ccc289775ccc21e46b169ee6d477af45363a03c", func := "loop.example/g01155/laws.FnExactCentroidOf", spec := "fnExactCentroidOf", unfollowed := true, recurses := true, plainKeys := false, apart := false, narrowed := true }
def FnExactCentroidOfUptoSaid : Prop := fnExactCentroidOfUptoRow.holds Try.pinned (OpenSpec.upto fnExactCentroidOfSpec)

/-- 'laws.FnExactMedianOf', WHERE WHAT IT READS IS OF BULK AT MOST 1048576: true; the input reads as it did. -/
def fnExactMedianOfUptoRow : OpenClaim := { program := "ytpobbicbfnglaaa", sum := "22cf3daa6967ffa05ec86a908ccc289775ccc21e46b169ee6d477af45363a03c", func := "loop.example/g01155/laws.FnExactMedianOf", spec := "fnExactMedianOf", inPlace := ["internal/reflectlite.ValueOf", "internal/reflectlite.Swapper", "(internal/reflectlite.Value).Len"], unfollowed := true, recurses := true, plainKeys := false, apart := false, narrowed := true }
def FnExactMedianOfUptoSaid : Prop := fnExactMedianOfUptoRow.holds Try.pinned (OpenSpec.upto fnExactMedianOfSpec)

/-- 'laws.FnExactPowersApart', WHERE WHAT IT READS IS OF BULK AT MOST 1048576: true; the input reads as it did. -/
def fnExactPowersApartUptoRow : OpenClaim := { program := "ytpobbicbfnglaaa", sum := "22cf3daa6967ffa05ec86a908ccc289775ccc21e46b169ee6d477af45363a03c", func := "loop.example/g01155/laws.FnExactPowersApart", spec := "fnExactPowersApart", inPlace := ["math.Float64bits", "math.Float64frombits"], unfollowed := true, recurses := true, plainKeys := false, apart := false, narrowed := true }
def FnExactPowersApartUptoSaid : Prop := fnExactPowersApartUptoRow.holds Try.pinned (OpenSpec.upto fnExactPowersApartSpec)

/-- 'laws.FnExactWrapPhase', WHERE WHAT IT READS IS OF BULK AT MOST 1048576: true; the input reads as it did. -/
def fnExactWrapPhaseUptoRow : OpenClaim := { program := "ytpobbicbfnglaaa", sum := "22cf3daa6967ffa05ec86a908ccc289775ccc21e46b169ee6d477af45363a03c", func := "loop.example/g01155/laws.FnExactWrapPhase", spec := "fnExactWrapPhase", inPlace := ["math.archFloor", "math.Float64bits", "math.Float64frombits", "math.archTrunc"], plainKeys := false, apart := false, narrowed := true }
def FnExactWrapPhaseUptoSaid : Prop := fnExactWrapPhaseUptoRow.holds Try.pinned (OpenSpec.upto fnExactWrapPhaseSpec)

/-- 'laws.FnExactUnwrapPhases', WHERE WHAT IT READS IS OF BULK AT MOST 1048576: true; the input reads as it did. -/
def fnExactUnwrapPhasesUptoRow : OpenClaim := { program := "ytpobbicbfnglaaa", sum := "22cf3daa6967ffa05ec86a908ccc289775ccc21e46b169ee6d477af45363a03c", func := "loop.example/g01155/laws.FnExactUnwrapPhases", spec := "fnExactUnwrapPhases", inPlace := ["math.archFloor", "math.Float64bits", "math.Float64frombits", "math.archTrunc"], unfollowed := true, recurses := true, plainKeys := false, apart := false, narrowed := true }
def FnExactUnwrapPhasesUptoSaid : Prop := fnExactUnwrapPhasesUptoRow.holds Try.pinned (OpenSpec.upto fnExactUnwrapPhasesSpec)

/-- 'laws.FnExactDelaysOf', WHERE WHAT IT READS IS OF BULK AT MOST 1048576: true; the input reads as it did. -/
def fnExactDelaysOfUptoRow : OpenClaim := { program := "ytpobbicbfnglaaa", sum := "22cf3daa6967ffa05ec86a908ccc289775ccc21e46b169ee6d477af45363a03c", func := "loop.example/g01155/laws.FnExactDelaysOf", spec := "fnExactDelaysOf", inPlace := ["math.archFloor", "math.Float64bits", "math.Float64frombits", "math.archTrunc"], unfollowed := true, recurses := true, plainKeys := false, apart := false, narrowed := true }
def FnExactDelaysOfUptoSaid : Prop := fnExactDelaysOfUptoRow.holds Try.pinned (OpenSpec.upto fnExactDelaysOfSpec)

/-- 'laws.FnExactFromPolar', WHERE WHAT IT READS IS OF BULK AT MOST 1048576: true; the input reads as it did. -/
def fnExactFromPolarUptoRow : OpenClaim := { program := "ytpobbicbfnglaaa", sum := "22cf3daa6967ffa05ec86a908ccc289775ccc21e46b169ee6d477af45363a03c", func := "loop.example/g01155/laws.FnExactFromPolar", spec := "fnExactFromPolar", inPlace := ["math.Float64frombits", "math.archFloor", "math.Float64bits", "math.archTrunc", "math.sqrt"], recurses := true, plainKeys := false, apart := false, narrowed := true }
def FnExactFromPolarUptoSaid : Prop := fnExactFromPolarUptoRow.holds Try.pinned (OpenSpec.upto fnExactFromPolarSpec)

end Rows
end Go.Proofs.Ytpobbicbfnglaaa
