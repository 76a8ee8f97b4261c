/-
  No cell of these rows narrows 'for every input' (looked for: loops, veiled, ifaces, maps, wideKeys, modest, calm, conditions, laid).
  DERIVED. THE GIVEN ROWS OF THIS SEAT. 11 by the template 'for every input the law returns true; each argument reads behind the call as it read before'; 0 by the template 'total and deterministic' (their statements: YtnbbkdjfhbcecaaTotals.lean).
  GIVEN WITH THE SEED: the statements are not yours to turn. If you find one false, say at which input.
  Laid BY PROGRAM, IN A SANDBOX (cutbox-rows.mjs): the forced cells as the released guide's own fill.sh prints them over the translation cd2f1ddb3ce81697… (all of the seat's roots in one cut). By AI agents, Wed Nov 11 2026. No macro, syntax, notation, axiom, sorry.
-/
import Derived.Test.YtnbbkdjfhbcecaaChecked
import GoSem.Claim
import GoSem.ClaimJoined
import GoSem.ClaimMapViews
import Derived.JoinedTies
import Derived.KernelRfl
namespace Go.Proofs.Ytnbbkdjfhbcecaa
/- THE CELL 'sum', in the pinned program and in every row, IS THE sha256 OF THE DUMP (.gsa) THAT YtnbbkdjfhbcecaaProg.lean LOADS. Nothing in Lean hashes anything: it is a label: what it is worth is what the hold of that sum in a sandbox is worth. -/
noncomputable def Try.pinned : Pinned := { name := "ytnbbkdjfhbcecaa", sum := "cd2f1ddb3ce81697301637e95facfaee8782bc006aaf65eb968f6708c6d1586d", checked := Try.checked }
namespace Rows
def none {H : Type} : Left H := { results := [], args := [] }

/-- 'laws.FnFactors': WHATEVER THE INPUT: true; the input reads as it did. -/
def fnFactorsSpec : ChangeSpec := { name := "fnFactors", fn := fun _ => fun
  | [d1, d2] => { results := [.lit (.bool true)], args := [d1, d2] }
  | _ => none }
def fnFactorsRow : OpenClaim := { program := "ytnbbkdjfhbcecaa", sum := "cd2f1ddb3ce81697301637e95facfaee8782bc006aaf65eb968f6708c6d1586d", func := "loop.example/g01155/laws.FnFactors", spec := "fnFactors", plainKeys := false, apart := false }
def FnFactorsSaid : Prop := fnFactorsRow.holds Try.pinned (OpenSpec.ofChange fnFactorsSpec)

/-- ITS FALSE NEIGHBOUR: 'it returns false'. Refute it at one input. -/
def fnFactorsWrong : ChangeSpec := { name := "fnFactors", fn := fun _ => fun
  | [d1, d2] => { results := [.lit (.bool false)], args := [d1, d2] }
  | _ => none }
def FnFactorsWrongFalsely : Prop := fnFactorsRow.holds Try.pinned (OpenSpec.ofChange fnFactorsWrong)

/-- 'laws.FnExactFactorsOf': WHATEVER THE INPUT: true; the input reads as it did. -/
def fnExactFactorsOfSpec : ChangeSpec := { name := "fnExactFactorsOf", fn := fun _ => fun
  | [d] => { results := [.lit (.bool true)], args := [d] }
  | _ => none }
def fnExactFactorsOfRow : OpenClaim := { program := "ytnbbkdjfhbcecaa", sum := "cd2f1ddb3ce81697301637e95facfaee8782bc006aaf65eb968f6708c6d1586d", func := "loop.example/g01155/laws.FnExactFactorsOf", spec := "fnExactFactorsOf", plainKeys := false, apart := false }
def FnExactFactorsOfSaid : Prop := fnExactFactorsOfRow.holds Try.pinned (OpenSpec.ofChange fnExactFactorsOfSpec)

/-- ITS FALSE NEIGHBOUR: 'it returns false'. Refute it at one input. -/
def fnExactFactorsOfWrong : ChangeSpec := { name := "fnExactFactorsOf", fn := fun _ => fun
  | [d] => { results := [.lit (.bool false)], args := [d] }
  | _ => none }
def FnExactFactorsOfWrongFalsely : Prop := fnExactFactorsOfRow.holds Try.pinned (OpenSpec.ofChange fnExactFactorsOfWrong)

/-- 'laws.FnExactTurnOf': WHATEVER THE INPUT: true; the input reads as it did. -/
def fnExactTurnOfSpec : ChangeSpec := { name := "fnExactTurnOf", fn := fun _ => fun
  | [d1, d2] => { results := [.lit (.bool true)], args := [d1, d2] }
  | _ => none }
def fnExactTurnOfRow : OpenClaim := { program := "ytnbbkdjfhbcecaa", sum := "cd2f1ddb3ce81697301637e95facfaee8782bc006aaf65eb968f6708c6d1586d", func := "loop.example/g01155/laws.FnExactTurnOf", spec := "fnExactTurnOf", inPlace := ["math.sqrt"], recurses := true, plainKeys := false, apart := false }
def FnExactTurnOfSaid : Prop := fnExactTurnOfRow.holds Try.pinned (OpenSpec.ofChange fnExactTurnOfSpec)

/-- ITS FALSE NEIGHBOUR: 'it returns false'. Refute it at one input. -/
def fnExactTurnOfWrong : ChangeSpec := { name := "fnExactTurnOf", fn := fun _ => fun
  | [d1, d2] => { results := [.lit (.bool false)], args := [d1, d2] }
  | _ => none }
def FnExactTurnOfWrongFalsely : Prop := fnExactTurnOfRow.holds Try.pinned (OpenSpec.ofChange fnExactTurnOfWrong)

/-- 'laws.FnExactNarrowTurnOf': WHATEVER THE INPUT: true; the input reads as it did. -/
def fnExactNarrowTurnOfSpec : ChangeSpec := { name := "fnExactNarrowTurnOf", fn := fun _ => fun
  | [d1, d2] => { results := [.lit (.bool true)], args := [d1, d2] }
  | _ => none }
def fnExactNarrowTurnOfRow : OpenClaim := { program := "ytnbbkdjfhbcecaa", sum := "cd2f1ddb3ce81697301637e95facfaee8782bc006aaf65eb968f6708c6d1586d", func := "loop.example/g01155/laws.FnExactNarrowTurnOf", spec := "fnExactNarrowTurnOf", inPlace := ["math.sqrt"], recurses := true, plainKeys := false, apart := false }
def FnExactNarrowTurnOfSaid : Prop := fnExactNarrowTurnOfRow.holds Try.pinned (OpenSpec.ofChange fnExactNarrowTurnOfSpec)

/-- ITS FALSE NEIGHBOUR: 'it returns false'. Refute it at one input. -/
def fnExactNarrowTurnOfWrong : ChangeSpec := { name := "fnExactNarrowTurnOf", fn := fun _ => fun
  | [d1, d2] => { results := [.lit (.bool false)], args := [d1, d2] }
  | _ => none }
def FnExactNarrowTurnOfWrongFalsely : Prop := fnExactNarrowTurnOfRow.holds Try.pinned (OpenSpec.ofChange fnExactNarrowTurnOfWrong)

/-- 'laws.FnExactTurnsOf': WHATEVER THE INPUT: true; the input reads as it did. -/
def fnExactTurnsOfSpec : ChangeSpec := { name := "fnExactTurnsOf", fn := fun _ => fun
  | [d] => { results := [.lit (.bool true)], args := [d] }
  | _ => none }
def fnExactTurnsOfRow : OpenClaim := { program := "ytnbbkdjfhbcecaa", sum := "cd2f1ddb3ce81697301637e95facfaee8782bc006aaf65eb968f6708c6d1586d", func := "loop.example/g01155/laws.FnExactTurnsOf", spec := "fnExactTurnsOf", inPlace := ["math.sqrt"], unfollowed := true, recurses := true, plainKeys := false, apart := false }
def FnExactTurnsOfSaid : Prop := fnExactTurnsOfRow.holds Try.pinned (OpenSpec.ofChange fnExactTurnsOfSpec)

/-- ITS FALSE NEIGHBOUR: 'it returns false'. Refute it at one input. -/
def fnExactTurnsOfWrong : ChangeSpec := { name := "fnExactTurnsOf", fn := fun _ => fun
  | [d] => { results := [.lit (.bool false)], args := [d] }
  | _ => none }
def FnExactTurnsOfWrongFalsely : Prop := fnExactTurnsOfRow.holds Try.pinned (OpenSpec.ofChange fnExactTurnsOfWrong)

/-- 'laws.FnExactRealPair': WHATEVER THE INPUT: true; the input reads as it did. -/
def fnExactRealPairSpec : ChangeSpec := { name := "fnExactRealPair", fn := fun _ => fun
  | [d1, d2] => { results := [.lit (.bool true)], args := [d1, d2] }
  | _ => none }
def fnExactRealPairRow : OpenClaim := { program := "ytnbbkdjfhbcecaa", sum := "cd2f1ddb3ce81697301637e95facfaee8782bc006aaf65eb968f6708c6d1586d", func := "loop.example/g01155/laws.FnExactRealPair", spec := "fnExactRealPair", inPlace := ["math.sqrt"], unfollowed := true, recurses := true, plainKeys := false, apart := false }
def FnExactRealPairSaid : Prop := fnExactRealPairRow.holds Try.pinned (OpenSpec.ofChange fnExactRealPairSpec)

/-- ITS FALSE NEIGHBOUR: 'it returns false'. Refute it at one input. -/
def fnExactRealPairWrong : ChangeSpec := { name := "fnExactRealPair", fn := fun _ => fun
  | [d1, d2] => { results := [.lit (.bool false)], args := [d1, d2] }
  | _ => none }
def FnExactRealPairWrongFalsely : Prop := fnExactRealPairRow.holds Try.pinned (OpenSpec.ofChange fnExactRealPairWrong)

/-- 'laws.FnExactRealTransform': WHATEVER THE INPUT: true; the input reads as it did. -/
def fnExactRealTransformSpec : ChangeSpec := { name := "fnExactRealTransform", fn := fun _ => fun
  | [d] => { results := [.lit (.bool true)], args := [d] }
  | _ => none }
def fnExactRealTransformRow : OpenClaim := { program := "ytnbbkdjfhbcecaa", sum := "cd2f1ddb3ce81697301637e95facfaee8782bc006aaf65eb968f6708c6d1586d", func := "loop.example/g01155/laws.FnExactRealTransform", spec := "fnExactRealTransform", inPlace := ["math.sqrt"], unfollowed := true, recurses := true, plainKeys := false, apart := false }
def FnExactRealTransformSaid : Prop := fnExactRealTransformRow.holds Try.pinned (OpenSpec.ofChange fnExactRealTransformSpec)

/-- ITS FALSE NEIGHBOUR: 'it returns false'. Refute it at one input. -/
def fnExactRealTransformWrong : ChangeSpec := { name := "fnExactRealTransform", fn := fun _ => fun
  | [d] => { results := [.lit (.bool false)], args := [d] }
  | _ => none }
def FnExactRealTransformWrongFalsely : Prop := fnExactRealTransformRow.holds Try.pinned (OpenSpec.ofChange fnExactRealTransformWrong)

/-- 'laws.FnTurns': WHATEVER THE INPUT: true; the input reads as it did. -/
def fnTurnsSpec : ChangeSpec := { name := "fnTurns", fn := fun _ => fun
  | [d1, d2] => { results := [.lit (.bool true)], args := [d1, d2] }
  | _ => none }
def fnTurnsRow : OpenClaim := { program := "ytnbbkdjfhbcecaa", sum := "cd2f1ddb3ce81697301637e95facfaee8782bc006aaf65eb968f6708c6d1586d", func := "loop.example/g01155/laws.FnTurns", spec := "fnTurns", inPlace := ["math.sqrt", "math.Float64bits"], unfollowed := true, recurses := true, plainKeys := false, apart := false }
def FnTurnsSaid : Prop := fnTurnsRow.holds Try.pinned (OpenSpec.ofChange fnTurnsSpec)

/-- ITS FALSE NEIGHBOUR: 'it returns false'. Refute it at one input. -/
def fnTurnsWrong : ChangeSpec := { name := "fnTurns", fn := fun _ => fun
  | [d1, d2] => { results := [.lit (.bool false)], args := [d1, d2] }
  | _ => none }
def FnTurnsWrongFalsely : Prop := fnTurnsRow.holds Try.pinned (OpenSpec.ofChange fnTurnsWrong)

/-- 'laws.FnSignals': WHATEVER THE INPUT: true; the input reads as it did. -/
def fnSignalsSpec : ChangeSpec := { name := "fnSignals", fn := fun _ => fun
  | [d1, d2] => { results := [.lit (.bool true)], args := [d1, d2] }
  | _ => none }
def fnSignalsRow : OpenClaim := { program := "ytnbbkdjfhbcecaa", sum := "cd2f1ddb3ce81697301637e95facfaee8782bc006aaf65eb968f6708c6d1586d", func := "loop.example/g01155/laws.FnSignals", spec := "fnSignals", inPlace := ["math.Float64frombits", "math.Float64bits"], unfollowed := true, recurses := true, plainKeys := false, apart := false }
def FnSignalsSaid : Prop := fnSignalsRow.holds Try.pinned (OpenSpec.ofChange fnSignalsSpec)

/-- ITS FALSE NEIGHBOUR: 'it returns false'. Refute it at one input. -/
def fnSignalsWrong : ChangeSpec := { name := "fnSignals", fn := fun _ => fun
  | [d1, d2] => { results := [.lit (.bool false)], args := [d1, d2] }
  | _ => none }
def FnSignalsWrongFalsely : Prop := fnSignalsRow.holds Try.pinned (OpenSpec.ofChange fnSignalsWrong)

/-- 'laws.FnQuotients': WHATEVER THE INPUT: true; the input reads as it did. -/
def fnQuotientsSpec : ChangeSpec := { name := "fnQuotients", fn := fun _ => fun
  | [d1, d2] => { results := [.lit (.bool true)], args := [d1, d2] }
  | _ => none }
def fnQuotientsRow : OpenClaim := { program := "ytnbbkdjfhbcecaa", sum := "cd2f1ddb3ce81697301637e95facfaee8782bc006aaf65eb968f6708c6d1586d", func := "loop.example/g01155/laws.FnQuotients", spec := "fnQuotients", inPlace := ["math.Float64frombits", "math.Float64bits"], plainKeys := false, apart := false }
def FnQuotientsSaid : Prop := fnQuotientsRow.holds Try.pinned (OpenSpec.ofChange fnQuotientsSpec)

/-- ITS FALSE NEIGHBOUR: 'it returns false'. Refute it at one input. -/
def fnQuotientsWrong : ChangeSpec := { name := "fnQuotients", fn := fun _ => fun
  | [d1, d2] => { results := [.lit (.bool false)], args := [d1, d2] }
  | _ => none }
def FnQuotientsWrongFalsely : Prop := fnQuotientsRow.holds Try.pinned (OpenSpec.ofChange fnQuotientsWrong)

/-- 'laws.FnNarrowing': WHATEVER THE INPUT: true; the input reads as it did. -/
def fnNarrowingSpec : ChangeSpec := { name := "fnNarrowing", fn := fun _ => fun
  | [d1, d2] => { results := [.lit (.bool true)], args := [d1, d2] }
  | _ => none }
def fnNarrowingRow : OpenClaim := { program := "ytnbbkdjfhbcecaa", sum := "cd2f1ddb3ce81697301637e95facfaee8782bc006aaf65eb968f6708c6d1586d", func := "loop.example/g01155/laws.FnNarrowing", spec := "fnNarrowing", inPlace := ["math.Float64frombits", "math.Float64bits"], plainKeys := false, apart := false }
def FnNarrowingSaid : Prop := fnNarrowingRow.holds Try.pinned (OpenSpec.ofChange fnNarrowingSpec)

/-- ITS FALSE NEIGHBOUR: 'it returns false'. Refute it at one input. -/
def fnNarrowingWrong : ChangeSpec := { name := "fnNarrowing", fn := fun _ => fun
  | [d1, d2] => { results := [.lit (.bool false)], args := [d1, d2] }
  | _ => none }
def FnNarrowingWrongFalsely : Prop := fnNarrowingRow.holds Try.pinned (OpenSpec.ofChange fnNarrowingWrong)

/- THE SECOND FORM. 'bulk': how many values and letters a reading holds, each counted each time it is reached (what is shared counts as often as it is met; a slice's spare places count too). A statement '..UptoSaid' is the law's where the arguments, and the package variables that the reading takes, are together of bulk at most 1048576: NARROWER than '..Said'. Prove '..Said' where nothing that the law and all that it calls make is longer than what came in: it says more and counts as full. Else prove '..UptoSaid'. A law counts once. -/
mutual
def uptoBulk {H : Type} : DataW H → Nat
  | .lit (.string bytes) => bytes.length + 1
  | .lit _ => 1
  | .nil => 1
  | .ptr d => uptoBulk d + 1
  | .slice elems spare => uptoBulkAll elems + uptoBulkAll spare + 1
  | .agg parts => uptoBulkAll parts + 1
  | .iface _ d => uptoBulk d + 1
  | .map entries => uptoBulkEntries entries + 1
  | .held _ => 1
def uptoBulkAll {H : Type} : List (DataW H) → Nat
  | [] => 0
  | d :: r => uptoBulk d + uptoBulkAll r
def uptoBulkEntries {H : Type} : List (Lit × DataW H) → Nat
  | [] => 0
  | x :: r => uptoBulkEntry x + uptoBulkEntries r
def uptoBulkEntry {H : Type} : Lit × DataW H → Nat
  | (.string bytes, d) => bytes.length + uptoBulk d + 1
  | (_, d) => uptoBulk d + 1
 end
def uptoSmall : (H : Type) → List (DataW H) → Bool := fun _ ds => decide (uptoBulkAll ds ≤ 1048576)
def OpenSpec.upto (s : _root_.Go.ChangeSpec) : _root_.Go.OpenSpec := { _root_.Go.OpenSpec.ofChange s with cond := some uptoSmall }

/-- 'laws.FnFactors', WHERE WHAT IT READS IS OF BULK AT MOST 1048576: true; the input reads as it did. -/
def fnFactorsUptoRow : OpenClaim := { program := "ytnbbkdjfhbcecaa", sum := "cd2f1ddb3ce81697301637e95facfaee8782bc006aaf65eb968f6708c6d1586d", func := "loop.example/g01155/laws.FnFactors", spec := "fnFactors", plainKeys := false, apart := false, narrowed := true }
def FnFactorsUptoSaid : Prop := fnFactorsUptoRow.holds Try.pinned (OpenSpec.upto fnFactorsSpec)

/-- 'laws.FnExactFactorsOf', WHERE WHAT IT READS IS OF BULK AT MOST 1048576: true; the input reads as it did. -/
def fnExactFactorsOfUptoRow : OpenClaim := { program := "ytnbbkdjfhbcecaa", sum := "cd2f1ddb3ce81697301637e95facfaee8782bc006aaf65eb968f6708c6d1586d", func := "loop.example/g01155/laws.FnExactFactorsOf", spec := "fnExactFactorsOf", plainKeys := false, apart := false, narrowed := true }
def FnExactFactorsOfUptoSaid : Prop := fnExactFactorsOfUptoRow.holds Try.pinned (OpenSpec.upto fnExactFactorsOfSpec)

/-- 'laws.FnExactTurnOf', WHERE WHAT IT READS IS OF BULK AT MOST 1048576: true; the input reads as it did. -/
def fnExactTurnOfUptoRow : OpenClaim := { program := "ytnbbkdjfhbcecaa", sum := "cd2f1ddb3ce81697301637e95facfaee8782bc006aaf65eb968f6708c6d1586d", func := "loop.example/g01155/laws.FnExactTurnOf", spec := "fnExactTurnOf", inPlace := ["math.sqrt"], recurses := true, plainKeys := false, apart := false, narrowed := true }
def FnExactTurnOfUptoSaid : Prop := fnExactTurnOfUptoRow.holds Try.pinned (OpenSpec.upto fnExactTurnOfSpec)

/-- 'laws.FnExactNarrowTurnOf', WHERE WHAT IT READS IS OF BULK AT MOST 1048576: true; the input reads as it did. -/
def fnExactNarrowTurnOfUptoRow : OpenClaim := { program := "ytnbbkdjfhbcecaa", sum := "cd2f1ddb3ce81697301637e95facfaee8782bc006aaf65eb968f6708c6d1586d", func := "loop.example/g01155/laws.FnExactNarrowTurnOf", spec := "fnExactNarrowTurnOf", inPlace := ["math.sqrt"], recurses := true, plainKeys := false, apart := false, narrowed := true }
def FnExactNarrowTurnOfUptoSaid : Prop := fnExactNarrowTurnOfUptoRow.holds Try.pinned (OpenSpec.upto fnExactNarrowTurnOfSpec)

/-- 'laws.FnExactTurnsOf', WHERE WHAT IT READS IS OF BULK AT MOST 1048576: true; the input reads as it did. -/
def fnExactTurnsOfUptoRow : OpenClaim := { program := "ytnbbkdjfhbcecaa", sum := "cd2f1ddb3ce81697301637e95facfaee8782bc006aaf65eb968f6708c6d1586d", func := "loop.example/g01155/laws.FnExactTurnsOf", spec := "fnExactTurnsOf", inPlace := ["math.sqrt"], unfollowed := true, recurses := true, plainKeys := false, apart := false, narrowed := true }
def FnExactTurnsOfUptoSaid : Prop := fnExactTurnsOfUptoRow.holds Try.pinned (OpenSpec.upto fnExactTurnsOfSpec)

/-- 'laws.FnExactRealPair', WHERE WHAT IT READS IS OF BULK AT MOST 1048576: true; the input reads as it did. -/
def fnExactRealPairUptoRow : OpenClaim := { program := "ytnbbkdjfhbcecaa", sum := "cd2f1ddb3ce81697301637e95facfaee8782bc006aaf65eb968f6708c6d1586d", func := "loop.example/g01155/laws.FnExactRealPair", spec := "fnExactRealPair", inPlace := ["math.sqrt"], unfollowed := true, recurses := true, plainKeys := false, apart := false, narrowed := true }
def FnExactRealPairUptoSaid : Prop := fnExactRealPairUptoRow.holds Try.pinned (OpenSpec.upto fnExactRealPairSpec)

/-- 'laws.FnExactRealTransform', WHERE WHAT IT READS IS OF BULK AT MOST 1048576: true; the input reads as it did. -/
def fnExactRealTransformUptoRow : OpenClaim := { program := "ytnbbkdjfhbcecaa", sum := "cd2f1ddb3ce81697301637e95facfaee8782bc006aaf65eb968f6708c6d1586d", func := "loop.example/g01155/laws.FnExactRealTransform", spec := "fnExactRealTransform", inPlace := ["math.sqrt"], unfollowed := true, recurses := true, plainKeys := false, apart := false, narrowed := true }
def FnExactRealTransformUptoSaid : Prop := fnExactRealTransformUptoRow.holds Try.pinned (OpenSpec.upto fnExactRealTransformSpec)

/-- 'laws.FnTurns', WHERE WHAT IT READS IS OF BULK AT MOST 1048576: true; the input reads as it did. -/
def fnTurnsUptoRow : OpenClaim := { program := "ytnbbkdjfhbcecaa", sum := "cd2f1ddb3ce81697301637e95facfaee8782bc006aaf65eb968f6708c6d1586d", func := "loop.example/g01155/laws.FnTurns", spec := "fnTurns", inPlace := ["math.sqrt", "math.Float64bits"], unfollowed := true, recurses := true, plainKeys := false, apart := false, narrowed := true }
def FnTurnsUptoSaid : Prop := fnTurnsUptoRow.holds Try.pinned (OpenSpec.upto fnTurnsSpec)

/-- 'laws.FnSignals', WHERE WHAT IT READS IS OF BULK AT MOST 1048576: true; the input reads as it did. -/
def fnSignalsUptoRow : OpenClaim := { program := "ytnbbkdjfhbcecaa", sum := "cd2f1ddb3ce81697301637e95facfaee8782bc006aaf65eb968f6708c6d1586d", func := "loop.example/g01155/laws.FnSignals", spec := "fnSignals", inPlace := ["math.Float64frombits", "math.Float64bits"], unfollowed := true, recurses := true, plainKeys := false, apart := false, narrowed := true }
def FnSignalsUptoSaid : Prop := fnSignalsUptoRow.holds Try.pinned (OpenSpec.upto fnSignalsSpec)

/-- 'laws.FnQuotients', WHERE WHAT IT READS IS OF BULK AT MOST 1048576: true; the input reads as it did. -/
def fnQuotientsUptoRow : OpenClaim := { program := "ytnbbkdjfhbcecaa", sum := "cd2f1ddb3ce81697301637e95facfaee8782bc006aaf65eb968f6708c6d1586d", func := "loop.example/g01155/laws.FnQuotients", spec := "fnQuotients", inPlace := ["math.Float64frombits", "math.Float64bits"], plainKeys := false, apart := false, narrowed := true }
def FnQuotientsUptoSaid : Prop := fnQuotientsUptoRow.holds Try.pinned (OpenSpec.upto fnQuotientsSpec)

/-- 'laws.FnNarrowing', WHERE WHAT IT READS IS OF BULK AT MOST 1048576: true; the input reads as it did. -/
def fnNarrowingUptoRow : OpenClaim := { program := "ytnbbkdjfhbcecaa", sum := "cd2f1ddb3ce81697301637e95facfaee8782bc006aaf65eb968f6708c6d1586d", func := "loop.example/g01155/laws.FnNarrowing", spec := "fnNarrowing", inPlace := ["math.Float64frombits", "math.Float64bits"], plainKeys := false, apart := false, narrowed := true }
def FnNarrowingUptoSaid : Prop := fnNarrowingUptoRow.holds Try.pinned (OpenSpec.upto fnNarrowingSpec)

end Rows
end Go.Proofs.Ytnbbkdjfhbcecaa
