/-
  No cell of these rows narrows 'for every input' (looked for: loops, veiled, ifaces, maps, wideKeys, modest, calm, conditions, laid).
  DERIVED. THE GIVEN ROWS OF THIS SEAT. 11 by the template 'for every input the law returns true; each argument reads behind the call as it read before'; 0 by the template 'total and deterministic' (their statements: YtjlgfflpkgmnlaaTotals.lean).
  GIVEN WITH THE SEED: the statements are not yours to turn. If you find one false, say at which input.
  Laid BY PROGRAM, IN A SANDBOX (cutbox-rows.mjs): the forced cells as the released guide's own fill.sh prints them over the translation 09273ba6a9d75b22… (all of the seat's roots in one cut). By AI agents, Wed Nov 11 2026. No macro, syntax, notation, axiom, sorry.
-/
import Derived.Test.YtjlgfflpkgmnlaaChecked
import GoSem.Claim
import GoSem.ClaimJoined
import GoSem.ClaimMapViews
import Derived.JoinedTies
import Derived.KernelRfl
namespace Go.Proofs.Ytjlgfflpkgmnlaa
/- THE CELL 'sum', in the pinned program and in every row, IS THE sha256 OF THE DUMP (.gsa) THAT YtjlgfflpkgmnlaaProg.lean LOADS. Nothing in Lean hashes anything: it is a label: what it is worth is what the hold of that sum in a sandbox is worth. -/
noncomputable def Try.pinned : Pinned := { name := "ytjlgfflpkgmnlaa", sum := "09273ba6a9d75b22d0ac93c91b88710f6cc855f5ad67481c78e206a447365b6d", checked := Try.checked }
namespace Rows
def none {H : Type} : Left H := { results := [], args := [] }

/-- 'laws.FnUnits': WHATEVER THE INPUT: true; the input reads as it did. -/
def fnUnitsSpec : ChangeSpec := { name := "fnUnits", fn := fun _ => fun
  | [d1, d2] => { results := [.lit (.bool true)], args := [d1, d2] }
  | _ => none }
def fnUnitsRow : OpenClaim := { program := "ytjlgfflpkgmnlaa", sum := "09273ba6a9d75b22d0ac93c91b88710f6cc855f5ad67481c78e206a447365b6d", func := "loop.example/g01155/laws.FnUnits", spec := "fnUnits", inPlace := ["math.Float64frombits", "math.Float64bits", "math.Float32frombits", "math.Float32bits"], apart := false }
def FnUnitsSaid : Prop := fnUnitsRow.holds Try.pinned (OpenSpec.ofChange fnUnitsSpec)

/-- ITS FALSE NEIGHBOUR: 'it returns false'. Refute it at one input. -/
def fnUnitsWrong : ChangeSpec := { name := "fnUnits", fn := fun _ => fun
  | [d1, d2] => { results := [.lit (.bool false)], args := [d1, d2] }
  | _ => none }
def FnUnitsWrongFalsely : Prop := fnUnitsRow.holds Try.pinned (OpenSpec.ofChange fnUnitsWrong)

/-- 'laws.FnExactCodeName': WHATEVER THE INPUT: true; the input reads as it did. -/
def fnExactCodeNameSpec : ChangeSpec := { name := "fnExactCodeName", fn := fun _ => fun
  | [d] => { results := [.lit (.bool true)], args := [d] }
  | _ => none }
def fnExactCodeNameRow : OpenClaim := { program := "ytjlgfflpkgmnlaa", sum := "09273ba6a9d75b22d0ac93c91b88710f6cc855f5ad67481c78e206a447365b6d", func := "loop.example/g01155/laws.FnExactCodeName", spec := "fnExactCodeName", apart := false }
def FnExactCodeNameSaid : Prop := fnExactCodeNameRow.holds Try.pinned (OpenSpec.ofChange fnExactCodeNameSpec)

/-- ITS FALSE NEIGHBOUR: 'it returns false'. Refute it at one input. -/
def fnExactCodeNameWrong : ChangeSpec := { name := "fnExactCodeName", fn := fun _ => fun
  | [d] => { results := [.lit (.bool false)], args := [d] }
  | _ => none }
def FnExactCodeNameWrongFalsely : Prop := fnExactCodeNameRow.holds Try.pinned (OpenSpec.ofChange fnExactCodeNameWrong)

/-- 'laws.FnExactNextUp': WHATEVER THE INPUT: true; the input reads as it did. -/
def fnExactNextUpSpec : ChangeSpec := { name := "fnExactNextUp", fn := fun _ => fun
  | [d] => { results := [.lit (.bool true)], args := [d] }
  | _ => none }
def fnExactNextUpRow : OpenClaim := { program := "ytjlgfflpkgmnlaa", sum := "09273ba6a9d75b22d0ac93c91b88710f6cc855f5ad67481c78e206a447365b6d", func := "loop.example/g01155/laws.FnExactNextUp", spec := "fnExactNextUp", inPlace := ["math.Float64frombits", "math.Float64bits"], apart := false }
def FnExactNextUpSaid : Prop := fnExactNextUpRow.holds Try.pinned (OpenSpec.ofChange fnExactNextUpSpec)

/-- ITS FALSE NEIGHBOUR: 'it returns false'. Refute it at one input. -/
def fnExactNextUpWrong : ChangeSpec := { name := "fnExactNextUp", fn := fun _ => fun
  | [d] => { results := [.lit (.bool false)], args := [d] }
  | _ => none }
def FnExactNextUpWrongFalsely : Prop := fnExactNextUpRow.holds Try.pinned (OpenSpec.ofChange fnExactNextUpWrong)

/-- 'laws.FnExactNextUpNarrow': WHATEVER THE INPUT: true; the input reads as it did. -/
def fnExactNextUpNarrowSpec : ChangeSpec := { name := "fnExactNextUpNarrow", fn := fun _ => fun
  | [d] => { results := [.lit (.bool true)], args := [d] }
  | _ => none }
def fnExactNextUpNarrowRow : OpenClaim := { program := "ytjlgfflpkgmnlaa", sum := "09273ba6a9d75b22d0ac93c91b88710f6cc855f5ad67481c78e206a447365b6d", func := "loop.example/g01155/laws.FnExactNextUpNarrow", spec := "fnExactNextUpNarrow", inPlace := ["math.Float32frombits", "math.Float32bits", "math.Float64frombits", "math.Float64bits"], apart := false }
def FnExactNextUpNarrowSaid : Prop := fnExactNextUpNarrowRow.holds Try.pinned (OpenSpec.ofChange fnExactNextUpNarrowSpec)

/-- ITS FALSE NEIGHBOUR: 'it returns false'. Refute it at one input. -/
def fnExactNextUpNarrowWrong : ChangeSpec := { name := "fnExactNextUpNarrow", fn := fun _ => fun
  | [d] => { results := [.lit (.bool false)], args := [d] }
  | _ => none }
def FnExactNextUpNarrowWrongFalsely : Prop := fnExactNextUpNarrowRow.holds Try.pinned (OpenSpec.ofChange fnExactNextUpNarrowWrong)

/-- 'laws.FnExactUnitsApart': WHATEVER THE INPUT: true; the input reads as it did. -/
def fnExactUnitsApartSpec : ChangeSpec := { name := "fnExactUnitsApart", fn := fun _ => fun
  | [d1, d2] => { results := [.lit (.bool true)], args := [d1, d2] }
  | _ => none }
def fnExactUnitsApartRow : OpenClaim := { program := "ytjlgfflpkgmnlaa", sum := "09273ba6a9d75b22d0ac93c91b88710f6cc855f5ad67481c78e206a447365b6d", func := "loop.example/g01155/laws.FnExactUnitsApart", spec := "fnExactUnitsApart", inPlace := ["math.Float64bits"], recurses := true, apart := false }
def FnExactUnitsApartSaid : Prop := fnExactUnitsApartRow.holds Try.pinned (OpenSpec.ofChange fnExactUnitsApartSpec)

/-- ITS FALSE NEIGHBOUR: 'it returns false'. Refute it at one input. -/
def fnExactUnitsApartWrong : ChangeSpec := { name := "fnExactUnitsApart", fn := fun _ => fun
  | [d1, d2] => { results := [.lit (.bool false)], args := [d1, d2] }
  | _ => none }
def FnExactUnitsApartWrongFalsely : Prop := fnExactUnitsApartRow.holds Try.pinned (OpenSpec.ofChange fnExactUnitsApartWrong)

/-- 'laws.FnExactNarrowUnitsApart': WHATEVER THE INPUT: true; the input reads as it did. -/
def fnExactNarrowUnitsApartSpec : ChangeSpec := { name := "fnExactNarrowUnitsApart", fn := fun _ => fun
  | [d1, d2] => { results := [.lit (.bool true)], args := [d1, d2] }
  | _ => none }
def fnExactNarrowUnitsApartRow : OpenClaim := { program := "ytjlgfflpkgmnlaa", sum := "09273ba6a9d75b22d0ac93c91b88710f6cc855f5ad67481c78e206a447365b6d", func := "loop.example/g01155/laws.FnExactNarrowUnitsApart", spec := "fnExactNarrowUnitsApart", inPlace := ["math.Float32bits"], recurses := true, apart := false }
def FnExactNarrowUnitsApartSaid : Prop := fnExactNarrowUnitsApartRow.holds Try.pinned (OpenSpec.ofChange fnExactNarrowUnitsApartSpec)

/-- ITS FALSE NEIGHBOUR: 'it returns false'. Refute it at one input. -/
def fnExactNarrowUnitsApartWrong : ChangeSpec := { name := "fnExactNarrowUnitsApart", fn := fun _ => fun
  | [d1, d2] => { results := [.lit (.bool false)], args := [d1, d2] }
  | _ => none }
def FnExactNarrowUnitsApartWrongFalsely : Prop := fnExactNarrowUnitsApartRow.holds Try.pinned (OpenSpec.ofChange fnExactNarrowUnitsApartWrong)

/-- 'laws.FnExactReadBits': WHATEVER THE INPUT: true; the input reads as it did. -/
def fnExactReadBitsSpec : ChangeSpec := { name := "fnExactReadBits", fn := fun _ => fun
  | [d] => { results := [.lit (.bool true)], args := [d] }
  | _ => none }
def fnExactReadBitsRow : OpenClaim := { program := "ytjlgfflpkgmnlaa", sum := "09273ba6a9d75b22d0ac93c91b88710f6cc855f5ad67481c78e206a447365b6d", func := "loop.example/g01155/laws.FnExactReadBits", spec := "fnExactReadBits", inPlace := ["math.Float64frombits", "internal/bytealg.IndexByteString", "internal/bytealg.IndexString"], unfollowed := true, recurses := true, named := ["internal/bytealg.MaxLen"], apart := false }
def FnExactReadBitsSaid : Prop := fnExactReadBitsRow.holds Try.pinned (OpenSpec.ofChange fnExactReadBitsSpec)

/-- ITS FALSE NEIGHBOUR: 'it returns false'. Refute it at one input. -/
def fnExactReadBitsWrong : ChangeSpec := { name := "fnExactReadBits", fn := fun _ => fun
  | [d] => { results := [.lit (.bool false)], args := [d] }
  | _ => none }
def FnExactReadBitsWrongFalsely : Prop := fnExactReadBitsRow.holds Try.pinned (OpenSpec.ofChange fnExactReadBitsWrong)

/-- 'laws.FnExactReadNarrowBits': WHATEVER THE INPUT: true; the input reads as it did. -/
def fnExactReadNarrowBitsSpec : ChangeSpec := { name := "fnExactReadNarrowBits", fn := fun _ => fun
  | [d] => { results := [.lit (.bool true)], args := [d] }
  | _ => none }
def fnExactReadNarrowBitsRow : OpenClaim := { program := "ytjlgfflpkgmnlaa", sum := "09273ba6a9d75b22d0ac93c91b88710f6cc855f5ad67481c78e206a447365b6d", func := "loop.example/g01155/laws.FnExactReadNarrowBits", spec := "fnExactReadNarrowBits", inPlace := ["math.Float64frombits", "math.Float32frombits", "internal/bytealg.IndexByteString", "internal/bytealg.IndexString"], unfollowed := true, recurses := true, named := ["internal/bytealg.MaxLen"], apart := false }
def FnExactReadNarrowBitsSaid : Prop := fnExactReadNarrowBitsRow.holds Try.pinned (OpenSpec.ofChange fnExactReadNarrowBitsSpec)

/-- ITS FALSE NEIGHBOUR: 'it returns false'. Refute it at one input. -/
def fnExactReadNarrowBitsWrong : ChangeSpec := { name := "fnExactReadNarrowBits", fn := fun _ => fun
  | [d] => { results := [.lit (.bool false)], args := [d] }
  | _ => none }
def FnExactReadNarrowBitsWrongFalsely : Prop := fnExactReadNarrowBitsRow.holds Try.pinned (OpenSpec.ofChange fnExactReadNarrowBitsWrong)

/-- 'laws.FnSameAndEqual': WHATEVER THE INPUT: true; the input reads as it did. -/
def fnSameAndEqualSpec : ChangeSpec := { name := "fnSameAndEqual", fn := fun _ => fun
  | [d1, d2] => { results := [.lit (.bool true)], args := [d1, d2] }
  | _ => none }
def fnSameAndEqualRow : OpenClaim := { program := "ytjlgfflpkgmnlaa", sum := "09273ba6a9d75b22d0ac93c91b88710f6cc855f5ad67481c78e206a447365b6d", func := "loop.example/g01155/laws.FnSameAndEqual", spec := "fnSameAndEqual", inPlace := ["math.Float64frombits", "math.Float64bits"], apart := false }
def FnSameAndEqualSaid : Prop := fnSameAndEqualRow.holds Try.pinned (OpenSpec.ofChange fnSameAndEqualSpec)

/-- ITS FALSE NEIGHBOUR: 'it returns false'. Refute it at one input. -/
def fnSameAndEqualWrong : ChangeSpec := { name := "fnSameAndEqual", fn := fun _ => fun
  | [d1, d2] => { results := [.lit (.bool false)], args := [d1, d2] }
  | _ => none }
def FnSameAndEqualWrongFalsely : Prop := fnSameAndEqualRow.holds Try.pinned (OpenSpec.ofChange fnSameAndEqualWrong)

/-- 'laws.FnSignals': WHATEVER THE INPUT: true; the input reads as it did. -/
def fnSignalsSpec : ChangeSpec := { name := "fnSignals", fn := fun _ => fun
  | [d1, d2] => { results := [.lit (.bool true)], args := [d1, d2] }
  | _ => none }
def fnSignalsRow : OpenClaim := { program := "ytjlgfflpkgmnlaa", sum := "09273ba6a9d75b22d0ac93c91b88710f6cc855f5ad67481c78e206a447365b6d", func := "loop.example/g01155/laws.FnSignals", spec := "fnSignals", inPlace := ["math.Float64frombits", "math.Float64bits"], unfollowed := true, recurses := true, apart := false }
def FnSignalsSaid : Prop := fnSignalsRow.holds Try.pinned (OpenSpec.ofChange fnSignalsSpec)

/-- ITS FALSE NEIGHBOUR: 'it returns false'. Refute it at one input. -/
def fnSignalsWrong : ChangeSpec := { name := "fnSignals", fn := fun _ => fun
  | [d1, d2] => { results := [.lit (.bool false)], args := [d1, d2] }
  | _ => none }
def FnSignalsWrongFalsely : Prop := fnSignalsRow.holds Try.pinned (OpenSpec.ofChange fnSignalsWrong)

/-- 'laws.FnQuotients': WHATEVER THE INPUT: true; the input reads as it did. -/
def fnQuotientsSpec : ChangeSpec := { name := "fnQuotients", fn := fun _ => fun
  | [d1, d2] => { results := [.lit (.bool true)], args := [d1, d2] }
  | _ => none }
def fnQuotientsRow : OpenClaim := { program := "ytjlgfflpkgmnlaa", sum := "09273ba6a9d75b22d0ac93c91b88710f6cc855f5ad67481c78e206a447365b6d", func := "loop.example/g01155/laws.FnQuotients", spec := "fnQuotients", inPlace := ["math.Float64frombits", "math.Float64bits"], apart := false }
def FnQuotientsSaid : Prop := fnQuotientsRow.holds Try.pinned (OpenSpec.ofChange fnQuotientsSpec)

/-- ITS FALSE NEIGHBOUR: 'it returns false'. Refute it at one input. -/
def fnQuotientsWrong : ChangeSpec := { name := "fnQuotients", fn := fun _ => fun
  | [d1, d2] => { results := [.lit (.bool false)], args := [d1, d2] }
  | _ => none }
def FnQuotientsWrongFalsely : Prop := fnQuotientsRow.holds Try.pinned (OpenSpec.ofChange fnQuotientsWrong)

/- THE SECOND FORM. 'bulk': how many values and letters a reading holds, each counted each time it is reached (what is shared counts as often as it is met; a slice's spare places count too). A statement '..UptoSaid' is the law's where the arguments, and the package variables that the reading takes, are together of bulk at most 1048576: NARROWER than '..Said'. Prove '..Said' where nothing that the law and all that it calls make is longer than what came in: it says more and counts as full. Else prove '..UptoSaid'. A law counts once. -/
mutual
def uptoBulk {H : Type} : DataW H → Nat
  | .lit (.string bytes) => bytes.length + 1
  | .lit _ => 1
  | .nil => 1
  | .ptr d => uptoBulk d + 1
  | .slice elems spare => uptoBulkAll elems + uptoBulkAll spare + 1
  | .agg parts => uptoBulkAll parts + 1
  | .iface _ d => uptoBulk d + 1
  | .map entries => uptoBulkEntries entries + 1
  | .held _ => 1
def uptoBulkAll {H : Type} : List (DataW H) → Nat
  | [] => 0
  | d :: r => uptoBulk d + uptoBulkAll r
def uptoBulkEntries {H : Type} : List (Lit × DataW H) → Nat
  | [] => 0
  | x :: r => uptoBulkEntry x + uptoBulkEntries r
def uptoBulkEntry {H : Type} : Lit × DataW H → Nat
  | (.string bytes, d) => bytes.length + uptoBulk d + 1
  | (_, d) => uptoBulk d + 1
 end
def uptoSmall : (H : Type) → List (DataW H) → Bool := fun _ ds => decide (uptoBulkAll ds ≤ 1048576)
def OpenSpec.upto (s : _root_.Go.ChangeSpec) : _root_.Go.OpenSpec := { _root_.Go.OpenSpec.ofChange s with cond := some uptoSmall }

/-- 'laws.FnUnits', WHERE WHAT IT READS IS OF BULK AT MOST 1048576: true; the input reads as it did. -/
def fnUnitsUptoRow : OpenClaim := { program := "ytjlgfflpkgmnlaa", sum := "09273ba6a9d75b22d0ac93c91b88710f6cc855f5ad67481c78e206a447365b6d", func := "loop.example/g01155/laws.FnUnits", spec := "fnUnits", inPlace := ["math.Float64frombits", "math.Float64bits", "math.Float32frombits", "math.Float32bits"], apart := false, narrowed := true }
def FnUnitsUptoSaid : Prop := fnUnitsUptoRow.holds Try.pinned (OpenSpec.upto fnUnitsSpec)

/-- 'laws.FnExactCodeName', WHERE WHAT IT READS IS OF BULK AT MOST 1048576: true; the input reads as it did. -/
def fnExactCodeNameUptoRow : OpenClaim := { program := "ytjlgfflpkgmnlaa", sum := "09273ba6a9d75b22d0ac93c91b88710f6cc855f5ad67481c78e206a447365b6d", func := "loop.example/g01155/laws.FnExactCodeName", spec := "fnExactCodeName", apart := false, narrowed := true }
def FnExactCodeNameUptoSaid : Prop := fnExactCodeNameUptoRow.holds Try.pinned (OpenSpec.upto fnExactCodeNameSpec)

/-- 'laws.FnExactNextUp', WHERE WHAT IT READS IS OF BULK AT MOST 1048576: true; the input reads as it did. -/
def fnExactNextUpUptoRow : OpenClaim := { program := "ytjlgfflpkgmnlaa", sum := "09273ba6a9d75b22d0ac93c91b88710f6cc855f5ad67481c78e206a447365b6d", func := "loop.example/g01155/laws.FnExactNextUp", spec := "fnExactNextUp", inPlace := ["math.Float64frombits", "math.Float64bits"], apart := false, narrowed := true }
def FnExactNextUpUptoSaid : Prop := fnExactNextUpUptoRow.holds Try.pinned (OpenSpec.upto fnExactNextUpSpec)

/-- 'laws.FnExactNextUpNarrow', WHERE WHAT IT READS IS OF BULK AT MOST 1048576: true; the input reads as it did. -/
def fnExactNextUpNarrowUptoRow : OpenClaim := { program := "ytjlgfflpkgmnlaa", sum := "09273ba6a9d75b22d0ac93c91b88710f6cc855f5ad67481c78e206a447365b6d", func := "loop.example/g01155/laws.FnExactNextUpNarrow", spec := "fnExactNextUpNarrow", inPlace := ["math.Float32frombits", "math.Float32bits", "math.Float64frombits", "math.Float64bits"], apart := false, narrowed := true }
def FnExactNextUpNarrowUptoSaid : Prop := fnExactNextUpNarrowUptoRow.holds Try.pinned (OpenSpec.upto fnExactNextUpNarrowSpec)

/-- 'laws.FnExactUnitsApart', WHERE WHAT IT READS IS OF BULK AT MOST 1048576: true; the input reads as it did. -/
def fnExactUnitsApartUptoRow : OpenClaim := { program := "ytjlgfflpkgmnlaa", sum := "09273ba6a9d75b22d0ac93c91b88710f6cc855f5ad67481c78e206a447365b6d", func := "loop.example/g01155/laws.FnExactUnitsApart", spec := "fnExactUnitsApart", inPlace := ["math.Float64bits"], recurses := true, apart := false, narrowed := true }
def FnExactUnitsApartUptoSaid : Prop := fnExactUnitsApartUptoRow.holds Try.pinned (OpenSpec.upto fnExactUnitsApartSpec)

/-- 'laws.FnExactNarrowUnitsApart', WHERE WHAT IT READS IS OF BULK AT MOST 1048576: true; the input reads as it did. -/
def fnExactNarrowUnitsApartUptoRow : OpenClaim := { program := "ytjlgfflpkgmnlaa", sum := "09273ba6a9d75b22d0ac93c91b88710f6cc855f5ad67481c78e206a447365b6d", func := "loop.example/g01155/laws.FnExactNarrowUnitsApart", spec := "fnExactNarrowUnitsApart", inPlace := ["math.Float32bits"], recurses := true, apart := false, narrowed := true }
def FnExactNarrowUnitsApartUptoSaid : Prop := fnExactNarrowUnitsApartUptoRow.holds Try.pinned (OpenSpec.upto fnExactNarrowUnitsApartSpec)

/-- 'laws.FnExactReadBits', WHERE WHAT IT READS IS OF BULK AT MOST 1048576: true; the input reads as it did. -/
def fnExactReadBitsUptoRow : OpenClaim := { program := "ytjlgfflpkgmnlaa", sum := "09273ba6a9d75b22d0ac93c91b88710f6cc855f5ad67481c78e206a447365b6d", func := "loop.example/g01155/laws.FnExactReadBits", spec := "fnExactReadBits", inPlace := ["math.Float64frombits", "internal/bytealg.IndexByteString", "internal/bytealg.IndexString"], unfollowed := true, recurses := true, named := ["internal/bytealg.MaxLen"], apart := false, narrowed := true }
def FnExactReadBitsUptoSaid : Prop := fnExactReadBitsUptoRow.holds Try.pinned (OpenSpec.upto fnExactReadBitsSpec)

/-- 'laws.FnExactReadNarrowBits', WHERE WHAT IT READS IS OF BULK AT MOST 1048576: true; the input reads as it did. -/
def fnExactReadNarrowBitsUptoRow : OpenClaim := { program := "ytjlgfflpkgmnlaa", sum := "09273ba6a9d75b22d0ac93c91b88710f6cc855f5ad67481c78e206a447365b6d", func := "loop.example/g01155/laws.FnExactReadNarrowBits", spec := "fnExactReadNarrowBits", inPlace := ["math.Float64frombits", "math.Float32frombits", "internal/bytealg.IndexByteString", "internal/bytealg.IndexString"], unfollowed := true, recurses := true, named := ["internal/bytealg.MaxLen"], apart := false, narrowed := true }
def FnExactReadNarrowBitsUptoSaid : Prop := fnExactReadNarrowBitsUptoRow.holds Try.pinned (OpenSpec.upto fnExactReadNarrowBitsSpec)

/-- 'laws.FnSameAndEqual', WHERE WHAT IT READS IS OF BULK AT MOST 1048576: true; the input reads as it did. -/
def fnSameAndEqualUptoRow : OpenClaim := { program := "ytjlgfflpkgmnlaa", sum := "09273ba6a9d75b22d0ac93c91b88710f6cc855f5ad67481c78e206a447365b6d", func := "loop.example/g01155/laws.FnSameAndEqual", spec := "fnSameAndEqual", inPlace := ["math.Float64frombits", "math.Float64bits"], apart := false, narrowed := true }
def FnSameAndEqualUptoSaid : Prop := fnSameAndEqualUptoRow.holds Try.pinned (OpenSpec.upto fnSameAndEqualSpec)

/-- 'laws.FnSignals', WHERE WHAT IT READS IS OF BULK AT MOST 1048576: true; the input reads as it did. -/
def fnSignalsUptoRow : OpenClaim := { program := "ytjlgfflpkgmnlaa", sum := "09273ba6a9d75b22d0ac93c91b88710f6cc855f5ad67481c78e206a447365b6d", func := "loop.example/g01155/laws.FnSignals", spec := "fnSignals", inPlace := ["math.Float64frombits", "math.Float64bits"], unfollowed := true, recurses := true, apart := false, narrowed := true }
def FnSignalsUptoSaid : Prop := fnSignalsUptoRow.holds Try.pinned (OpenSpec.upto fnSignalsSpec)

/-- 'laws.FnQuotients', WHERE WHAT IT READS IS OF BULK AT MOST 1048576: true; the input reads as it did. -/
def fnQuotientsUptoRow : OpenClaim := { program := "ytjlgfflpkgmnlaa", sum := "09273ba6a9d75b22d0ac93c91b88710f6cc855f5ad67481c78e206a447365b6d", func := "loop.example/g01155/laws.FnQuotients", spec := "fnQuotients", inPlace := ["math.Float64frombits", "math.Float64bits"], apart := false, narrowed := true }
def FnQuotientsUptoSaid : Prop := fnQuotientsUptoRow.holds Try.pinned (OpenSpec.upto fnQuotientsSpec)

end Rows
end Go.Proofs.Ytjlgfflpkgmnlaa
