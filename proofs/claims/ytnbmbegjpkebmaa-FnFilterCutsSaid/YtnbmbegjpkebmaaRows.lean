/-
  No cell of these rows narrows 'for every input' (looked for: loops, veiled, ifaces, maps, wideKeys, modest, calm, conditions, laid).
  DERIVED. THE GIVEN ROWS OF THIS SEAT. 3 by the template 'for every input the law returns true; each argument reads behind the call as it read before'; 0 by the template 'total and deterministic' (their statements: YtnbmbegjpkebmaaTotals.lean).
  GIVEN WITH THE SEED: the statements are not yours to turn. If you find one false, say at which input.
  Laid BY PROGRAM, IN A SANDBOX (cutbox-rows.mjs): the forced cells as the released guide's own fill.sh prints them over the translation be6d6f3fdef142b8… (all of the seat's roots in one cut). By AI agents, Wed Nov 11 2026. No macro, syntax, notation, axiom, sorry.
-/
import Derived.Test.YtnbmbegjpkebmaaChecked
import GoSem.Claim
import GoSem.ClaimJoined
import GoSem.ClaimMapViews
import Derived.JoinedTies
import Derived.KernelRfl
namespace Go.Proofs.Ytnbmbegjpkebmaa
/- THE CELL 'sum', in the pinned program and in every row, IS THE sha256 OF THE DUMP (.gsa) THAT YtnbmbegjpkebmaaProg.lean LOADS. Nothing in Lean hashes anything: it is a label: what it is worth is what the hold of that sum in a sandbox is worth. -/
noncomputable def Try.pinned : Pinned := { name := "ytnbmbegjpkebmaa", sum := "be6d6f3fdef142b8cb18ddb43ae1fdc5895dc724ca944d7538184349dd79b8d7", checked := Try.checked }
namespace Rows
def none {H : Type} : Left H := { results := [], args := [] }

/-- 'laws.FnRecur': WHATEVER THE INPUT: true; the input reads as it did. -/
def fnRecurSpec : ChangeSpec := { name := "fnRecur", fn := fun _ => fun
  | [d1, d2] => { results := [.lit (.bool true)], args := [d1, d2] }
  | _ => none }
def fnRecurRow : OpenClaim := { program := "ytnbmbegjpkebmaa", sum := "be6d6f3fdef142b8cb18ddb43ae1fdc5895dc724ca944d7538184349dd79b8d7", func := "loop.example/g01155/laws.FnRecur", spec := "fnRecur", inPlace := ["math.Float64frombits", "math.Float64bits"], unfollowed := true, recurses := true, apart := false }
def FnRecurSaid : Prop := fnRecurRow.holds Try.pinned (OpenSpec.ofChange fnRecurSpec)

/-- ITS FALSE NEIGHBOUR: 'it returns false'. Refute it at one input. -/
def fnRecurWrong : ChangeSpec := { name := "fnRecur", fn := fun _ => fun
  | [d1, d2] => { results := [.lit (.bool false)], args := [d1, d2] }
  | _ => none }
def FnRecurWrongFalsely : Prop := fnRecurRow.holds Try.pinned (OpenSpec.ofChange fnRecurWrong)

/-- 'laws.FnFilterCuts': WHATEVER THE INPUT: true; the input reads as it did. -/
def fnFilterCutsSpec : ChangeSpec := { name := "fnFilterCuts", fn := fun _ => fun
  | [d1, d2] => { results := [.lit (.bool true)], args := [d1, d2] }
  | _ => none }
def fnFilterCutsRow : OpenClaim := { program := "ytnbmbegjpkebmaa", sum := "be6d6f3fdef142b8cb18ddb43ae1fdc5895dc724ca944d7538184349dd79b8d7", func := "loop.example/g01155/laws.FnFilterCuts", spec := "fnFilterCuts", inPlace := ["math.Float64frombits", "math.Float64bits"], unfollowed := true, recurses := true, apart := false }
def FnFilterCutsSaid : Prop := fnFilterCutsRow.holds Try.pinned (OpenSpec.ofChange fnFilterCutsSpec)

/-- ITS FALSE NEIGHBOUR: 'it returns false'. Refute it at one input. -/
def fnFilterCutsWrong : ChangeSpec := { name := "fnFilterCuts", fn := fun _ => fun
  | [d1, d2] => { results := [.lit (.bool false)], args := [d1, d2] }
  | _ => none }
def FnFilterCutsWrongFalsely : Prop := fnFilterCutsRow.holds Try.pinned (OpenSpec.ofChange fnFilterCutsWrong)

/-- 'laws.FnConvolve': WHATEVER THE INPUT: true; the input reads as it did. -/
def fnConvolveSpec : ChangeSpec := { name := "fnConvolve", fn := fun _ => fun
  | [d1, d2] => { results := [.lit (.bool true)], args := [d1, d2] }
  | _ => none }
def fnConvolveRow : OpenClaim := { program := "ytnbmbegjpkebmaa", sum := "be6d6f3fdef142b8cb18ddb43ae1fdc5895dc724ca944d7538184349dd79b8d7", func := "loop.example/g01155/laws.FnConvolve", spec := "fnConvolve", inPlace := ["math.Float64bits"], unfollowed := true, recurses := true, apart := false }
def FnConvolveSaid : Prop := fnConvolveRow.holds Try.pinned (OpenSpec.ofChange fnConvolveSpec)

/-- ITS FALSE NEIGHBOUR: 'it returns false'. Refute it at one input. -/
def fnConvolveWrong : ChangeSpec := { name := "fnConvolve", fn := fun _ => fun
  | [d1, d2] => { results := [.lit (.bool false)], args := [d1, d2] }
  | _ => none }
def FnConvolveWrongFalsely : Prop := fnConvolveRow.holds Try.pinned (OpenSpec.ofChange fnConvolveWrong)

/- THE SECOND FORM. 'bulk': how many values and letters a reading holds, each counted each time it is reached (what is shared counts as often as it is met; a slice's spare places count too). A statement '..UptoSaid' is the law's where the arguments, and the package variables that the reading takes, are together of bulk at most 1048576: NARROWER than '..Said'. Prove '..Said' where nothing that the law and all that it calls make is longer than what came in: it says more and counts as full. Else prove '..UptoSaid'. A law counts once. -/
mutual
def uptoBulk {H : Type} : DataW H → Nat
  | .lit (.string bytes) => bytes.length + 1
  | .lit _ => 1
  | .nil => 1
  | .ptr d => uptoBulk d + 1
  | .slice elems spare => uptoBulkAll elems + uptoBulkAll spare + 1
  | .agg parts => uptoBulkAll parts + 1
  | .iface _ d => uptoBulk d + 1
  | .map entries => uptoBulkEntries entries + 1
  | .held _ => 1
def uptoBulkAll {H : Type} : List (DataW H) → Nat
  | [] => 0
  | d :: r => uptoBulk d + uptoBulkAll r
def uptoBulkEntries {H : Type} : List (Lit × DataW H) → Nat
  | [] => 0
  | x :: r => uptoBulkEntry x + uptoBulkEntries r
def uptoBulkEntry {H : Type} : Lit × DataW H → Nat
  | (.string bytes, d) => bytes.length + uptoBulk d + 1
  | (_, d) => uptoBulk d + 1
 end
def uptoSmall : (H : Type) → List (DataW H) → Bool := fun _ ds => decide (uptoBulkAll ds ≤ 1048576)
def OpenSpec.upto (s : _root_.Go.ChangeSpec) : _root_.Go.OpenSpec := { _root_.Go.OpenSpec.ofChange s with cond := some uptoSmall }

/-- 'laws.FnRecur', WHERE WHAT IT READS IS OF BULK AT MOST 1048576: true; the input reads as it did. -/
def fnRecurUptoRow : OpenClaim := { program := "ytnbmbegjpkebmaa", sum := "be6d6f3fdef142b8cb18ddb43ae1fdc5895dc724ca944d7538184349dd79b8d7", func := "loop.example/g01155/laws.FnRecur", spec := "fnRecur", inPlace := ["math.Float64frombits", "math.Float64bits"], unfollowed := true, recurses := true, apart := false, narrowed := true }
def FnRecurUptoSaid : Prop := fnRecurUptoRow.holds Try.pinned (OpenSpec.upto fnRecurSpec)

/-- 'laws.FnFilterCuts', WHERE WHAT IT READS IS OF BULK AT MOST 1048576: true; the input reads as it did. -/
def fnFilterCutsUptoRow : OpenClaim := { program := "ytnbmbegjpkebmaa", sum := "be6d6f3fdef142b8cb18ddb43ae1fdc5895dc724ca944d7538184349dd79b8d7", func := "loop.example/g01155/laws.FnFilterCuts", spec := "fnFilterCuts", inPlace := ["math.Float64frombits", "math.Float64bits"], unfollowed := true, recurses := true, apart := false, narrowed := true }
def FnFilterCutsUptoSaid : Prop := fnFilterCutsUptoRow.holds Try.pinned (OpenSpec.upto fnFilterCutsSpec)

/-- 'laws.FnConvolve', WHERE WHAT IT READS IS OF BULK AT MOST 1048576: true; the input reads as it did. -/
def fnConvolveUptoRow : OpenClaim := { program := "ytnbmbegjpkebmaa", sum := "be6d6f3fdef142b8cb18ddb43ae1fdc5895dc724ca944d7538184349dd79b8d7", func := "loop.example/g01155/laws.FnConvolve", spec := "fnConvolve", inPlace := ["math.Float64bits"], unfollowed := true, recurses := true, apart := false, narrowed := true }
def FnConvolveUptoSaid : Prop := fnConvolveUptoRow.holds Try.pinned (OpenSpec.upto fnConvolveSpec)

end Rows
end Go.Proofs.Ytnbmbegjpkebmaa
