/-
  No cell of these rows narrows 'for every input' (looked for: loops, veiled, ifaces, maps, wideKeys, modest, calm, conditions, laid).
  DERIVED. THE GIVEN ROWS OF THIS SEAT. 10 by the template 'for every input the law returns true; each argument reads behind the call as it read before'; 0 by the template 'total and deterministic' (their statements: YtnhhmgnceicpkaaTotals.lean).
  GIVEN WITH THE SEED: the statements are not yours to turn. If you find one false, say at which input.
  Laid BY PROGRAM, IN A SANDBOX (cutbox-rows.mjs): the forced cells as the released guide's own fill.sh prints them over the translation 088c1cc8247c408e… (all of the seat's roots in one cut). By AI agents, Wed Nov 11 2026. No macro, syntax, notation, axiom, sorry.
-/
import Derived.Test.YtnhhmgnceicpkaaChecked
import GoSem.Claim
import GoSem.ClaimJoined
import GoSem.ClaimMapViews
import Derived.JoinedTies
import Derived.KernelRfl
namespace Go.Proofs.Ytnhhmgnceicpkaa
/- THE CELL 'sum', in the pinned program and in every row, IS THE sha256 OF THE DUMP (.gsa) THAT YtnhhmgnceicpkaaProg.lean LOADS. Nothing in Lean hashes anything: it is a label: what it is worth is what the hold of that sum in a sandbox is worth. -/
noncomputable def Try.pinned : Pinned := { name := "ytnhhmgnceicpkaa", sum := "088c1cc8247c408e15e0c9be4bbf7a639aefab3d78b22085596df6a3a518f166", checked := Try.checked }
namespace Rows
def none {H : Type} : Left H := { results := [], args := [] }

/-- 'laws.FnExactBlockCount': WHATEVER THE INPUT: true; the input reads as it did. -/
def fnExactBlockCountSpec : ChangeSpec := { name := "fnExactBlockCount", fn := fun _ => fun
  | [d1, d2, d3] => { results := [.lit (.bool true)], args := [d1, d2, d3] }
  | _ => none }
def fnExactBlockCountRow : OpenClaim := { program := "ytnhhmgnceicpkaa", sum := "088c1cc8247c408e15e0c9be4bbf7a639aefab3d78b22085596df6a3a518f166", func := "loop.example/g01155/laws.FnExactBlockCount", spec := "fnExactBlockCount", plainKeys := false, apart := false }
def FnExactBlockCountSaid : Prop := fnExactBlockCountRow.holds Try.pinned (OpenSpec.ofChange fnExactBlockCountSpec)

/-- ITS FALSE NEIGHBOUR: 'it returns false'. Refute it at one input. -/
def fnExactBlockCountWrong : ChangeSpec := { name := "fnExactBlockCount", fn := fun _ => fun
  | [d1, d2, d3] => { results := [.lit (.bool false)], args := [d1, d2, d3] }
  | _ => none }
def FnExactBlockCountWrongFalsely : Prop := fnExactBlockCountRow.holds Try.pinned (OpenSpec.ofChange fnExactBlockCountWrong)

/-- 'laws.FnExactGainOf': WHATEVER THE INPUT: true; the input reads as it did. -/
def fnExactGainOfSpec : ChangeSpec := { name := "fnExactGainOf", fn := fun _ => fun
  | [d] => { results := [.lit (.bool true)], args := [d] }
  | _ => none }
def fnExactGainOfRow : OpenClaim := { program := "ytnhhmgnceicpkaa", sum := "088c1cc8247c408e15e0c9be4bbf7a639aefab3d78b22085596df6a3a518f166", func := "loop.example/g01155/laws.FnExactGainOf", spec := "fnExactGainOf", plainKeys := false, apart := false }
def FnExactGainOfSaid : Prop := fnExactGainOfRow.holds Try.pinned (OpenSpec.ofChange fnExactGainOfSpec)

/-- ITS FALSE NEIGHBOUR: 'it returns false'. Refute it at one input. -/
def fnExactGainOfWrong : ChangeSpec := { name := "fnExactGainOf", fn := fun _ => fun
  | [d] => { results := [.lit (.bool false)], args := [d] }
  | _ => none }
def FnExactGainOfWrongFalsely : Prop := fnExactGainOfRow.holds Try.pinned (OpenSpec.ofChange fnExactGainOfWrong)

/-- 'laws.FnExactPowerOf': WHATEVER THE INPUT: true; the input reads as it did. -/
def fnExactPowerOfSpec : ChangeSpec := { name := "fnExactPowerOf", fn := fun _ => fun
  | [d] => { results := [.lit (.bool true)], args := [d] }
  | _ => none }
def fnExactPowerOfRow : OpenClaim := { program := "ytnhhmgnceicpkaa", sum := "088c1cc8247c408e15e0c9be4bbf7a639aefab3d78b22085596df6a3a518f166", func := "loop.example/g01155/laws.FnExactPowerOf", spec := "fnExactPowerOf", unfollowed := true, recurses := true, plainKeys := false, apart := false }
def FnExactPowerOfSaid : Prop := fnExactPowerOfRow.holds Try.pinned (OpenSpec.ofChange fnExactPowerOfSpec)

/-- ITS FALSE NEIGHBOUR: 'it returns false'. Refute it at one input. -/
def fnExactPowerOfWrong : ChangeSpec := { name := "fnExactPowerOf", fn := fun _ => fun
  | [d] => { results := [.lit (.bool false)], args := [d] }
  | _ => none }
def FnExactPowerOfWrongFalsely : Prop := fnExactPowerOfRow.holds Try.pinned (OpenSpec.ofChange fnExactPowerOfWrong)

/-- 'laws.FnExactNewAdder': WHATEVER THE INPUT: true; the input reads as it did. -/
def fnExactNewAdderSpec : ChangeSpec := { name := "fnExactNewAdder", fn := fun _ => fun
  | [d1, d2] => { results := [.lit (.bool true)], args := [d1, d2] }
  | _ => none }
def fnExactNewAdderRow : OpenClaim := { program := "ytnhhmgnceicpkaa", sum := "088c1cc8247c408e15e0c9be4bbf7a639aefab3d78b22085596df6a3a518f166", func := "loop.example/g01155/laws.FnExactNewAdder", spec := "fnExactNewAdder", plainKeys := false, apart := false }
def FnExactNewAdderSaid : Prop := fnExactNewAdderRow.holds Try.pinned (OpenSpec.ofChange fnExactNewAdderSpec)

/-- ITS FALSE NEIGHBOUR: 'it returns false'. Refute it at one input. -/
def fnExactNewAdderWrong : ChangeSpec := { name := "fnExactNewAdder", fn := fun _ => fun
  | [d1, d2] => { results := [.lit (.bool false)], args := [d1, d2] }
  | _ => none }
def FnExactNewAdderWrongFalsely : Prop := fnExactNewAdderRow.holds Try.pinned (OpenSpec.ofChange fnExactNewAdderWrong)

/-- 'laws.FnExactNarrowWindow': WHATEVER THE INPUT: true; the input reads as it did. -/
def fnExactNarrowWindowSpec : ChangeSpec := { name := "fnExactNarrowWindow", fn := fun _ => fun
  | [d] => { results := [.lit (.bool true)], args := [d] }
  | _ => none }
def fnExactNarrowWindowRow : OpenClaim := { program := "ytnhhmgnceicpkaa", sum := "088c1cc8247c408e15e0c9be4bbf7a639aefab3d78b22085596df6a3a518f166", func := "loop.example/g01155/laws.FnExactNarrowWindow", spec := "fnExactNarrowWindow", unfollowed := true, recurses := true, plainKeys := false, apart := false }
def FnExactNarrowWindowSaid : Prop := fnExactNarrowWindowRow.holds Try.pinned (OpenSpec.ofChange fnExactNarrowWindowSpec)

/-- ITS FALSE NEIGHBOUR: 'it returns false'. Refute it at one input. -/
def fnExactNarrowWindowWrong : ChangeSpec := { name := "fnExactNarrowWindow", fn := fun _ => fun
  | [d] => { results := [.lit (.bool false)], args := [d] }
  | _ => none }
def FnExactNarrowWindowWrongFalsely : Prop := fnExactNarrowWindowRow.holds Try.pinned (OpenSpec.ofChange fnExactNarrowWindowWrong)

/-- 'laws.FnExactOverlapSums': WHATEVER THE INPUT: true; the input reads as it did. -/
def fnExactOverlapSumsSpec : ChangeSpec := { name := "fnExactOverlapSums", fn := fun _ => fun
  | [d1, d2] => { results := [.lit (.bool true)], args := [d1, d2] }
  | _ => none }
def fnExactOverlapSumsRow : OpenClaim := { program := "ytnhhmgnceicpkaa", sum := "088c1cc8247c408e15e0c9be4bbf7a639aefab3d78b22085596df6a3a518f166", func := "loop.example/g01155/laws.FnExactOverlapSums", spec := "fnExactOverlapSums", unfollowed := true, recurses := true, plainKeys := false, apart := false }
def FnExactOverlapSumsSaid : Prop := fnExactOverlapSumsRow.holds Try.pinned (OpenSpec.ofChange fnExactOverlapSumsSpec)

/-- ITS FALSE NEIGHBOUR: 'it returns false'. Refute it at one input. -/
def fnExactOverlapSumsWrong : ChangeSpec := { name := "fnExactOverlapSums", fn := fun _ => fun
  | [d1, d2] => { results := [.lit (.bool false)], args := [d1, d2] }
  | _ => none }
def FnExactOverlapSumsWrongFalsely : Prop := fnExactOverlapSumsRow.holds Try.pinned (OpenSpec.ofChange fnExactOverlapSumsWrong)

/-- 'laws.FnExactRippleOf': WHATEVER THE INPUT: true; the input reads as it did. -/
def fnExactRippleOfSpec : ChangeSpec := { name := "fnExactRippleOf", fn := fun _ => fun
  | [d1, d2] => { results := [.lit (.bool true)], args := [d1, d2] }
  | _ => none }
def fnExactRippleOfRow : OpenClaim := { program := "ytnhhmgnceicpkaa", sum := "088c1cc8247c408e15e0c9be4bbf7a639aefab3d78b22085596df6a3a518f166", func := "loop.example/g01155/laws.FnExactRippleOf", spec := "fnExactRippleOf", unfollowed := true, recurses := true, plainKeys := false, apart := false }
def FnExactRippleOfSaid : Prop := fnExactRippleOfRow.holds Try.pinned (OpenSpec.ofChange fnExactRippleOfSpec)

/-- ITS FALSE NEIGHBOUR: 'it returns false'. Refute it at one input. -/
def fnExactRippleOfWrong : ChangeSpec := { name := "fnExactRippleOf", fn := fun _ => fun
  | [d1, d2] => { results := [.lit (.bool false)], args := [d1, d2] }
  | _ => none }
def FnExactRippleOfWrongFalsely : Prop := fnExactRippleOfRow.holds Try.pinned (OpenSpec.ofChange fnExactRippleOfWrong)

/-- 'laws.FnExactFlatWindow': WHATEVER THE INPUT: true; the input reads as it did. -/
def fnExactFlatWindowSpec : ChangeSpec := { name := "fnExactFlatWindow", fn := fun _ => fun
  | [d1, d2] => { results := [.lit (.bool true)], args := [d1, d2] }
  | _ => none }
def fnExactFlatWindowRow : OpenClaim := { program := "ytnhhmgnceicpkaa", sum := "088c1cc8247c408e15e0c9be4bbf7a639aefab3d78b22085596df6a3a518f166", func := "loop.example/g01155/laws.FnExactFlatWindow", spec := "fnExactFlatWindow", unfollowed := true, recurses := true, plainKeys := false, apart := false }
def FnExactFlatWindowSaid : Prop := fnExactFlatWindowRow.holds Try.pinned (OpenSpec.ofChange fnExactFlatWindowSpec)

/-- ITS FALSE NEIGHBOUR: 'it returns false'. Refute it at one input. -/
def fnExactFlatWindowWrong : ChangeSpec := { name := "fnExactFlatWindow", fn := fun _ => fun
  | [d1, d2] => { results := [.lit (.bool false)], args := [d1, d2] }
  | _ => none }
def FnExactFlatWindowWrongFalsely : Prop := fnExactFlatWindowRow.holds Try.pinned (OpenSpec.ofChange fnExactFlatWindowWrong)

/-- 'laws.FnExactWindowWeights': WHATEVER THE INPUT: true; the input reads as it did. -/
def fnExactWindowWeightsSpec : ChangeSpec := { name := "fnExactWindowWeights", fn := fun _ => fun
  | [d1, d2, d3] => { results := [.lit (.bool true)], args := [d1, d2, d3] }
  | _ => none }
def fnExactWindowWeightsRow : OpenClaim := { program := "ytnhhmgnceicpkaa", sum := "088c1cc8247c408e15e0c9be4bbf7a639aefab3d78b22085596df6a3a518f166", func := "loop.example/g01155/laws.FnExactWindowWeights", spec := "fnExactWindowWeights", unfollowed := true, recurses := true, plainKeys := false, apart := false }
def FnExactWindowWeightsSaid : Prop := fnExactWindowWeightsRow.holds Try.pinned (OpenSpec.ofChange fnExactWindowWeightsSpec)

/-- ITS FALSE NEIGHBOUR: 'it returns false'. Refute it at one input. -/
def fnExactWindowWeightsWrong : ChangeSpec := { name := "fnExactWindowWeights", fn := fun _ => fun
  | [d1, d2, d3] => { results := [.lit (.bool false)], args := [d1, d2, d3] }
  | _ => none }
def FnExactWindowWeightsWrongFalsely : Prop := fnExactWindowWeightsRow.holds Try.pinned (OpenSpec.ofChange fnExactWindowWeightsWrong)

/-- 'laws.FnExactWindowOf': WHATEVER THE INPUT: true; the input reads as it did. -/
def fnExactWindowOfSpec : ChangeSpec := { name := "fnExactWindowOf", fn := fun _ => fun
  | [d1, d2] => { results := [.lit (.bool true)], args := [d1, d2] }
  | _ => none }
def fnExactWindowOfRow : OpenClaim := { program := "ytnhhmgnceicpkaa", sum := "088c1cc8247c408e15e0c9be4bbf7a639aefab3d78b22085596df6a3a518f166", func := "loop.example/g01155/laws.FnExactWindowOf", spec := "fnExactWindowOf", inPlace := ["math.Float64bits", "math.Float64frombits", "math.sqrt"], unfollowed := true, recurses := true, plainKeys := false, apart := false }
def FnExactWindowOfSaid : Prop := fnExactWindowOfRow.holds Try.pinned (OpenSpec.ofChange fnExactWindowOfSpec)

/-- ITS FALSE NEIGHBOUR: 'it returns false'. Refute it at one input. -/
def fnExactWindowOfWrong : ChangeSpec := { name := "fnExactWindowOf", fn := fun _ => fun
  | [d1, d2] => { results := [.lit (.bool false)], args := [d1, d2] }
  | _ => none }
def FnExactWindowOfWrongFalsely : Prop := fnExactWindowOfRow.holds Try.pinned (OpenSpec.ofChange fnExactWindowOfWrong)

/- THE SECOND FORM. 'bulk': how many values and letters a reading holds, each counted each time it is reached (what is shared counts as often as it is met; a slice's spare places count too). A statement '..UptoSaid' is the law's where the arguments, and the package variables that the reading takes, are together of bulk at most 1048576: NARROWER than '..Said'. Prove '..Said' where nothing that the law and all that it calls make is longer than what came in: it says more and counts as full. Else prove '..UptoSaid'. A law counts once. -/
mutual
def uptoBulk {H : Type} : DataW H → Nat
  | .lit (.string bytes) => bytes.length + 1
  | .lit _ => 1
  | .nil => 1
  | .ptr d => uptoBulk d + 1
  | .slice elems spare => uptoBulkAll elems + uptoBulkAll spare + 1
  | .agg parts => uptoBulkAll parts + 1
  | .iface _ d => uptoBulk d + 1
  | .map entries => uptoBulkEntries entries + 1
  | .held _ => 1
def uptoBulkAll {H : Type} : List (DataW H) → Nat
  | [] => 0
  | d :: r => uptoBulk d + uptoBulkAll r
def uptoBulkEntries {H : Type} : List (Lit × DataW H) → Nat
  | [] => 0
  | x :: r => uptoBulkEntry x + uptoBulkEntries r
def uptoBulkEntry {H : Type} : Lit × DataW H → Nat
  | (.string bytes, d) => bytes.length + uptoBulk d + 1
  | (_, d) => uptoBulk d + 1
 end
def uptoSmall : (H : Type) → List (DataW H) → Bool := fun _ ds => decide (uptoBulkAll ds ≤ 1048576)
def OpenSpec.upto (s : _root_.Go.ChangeSpec) : _root_.Go.OpenSpec := { _root_.Go.OpenSpec.ofChange s with cond := some uptoSmall }

/-- 'laws.FnExactBlockCount', WHERE WHAT IT READS IS OF BULK AT MOST 1048576: true; the input reads as it did. -/
def fnExactBlockCountUptoRow : OpenClaim := { program := "ytnhhmgnceicpkaa", sum := "088c1cc8247c408e15e0c9be4bbf7a639aefab3d78b22085596df6a3a518f166", func := "loop.example/g01155/laws.FnExactBlockCount", spec := "fnExactBlockCount", plainKeys := false, apart := false, narrowed := true }
def FnExactBlockCountUptoSaid : Prop := fnExactBlockCountUptoRow.holds Try.pinned (OpenSpec.upto fnExactBlockCountSpec)

/-- 'laws.FnExactGainOf', WHERE WHAT IT READS IS OF BULK AT MOST 1048576: true; the input reads as it did. -/
def fnExactGainOfUptoRow : OpenClaim := { program := "ytnhhmgnceicpkaa", sum := "088c1cc8247c408e15e0c9be4bbf7a639aefab3d78b22085596df6a3a518f166", func := "loop.example/g01155/laws.FnExactGainOf", spec := "fnExactGainOf", plainKeys := false, apart := false, narrowed := true }
def FnExactGainOfUptoSaid : Prop := fnExactGainOfUptoRow.holds Try.pinned (OpenSpec.upto fnExactGainOfSpec)

/-- 'laws.FnExactPowerOf', WHERE WHAT IT READS IS OF BULK AT MOST 1048576: true; the input reads as it did. -/
def fnExactPowerOfUptoRow : OpenClaim := { program := "ytnhhmgnceicpkaa", sum := "088c1cc8247c408e15e0c9be4bbf7a639aefab3d78b22085596df6a3a518f166", func := "loop.example/g01155/laws.FnExactPowerOf", spec := "fnExactPowerOf", unfollowed := true, recurses := true, plainKeys := false, apart := false, narrowed := true }
def FnExactPowerOfUptoSaid : Prop := fnExactPowerOfUptoRow.holds Try.pinned (OpenSpec.upto fnExactPowerOfSpec)

/-- 'laws.FnExactNewAdder', WHERE WHAT IT READS IS OF BULK AT MOST 1048576: true; the input reads as it did. -/
def fnExactNewAdderUptoRow : OpenClaim := { program := "ytnhhmgnceicpkaa", sum := "088c1cc8247c408e15e0c9be4bbf7a639aefab3d78b22085596df6a3a518f166", func := "loop.example/g01155/laws.FnExactNewAdder", spec := "fnExactNewAdder", plainKeys := false, apart := false, narrowed := true }
def FnExactNewAdderUptoSaid : Prop := fnExactNewAdderUptoRow.holds Try.pinned (OpenSpec.upto fnExactNewAdderSpec)

/-- 'laws.FnExactNarrowWindow', WHERE WHAT IT READS IS OF BULK AT MOST 1048576: true; the input reads as it did. -/
def fnExactNarrowWindowUptoRow : OpenClaim := { program := "ytnhhmgnceicpkaa", sum := "088c1cc8247c408e15e0c9be4bbf7a639aefab3d78b22085596df6a3a518f166", func := "loop.example/g01155/laws.FnExactNarrowWindow", spec := "fnExactNarrowWindow", unfollowed := true, recurses := true, plainKeys := false, apart := false, narrowed := true }
def FnExactNarrowWindowUptoSaid : Prop := fnExactNarrowWindowUptoRow.holds Try.pinned (OpenSpec.upto fnExactNarrowWindowSpec)

/-- 'laws.FnExactOverlapSums', WHERE WHAT IT READS IS OF BULK AT MOST 1048576: true; the input reads as it did. -/
def fnExactOverlapSumsUptoRow : OpenClaim := { program := "ytnhhmgnceicpkaa", sum := "088c1cc8247c408e15e0c9be4bbf7a639aefab3d78b22085596df6a3a518f166", func := "loop.example/g01155/laws.FnExactOverlapSums", spec := "fnExactOverlapSums", unfollowed := true, recurses := true, plainKeys := false, apart := false, narrowed := true }
def FnExactOverlapSumsUptoSaid : Prop := fnExactOverlapSumsUptoRow.holds Try.pinned (OpenSpec.upto fnExactOverlapSumsSpec)

/-- 'laws.FnExactRippleOf', WHERE WHAT IT READS IS OF BULK AT MOST 1048576: true; the input reads as it did. -/
def fnExactRippleOfUptoRow : OpenClaim := { program := "ytnhhmgnceicpkaa", sum := "088c1cc8247c408e15e0c9be4bbf7a639aefab3d78b22085596df6a3a518f166", func := "loop.example/g01155/laws.FnExactRippleOf", spec := "fnExactRippleOf", unfollowed := true, recurses := true, plainKeys := false, apart := false, narrowed := true }
def FnExactRippleOfUptoSaid : Prop := fnExactRippleOfUptoRow.holds Try.pinned (OpenSpec.upto fnExactRippleOfSpec)

/-- 'laws.FnExactFlatWindow', WHERE WHAT IT READS IS OF BULK AT MOST 1048576: true; the input reads as it did. -/
def fnExactFlatWindowUptoRow : OpenClaim := { program := "ytnhhmgnceicpkaa", sum := "088c1cc8247c408e15e0c9be4bbf7a639aefab3d78b22085596df6a3a518f166", func := "loop.example/g01155/laws.FnExactFlatWindow", spec := "fnExactFlatWindow", unfollowed := true, recurses := true, plainKeys := false, apart := false, narrowed := true }
def FnExactFlatWindowUptoSaid : Prop := fnExactFlatWindowUptoRow.holds Try.pinned (OpenSpec.upto fnExactFlatWindowSpec)

/-- 'laws.FnExactWindowWeights', WHERE WHAT IT READS IS OF BULK AT MOST 1048576: true; the input reads as it did. -/
def fnExactWindowWeightsUptoRow : OpenClaim := { program := "ytnhhmgnceicpkaa", sum := "088c1cc8247c408e15e0c9be4bbf7a639aefab3d78b22085596df6a3a518f166", func := "loop.example/g01155/laws.FnExactWindowWeights", spec := "fnExactWindowWeights", unfollowed := true, recurses := true, plainKeys := false, apart := false, narrowed := true }
def FnExactWindowWeightsUptoSaid : Prop := fnExactWindowWeightsUptoRow.holds Try.pinned (OpenSpec.upto fnExactWindowWeightsSpec)

/-- 'laws.FnExactWindowOf', WHERE WHAT IT READS IS OF BULK AT MOST 1048576: true; the input reads as it did. -/
def fnExactWindowOfUptoRow : OpenClaim := { program := "ytnhhmgnceicpkaa", sum := "088c1cc8247c408e15e0c9be4bbf7a639aefab3d78b22085596df6a3a518f166", func := "loop.example/g01155/laws.FnExactWindowOf", spec := "fnExactWindowOf", inPlace := ["math.Float64bits", "math.Float64frombits", "math.sqrt"], unfollowed := true, recurses := true, plainKeys := false, apart := false, narrowed := true }
def FnExactWindowOfUptoSaid : Prop := fnExactWindowOfUptoRow.holds Try.pinned (OpenSpec.upto fnExactWindowOfSpec)

end Rows
end Go.Proofs.Ytnhhmgnceicpkaa
