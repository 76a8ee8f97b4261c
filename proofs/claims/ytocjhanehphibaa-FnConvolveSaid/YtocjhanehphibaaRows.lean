/-
  No cell of these rows narrows 'for every input' (looked for: loops, veiled, ifaces, maps, wideKeys, modest, calm, conditions, laid).
  DERIVED. THE GIVEN ROWS OF THIS SEAT. 3 by the template 'for every input the law returns true; each argument reads behind the call as it read before'; 0 by the template 'total and deterministic' (their statements: YtocjhanehphibaaTotals.lean).
  GIVEN WITH THE SEED: the statements are not yours to turn. If you find one false, say at which input.
  Laid BY PROGRAM, IN A SANDBOX (cutbox-rows.mjs): the forced cells as the released guide's own fill.sh prints them over the translation ff727286890c6ae6… (all of the seat's roots in one cut). By AI agents, Wed Nov 11 2026. No macro, syntax, notation, axiom, sorry.
-/
import Derived.Test.YtocjhanehphibaaChecked
import GoSem.Claim
import GoSem.ClaimJoined
import GoSem.ClaimMapViews
import Derived.JoinedTies
import Derived.KernelRfl
namespace Go.Proofs.Ytocjhanehphibaa
/- THE CELL 'sum', in the pinned program and in every row, IS THE sha256 OF THE DUMP (.gsa) THAT YtocjhanehphibaaProg.lean LOADS. Nothing in Lean hashes anything: it is a label: what it is worth is what the hold of that sum in a sandbox is worth. -/
noncomputable def Try.pinned : Pinned := { name := "ytocjhanehphibaa", sum := "ff727286890c6ae6001a159dc02f4a32ca866f60a89998f84ecd99d8e7c9d2e6", checked := Try.checked }
namespace Rows
def none {H : Type} : Left H := { results := [], args := [] }

/-- 'laws.FnConvolve': WHATEVER THE INPUT: true; the input reads as it did. -/
def fnConvolveSpec : ChangeSpec := { name := "fnConvolve", fn := fun _ => fun
  | [d1, d2] => { results := [.lit (.bool true)], args := [d1, d2] }
  | _ => none }
def fnConvolveRow : OpenClaim := { program := "ytocjhanehphibaa", sum := "ff727286890c6ae6001a159dc02f4a32ca866f60a89998f84ecd99d8e7c9d2e6", func := "loop.example/g01155/laws.FnConvolve", spec := "fnConvolve", inPlace := ["math.Float64bits"], unfollowed := true, recurses := true, plainKeys := false, apart := false }
def FnConvolveSaid : Prop := fnConvolveRow.holds Try.pinned (OpenSpec.ofChange fnConvolveSpec)

/-- ITS FALSE NEIGHBOUR: 'it returns false'. Refute it at one input. -/
def fnConvolveWrong : ChangeSpec := { name := "fnConvolve", fn := fun _ => fun
  | [d1, d2] => { results := [.lit (.bool false)], args := [d1, d2] }
  | _ => none }
def FnConvolveWrongFalsely : Prop := fnConvolveRow.holds Try.pinned (OpenSpec.ofChange fnConvolveWrong)

/-- 'laws.FnPolyphase': WHATEVER THE INPUT: true; the input reads as it did. -/
def fnPolyphaseSpec : ChangeSpec := { name := "fnPolyphase", fn := fun _ => fun
  | [d1, d2] => { results := [.lit (.bool true)], args := [d1, d2] }
  | _ => none }
def fnPolyphaseRow : OpenClaim := { program := "ytocjhanehphibaa", sum := "ff727286890c6ae6001a159dc02f4a32ca866f60a89998f84ecd99d8e7c9d2e6", func := "loop.example/g01155/laws.FnPolyphase", spec := "fnPolyphase", inPlace := ["math.Float64frombits", "math.Float64bits"], unfollowed := true, recurses := true, plainKeys := false, apart := false }
def FnPolyphaseSaid : Prop := fnPolyphaseRow.holds Try.pinned (OpenSpec.ofChange fnPolyphaseSpec)

/-- ITS FALSE NEIGHBOUR: 'it returns false'. Refute it at one input. -/
def fnPolyphaseWrong : ChangeSpec := { name := "fnPolyphase", fn := fun _ => fun
  | [d1, d2] => { results := [.lit (.bool false)], args := [d1, d2] }
  | _ => none }
def FnPolyphaseWrongFalsely : Prop := fnPolyphaseRow.holds Try.pinned (OpenSpec.ofChange fnPolyphaseWrong)

/-- 'laws.FnExactFoldWindow': WHATEVER THE INPUT: true; the input reads as it did. -/
def fnExactFoldWindowSpec : ChangeSpec := { name := "fnExactFoldWindow", fn := fun _ => fun
  | [d] => { results := [.lit (.bool true)], args := [d] }
  | _ => none }
def fnExactFoldWindowRow : OpenClaim := { program := "ytocjhanehphibaa", sum := "ff727286890c6ae6001a159dc02f4a32ca866f60a89998f84ecd99d8e7c9d2e6", func := "loop.example/g01155/laws.FnExactFoldWindow", spec := "fnExactFoldWindow", inPlace := ["math.sqrt"], unfollowed := true, recurses := true, plainKeys := false, apart := false }
def FnExactFoldWindowSaid : Prop := fnExactFoldWindowRow.holds Try.pinned (OpenSpec.ofChange fnExactFoldWindowSpec)

/-- ITS FALSE NEIGHBOUR: 'it returns false'. Refute it at one input. -/
def fnExactFoldWindowWrong : ChangeSpec := { name := "fnExactFoldWindow", fn := fun _ => fun
  | [d] => { results := [.lit (.bool false)], args := [d] }
  | _ => none }
def FnExactFoldWindowWrongFalsely : Prop := fnExactFoldWindowRow.holds Try.pinned (OpenSpec.ofChange fnExactFoldWindowWrong)

/- THE SECOND FORM. 'bulk': how many values and letters a reading holds, each counted each time it is reached (what is shared counts as often as it is met; a slice's spare places count too). A statement '..UptoSaid' is the law's where the arguments, and the package variables that the reading takes, are together of bulk at most 1048576: NARROWER than '..Said'. Prove '..Said' where nothing that the law and all that it calls make is longer than what came in: it says more and counts as full. Else prove '..UptoSaid'. A law counts once. -/
mutual
def uptoBulk {H : Type} : DataW H → Nat
  | .lit (.string bytes) => bytes.length + 1
  | .lit _ => 1
  | .nil => 1
  | .ptr d => uptoBulk d + 1
  | .slice elems spare => uptoBulkAll elems + uptoBulkAll spare + 1
  | .agg parts => uptoBulkAll parts + 1
  | .iface _ d => uptoBulk d + 1
  | .map entries => uptoBulkEntries entries + 1
  | .held _ => 1
def uptoBulkAll {H : Type} : List (DataW H) → Nat
  | [] => 0
  | d :: r => uptoBulk d + uptoBulkAll r
def uptoBulkEntries {H : Type} : List (Lit × DataW H) → Nat
  | [] => 0
  | x :: r => uptoBulkEntry x + uptoBulkEntries r
def uptoBulkEntry {H : Type} : Lit × DataW H → Nat
  | (.string bytes, d) => bytes.length + uptoBulk d + 1
  | (_, d) => uptoBulk d + 1
 end
def uptoSmall : (H : Type) → List (DataW H) → Bool := fun _ ds => decide (uptoBulkAll ds ≤ 1048576)
def OpenSpec.upto (s : _root_.Go.ChangeSpec) : _root_.Go.OpenSpec := { _root_.Go.OpenSpec.ofChange s with cond := some uptoSmall }

/-- 'laws.FnConvolve', WHERE WHAT IT READS IS OF BULK AT MOST 1048576: true; the input reads as it did. -/
def fnConvolveUptoRow : OpenClaim := { program := "ytocjhanehphibaa", sum := "ff727286890c6ae6001a159dc02f4a32ca866f60a89998f84ecd99d8e7c9d2e6", func := "loop.example/g01155/laws.FnConvolve", spec := "fnConvolve", inPlace := ["math.Float64bits"], unfollowed := true, recurses := true, plainKeys := false, apart := false, narrowed := true }
def FnConvolveUptoSaid : Prop := fnConvolveUptoRow.holds Try.pinned (OpenSpec.upto fnConvolveSpec)

/-- 'laws.FnPolyphase', WHERE WHAT IT READS IS OF BULK AT MOST 1048576: true; the input reads as it did. -/
def fnPolyphaseUptoRow : OpenClaim := { program := "ytocjhanehphibaa", sum := "ff727286890c6ae6001a159dc02f4a32ca866f60a89998f84ecd99d8e7c9d2e6", func := "loop.example/g01155/laws.FnPolyphase", spec := "fnPolyphase", inPlace := ["math.Float64frombits", "math.Float64bits"], unfollowed := true, recurses := true, plainKeys := false, apart := false, narrowed := true }
def FnPolyphaseUptoSaid : Prop := fnPolyphaseUptoRow.holds Try.pinned (OpenSpec.upto fnPolyphaseSpec)

/-- 'laws.FnExactFoldWindow', WHERE WHAT IT READS IS OF BULK AT MOST 1048576: true; the input reads as it did. -/
def fnExactFoldWindowUptoRow : OpenClaim := { program := "ytocjhanehphibaa", sum := "ff727286890c6ae6001a159dc02f4a32ca866f60a89998f84ecd99d8e7c9d2e6", func := "loop.example/g01155/laws.FnExactFoldWindow", spec := "fnExactFoldWindow", inPlace := ["math.sqrt"], unfollowed := true, recurses := true, plainKeys := false, apart := false, narrowed := true }
def FnExactFoldWindowUptoSaid : Prop := fnExactFoldWindowUptoRow.holds Try.pinned (OpenSpec.upto fnExactFoldWindowSpec)

end Rows
end Go.Proofs.Ytocjhanehphibaa
