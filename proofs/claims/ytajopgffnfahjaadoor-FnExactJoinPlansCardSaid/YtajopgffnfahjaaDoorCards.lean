/-
  DERIVED. GIVEN WITH THE SEED: THE CARDS: each row of YtajopgffnfahjaaDoorRows.lean that lists a variable, with what it lists TIED to the program's text (the seventh form; the later family's looks); each row that meets fmt, with fmt's text TOLD by the authors' own Lean function (tested against real Go, not proved from fmt's source: count such statements apart). THE CARD IS WHAT COUNTS. Prove the row's statement (the work); the ties are given (YtajopgffnfahjaaDoorTie.lean); close each card by the builder's one call (the guide's Derived/Test/ToyasCard.lean, 'card_holds'). Laid BY PROGRAM, IN A SANDBOX (cutbox-door.mjs). By AI agents, Wed Nov 11 2026. No macro, syntax, notation, axiom, sorry.
-/
import Derived.Test.YtajopgffnfahjaaDoorRows
import GoSem.ClaimSeven
namespace Go.Proofs.YtajopgffnfahjaaDoor
namespace Rows

/-- THE TIED CARD OF 'laws.FnExactJoinPlans'. -/
def fnExactJoinPlansCard : Claim7 := { stood := { row := fnExactJoinPlansRow, standIns := [], harness := (true, "04397fb2f670e16539ed0bb34a6eb65ad4d4b64723a9477783e747836a2ac671"), looks := true }, kinds := [], alts := [], laidByText := true, laidKinds := [.wider], laidTests := true, laidLooks := .later }
def FnExactJoinPlansCardSaid : Prop := Claim7.holds Tryd.pinned (.plain (OpenSpec.ofChange fnExactJoinPlansSpec)) fnExactJoinPlansCard

/-- THE TIED CARD OF 'laws.FnExactTidyPlan'. -/
def fnExactTidyPlanCard : Claim7 := { stood := { row := fnExactTidyPlanRow, standIns := [], harness := (true, "04397fb2f670e16539ed0bb34a6eb65ad4d4b64723a9477783e747836a2ac671"), looks := true }, kinds := [], alts := [], laidByText := true, laidKinds := [.wider], laidTests := true, laidLooks := .later }
def FnExactTidyPlanCardSaid : Prop := Claim7.holds Tryd.pinned (.plain (OpenSpec.ofChange fnExactTidyPlanSpec)) fnExactTidyPlanCard

/-- THE TIED CARD OF 'laws.FnExactReadStep'. -/
def fnExactReadStepCard : Claim7 := { stood := { row := fnExactReadStepRow, standIns := [], harness := (true, "04397fb2f670e16539ed0bb34a6eb65ad4d4b64723a9477783e747836a2ac671"), looks := true }, kinds := [], alts := [], laidByText := true, laidKinds := [.data, .data, .data, .data, .sentinel, .sentinel, .wider, .pinned], laidTests := true, laidLooks := .later }
def FnExactReadStepCardSaid : Prop := Claim7.holds Tryd.pinned (.plain (OpenSpec.ofChange fnExactReadStepSpec)) fnExactReadStepCard

/-- THE TIED CARD OF 'laws.FnExactReadPlan'. -/
def fnExactReadPlanCard : Claim7 := { stood := { row := fnExactReadPlanRow, standIns := [], harness := (true, "04397fb2f670e16539ed0bb34a6eb65ad4d4b64723a9477783e747836a2ac671"), looks := true }, kinds := [], alts := [], laidByText := true, laidKinds := [.data, .data, .data, .data, .sentinel, .sentinel, .wider, .pinned], laidTests := true, laidLooks := .later }
def FnExactReadPlanCardSaid : Prop := Claim7.holds Tryd.pinned (.plain (OpenSpec.ofChange fnExactReadPlanSpec)) fnExactReadPlanCard

/-- THE TIED CARD OF 'laws.FnPlanText'. -/
def fnPlanTextCard : Claim7 := { stood := { row := fnPlanTextRow, standIns := [], harness := (true, "04397fb2f670e16539ed0bb34a6eb65ad4d4b64723a9477783e747836a2ac671"), looks := true }, kinds := [], alts := [], laidByText := true, laidKinds := [.data, .data, .data, .data, .sentinel, .sentinel, .wider, .pinned], laidTests := true, laidLooks := .later }
def FnPlanTextCardSaid : Prop := Claim7.holds Tryd.pinned (.plain (OpenSpec.ofChange fnPlanTextSpec)) fnPlanTextCard

/-- THE SECOND FORM's CARD OF 'laws.FnExactJoinPlans'. -/
def fnExactJoinPlansUptoCard : Claim7 := { stood := { row := fnExactJoinPlansUptoRow, standIns := [], harness := (true, "04397fb2f670e16539ed0bb34a6eb65ad4d4b64723a9477783e747836a2ac671"), looks := true }, kinds := [], alts := [], laidByText := true, laidKinds := [.wider], laidTests := true, laidLooks := .later }
def FnExactJoinPlansUptoCardSaid : Prop := Claim7.holds Tryd.pinned (.plain (OpenSpec.upto fnExactJoinPlansSpec)) fnExactJoinPlansUptoCard

/-- THE SECOND FORM's CARD OF 'laws.FnExactTidyPlan'. -/
def fnExactTidyPlanUptoCard : Claim7 := { stood := { row := fnExactTidyPlanUptoRow, standIns := [], harness := (true, "04397fb2f670e16539ed0bb34a6eb65ad4d4b64723a9477783e747836a2ac671"), looks := true }, kinds := [], alts := [], laidByText := true, laidKinds := [.wider], laidTests := true, laidLooks := .later }
def FnExactTidyPlanUptoCardSaid : Prop := Claim7.holds Tryd.pinned (.plain (OpenSpec.upto fnExactTidyPlanSpec)) fnExactTidyPlanUptoCard

/-- THE SECOND FORM's CARD OF 'laws.FnExactReadStep'. -/
def fnExactReadStepUptoCard : Claim7 := { stood := { row := fnExactReadStepUptoRow, standIns := [], harness := (true, "04397fb2f670e16539ed0bb34a6eb65ad4d4b64723a9477783e747836a2ac671"), looks := true }, kinds := [], alts := [], laidByText := true, laidKinds := [.data, .data, .data, .data, .sentinel, .sentinel, .wider, .pinned], laidTests := true, laidLooks := .later }
def FnExactReadStepUptoCardSaid : Prop := Claim7.holds Tryd.pinned (.plain (OpenSpec.upto fnExactReadStepSpec)) fnExactReadStepUptoCard

/-- THE SECOND FORM's CARD OF 'laws.FnExactReadPlan'. -/
def fnExactReadPlanUptoCard : Claim7 := { stood := { row := fnExactReadPlanUptoRow, standIns := [], harness := (true, "04397fb2f670e16539ed0bb34a6eb65ad4d4b64723a9477783e747836a2ac671"), looks := true }, kinds := [], alts := [], laidByText := true, laidKinds := [.data, .data, .data, .data, .sentinel, .sentinel, .wider, .pinned], laidTests := true, laidLooks := .later }
def FnExactReadPlanUptoCardSaid : Prop := Claim7.holds Tryd.pinned (.plain (OpenSpec.upto fnExactReadPlanSpec)) fnExactReadPlanUptoCard

/-- THE SECOND FORM's CARD OF 'laws.FnPlanText'. -/
def fnPlanTextUptoCard : Claim7 := { stood := { row := fnPlanTextUptoRow, standIns := [], harness := (true, "04397fb2f670e16539ed0bb34a6eb65ad4d4b64723a9477783e747836a2ac671"), looks := true }, kinds := [], alts := [], laidByText := true, laidKinds := [.data, .data, .data, .data, .sentinel, .sentinel, .wider, .pinned], laidTests := true, laidLooks := .later }
def FnPlanTextUptoCardSaid : Prop := Claim7.holds Tryd.pinned (.plain (OpenSpec.upto fnPlanTextSpec)) fnPlanTextUptoCard
end Rows
end Go.Proofs.YtajopgffnfahjaaDoor
