/-
  DERIVED. GIVEN WITH THE SEED: THE CARDS: each row of YtfdmohnmilecnaaDoorRows.lean that lists a variable, with what it lists TIED to the program's text (the seventh form; the later family's looks); each row that meets fmt, with fmt's text TOLD by the authors' own Lean function (tested against real Go, not proved from fmt's source: count such statements apart). THE CARD IS WHAT COUNTS. Prove the row's statement (the work); the ties are given (YtfdmohnmilecnaaDoorTie.lean); close each card by the builder's one call (the guide's Derived/Test/ToyasCard.lean, 'card_holds'). Laid BY PROGRAM, IN A SANDBOX (cutbox-door.mjs). By AI agents, Wed Nov 11 2026. No macro, syntax, notation, axiom, sorry.
-/
import Derived.Test.YtfdmohnmilecnaaDoorRows
import GoSem.ClaimSeven
namespace Go.Proofs.YtfdmohnmilecnaaDoor
namespace Rows

/-- THE TIED CARD OF 'laws.FnExactValidStep'. -/
def fnExactValidStepCard : Claim7 := { stood := { row := fnExactValidStepRow, standIns := [], harness := (true, "8a8e9a9af69adaf0aaec3f3ce99e5759b412cb9840b01b4cb5377493fb4c4293"), looks := true }, kinds := [], alts := [], laidByText := true, laidKinds := [.wider], laidTests := true, laidLooks := .later }
def FnExactValidStepCardSaid : Prop := Claim7.holds Tryd.pinned (.plain (OpenSpec.ofChange fnExactValidStepSpec)) fnExactValidStepCard

/-- THE TIED CARD OF 'laws.FnExactStepText'. -/
def fnExactStepTextCard : Claim7 := { stood := { row := fnExactStepTextRow, standIns := [], harness := (true, "8a8e9a9af69adaf0aaec3f3ce99e5759b412cb9840b01b4cb5377493fb4c4293"), looks := true }, kinds := [], alts := [], laidByText := true, laidKinds := [.data, .data, .data, .wider], laidTests := true, laidLooks := .later }
def FnExactStepTextCardSaid : Prop := Claim7.holds Tryd.pinned (.plain (OpenSpec.ofChange fnExactStepTextSpec)) fnExactStepTextCard

/-- THE TIED CARD OF 'laws.FnExactReadStep'. -/
def fnExactReadStepCard : Claim7 := { stood := { row := fnExactReadStepRow, standIns := [], harness := (true, "8a8e9a9af69adaf0aaec3f3ce99e5759b412cb9840b01b4cb5377493fb4c4293"), looks := true }, kinds := [], alts := [], laidByText := true, laidKinds := [.data, .data, .data, .data, .sentinel, .sentinel, .wider, .pinned], laidTests := true, laidLooks := .later }
def FnExactReadStepCardSaid : Prop := Claim7.holds Tryd.pinned (.plain (OpenSpec.ofChange fnExactReadStepSpec)) fnExactReadStepCard

/-- THE TIED CARD OF 'laws.FnExactValidPlan'. -/
def fnExactValidPlanCard : Claim7 := { stood := { row := fnExactValidPlanRow, standIns := [], harness := (true, "8a8e9a9af69adaf0aaec3f3ce99e5759b412cb9840b01b4cb5377493fb4c4293"), looks := true }, kinds := [], alts := [], laidByText := true, laidKinds := [.wider], laidTests := true, laidLooks := .later }
def FnExactValidPlanCardSaid : Prop := Claim7.holds Tryd.pinned (.plain (OpenSpec.ofChange fnExactValidPlanSpec)) fnExactValidPlanCard

/-- THE TIED CARD OF 'laws.FnExactPlanText'. -/
def fnExactPlanTextCard : Claim7 := { stood := { row := fnExactPlanTextRow, standIns := [], harness := (true, "8a8e9a9af69adaf0aaec3f3ce99e5759b412cb9840b01b4cb5377493fb4c4293"), looks := true }, kinds := [], alts := [], laidByText := true, laidKinds := [.data, .data, .data, .wider], laidTests := true, laidLooks := .later }
def FnExactPlanTextCardSaid : Prop := Claim7.holds Tryd.pinned (.plain (OpenSpec.ofChange fnExactPlanTextSpec)) fnExactPlanTextCard

/-- THE TIED CARD OF 'laws.FnExactReadPlan'. -/
def fnExactReadPlanCard : Claim7 := { stood := { row := fnExactReadPlanRow, standIns := [], harness := (true, "8a8e9a9af69adaf0aaec3f3ce99e5759b412cb9840b01b4cb5377493fb4c4293"), looks := true }, kinds := [], alts := [], laidByText := true, laidKinds := [.data, .data, .data, .data, .sentinel, .sentinel, .wider, .pinned], laidTests := true, laidLooks := .later }
def FnExactReadPlanCardSaid : Prop := Claim7.holds Tryd.pinned (.plain (OpenSpec.ofChange fnExactReadPlanSpec)) fnExactReadPlanCard

/-- THE TIED CARD OF 'laws.FnExactTidyPlan'. -/
def fnExactTidyPlanCard : Claim7 := { stood := { row := fnExactTidyPlanRow, standIns := [], harness := (true, "8a8e9a9af69adaf0aaec3f3ce99e5759b412cb9840b01b4cb5377493fb4c4293"), looks := true }, kinds := [], alts := [], laidByText := true, laidKinds := [.wider], laidTests := true, laidLooks := .later }
def FnExactTidyPlanCardSaid : Prop := Claim7.holds Tryd.pinned (.plain (OpenSpec.ofChange fnExactTidyPlanSpec)) fnExactTidyPlanCard

/-- THE TIED CARD OF 'laws.FnExactJoinPlans'. -/
def fnExactJoinPlansCard : Claim7 := { stood := { row := fnExactJoinPlansRow, standIns := [], harness := (true, "8a8e9a9af69adaf0aaec3f3ce99e5759b412cb9840b01b4cb5377493fb4c4293"), looks := true }, kinds := [], alts := [], laidByText := true, laidKinds := [.wider], laidTests := true, laidLooks := .later }
def FnExactJoinPlansCardSaid : Prop := Claim7.holds Tryd.pinned (.plain (OpenSpec.ofChange fnExactJoinPlansSpec)) fnExactJoinPlansCard

/-- THE TIED CARD OF 'laws.FnExactLengthAfter'. -/
def fnExactLengthAfterCard : Claim7 := { stood := { row := fnExactLengthAfterRow, standIns := [], harness := (true, "8a8e9a9af69adaf0aaec3f3ce99e5759b412cb9840b01b4cb5377493fb4c4293"), looks := true }, kinds := [], alts := [], laidByText := true, laidKinds := [.wider], laidTests := true, laidLooks := .later }
def FnExactLengthAfterCardSaid : Prop := Claim7.holds Tryd.pinned (.plain (OpenSpec.ofChange fnExactLengthAfterSpec)) fnExactLengthAfterCard

/-- THE TIED CARD OF 'laws.FnExactNeededFor'. -/
def fnExactNeededForCard : Claim7 := { stood := { row := fnExactNeededForRow, standIns := [], harness := (true, "8a8e9a9af69adaf0aaec3f3ce99e5759b412cb9840b01b4cb5377493fb4c4293"), looks := true }, kinds := [], alts := [], laidByText := true, laidKinds := [.wider], laidTests := true, laidLooks := .later }
def FnExactNeededForCardSaid : Prop := Claim7.holds Tryd.pinned (.plain (OpenSpec.ofChange fnExactNeededForSpec)) fnExactNeededForCard

/-- THE TIED CARD OF 'laws.FnExactIsTimeless'. -/
def fnExactIsTimelessCard : Claim7 := { stood := { row := fnExactIsTimelessRow, standIns := [], harness := (true, "8a8e9a9af69adaf0aaec3f3ce99e5759b412cb9840b01b4cb5377493fb4c4293"), looks := true }, kinds := [], alts := [], laidByText := true, laidKinds := [.wider], laidTests := true, laidLooks := .later }
def FnExactIsTimelessCardSaid : Prop := Claim7.holds Tryd.pinned (.plain (OpenSpec.ofChange fnExactIsTimelessSpec)) fnExactIsTimelessCard

/-- THE SECOND FORM's CARD OF 'laws.FnExactValidStep'. -/
def fnExactValidStepUptoCard : Claim7 := { stood := { row := fnExactValidStepUptoRow, standIns := [], harness := (true, "8a8e9a9af69adaf0aaec3f3ce99e5759b412cb9840b01b4cb5377493fb4c4293"), looks := true }, kinds := [], alts := [], laidByText := true, laidKinds := [.wider], laidTests := true, laidLooks := .later }
def FnExactValidStepUptoCardSaid : Prop := Claim7.holds Tryd.pinned (.plain (OpenSpec.upto fnExactValidStepSpec)) fnExactValidStepUptoCard

/-- THE SECOND FORM's CARD OF 'laws.FnExactStepText'. -/
def fnExactStepTextUptoCard : Claim7 := { stood := { row := fnExactStepTextUptoRow, standIns := [], harness := (true, "8a8e9a9af69adaf0aaec3f3ce99e5759b412cb9840b01b4cb5377493fb4c4293"), looks := true }, kinds := [], alts := [], laidByText := true, laidKinds := [.data, .data, .data, .wider], laidTests := true, laidLooks := .later }
def FnExactStepTextUptoCardSaid : Prop := Claim7.holds Tryd.pinned (.plain (OpenSpec.upto fnExactStepTextSpec)) fnExactStepTextUptoCard

/-- THE SECOND FORM's CARD OF 'laws.FnExactReadStep'. -/
def fnExactReadStepUptoCard : Claim7 := { stood := { row := fnExactReadStepUptoRow, standIns := [], harness := (true, "8a8e9a9af69adaf0aaec3f3ce99e5759b412cb9840b01b4cb5377493fb4c4293"), looks := true }, kinds := [], alts := [], laidByText := true, laidKinds := [.data, .data, .data, .data, .sentinel, .sentinel, .wider, .pinned], laidTests := true, laidLooks := .later }
def FnExactReadStepUptoCardSaid : Prop := Claim7.holds Tryd.pinned (.plain (OpenSpec.upto fnExactReadStepSpec)) fnExactReadStepUptoCard

/-- THE SECOND FORM's CARD OF 'laws.FnExactValidPlan'. -/
def fnExactValidPlanUptoCard : Claim7 := { stood := { row := fnExactValidPlanUptoRow, standIns := [], harness := (true, "8a8e9a9af69adaf0aaec3f3ce99e5759b412cb9840b01b4cb5377493fb4c4293"), looks := true }, kinds := [], alts := [], laidByText := true, laidKinds := [.wider], laidTests := true, laidLooks := .later }
def FnExactValidPlanUptoCardSaid : Prop := Claim7.holds Tryd.pinned (.plain (OpenSpec.upto fnExactValidPlanSpec)) fnExactValidPlanUptoCard

/-- THE SECOND FORM's CARD OF 'laws.FnExactPlanText'. -/
def fnExactPlanTextUptoCard : Claim7 := { stood := { row := fnExactPlanTextUptoRow, standIns := [], harness := (true, "8a8e9a9af69adaf0aaec3f3ce99e5759b412cb9840b01b4cb5377493fb4c4293"), looks := true }, kinds := [], alts := [], laidByText := true, laidKinds := [.data, .data, .data, .wider], laidTests := true, laidLooks := .later }
def FnExactPlanTextUptoCardSaid : Prop := Claim7.holds Tryd.pinned (.plain (OpenSpec.upto fnExactPlanTextSpec)) fnExactPlanTextUptoCard

/-- THE SECOND FORM's CARD OF 'laws.FnExactReadPlan'. -/
def fnExactReadPlanUptoCard : Claim7 := { stood := { row := fnExactReadPlanUptoRow, standIns := [], harness := (true, "8a8e9a9af69adaf0aaec3f3ce99e5759b412cb9840b01b4cb5377493fb4c4293"), looks := true }, kinds := [], alts := [], laidByText := true, laidKinds := [.data, .data, .data, .data, .sentinel, .sentinel, .wider, .pinned], laidTests := true, laidLooks := .later }
def FnExactReadPlanUptoCardSaid : Prop := Claim7.holds Tryd.pinned (.plain (OpenSpec.upto fnExactReadPlanSpec)) fnExactReadPlanUptoCard

/-- THE SECOND FORM's CARD OF 'laws.FnExactTidyPlan'. -/
def fnExactTidyPlanUptoCard : Claim7 := { stood := { row := fnExactTidyPlanUptoRow, standIns := [], harness := (true, "8a8e9a9af69adaf0aaec3f3ce99e5759b412cb9840b01b4cb5377493fb4c4293"), looks := true }, kinds := [], alts := [], laidByText := true, laidKinds := [.wider], laidTests := true, laidLooks := .later }
def FnExactTidyPlanUptoCardSaid : Prop := Claim7.holds Tryd.pinned (.plain (OpenSpec.upto fnExactTidyPlanSpec)) fnExactTidyPlanUptoCard

/-- THE SECOND FORM's CARD OF 'laws.FnExactJoinPlans'. -/
def fnExactJoinPlansUptoCard : Claim7 := { stood := { row := fnExactJoinPlansUptoRow, standIns := [], harness := (true, "8a8e9a9af69adaf0aaec3f3ce99e5759b412cb9840b01b4cb5377493fb4c4293"), looks := true }, kinds := [], alts := [], laidByText := true, laidKinds := [.wider], laidTests := true, laidLooks := .later }
def FnExactJoinPlansUptoCardSaid : Prop := Claim7.holds Tryd.pinned (.plain (OpenSpec.upto fnExactJoinPlansSpec)) fnExactJoinPlansUptoCard

/-- THE SECOND FORM's CARD OF 'laws.FnExactLengthAfter'. -/
def fnExactLengthAfterUptoCard : Claim7 := { stood := { row := fnExactLengthAfterUptoRow, standIns := [], harness := (true, "8a8e9a9af69adaf0aaec3f3ce99e5759b412cb9840b01b4cb5377493fb4c4293"), looks := true }, kinds := [], alts := [], laidByText := true, laidKinds := [.wider], laidTests := true, laidLooks := .later }
def FnExactLengthAfterUptoCardSaid : Prop := Claim7.holds Tryd.pinned (.plain (OpenSpec.upto fnExactLengthAfterSpec)) fnExactLengthAfterUptoCard

/-- THE SECOND FORM's CARD OF 'laws.FnExactNeededFor'. -/
def fnExactNeededForUptoCard : Claim7 := { stood := { row := fnExactNeededForUptoRow, standIns := [], harness := (true, "8a8e9a9af69adaf0aaec3f3ce99e5759b412cb9840b01b4cb5377493fb4c4293"), looks := true }, kinds := [], alts := [], laidByText := true, laidKinds := [.wider], laidTests := true, laidLooks := .later }
def FnExactNeededForUptoCardSaid : Prop := Claim7.holds Tryd.pinned (.plain (OpenSpec.upto fnExactNeededForSpec)) fnExactNeededForUptoCard

/-- THE SECOND FORM's CARD OF 'laws.FnExactIsTimeless'. -/
def fnExactIsTimelessUptoCard : Claim7 := { stood := { row := fnExactIsTimelessUptoRow, standIns := [], harness := (true, "8a8e9a9af69adaf0aaec3f3ce99e5759b412cb9840b01b4cb5377493fb4c4293"), looks := true }, kinds := [], alts := [], laidByText := true, laidKinds := [.wider], laidTests := true, laidLooks := .later }
def FnExactIsTimelessUptoCardSaid : Prop := Claim7.holds Tryd.pinned (.plain (OpenSpec.upto fnExactIsTimelessSpec)) fnExactIsTimelessUptoCard
end Rows
end Go.Proofs.YtfdmohnmilecnaaDoor
