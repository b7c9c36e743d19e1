/-
  DERIVED. GIVEN WITH THE SEED: THE CARDS: each row of YtihlilihipcfaaaGreatDoorRows.lean that lists a variable, with what it lists TIED to the program's text (the seventh form; the later family's looks); each row that meets fmt, with fmt's text TOLD by the authors' own Lean function (tested against real Go, not proved from fmt's source: count such statements apart). THE CARD IS WHAT COUNTS. Prove the row's statement (the work); the ties are given (YtihlilihipcfaaaGreatDoorTie.lean); close each card by the builder's one call (the guide's Derived/Test/ToyasCard.lean, 'card_holds'). Laid BY PROGRAM, IN A SANDBOX (cutbox-door.mjs). By AI agents, Wed Nov 11 2026. No macro, syntax, notation, axiom, sorry.
-/
import Derived.Test.YtihlilihipcfaaaGreatDoorRows
import GoSem.ClaimSeven
namespace Go.Proofs.YtihlilihipcfaaaGreatDoor
namespace Rows

/-- THE TIED CARD OF 'laws.FnExactReqRead'. -/
def fnExactReqReadCard : Claim7 := { stood := { row := fnExactReqReadRow, standIns := [], harness := (true, "1c3a2b93dc2f269487e12b6d655104a3547f4d94950c24010d43fabd3ccb75e9"), looks := true }, kinds := [], alts := [], laidByText := true, laidKinds := [.data, .data, .data, .sentinel, .sentinel, .data], laidTests := true, laidLooks := .later }
def FnExactReqReadCardSaid : Prop := Claim7.holds Tryz.pinned (.plain (OpenSpec.ofChange fnExactReqReadSpec)) fnExactReqReadCard

/-- THE TIED CARD OF 'laws.FnReq'. -/
def fnReqCard : Claim7 := { stood := { row := fnReqRow, standIns := [], harness := (true, "1c3a2b93dc2f269487e12b6d655104a3547f4d94950c24010d43fabd3ccb75e9"), looks := true }, kinds := [], alts := [], laidByText := true, laidKinds := [.data, .data, .data, .sentinel, .sentinel, .data], laidTests := true, laidLooks := .later }
def FnReqCardSaid : Prop := Claim7.holds Tryz.pinned (.plain (OpenSpec.ofChange fnReqSpec)) fnReqCard

/-- THE TIED CARD OF 'laws.FnExactPnrRead'. -/
def fnExactPnrReadCard : Claim7 := { stood := { row := fnExactPnrReadRow, standIns := [], harness := (true, "1c3a2b93dc2f269487e12b6d655104a3547f4d94950c24010d43fabd3ccb75e9"), looks := true }, kinds := [], alts := [], laidByText := true, laidKinds := [.data, .data, .data, .data, .sentinel, .sentinel, .pinned], laidTests := true, laidLooks := .later }
def FnExactPnrReadCardSaid : Prop := Claim7.holds Tryz.pinned (.plain (OpenSpec.ofChange fnExactPnrReadSpec)) fnExactPnrReadCard

/-- THE TIED CARD OF 'laws.FnPnr'. -/
def fnPnrCard : Claim7 := { stood := { row := fnPnrRow, standIns := [], harness := (true, "1c3a2b93dc2f269487e12b6d655104a3547f4d94950c24010d43fabd3ccb75e9"), looks := true }, kinds := [], alts := [], laidByText := true, laidKinds := [.data, .data, .data, .data, .sentinel, .sentinel, .pinned], laidTests := true, laidLooks := .later }
def FnPnrCardSaid : Prop := Claim7.holds Tryz.pinned (.plain (OpenSpec.ofChange fnPnrSpec)) fnPnrCard

/-- THE SECOND FORM's CARD OF 'laws.FnExactReqRead'. -/
def fnExactReqReadUptoCard : Claim7 := { stood := { row := fnExactReqReadUptoRow, standIns := [], harness := (true, "1c3a2b93dc2f269487e12b6d655104a3547f4d94950c24010d43fabd3ccb75e9"), looks := true }, kinds := [], alts := [], laidByText := true, laidKinds := [.data, .data, .data, .sentinel, .sentinel, .data], laidTests := true, laidLooks := .later }
def FnExactReqReadUptoCardSaid : Prop := Claim7.holds Tryz.pinned (.plain (OpenSpec.upto fnExactReqReadSpec)) fnExactReqReadUptoCard

/-- THE SECOND FORM's CARD OF 'laws.FnReq'. -/
def fnReqUptoCard : Claim7 := { stood := { row := fnReqUptoRow, standIns := [], harness := (true, "1c3a2b93dc2f269487e12b6d655104a3547f4d94950c24010d43fabd3ccb75e9"), looks := true }, kinds := [], alts := [], laidByText := true, laidKinds := [.data, .data, .data, .sentinel, .sentinel, .data], laidTests := true, laidLooks := .later }
def FnReqUptoCardSaid : Prop := Claim7.holds Tryz.pinned (.plain (OpenSpec.upto fnReqSpec)) fnReqUptoCard

/-- THE SECOND FORM's CARD OF 'laws.FnExactPnrRead'. -/
def fnExactPnrReadUptoCard : Claim7 := { stood := { row := fnExactPnrReadUptoRow, standIns := [], harness := (true, "1c3a2b93dc2f269487e12b6d655104a3547f4d94950c24010d43fabd3ccb75e9"), looks := true }, kinds := [], alts := [], laidByText := true, laidKinds := [.data, .data, .data, .data, .sentinel, .sentinel, .pinned], laidTests := true, laidLooks := .later }
def FnExactPnrReadUptoCardSaid : Prop := Claim7.holds Tryz.pinned (.plain (OpenSpec.upto fnExactPnrReadSpec)) fnExactPnrReadUptoCard

/-- THE SECOND FORM's CARD OF 'laws.FnPnr'. -/
def fnPnrUptoCard : Claim7 := { stood := { row := fnPnrUptoRow, standIns := [], harness := (true, "1c3a2b93dc2f269487e12b6d655104a3547f4d94950c24010d43fabd3ccb75e9"), looks := true }, kinds := [], alts := [], laidByText := true, laidKinds := [.data, .data, .data, .data, .sentinel, .sentinel, .pinned], laidTests := true, laidLooks := .later }
def FnPnrUptoCardSaid : Prop := Claim7.holds Tryz.pinned (.plain (OpenSpec.upto fnPnrSpec)) fnPnrUptoCard
end Rows
end Go.Proofs.YtihlilihipcfaaaGreatDoor
