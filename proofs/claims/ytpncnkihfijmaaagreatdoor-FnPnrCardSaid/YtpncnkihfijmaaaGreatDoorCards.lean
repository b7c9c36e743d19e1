/-
  DERIVED. GIVEN WITH THE SEED: THE CARDS: each row of YtpncnkihfijmaaaGreatDoorRows.lean that lists a variable, with what it lists TIED to the program's text (the seventh form; the later family's looks); each row that meets fmt, with fmt's text TOLD by the authors' own Lean function (tested against real Go, not proved from fmt's source: count such statements apart). THE CARD IS WHAT COUNTS. Prove the row's statement (the work); the ties are given (YtpncnkihfijmaaaGreatDoorTie.lean); close each card by the builder's one call (the guide's Derived/Test/ToyasCard.lean, 'card_holds'). Laid BY PROGRAM, IN A SANDBOX (cutbox-door.mjs). By AI agents, Wed Nov 11 2026. No macro, syntax, notation, axiom, sorry.
-/
import Derived.Test.YtpncnkihfijmaaaGreatDoorRows
import GoSem.ClaimSeven
namespace Go.Proofs.YtpncnkihfijmaaaGreatDoor
namespace Rows

/-- THE TIED CARD OF 'laws.FnExactReqRead'. -/
def fnExactReqReadCard : Claim7 := { stood := { row := fnExactReqReadRow, standIns := [], harness := (true, "ec8a257c8e64dd7a4fdcc1eba2c353289528402bf95713112ebddb5697909c26"), looks := true }, kinds := [], alts := [], laidByText := true, laidKinds := [.data, .data, .data, .sentinel, .sentinel, .data], laidTests := true, laidLooks := .later }
def FnExactReqReadCardSaid : Prop := Claim7.holds Tryz.pinned (.plain (OpenSpec.ofChange fnExactReqReadSpec)) fnExactReqReadCard

/-- THE TIED CARD OF 'laws.FnReq'. -/
def fnReqCard : Claim7 := { stood := { row := fnReqRow, standIns := [], harness := (true, "ec8a257c8e64dd7a4fdcc1eba2c353289528402bf95713112ebddb5697909c26"), looks := true }, kinds := [], alts := [], laidByText := true, laidKinds := [.data, .data, .data, .sentinel, .sentinel, .data], laidTests := true, laidLooks := .later }
def FnReqCardSaid : Prop := Claim7.holds Tryz.pinned (.plain (OpenSpec.ofChange fnReqSpec)) fnReqCard

/-- THE TIED CARD OF 'laws.FnPnr'. -/
def fnPnrCard : Claim7 := { stood := { row := fnPnrRow, standIns := [], harness := (true, "ec8a257c8e64dd7a4fdcc1eba2c353289528402bf95713112ebddb5697909c26"), looks := true }, kinds := [], alts := [], laidByText := true, laidKinds := [.data, .data, .data, .data, .sentinel, .sentinel, .pinned], laidTests := true, laidLooks := .later }
def FnPnrCardSaid : Prop := Claim7.holds Tryz.pinned (.plain (OpenSpec.ofChange fnPnrSpec)) fnPnrCard

/-- THE TIED CARD OF 'laws.FnExactLogRead'. -/
def fnExactLogReadCard : Claim7 := { stood := { row := fnExactLogReadRow, standIns := [], harness := (true, "ec8a257c8e64dd7a4fdcc1eba2c353289528402bf95713112ebddb5697909c26"), looks := true }, kinds := [], alts := [], laidByText := true, laidKinds := [.data, .data, .data, .handle, .sentinel, .sentinel, .data], laidTests := true, laidLooks := .later }
def FnExactLogReadCardSaid : Prop := Claim7.holds Tryz.pinned (.plain (OpenSpec.ofChange fnExactLogReadSpec)) fnExactLogReadCard

/-- THE SECOND FORM's CARD OF 'laws.FnExactReqRead'. -/
def fnExactReqReadUptoCard : Claim7 := { stood := { row := fnExactReqReadUptoRow, standIns := [], harness := (true, "ec8a257c8e64dd7a4fdcc1eba2c353289528402bf95713112ebddb5697909c26"), looks := true }, kinds := [], alts := [], laidByText := true, laidKinds := [.data, .data, .data, .sentinel, .sentinel, .data], laidTests := true, laidLooks := .later }
def FnExactReqReadUptoCardSaid : Prop := Claim7.holds Tryz.pinned (.plain (OpenSpec.upto fnExactReqReadSpec)) fnExactReqReadUptoCard

/-- THE SECOND FORM's CARD OF 'laws.FnReq'. -/
def fnReqUptoCard : Claim7 := { stood := { row := fnReqUptoRow, standIns := [], harness := (true, "ec8a257c8e64dd7a4fdcc1eba2c353289528402bf95713112ebddb5697909c26"), looks := true }, kinds := [], alts := [], laidByText := true, laidKinds := [.data, .data, .data, .sentinel, .sentinel, .data], laidTests := true, laidLooks := .later }
def FnReqUptoCardSaid : Prop := Claim7.holds Tryz.pinned (.plain (OpenSpec.upto fnReqSpec)) fnReqUptoCard

/-- THE SECOND FORM's CARD OF 'laws.FnPnr'. -/
def fnPnrUptoCard : Claim7 := { stood := { row := fnPnrUptoRow, standIns := [], harness := (true, "ec8a257c8e64dd7a4fdcc1eba2c353289528402bf95713112ebddb5697909c26"), looks := true }, kinds := [], alts := [], laidByText := true, laidKinds := [.data, .data, .data, .data, .sentinel, .sentinel, .pinned], laidTests := true, laidLooks := .later }
def FnPnrUptoCardSaid : Prop := Claim7.holds Tryz.pinned (.plain (OpenSpec.upto fnPnrSpec)) fnPnrUptoCard

/-- THE SECOND FORM's CARD OF 'laws.FnExactLogRead'. -/
def fnExactLogReadUptoCard : Claim7 := { stood := { row := fnExactLogReadUptoRow, standIns := [], harness := (true, "ec8a257c8e64dd7a4fdcc1eba2c353289528402bf95713112ebddb5697909c26"), looks := true }, kinds := [], alts := [], laidByText := true, laidKinds := [.data, .data, .data, .handle, .sentinel, .sentinel, .data], laidTests := true, laidLooks := .later }
def FnExactLogReadUptoCardSaid : Prop := Claim7.holds Tryz.pinned (.plain (OpenSpec.upto fnExactLogReadSpec)) fnExactLogReadUptoCard
end Rows
end Go.Proofs.YtpncnkihfijmaaaGreatDoor
