/-
  DERIVED. GIVEN WITH THE SEED: THE CARDS: each row of YtopggmdmjkbicaaGreatDoorRows.lean that lists a variable, with what it lists TIED to the program's text (the seventh form; the later family's looks); each row that meets fmt, with fmt's text TOLD by the authors' own Lean function (tested against real Go, not proved from fmt's source: count such statements apart). THE CARD IS WHAT COUNTS. Prove the row's statement (the work); the ties are given (YtopggmdmjkbicaaGreatDoorTie.lean); close each card by the builder's one call (the guide's Derived/Test/ToyasCard.lean, 'card_holds'). Laid BY PROGRAM, IN A SANDBOX (cutbox-door.mjs). By AI agents, Wed Nov 11 2026. No macro, syntax, notation, axiom, sorry.
-/
import Derived.Test.YtopggmdmjkbicaaGreatDoorRows
import GoSem.ClaimSeven
namespace Go.Proofs.YtopggmdmjkbicaaGreatDoor
namespace Rows

/-- THE TIED CARD OF 'laws.FnPnr'. -/
def fnPnrCard : Claim7 := { stood := { row := fnPnrRow, standIns := [], harness := (true, "59872bb240f554592312edf545e61fcbf0b06a6a046911576ca98870b390c9e9"), looks := true }, kinds := [], alts := [], laidByText := true, laidKinds := [.data, .data, .data, .data, .sentinel, .sentinel, .pinned], laidTests := true, laidLooks := .later }
def FnPnrCardSaid : Prop := Claim7.holds Tryz.pinned (.plain (OpenSpec.ofChange fnPnrSpec)) fnPnrCard

/-- THE TIED CARD OF 'laws.FnExactPnrRead'. -/
def fnExactPnrReadCard : Claim7 := { stood := { row := fnExactPnrReadRow, standIns := [], harness := (true, "59872bb240f554592312edf545e61fcbf0b06a6a046911576ca98870b390c9e9"), looks := true }, kinds := [], alts := [], laidByText := true, laidKinds := [.data, .data, .data, .data, .sentinel, .sentinel, .pinned], laidTests := true, laidLooks := .later }
def FnExactPnrReadCardSaid : Prop := Claim7.holds Tryz.pinned (.plain (OpenSpec.ofChange fnExactPnrReadSpec)) fnExactPnrReadCard

/-- THE SECOND FORM's CARD OF 'laws.FnPnr'. -/
def fnPnrUptoCard : Claim7 := { stood := { row := fnPnrUptoRow, standIns := [], harness := (true, "59872bb240f554592312edf545e61fcbf0b06a6a046911576ca98870b390c9e9"), looks := true }, kinds := [], alts := [], laidByText := true, laidKinds := [.data, .data, .data, .data, .sentinel, .sentinel, .pinned], laidTests := true, laidLooks := .later }
def FnPnrUptoCardSaid : Prop := Claim7.holds Tryz.pinned (.plain (OpenSpec.upto fnPnrSpec)) fnPnrUptoCard

/-- THE SECOND FORM's CARD OF 'laws.FnExactPnrRead'. -/
def fnExactPnrReadUptoCard : Claim7 := { stood := { row := fnExactPnrReadUptoRow, standIns := [], harness := (true, "59872bb240f554592312edf545e61fcbf0b06a6a046911576ca98870b390c9e9"), looks := true }, kinds := [], alts := [], laidByText := true, laidKinds := [.data, .data, .data, .data, .sentinel, .sentinel, .pinned], laidTests := true, laidLooks := .later }
def FnExactPnrReadUptoCardSaid : Prop := Claim7.holds Tryz.pinned (.plain (OpenSpec.upto fnExactPnrReadSpec)) fnExactPnrReadUptoCard
end Rows
end Go.Proofs.YtopggmdmjkbicaaGreatDoor
