/-
  DERIVED. GIVEN WITH THE SEED: THE CARDS: each row of YtihlilihipcfaaaDoorRows.lean that lists a variable, with what it lists TIED to the program's text (the seventh form; the later family's looks); each row that meets fmt, with fmt's text TOLD by the authors' own Lean function (tested against real Go, not proved from fmt's source: count such statements apart). THE CARD IS WHAT COUNTS. Prove the row's statement (the work); the ties are given (YtihlilihipcfaaaDoorTie.lean); close each card by the builder's one call (the guide's Derived/Test/ToyasCard.lean, 'card_holds'). Laid BY PROGRAM, IN A SANDBOX (cutbox-door.mjs). By AI agents, Wed Nov 11 2026. No macro, syntax, notation, axiom, sorry.
-/
import Derived.Test.YtihlilihipcfaaaDoorRows
import GoSem.ClaimSeven
namespace Go.Proofs.YtihlilihipcfaaaDoor
namespace Rows

/-- THE TIED CARD OF 'laws.FnExactReqText'. -/
def fnExactReqTextCard : Claim7 := { stood := { row := fnExactReqTextRow, standIns := [], harness := (true, "0c8403de63ea8af4d6a99846bc06bd7f4e3824624bcb1eb066f46f7e99f06478"), looks := true }, kinds := [], alts := [], laidByText := true, laidKinds := [.data, .data, .data, .data], laidTests := true, laidLooks := .later }
def FnExactReqTextCardSaid : Prop := Claim7.holds Tryd.pinned (.plain (OpenSpec.ofChange fnExactReqTextSpec)) fnExactReqTextCard

/-- THE TIED CARD OF 'laws.FnExactPnrText'. -/
def fnExactPnrTextCard : Claim7 := { stood := { row := fnExactPnrTextRow, standIns := [], harness := (true, "0c8403de63ea8af4d6a99846bc06bd7f4e3824624bcb1eb066f46f7e99f06478"), looks := true }, kinds := [], alts := [], laidByText := true, laidKinds := [.data, .data, .data], laidTests := true, laidLooks := .later }
def FnExactPnrTextCardSaid : Prop := Claim7.holds Tryd.pinned (.plain (OpenSpec.ofChange fnExactPnrTextSpec)) fnExactPnrTextCard

/-- THE SECOND FORM's CARD OF 'laws.FnExactReqText'. -/
def fnExactReqTextUptoCard : Claim7 := { stood := { row := fnExactReqTextUptoRow, standIns := [], harness := (true, "0c8403de63ea8af4d6a99846bc06bd7f4e3824624bcb1eb066f46f7e99f06478"), looks := true }, kinds := [], alts := [], laidByText := true, laidKinds := [.data, .data, .data, .data], laidTests := true, laidLooks := .later }
def FnExactReqTextUptoCardSaid : Prop := Claim7.holds Tryd.pinned (.plain (OpenSpec.upto fnExactReqTextSpec)) fnExactReqTextUptoCard

/-- THE SECOND FORM's CARD OF 'laws.FnExactPnrText'. -/
def fnExactPnrTextUptoCard : Claim7 := { stood := { row := fnExactPnrTextUptoRow, standIns := [], harness := (true, "0c8403de63ea8af4d6a99846bc06bd7f4e3824624bcb1eb066f46f7e99f06478"), looks := true }, kinds := [], alts := [], laidByText := true, laidKinds := [.data, .data, .data], laidTests := true, laidLooks := .later }
def FnExactPnrTextUptoCardSaid : Prop := Claim7.holds Tryd.pinned (.plain (OpenSpec.upto fnExactPnrTextSpec)) fnExactPnrTextUptoCard
end Rows
end Go.Proofs.YtihlilihipcfaaaDoor
