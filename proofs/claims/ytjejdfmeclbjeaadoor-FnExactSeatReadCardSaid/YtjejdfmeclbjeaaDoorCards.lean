/-
  DERIVED. GIVEN WITH THE SEED: THE CARDS: each row of YtjejdfmeclbjeaaDoorRows.lean that lists a variable, with what it lists TIED to the program's text (the seventh form; the later family's looks); each row that meets fmt, with fmt's text TOLD by the authors' own Lean function (tested against real Go, not proved from fmt's source: count such statements apart). THE CARD IS WHAT COUNTS. Prove the row's statement (the work); the ties are given (YtjejdfmeclbjeaaDoorTie.lean); close each card by the builder's one call (the guide's Derived/Test/ToyasCard.lean, 'card_holds'). Laid BY PROGRAM, IN A SANDBOX (cutbox-door.mjs). By AI agents, Wed Nov 11 2026. No macro, syntax, notation, axiom, sorry.
-/
import Derived.Test.YtjejdfmeclbjeaaDoorRows
import GoSem.ClaimSeven
namespace Go.Proofs.YtjejdfmeclbjeaaDoor
namespace Rows

/-- THE TIED CARD OF 'laws.FnExactSeatText'. -/
def fnExactSeatTextCard : Claim7 := { stood := { row := fnExactSeatTextRow, standIns := [], harness := (true, "0d853753486ce914bfcafdbd86f157b86c1f830b17331e83ed5020b4c858040d"), looks := true }, kinds := [], alts := [], laidByText := true, laidKinds := [.data, .data, .data], laidTests := true, laidLooks := .later }
def FnExactSeatTextCardSaid : Prop := Claim7.holds Tryd.pinned (.plain (OpenSpec.ofChange fnExactSeatTextSpec)) fnExactSeatTextCard

/-- THE TIED CARD OF 'laws.FnExactSeatRead'. -/
def fnExactSeatReadCard : Claim7 := { stood := { row := fnExactSeatReadRow, standIns := [], harness := (true, "0d853753486ce914bfcafdbd86f157b86c1f830b17331e83ed5020b4c858040d"), looks := true }, kinds := [], alts := [], laidByText := true, laidKinds := [.data, .data, .data, .sentinel, .sentinel], laidTests := true, laidLooks := .later }
def FnExactSeatReadCardSaid : Prop := Claim7.holds Tryd.pinned (.plain (OpenSpec.ofChange fnExactSeatReadSpec)) fnExactSeatReadCard

/-- THE SECOND FORM's CARD OF 'laws.FnExactSeatText'. -/
def fnExactSeatTextUptoCard : Claim7 := { stood := { row := fnExactSeatTextUptoRow, standIns := [], harness := (true, "0d853753486ce914bfcafdbd86f157b86c1f830b17331e83ed5020b4c858040d"), looks := true }, kinds := [], alts := [], laidByText := true, laidKinds := [.data, .data, .data], laidTests := true, laidLooks := .later }
def FnExactSeatTextUptoCardSaid : Prop := Claim7.holds Tryd.pinned (.plain (OpenSpec.upto fnExactSeatTextSpec)) fnExactSeatTextUptoCard

/-- THE SECOND FORM's CARD OF 'laws.FnExactSeatRead'. -/
def fnExactSeatReadUptoCard : Claim7 := { stood := { row := fnExactSeatReadUptoRow, standIns := [], harness := (true, "0d853753486ce914bfcafdbd86f157b86c1f830b17331e83ed5020b4c858040d"), looks := true }, kinds := [], alts := [], laidByText := true, laidKinds := [.data, .data, .data, .sentinel, .sentinel], laidTests := true, laidLooks := .later }
def FnExactSeatReadUptoCardSaid : Prop := Claim7.holds Tryd.pinned (.plain (OpenSpec.upto fnExactSeatReadSpec)) fnExactSeatReadUptoCard
end Rows
end Go.Proofs.YtjejdfmeclbjeaaDoor
