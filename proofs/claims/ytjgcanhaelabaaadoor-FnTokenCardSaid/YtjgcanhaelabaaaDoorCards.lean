/-
  DERIVED. GIVEN WITH THE SEED: THE CARDS: each row of YtjgcanhaelabaaaDoorRows.lean that lists a variable, with what it lists TIED to the program's text (the seventh form; the later family's looks); each row that meets fmt, with fmt's text TOLD by the authors' own Lean function (tested against real Go, not proved from fmt's source: count such statements apart). THE CARD IS WHAT COUNTS. Prove the row's statement (the work); the ties are given (YtjgcanhaelabaaaDoorTie.lean); close each card by the builder's one call (the guide's Derived/Test/ToyasCard.lean, 'card_holds'). Laid BY PROGRAM, IN A SANDBOX (cutbox-door.mjs). By AI agents, Wed Nov 11 2026. No macro, syntax, notation, axiom, sorry.
-/
import Derived.Test.YtjgcanhaelabaaaDoorRows
import GoSem.ClaimSeven
namespace Go.Proofs.YtjgcanhaelabaaaDoor
namespace Rows

/-- THE TIED CARD OF 'laws.FnExactRoleMay'. -/
def fnExactRoleMayCard : Claim7 := { stood := { row := fnExactRoleMayRow, standIns := [], harness := (true, "499ddfe24142e5be14343c7b2ec92a8187d649f466d4737b9e13c325c133715c"), looks := false }, kinds := [], alts := [], laidByText := true, laidKinds := [.data], laidTests := true, laidLooks := .later }
def FnExactRoleMayCardSaid : Prop := Claim7.holds Tryd.pinned (.plain (OpenSpec.ofChange fnExactRoleMaySpec)) fnExactRoleMayCard

/-- THE TIED CARD OF 'laws.FnToken'. -/
def fnTokenCard : Claim7 := { stood := { row := fnTokenRow, standIns := [], harness := (true, "499ddfe24142e5be14343c7b2ec92a8187d649f466d4737b9e13c325c133715c"), looks := false }, kinds := [], alts := [], laidByText := true, laidKinds := [.data], laidTests := true, laidLooks := .later }
def FnTokenCardSaid : Prop := Claim7.holds Tryd.pinned (.plain (OpenSpec.ofChange fnTokenSpec)) fnTokenCard

/-- THE TIED CARD OF 'laws.FnExactPnrText'. -/
def fnExactPnrTextCard : Claim7 := { stood := { row := fnExactPnrTextRow, standIns := [], harness := (true, "499ddfe24142e5be14343c7b2ec92a8187d649f466d4737b9e13c325c133715c"), looks := false }, kinds := [], alts := [], laidByText := true, laidKinds := [.data, .data, .data], laidTests := true, laidLooks := .later }
def FnExactPnrTextCardSaid : Prop := Claim7.holds Tryd.pinned (.plain (OpenSpec.ofChange fnExactPnrTextSpec)) fnExactPnrTextCard

/-- THE SECOND FORM's CARD OF 'laws.FnExactRoleMay'. -/
def fnExactRoleMayUptoCard : Claim7 := { stood := { row := fnExactRoleMayUptoRow, standIns := [], harness := (true, "499ddfe24142e5be14343c7b2ec92a8187d649f466d4737b9e13c325c133715c"), looks := false }, kinds := [], alts := [], laidByText := true, laidKinds := [.data], laidTests := true, laidLooks := .later }
def FnExactRoleMayUptoCardSaid : Prop := Claim7.holds Tryd.pinned (.plain (OpenSpec.upto fnExactRoleMaySpec)) fnExactRoleMayUptoCard

/-- THE SECOND FORM's CARD OF 'laws.FnToken'. -/
def fnTokenUptoCard : Claim7 := { stood := { row := fnTokenUptoRow, standIns := [], harness := (true, "499ddfe24142e5be14343c7b2ec92a8187d649f466d4737b9e13c325c133715c"), looks := false }, kinds := [], alts := [], laidByText := true, laidKinds := [.data], laidTests := true, laidLooks := .later }
def FnTokenUptoCardSaid : Prop := Claim7.holds Tryd.pinned (.plain (OpenSpec.upto fnTokenSpec)) fnTokenUptoCard

/-- THE SECOND FORM's CARD OF 'laws.FnExactPnrText'. -/
def fnExactPnrTextUptoCard : Claim7 := { stood := { row := fnExactPnrTextUptoRow, standIns := [], harness := (true, "499ddfe24142e5be14343c7b2ec92a8187d649f466d4737b9e13c325c133715c"), looks := false }, kinds := [], alts := [], laidByText := true, laidKinds := [.data, .data, .data], laidTests := true, laidLooks := .later }
def FnExactPnrTextUptoCardSaid : Prop := Claim7.holds Tryd.pinned (.plain (OpenSpec.upto fnExactPnrTextSpec)) fnExactPnrTextUptoCard
end Rows
end Go.Proofs.YtjgcanhaelabaaaDoor
