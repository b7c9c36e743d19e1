/-
  The laws' own equality of seats.
-/
import Derived.Test.YtpncnkihfijmaaaDoorSeatR
namespace Go.Proofs.YtpncnkihfijmaaaDoor
open Go.ChangeShapes Go.WideShapes Go.ChangeAt Go.RowKit Go.ChangeMaps
set_option maxRecDepth 10000
set_option linter.unusedSimpArgs false
set_option linter.unusedVariables false

end Go.Proofs.YtpncnkihfijmaaaDoor
