/-
  The laws' own equality of seats.
-/
import Derived.Test.YtihlilihipcfaaaDoorSeatR
namespace Go.Proofs.YtihlilihipcfaaaDoor
open Go.ChangeShapes Go.WideShapes Go.ChangeAt Go.RowKit Go.ChangeMaps
set_option maxRecDepth 10000
set_option linter.unusedSimpArgs false
set_option linter.unusedVariables false

set_option maxHeartbeats 400000 in
theorem eqSeat_same (r c : Int) (w : World) : Calls Tryd.prog 64 #[seatV r c, seatV r c] w fun e w' => e = .returned (.bool true) ∧ Below w.heap.size w w' := by
  go_enter Tryd.func64, Tryd.ntmps64
  go_wp2
  go_ret
  exact ⟨rfl, by go_grown⟩
end Go.Proofs.YtihlilihipcfaaaDoor
