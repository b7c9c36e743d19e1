/-
  A TextOut as a value; laws.eqTextOut of one and the same.
-/
import Derived.Test.YtjoogeiciciddaaDoorBase
import Derived.Handy
namespace Go.Proofs.YtjoogeiciciddaaDoor
open Go.RowKit

/-- A TextOut as a value. -/
def textOut (t : ByteArray) (at_ code : Int) : Value := .agg #[.string t, .int .i64 at_, .int .i64 code]
set_option maxHeartbeats 400000 in
theorem eqTextOut_same (t : ByteArray) (n c : Int) (w : World) : Calls Tryd.prog 10 #[textOut t n c, textOut t n c] w fun e w' => e = .returned (.bool true) ∧ Below w.heap.size w w' := by
  unfold textOut
  go_enter Tryd.func10, Tryd.ntmps10
  go_wp2
  go_ret
  exact ⟨rfl, by go_grown⟩

end Go.Proofs.YtjoogeiciciddaaDoor
