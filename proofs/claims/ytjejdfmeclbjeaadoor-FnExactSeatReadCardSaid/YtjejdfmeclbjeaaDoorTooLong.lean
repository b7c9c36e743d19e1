/-
  impl.tooLong.
-/
import Derived.Test.YtjejdfmeclbjeaaDoorBase
namespace Go.Proofs.YtjejdfmeclbjeaaDoor
open Go.RowKit

set_option maxHeartbeats 400000 in
theorem tooLong_any (s : ByteArray) (w : World) : Calls Tryd.prog 16 #[.string s] w fun e w' => e = .returned (.bool (decide (8000 < (s.size : Int)))) ∧ w = w' := by
  go_enter Tryd.func16, Tryd.ntmps16
  go_wp2
  go_ret
  exact ⟨rfl, rfl⟩

end Go.Proofs.YtjejdfmeclbjeaaDoor
