/-
  impl.tooLong.
-/
import Derived.Test.YtjoogeiciciddaaDoorBase
namespace Go.Proofs.YtjoogeiciciddaaDoor
open Go.RowKit

set_option maxHeartbeats 400000 in
theorem tooLong_any (s : ByteArray) (w : World) : Calls Tryd.prog 14 #[.string s] w fun e w' => e = .returned (.bool (decide (8000 < (s.size : Int)))) ∧ w = w' := by
  go_enter Tryd.func14, Tryd.ntmps14
  go_wp2
  go_ret
  exact ⟨rfl, rfl⟩

end Go.Proofs.YtjoogeiciciddaaDoor
