/-
  impl.tooLong.
-/
import Derived.Test.YtpncnkihfijmaaaDoorBase
namespace Go.Proofs.YtpncnkihfijmaaaDoor
open Go.RowKit

set_option maxHeartbeats 400000 in
theorem tooLong_any (s : ByteArray) (w : World) : Calls Tryd.prog 37 #[.string s] w fun e w' => e = .returned (.bool (decide (8000 < (s.size : Int)))) ∧ w = w' := by
  go_enter Tryd.func37, Tryd.ntmps37
  go_wp2
  go_ret
  exact ⟨rfl, rfl⟩

end Go.Proofs.YtpncnkihfijmaaaDoor
