/-
  isLetter, isDigit: what they answer.
-/
import Derived.Test.YtpncnkihfijmaaaDoorBase
namespace Go.Proofs.YtpncnkihfijmaaaDoor
open Go.ChangeShapes Go.WideShapes Go.ChangeAt Go.RowKit Go.ChangeMaps
set_option maxRecDepth 10000

def letB (n : Int) : Bool := decide (97 ≤ n) && decide (n ≤ 122)
def digB (n : Int) : Bool := decide (48 ≤ n) && decide (n ≤ 57)
theorem letB_yes {n : Int} (h : letB n = true) : 97 ≤ n ∧ n ≤ 122 := by simpa [letB] using h
theorem letB_mk {n : Int} (h : 97 ≤ n) (h' : n ≤ 122) : letB n = true := by simp [letB, h, h']
theorem letB_lt {n : Int} (h : n < 97) : letB n = false := by simp [letB]; omega
theorem letB_gt {n : Int} (h : 122 < n) : letB n = false := by simp [letB]; omega
theorem digB_mk {n : Int} (h : 48 ≤ n) (h' : n ≤ 57) : digB n = true := by simp [digB, h, h']
theorem digB_lt {n : Int} (h : n < 48) : digB n = false := by simp [digB]; omega
theorem digB_gt {n : Int} (h : 57 < n) : digB n = false := by simp [digB]; omega

set_option maxHeartbeats 400000 in
theorem isLetter_any (n : Int) (w : World) : Calls Tryd.prog 91 #[.int .u8 n] w fun e w' => e = .returned (.bool (letB n)) ∧ w = w' := by
  go_enter Tryd.func91, Tryd.ntmps91
  go_wp2
  all_goals go_ret
  · have h : 97 ≤ n := by assumption
    exact ⟨ret_bool (by simp [letB, h]), rfl⟩
  · have h : n < 97 := by assumption
    exact ⟨ret_bool (by rw [letB_lt h]), rfl⟩

set_option maxHeartbeats 400000 in
theorem isDigit_any (n : Int) (w : World) : Calls Tryd.prog 92 #[.int .u8 n] w fun e w' => e = .returned (.bool (digB n)) ∧ w = w' := by
  go_enter Tryd.func92, Tryd.ntmps92
  go_wp2
  all_goals go_ret
  · have h : 48 ≤ n := by assumption
    exact ⟨ret_bool (by simp [digB, h]), rfl⟩
  · have h : n < 48 := by assumption
    exact ⟨ret_bool (by rw [digB_lt h]), rfl⟩

end Go.Proofs.YtpncnkihfijmaaaDoor
