/-
  The digits of a number.
-/
import Derived.Test.YtpncnkihfijmaaaDoorStrCells
import Derived.Handy
import Derived.Lib.ItoaNum
namespace Go.Proofs.YtpncnkihfijmaaaDoor
open Go.ChangeShapes Go.WideShapes Go.ChangeAt Go.RowKit Go.ChangeMaps
set_option maxRecDepth 10000
set_option linter.unusedSimpArgs false
set_option linter.unusedVariables false

/-- The digits of a number, none of 0. -/
def decU (u : Nat) : List UInt8 := if u = 0 then [] else Lib.decDigits u
theorem decU_step {u : Nat} (h : 0 < u) (l : List UInt8) : decU u ++ l = decU (u / 10) ++ (UInt8.ofNat (48 + u % 10) :: l) := by
  rw [decU, if_neg (by omega)]
  by_cases h10 : u < 10
  · have e1 : u / 10 = 0 := by omega
    have e2 : u % 10 = u := by omega
    rw [Lib.decDigits, dif_pos h10, decU, if_pos e1, e2]
    rfl
  · rw [Lib.decDigits, dif_neg h10, decU, if_neg (by omega), List.append_assoc]
    rfl

end Go.Proofs.YtpncnkihfijmaaaDoor
