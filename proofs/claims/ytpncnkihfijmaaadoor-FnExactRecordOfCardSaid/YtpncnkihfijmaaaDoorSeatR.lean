/-
  SeatRight; the laws' own copies of seats.
-/
import Derived.Test.YtpncnkihfijmaaaDoorIs
namespace Go.Proofs.YtpncnkihfijmaaaDoor
open Go.ChangeShapes Go.WideShapes Go.ChangeAt Go.RowKit Go.ChangeMaps
set_option maxRecDepth 10000
set_option linter.unusedSimpArgs false

def seatB (r c : Int) : Bool := decide (1 ≤ r ∧ r ≤ 20 ∧ 0 ≤ c ∧ c ≤ 5)
/-- A seat, as a value. -/
abbrev seatV (r c : Int) : Value := .agg #[.int .i64 r, .int .i64 c]

set_option maxHeartbeats 400000 in
theorem toSeat_any (r c : Int) (w : World) : Calls Tryd.prog 13 #[seatV r c] w fun e w' => e = .returned (seatV r c) ∧ Below w.heap.size w w' := by
  go_enter Tryd.func13, Tryd.ntmps13
  go_wp2
  refine bodyPost_ret (v := seatV r c) (by simp [results, Tryd.results13, go_sem]) rfl ?_
  exact ⟨rfl, by go_grown⟩

set_option maxHeartbeats 400000 in
theorem iSeatRight_any (r c : Int) (w : World) : Calls Tryd.prog 89 #[seatV r c] w fun e w' => e = .returned (.bool (seatB r c)) ∧ Below w.heap.size w w' := by
  go_enter Tryd.func89, Tryd.ntmps89
  go_wp2
  all_goals
    go_ret
    refine ⟨ret_bool ?_, by go_grown⟩
    rw [Bool.eq_iff_iff]
    simp [seatB]
    try omega


theorem inB_yes {n lo hi : Int} (h : lo ≤ n ∧ n ≤ hi) : inB n lo hi = true := by simp [inB, h.1, h.2]
theorem inB_no {n lo hi : Int} (h : ¬ (lo ≤ n ∧ n ≤ hi)) : inB n lo hi = false := by simp [inB]; omega

set_option maxHeartbeats 400000 in
theorem sSeatRight_any (r c : Int) (w : World) : Calls Tryd.prog 26 #[seatV r c] w fun e w' => e = .returned (.bool (seatB r c)) ∧ Below w.heap.size w w' := by
  by_cases hr : 1 ≤ r ∧ r ≤ 20
  · have h1 := inB_yes hr
    go_enter Tryd.func26, Tryd.ntmps26
    go_wp2_with (go_at_call 21; refine (l02Is_any _ _ _ _).mono ?_; rintro e w' ⟨rfl, rfl⟩)
    go_ret
    refine ⟨ret_bool ?_, by go_grown⟩
    rw [Bool.eq_iff_iff]
    simp [inB, seatB]
    omega
  · have h1 := inB_no hr
    go_enter Tryd.func26, Tryd.ntmps26
    go_wp2_with (go_at_call 21; refine (l02Is_any _ _ _ _).mono ?_; rintro e w' ⟨rfl, rfl⟩)
    go_ret
    refine ⟨ret_bool ?_, by go_grown⟩
    rw [Bool.eq_iff_iff]
    simp [seatB]
    try omega

end Go.Proofs.YtpncnkihfijmaaaDoor
