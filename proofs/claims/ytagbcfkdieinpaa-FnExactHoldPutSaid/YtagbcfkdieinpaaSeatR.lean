/-
  SeatRight; the laws' own copies of seats.
-/
import Derived.Test.YtagbcfkdieinpaaKept
namespace Go.Proofs.Ytagbcfkdieinpaa
open Go.ChangeShapes Go.WideShapes Go.ChangeAt Go.RowKit Go.ChangeMaps
set_option linter.unusedSimpArgs false

def inB (n lo hi : Int) : Bool := decide (lo ≤ n) && decide (n ≤ hi)
def seatB (r c : Int) : Bool := decide (1 ≤ r ∧ r ≤ 20 ∧ 0 ≤ c ∧ c ≤ 5)
/-- A seat, as a value. -/
abbrev seatV (r c : Int) : Value := .agg #[.int .i64 r, .int .i64 c]

set_option maxHeartbeats 400000 in
theorem l02Is_any (n lo hi : Int) (w : World) : Calls Try.prog 34 #[.int .i64 n, .int .i64 lo, .int .i64 hi] w fun e w' => e = .returned (.bool (inB n lo hi)) ∧ w = w' := by
  go_enter Try.func34, Try.ntmps34
  go_wp2
  all_goals go_ret
  · have h : lo ≤ n := by assumption
    exact ⟨ret_bool (by simp [inB, h]), rfl⟩
  · have h : n < lo := by assumption
    exact ⟨ret_bool (by simp [inB]; omega), rfl⟩

set_option maxHeartbeats 400000 in
theorem toSeat_any (r c : Int) (w : World) : Calls Try.prog 25 #[seatV r c] w fun e w' => e = .returned (seatV r c) ∧ Below w.heap.size w w' := by
  go_enter Try.func25, Try.ntmps25
  go_wp2
  refine bodyPost_ret (v := seatV r c) (by simp [results, Try.results25, go_sem]) rfl ?_
  exact ⟨rfl, by go_grown⟩

set_option maxHeartbeats 400000 in
theorem iSeatRight_any (r c : Int) (w : World) : Calls Try.prog 51 #[seatV r c] w fun e w' => e = .returned (.bool (seatB r c)) ∧ Below w.heap.size w w' := by
  go_enter Try.func51, Try.ntmps51
  go_wp2
  all_goals
    go_ret
    refine ⟨ret_bool ?_, by go_grown⟩
    rw [Bool.eq_iff_iff]
    simp [seatB]
    try omega


theorem inB_yes {n lo hi : Int} (h : lo ≤ n ∧ n ≤ hi) : inB n lo hi = true := by simp [inB, h.1, h.2]
theorem inB_no {n lo hi : Int} (h : ¬ (lo ≤ n ∧ n ≤ hi)) : inB n lo hi = false := by simp [inB]; omega

set_option maxHeartbeats 400000 in
theorem sSeatRight_any (r c : Int) (w : World) : Calls Try.prog 49 #[seatV r c] w fun e w' => e = .returned (.bool (seatB r c)) ∧ Below w.heap.size w w' := by
  by_cases hr : 1 ≤ r ∧ r ≤ 20
  · have h1 := inB_yes hr
    go_enter Try.func49, Try.ntmps49
    go_wp2_with (go_at_call 34; refine (l02Is_any _ _ _ _).mono ?_; rintro e w' ⟨rfl, rfl⟩)
    go_ret
    refine ⟨ret_bool ?_, by go_grown⟩
    rw [Bool.eq_iff_iff]
    simp [inB, seatB]
    omega
  · have h1 := inB_no hr
    go_enter Try.func49, Try.ntmps49
    go_wp2_with (go_at_call 34; refine (l02Is_any _ _ _ _).mono ?_; rintro e w' ⟨rfl, rfl⟩)
    go_ret
    refine ⟨ret_bool ?_, by go_grown⟩
    rw [Bool.eq_iff_iff]
    simp [seatB]
    try omega

end Go.Proofs.Ytagbcfkdieinpaa
