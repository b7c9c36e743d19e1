/-
  FlightRight, SeatRight, SeatIn; the laws' own copies of flights and seats.
-/
import Derived.Test.YtjejdfmeclbjeaaWord
import Derived.Handy
namespace Go.Proofs.Ytjejdfmeclbjeaa
open Go.ChangeShapes Go.WideShapes Go.ChangeAt Go.RowKit Go.ChangeMaps
set_option linter.unusedSimpArgs false

def inB (n lo hi : Int) : Bool := decide (lo ≤ n) && decide (n ≤ hi)
def rcB (r c : Int) : Bool := decide (1 ≤ r ∧ r ≤ 20 ∧ 1 ≤ c ∧ c ≤ 6)
def seatB (r c : Int) : Bool := decide (1 ≤ r ∧ r ≤ 20 ∧ 0 ≤ c ∧ c ≤ 5)
def flightB (s : ByteArray) (r c : Int) : Bool := wordB s && rcB r c
/-- A flight, a seat, as values. -/
abbrev flightV (s : ByteArray) (r c : Int) : Value := .agg #[.string s, .int .i64 r, .int .i64 c]
abbrev seatV (r c : Int) : Value := .agg #[.int .i64 r, .int .i64 c]

set_option maxHeartbeats 400000 in
theorem l02Is_any (n lo hi : Int) (w : World) : Calls Try.prog 27 #[.int .i64 n, .int .i64 lo, .int .i64 hi] w fun e w' => e = .returned (.bool (inB n lo hi)) ∧ w = w' := by
  go_enter Try.func27, Try.ntmps27
  go_wp2
  all_goals go_ret
  · have h : lo ≤ n := by assumption
    exact ⟨ret_bool (by simp [inB, h]), rfl⟩
  · have h : n < lo := by assumption
    exact ⟨ret_bool (by simp [inB]; omega), rfl⟩

set_option maxHeartbeats 400000 in
theorem toFlight_any (s : ByteArray) (r c : Int) (w : World) : Calls Try.prog 13 #[flightV s r c] w fun e w' => e = .returned (flightV s r c) ∧ Below w.heap.size w w' := by
  go_enter Try.func13, Try.ntmps13
  go_wp2
  refine bodyPost_ret (v := flightV s r c) (by simp [results, Try.results13, go_sem]) rfl ?_
  exact ⟨rfl, by go_grown⟩

set_option maxHeartbeats 400000 in
theorem toSeat_any (r c : Int) (w : World) : Calls Try.prog 16 #[seatV r c] w fun e w' => e = .returned (seatV r c) ∧ Below w.heap.size w w' := by
  go_enter Try.func16, Try.ntmps16
  go_wp2
  refine bodyPost_ret (v := seatV r c) (by simp [results, Try.results16, go_sem]) rfl ?_
  exact ⟨rfl, by go_grown⟩

set_option maxHeartbeats 400000 in
theorem szFlight_any (s : ByteArray) (r c n : Int) (w : World) (hs : s.size ≤ maxLen) (h0 : 0 ≤ n) (h1 : n ≤ 1048576) :
    Calls Try.prog 11 #[flightV s r c, .int .i64 n] w fun e w' => e = .returned (.int .i64 (if n < s.size then -1 else n - s.size)) ∧ Below w.heap.size w w' := by
  unfold maxLen at hs
  by_cases h : n < s.size
  · go_enter Try.func11, Try.ntmps11
    go_wp2
    go_ret
    exact ⟨rfl, by go_grown⟩
  · go_enter Try.func11, Try.ntmps11
    go_wp2
    go_ret
    exact ⟨rfl, by go_grown⟩

set_option maxHeartbeats 400000 in
theorem iSeatRight_any (r c : Int) (w : World) : Calls Try.prog 17 #[seatV r c] w fun e w' => e = .returned (.bool (seatB r c)) ∧ Below w.heap.size w w' := by
  go_enter Try.func17, Try.ntmps17
  go_wp2
  all_goals
    go_ret
    refine ⟨ret_bool ?_, by go_grown⟩
    rw [Bool.eq_iff_iff]
    simp [seatB]
    try omega


theorem inB_yes {n lo hi : Int} (h : lo ≤ n ∧ n ≤ hi) : inB n lo hi = true := by simp [inB, h.1, h.2]
theorem inB_no {n lo hi : Int} (h : ¬ (lo ≤ n ∧ n ≤ hi)) : inB n lo hi = false := by simp [inB]; omega

set_option maxHeartbeats 400000 in
theorem sSeatRight_any (r c : Int) (w : World) : Calls Try.prog 15 #[seatV r c] w fun e w' => e = .returned (.bool (seatB r c)) ∧ Below w.heap.size w w' := by
  by_cases hr : 1 ≤ r ∧ r ≤ 20
  · have h1 := inB_yes hr
    go_enter Try.func15, Try.ntmps15
    go_wp2_with (go_at_call 27; refine (l02Is_any _ _ _ _).mono ?_; rintro e w' ⟨rfl, rfl⟩)
    go_ret
    refine ⟨ret_bool ?_, by go_grown⟩
    rw [Bool.eq_iff_iff]
    simp [inB, seatB]
    omega
  · have h1 := inB_no hr
    go_enter Try.func15, Try.ntmps15
    go_wp2_with (go_at_call 27; refine (l02Is_any _ _ _ _).mono ?_; rintro e w' ⟨rfl, rfl⟩)
    go_ret
    refine ⟨ret_bool ?_, by go_grown⟩
    rw [Bool.eq_iff_iff]
    simp [seatB]
    try omega

set_option maxHeartbeats 400000 in
theorem iFlightRight_any (s : ByteArray) (r c : Int) (w : World) (hs : s.size ≤ maxLen) : Calls Try.prog 14 #[flightV s r c] w fun e w' => e = .returned (.bool (flightB s r c)) ∧ Below w.heap.size w w' := by
  obtain ⟨b, hb⟩ : ∃ b, wordB s = b := ⟨_, rfl⟩
  have HW : Hid (∀ W : World, Calls Try.prog 10 #[.string s] W fun e w' => e = .returned (.bool b) ∧ W = w') := fun W => hb ▸ iWord_any s W hs
  have HB := Lib.hid hb
  clear hb
  cases b
  all_goals
    go_enter Try.func14, Try.ntmps14
    go_wp2_with (go_at_call 10; refine (HW.out _).mono ?_; rintro e w' ⟨rfl, rfl⟩)
    all_goals
      go_ret
      refine ⟨ret_bool ?_, by go_grown⟩
      rw [flightB, HB.out]
      rw [Bool.eq_iff_iff]
      simp [rcB]
      try omega

set_option maxHeartbeats 400000 in
theorem sFlightRight_any (s : ByteArray) (r c : Int) (w : World) (hs : s.size ≤ maxLen) : Calls Try.prog 12 #[flightV s r c] w fun e w' => e = .returned (.bool (flightB s r c)) ∧ Below w.heap.size w w' := by
  obtain ⟨b, hb⟩ : ∃ b, wordB s = b := ⟨_, rfl⟩
  have HW : Hid (∀ W : World, Calls Try.prog 9 #[.string s] W fun e w' => e = .returned (.bool b) ∧ W = w') := fun W => hb ▸ sWord_any s W hs
  have HB := Lib.hid hb
  clear hb
  cases b
  · go_enter Try.func12, Try.ntmps12
    go_wp2_with (go_at_call 9; refine (HW.out _).mono ?_; rintro e w' ⟨rfl, rfl⟩)
    go_ret
    exact ⟨ret_bool (by rw [flightB, HB.out]; rfl), by go_grown⟩
  · by_cases hr : 1 ≤ r ∧ r ≤ 20
    · have h1 := inB_yes hr
      go_enter Try.func12, Try.ntmps12
      go_wp2_with (first
        | (go_at_call 9; refine (HW.out _).mono ?_; rintro e w' ⟨rfl, rfl⟩)
        | (go_at_call 27; refine (l02Is_any _ _ _ _).mono ?_; rintro e w' ⟨rfl, rfl⟩))
      go_ret
      refine ⟨ret_bool ?_, by go_grown⟩
      rw [flightB, HB.out, Bool.eq_iff_iff]
      simp [inB, rcB]
      omega
    · have h1 := inB_no hr
      go_enter Try.func12, Try.ntmps12
      go_wp2_with (first
        | (go_at_call 9; refine (HW.out _).mono ?_; rintro e w' ⟨rfl, rfl⟩)
        | (go_at_call 27; refine (l02Is_any _ _ _ _).mono ?_; rintro e w' ⟨rfl, rfl⟩))
      go_ret
      refine ⟨ret_bool ?_, by go_grown⟩
      rw [flightB, HB.out]
      rw [Bool.eq_iff_iff]
      simp [rcB]
      try omega
end Go.Proofs.Ytjejdfmeclbjeaa
