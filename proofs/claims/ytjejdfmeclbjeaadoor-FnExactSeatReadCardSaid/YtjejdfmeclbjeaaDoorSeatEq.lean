/-
  The laws' own equality of seats, and of answers that bear one.
-/
import Derived.Test.YtjejdfmeclbjeaaDoorSeatR
namespace Go.Proofs.YtjejdfmeclbjeaaDoor
open Go.ChangeShapes Go.WideShapes Go.ChangeAt Go.RowKit Go.ChangeMaps
set_option linter.unusedSimpArgs false
set_option linter.unusedVariables false

/-- A seat and a code, as a value. -/
abbrev seatOutV (x : Int × Int × Int) : Value := .agg #[.int .i64 x.1, .int .i64 x.2.1, .int .i64 x.2.2]
set_option maxHeartbeats 400000 in
theorem eqSeat_same (r c : Int) (w : World) : Calls Tryd.prog 18 #[seatV r c, seatV r c] w fun e w' => e = .returned (.bool true) ∧ Below w.heap.size w w' := by
  go_enter Tryd.func18, Tryd.ntmps18
  go_wp2
  go_ret
  exact ⟨rfl, by go_grown⟩
set_option maxHeartbeats 400000 in
theorem eqSeatOut_same (r c k : Int) (w : World) : Calls Tryd.prog 10 #[.agg #[.int .i64 r, .int .i64 c, .int .i64 k], .agg #[.int .i64 r, .int .i64 c, .int .i64 k]] w fun e w' => e = .returned (.bool true) ∧ Below w.heap.size w w' := by
  have HS : Hid (∀ W : World, Calls Tryd.prog 18 #[seatV r c, seatV r c] W fun e w' => e = .returned (.bool true) ∧ Below W.heap.size W w') := fun W => eqSeat_same r c W
  go_enter Tryd.func10, Tryd.ntmps10
  go_wp2_with fail
  refine (HS.out _).mono ?_
  rintro e w1 ⟨rfl, hb1⟩
  have d2 := kc hb1 (b := w.heap.size) (i := 2) (v := .int .i64 k) (by go_simp) (by simp; omega)
  have e2 := kc hb1 (b := w.heap.size + 1) (i := 2) (v := .int .i64 k) (by go_simp) (by simp)
  go_wp2_with fail
  go_ret
  exact ⟨rfl, ((Below.refl _ _).alloc (Nat.le_refl _) _ |>.alloc (by simp) _).trans (hb1.mono (by simp; omega))⟩

end Go.Proofs.YtjejdfmeclbjeaaDoor
