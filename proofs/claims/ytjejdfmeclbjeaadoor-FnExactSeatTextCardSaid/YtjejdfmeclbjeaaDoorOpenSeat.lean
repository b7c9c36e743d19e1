/-
  A seat among a law's arguments: what it is.
-/
import Derived.Test.YtjejdfmeclbjeaaDoorSeatR
import Derived.Lib.SmallJoins
namespace Go.Proofs.YtjejdfmeclbjeaaDoor
open Go.ChangeShapes Go.WideShapes Go.ChangeAt Go.RowKit Go.ChangeMaps

section
variable {H : Type} {enc : TypeId × Value → H} {w : World} {base : Nat} {spare : Nat → Bool} {held : Bool}
theorem open_seat {r : Reach} {b0 : Nat} {v : Value} {d : DataW H} {p : List MemPlace} (hv : Value.okWide Tryd.prog w r b0 23 v) (h : DataW.Trod enc Tryd.prog w base spare held 23 v d p) :
    ∃ (x y : Int), v = seatV x y ∧ p = [] := by
  obtain ⟨v0, v1, y0, y1, n, rfl, rfl, rfl, h0, h1⟩ := Joins.open_agg2 Tryd.underlying23 (by kernel_rfl) (by kernel_rfl) hv h
  obtain ⟨x, e0, rfl, hx⟩ := DataW.trod_int Tryd.underlying2 h0
  obtain ⟨y, e1, rfl, hy⟩ := DataW.trod_int Tryd.underlying2 h1
  simp only [List.cons.injEq, and_true] at e0 e1
  subst e0 e1
  exact ⟨x, y, rfl, rfl⟩
end
end Go.Proofs.YtjejdfmeclbjeaaDoor
