/-
  What is carried through a law's region that calls and loads: small steps.
-/
import Derived.Test.YtjejdfmeclbjeaaSeatIn
import Derived.Deep.RegionHeld3
namespace Go.Proofs.Ytjejdfmeclbjeaa
open Go.ChangeShapes Go.WideShapes Go.ChangeAt Go.RowKit Go.ChangeMaps

theorem bstep {n : Nat} {w W W' : World} (hb : Below W.heap.size W W') (h : Below n w W) (hz : n ≤ W.heap.size) : Below n w W' := h.trans (hb.mono hz)
theorem zstep {n : Nat} {W W' : World} (hb : Below W.heap.size W W') (h : n ≤ W.heap.size) : n ≤ W'.heap.size := Nat.le_trans h hb.size
end Go.Proofs.Ytjejdfmeclbjeaa
