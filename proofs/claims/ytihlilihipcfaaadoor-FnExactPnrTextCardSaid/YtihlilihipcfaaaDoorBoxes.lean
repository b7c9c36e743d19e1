/-
  Blocks that are known whole: what a law's own variables hold.
-/
import Derived.Test.YtihlilihipcfaaaDoorPnrs
namespace Go.Proofs.YtihlilihipcfaaaDoor
open Go.ChangeShapes Go.WideShapes Go.ChangeAt Go.RowKit Go.ChangeMaps
set_option maxRecDepth 10000
set_option linter.unusedSimpArgs false
set_option linter.unusedVariables false

/-- The cells of a booking. -/
abbrev pnrCs (h l o : Int) (n : Nat) (A1 : Option Addr) (c1 m : Nat) (A2 : Option Addr) (c2 : Nat) (b : Bool) (f : Int) : Array Value :=
  #[.int .i64 h, .int .i64 l, .int .i64 o, .slice A1 n c1, .slice A2 m c2, .bool b, .int .i64 f]
/-- Block g holds just those cells. -/
def Box (W : World) (g : Nat) (t : TypeId) (cs : Array Value) : Prop := W.heap[g]? = some (.cells cs t (0, 0))
theorem Box.drew {W : World} {g : Nat} {t : TypeId} {cs : Array Value} (h : Box W g t cs) : Box W.drew g t cs := h
theorem Box.below {n : Nat} {W W' : World} {g : Nat} {t : TypeId} {cs : Array Value} (h : Box W g t cs) (hb : Below n W W') (hg : g < n) : Box W' g t cs := (hb.block g hg).trans h
theorem Box.lt {W : World} {g : Nat} {t : TypeId} {cs : Array Value} (h : Box W g t cs) : g < W.heap.size := (Array.getElem?_eq_some_iff.1 h).1
theorem Box.on {W W' : World} {g : Nat} {t : TypeId} {cs : Array Value} (h : Box W g t cs) (hb : Below W.heap.size W W') : Box W' g t cs := h.below hb h.lt
theorem Box.cells {W : World} {g : Nat} {t : TypeId} {cs : Array Value} (h : Box W g t cs) : ∀ i, W.cell? ⟨g, i, none⟩ = cs[i]? := fun i => cell_of_row W g i cs t (0, 0) h
theorem Box.new (w : World) (cs : Array Value) (t : TypeId) : Box (w.alloc (.cells cs t)) w.heap.size t cs := heap_alloc_new w _
theorem Box.alloc {W : World} {g : Nat} {t : TypeId} {cs : Array Value} (h : Box W g t cs) (o : Obj) : Box (W.alloc o) g t cs := (Below.heap_alloc W o g h.lt).trans h

/-- The world as a law's walk knows it: what lay lies; its two boxes hold the arguments. -/
def Two (w : World) (ca cb : Array Value) (W : World) : Prop := Below w.heap.size w W ∧ Box W w.heap.size 36 ca ∧ Box W (w.heap.size + 1) 36 cb
theorem Two.drew {w W : World} {ca cb : Array Value} (h : Two w ca cb W) : Two w ca cb W.drew := ⟨h.1.drew, h.2.1, h.2.2⟩
theorem Two.on {w W W' : World} {ca cb : Array Value} (h : Two w ca cb W) (hb : Below W.heap.size W W') : Two w ca cb W' := ⟨h.1.trans (hb.mono h.1.size), h.2.1.on hb, h.2.2.on hb⟩
theorem Two.alloc {w W : World} {ca cb : Array Value} (h : Two w ca cb W) (o : Obj) : Two w ca cb (W.alloc o) := h.on ((Below.refl _ W).alloc (Nat.le_refl _) o)

/-- .. of one argument. -/
def One (w : World) (ca : Array Value) (W : World) : Prop := Below w.heap.size w W ∧ Box W w.heap.size 36 ca
theorem One.drew {w W : World} {ca : Array Value} (h : One w ca W) : One w ca W.drew := ⟨h.1.drew, h.2⟩
theorem One.on {w W W' : World} {ca : Array Value} (h : One w ca W) (hb : Below W.heap.size W W') : One w ca W' := ⟨h.1.trans (hb.mono h.1.size), h.2.on hb⟩
theorem One.alloc {w W : World} {ca : Array Value} (h : One w ca W) (o : Obj) : One w ca (W.alloc o) := h.on ((Below.refl _ W).alloc (Nat.le_refl _) o)
end Go.Proofs.YtihlilihipcfaaaDoor
