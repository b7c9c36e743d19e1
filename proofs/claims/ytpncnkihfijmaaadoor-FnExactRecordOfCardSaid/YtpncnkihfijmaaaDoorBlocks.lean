/-
  Blocks that are known whole.
-/
import Derived.RangeFuncNested
import Derived.Test.YtpncnkihfijmaaaDoorLists
namespace Go.Proofs.YtpncnkihfijmaaaDoor
open Go.ChangeShapes Go.WideShapes Go.ChangeAt Go.RowKit Go.ChangeMaps
set_option maxRecDepth 10000
set_option linter.unusedSimpArgs false
set_option linter.unusedVariables false

/-- Block g holds just those cells. -/
def Block (W : World) (g : Nat) (t : TypeId) (cs : Array Value) : Prop := W.heap[g]? = some (.cells cs t (0, 0))
section
variable {W W' : World} {g n : Nat} {t : TypeId} {cs : Array Value}
theorem Block.drew (h : Block W g t cs) : Block W.drew g t cs := h
theorem Block.lt (h : Block W g t cs) : g < W.heap.size := (Array.getElem?_eq_some_iff.1 h).1
theorem Block.below (h : Block W g t cs) (hb : Below n W W') (hg : g < n) : Block W' g t cs := (hb.block g hg).trans h
theorem Block.on (h : Block W g t cs) (hb : Below W.heap.size W W') : Block W' g t cs := h.below hb h.lt
theorem Block.cell (h : Block W g t cs) (i : Nat) : W.cell? ⟨g, i, none⟩ = cs[i]? := cell_of_row W g i cs t (0, 0) h
theorem Block.free (h : Block W g t cs) (i : Nat) : W.frozen? ⟨g, i, none⟩ = false := frozen_of_row W g i cs t h
theorem Block.new (w : World) (cs : Array Value) (t : TypeId) : Block (w.alloc (.cells cs t)) w.heap.size t cs := heap_alloc_new w _
theorem Block.alloc (h : Block W g t cs) (o : Obj) : Block (W.alloc o) g t cs := (Below.heap_alloc W o g h.lt).trans h
theorem Block.kept {row : Option Nat} (h : Block W g t cs) (hg : W.grownBy W' row) (hne : some g ≠ row) : Block W' g t cs := (hg.block g h.lt hne).trans h
theorem Block.far (h : Block W g t cs) {p : Addr} (hp : g ≠ p.block) (u : Value) : Block (W.setCell p u) g t cs := (Below.heap_setCell W p u g hp).trans h
theorem Block.set_ (h : Block W g t cs) (i : Nat) (u : Value) : Block (W.setCell ⟨g, i, none⟩ u) g t (cs.setIfInBounds i u) := heap_setCell_same W g i cs t u h
end
/-- That a block holds those cells speaks of cells alone. -/
theorem block_own {β : Type} (g : Nat) (t : TypeId) (f : β → Array Value) : Own (fun s W => Block W g t (f s)) := fun s X Y row hs hg hrow =>
  hs.kept hg (fun e' => by obtain ⟨o, ho, hc⟩ := hrow g e'.symm; rw [show X.heap[g]? = _ from hs] at ho; cases ho; cases hc)
/-- A call that left all that lay leaves what is no cells. -/
theorem keeps_of_below {W W' : World} (hb : Below W.heap.size W W') (B : Nat) : KeepsFrom B W W' := KeepsFrom.of_grownBy (row := none) (grown_of_below hb none) (fun j e => by cases e)

end Go.Proofs.YtpncnkihfijmaaaDoor
