/-
  A region that draws its order, walked once in a class of worlds: those that left all that lay as it lay. Over any program.
-/
import Derived.Test.YtpncnkihfijmaaaDoorKept
import Derived.BigQuiet
namespace Go.Proofs.YtpncnkihfijmaaaDoor
open Go.ChangeShapes Go.WideShapes Go.ChangeAt Go.RowKit Go.ChangeMaps
set_option maxRecDepth 10000
set_option linter.unusedVariables false

/-- A world in which all that lay in w0 lies as it lay. -/
structure Cls (w0 : World) where
  W : World
  h : Below w0.heap.size w0 W

instance (w0 : World) : Inhabited (Cls w0) := ⟨⟨w0, Below.refl _ _⟩⟩

theorem wp_region_cls {P : Program} {id : Nat} {Q : Exit → Act → World → Prop} {a : Act} {w : World} {l : List Oper} (hm : P.follows .mixedOrders = true) (hB : Region.lexB .any l.toArray = true)
    (h : wpQuiet P l.toArray (fun w' => ∃ p : Cls w, w' = p.W) (fun a' => ∀ w', (∃ p : Cls w, w' = p.W) → Q .normal a' w') l a) : (Code.region id l.toArray true).wp P Q a w :=
  wp_region_quiet (C := fun w' => ∃ p : Cls w, w' = p.W) hm hB ⟨⟨w.drew, (Below.refl _ w).drew⟩, rfl⟩ (by simpa using h)

theorem Cls.call {w0 : World} {P : Program} {f : FuncId} {args : Array Value} {v : Value} {p : Cls w0} (h : Calls P f args p.W fun e w' => e = .returned v ∧ Below p.W.heap.size p.W w') :
    Calls P f args p.W fun e w'' => e = .returned v ∧ ∃ p' : Cls w0, w'' = p'.W :=
  h.mono fun _ w' ⟨he, hb⟩ => ⟨he, ⟨w', p.h.trans (hb.mono p.h.size)⟩, rfl⟩
theorem Cls.same {w0 : World} {P : Program} {f : FuncId} {args : Array Value} {v : Value} {p : Cls w0} (h : Calls P f args p.W fun e w' => e = .returned v ∧ p.W = w') :
    Calls P f args p.W fun e w'' => e = .returned v ∧ ∃ p' : Cls w0, w'' = p'.W :=
  h.mono fun _ w' ⟨he, hb⟩ => ⟨he, p, hb.symm⟩
theorem Cls.cell {w0 : World} {b i : Nat} {v : Value} (h : w0.cell? ⟨b, i, none⟩ = some v) (p : Cls w0) : p.W.cell? ⟨b, i, none⟩ = some v :=
  kc p.h h (World.block_lt_of_cell? w0 ⟨b, i, none⟩ h)
end Go.Proofs.YtpncnkihfijmaaaDoor
