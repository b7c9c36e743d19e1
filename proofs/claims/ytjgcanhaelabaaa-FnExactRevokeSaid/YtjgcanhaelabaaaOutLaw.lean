/-
  What a law on tokens knows of the world: what was told lies, in two boxes, in rows of their own.
-/
import Derived.Test.YtjgcanhaelabaaaMarkToks
import Derived.Test.YtjgcanhaelabaaaOpenToks
import Derived.Test.YtjgcanhaelabaaaLift
namespace Go.Proofs.Ytjgcanhaelabaaa
open Go.ChangeShapes Go.WideShapes Go.ChangeAt Go.RowKit Go.ChangeMaps
set_option linter.unusedSimpArgs false
set_option linter.unusedVariables false

/-- What the model told. -/
def StW (w : World) (L : List TK) (no code : Int) (g : Nat) (A : Option Addr) (c : Nat) (W : World) : Prop :=
  Below w.heap.size w W ∧ Block W g 30 #[.slice A L.length c, .int .i64 no, .int .i64 code] ∧ W.ownsRow w.heap.size 39 4 (.slice A L.length c) L.length (toksC L) ∧ w.heap.size ≤ g ∧ ∀ g', (Value.slice A L.length c).ownBlock = some g' → g' < g
section
variable {w W W' : World} {L : List TK} {no code : Int} {g c : Nat} {A : Option Addr}
theorem StW.on (h : StW w L no code g A c W) (hb : Below W.heap.size W W') : StW w L no code g A c W' :=
  ⟨h.1.trans (hb.mono h.1.size), h.2.1.on hb, ownsRow_below h.2.2.1 hb, h.2.2.2⟩
theorem StW.alloc (h : StW w L no code g A c W) (o : Obj) : StW w L no code g A c (W.alloc o) := h.on ((Below.refl _ W).alloc (Nat.le_refl _) o)
theorem StW.grown {row : Option Nat} (h : StW w L no code g A c W) (hg : W.grownBy W' row) (hr : ∀ g', row = some g' → g < g') : StW w L no code g A c W' :=
  ⟨h.1.grown hg h.1.size (fun k e => by have := hr k e; have := h.2.2.2.1; omega), h.2.1.kept hg (fun e => by have := hr _ e.symm; omega), own_grown h.2.2.1 hg (fun k hk e => by have h1 := hr _ e; have h2 := h.2.2.2.2 _ hk; omega), h.2.2.2⟩
theorem StW.make {W : World} {no code : Int} (hB : Below w.heap.size w W) (hr : W.ownsRow w.heap.size 39 4 (.slice A L.length c) L.length (toksC L)) :
    StW w L no code W.heap.size A c (W.alloc (.cells #[.slice A L.length c, .int .i64 no, .int .i64 code] 30)) :=
  ⟨hB.alloc hB.size _, Block.new W _ _, hr.alloc _, hB.size, fun g' h => (hr.lt g' h).2⟩
end
/-- What was told by the program. -/
def StG (b : Nat) (xs : List Value) (n : Nat) (no code : Int) (g : Nat) (A : Option Addr) (c : Nat) (W : World) : Prop :=
  Block W g 30 #[.slice A n c, .int .i64 no, .int .i64 code] ∧ W.ownsRow b 39 4 (.slice A n c) n xs ∧ b ≤ g ∧ b ≤ W.heap.size ∧ ∀ g', (Value.slice A n c).ownBlock = some g' → g' < g
section
variable {b n g c : Nat} {xs : List Value} {no code : Int} {A : Option Addr} {W W' : World}
theorem StG.on (h : StG b xs n no code g A c W) (hb : Below W.heap.size W W') : StG b xs n no code g A c W' :=
  ⟨h.1.on hb, ownsRow_below h.2.1 hb, h.2.2.1, Nat.le_trans h.2.2.2.1 hb.size, h.2.2.2.2⟩
theorem StG.alloc (h : StG b xs n no code g A c W) (o : Obj) : StG b xs n no code g A c (W.alloc o) := h.on ((Below.refl _ W).alloc (Nat.le_refl _) o)
theorem StG.grown {row : Option Nat} (h : StG b xs n no code g A c W) (hg : W.grownBy W' row) (hr : ∀ g', row = some g' → g' < b) : StG b xs n no code g A c W' :=
  ⟨h.1.kept hg (fun e => by have := hr _ e.symm; have := h.2.2.1; omega), own_grown h.2.1 hg (fun k hk e => by have h1 := hr _ e; have h2 := (h.2.1.lt k hk).1; omega), h.2.2.1, Nat.le_trans h.2.2.2.1 hg.size, h.2.2.2.2⟩
theorem StG.marked {ys : List Value} (h : StG b xs n no code g A c W) (hg : W.grownBy W' (Value.slice A n c).ownBlock) (ho : W'.ownsRow b 39 4 (.slice A n c) n ys) : StG b ys n no code g A c W' :=
  ⟨h.1.kept hg (fun e => by have := h.2.2.2.2 _ e.symm; omega), ho, h.2.2.1, Nat.le_trans h.2.2.2.1 hg.size, h.2.2.2.2⟩
theorem StG.make (hr : W.ownsRow b 39 4 (.slice A n c) n xs) (hb : b ≤ W.heap.size) :
    StG b xs n no code W.heap.size A c (W.alloc (.cells #[.slice A n c, .int .i64 no, .int .i64 code] 30)) :=
  ⟨Block.new W _ _, hr.alloc _, hb, by simp; omega, fun g' h => (hr.lt g' h).2⟩
end
end Go.Proofs.Ytjgcanhaelabaaa
