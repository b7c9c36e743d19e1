/-
  What PnrRead gives: the laws' marks on it, and its equality. What PnrRead answered, behind calls and marks: below a block (spec's), or in a box and two rows of one's own (impl's).
-/
import Derived.Test.YtpncnkihfijmaaaGreatDoorM9
import Derived.Test.YtpncnkihfijmaaaGreatDoorReadIZ
import Derived.Test.YtpncnkihfijmaaaGreatDoorReadSZ
namespace Go.Proofs.YtpncnkihfijmaaaGreatDoor
open Go.ChangeShapes Go.WideShapes Go.ChangeAt Go.RowKit Go.ChangeMaps
set_option maxRecDepth 10000
set_option linter.unusedSimpArgs false
set_option linter.unusedVariables false

/-- Marks on a booking's lists: two rows turned, and new blocks. -/
def Marked (w : World) (r1 r2 : Option Nat) (w' : World) : Prop := ∃ wm, w.grownBy wm r1 ∧ wm.grownBy w' r2
def MarkEnd (k n m b1 b2 : Nat) (A1 : Option Addr) (c1 : Nat) (A2 : Option Addr) (c2 : Nat) (w : World) (e : Ending) (w' : World) : Prop :=
  e = .returned (.int .i64 ((k + n + 3 * m : Nat) : Int)) ∧ w'.ownsRow b1 9 1 (.slice A1 n c1) n (strsC (marksS k n)) ∧ w'.ownsRow b2 49 3 (.slice A2 m c2) m (holdsC (marksL (k + n) m)) ∧
    Marked w (Value.slice A1 n c1).ownBlock (Value.slice A2 m c2).ownBlock w'
theorem grown_pre {a b c : World} {row : Option Nat} (h : Below a.heap.size a b) (k : b.grownBy c row) : a.grownBy c row := grown_trans (grown_of_below h row) k

end Go.Proofs.YtpncnkihfijmaaaGreatDoor
namespace Go.Proofs.YtpncnkihfijmaaaGreatDoor
open Go.ChangeShapes Go.WideShapes Go.ChangeAt Go.RowKit Go.ChangeMaps
set_option maxRecDepth 10000
set_option linter.unusedSimpArgs false
set_option linter.unusedVariables false

theorem readP_few (s : ByteArray) : (readP s).1.names.length ≤ 4 ∧ (readP s).1.holds.length ≤ 4 := by
  rw [readP]
  split
  · exact ⟨Nat.zero_le _, Nat.zero_le _⟩
  · split
    · rename_i h
      obtain ⟨-, ⟨h1, -⟩, ⟨h2, -⟩, -⟩ := right_parts h.1
      exact ⟨h1, h2⟩
    · exact ⟨Nat.zero_le _, Nat.zero_le _⟩

abbrev outCs (p : PD) (A1 : Option Addr) (c1 : Nat) (A2 : Option Addr) (c2 : Nat) (code : Int) : Array Value :=
  #[.int .i64 p.home, .int .i64 p.loc, .int .i64 p.owner, .slice A1 p.names.length c1, .slice A2 p.holds.length c2, .bool p.live, .int .i64 p.offer, .int .i64 code]
/-- What spec gave lies below block b. -/
structure WSt (b g : Nat) (p : PD) (code : Int) (A1 : Option Addr) (c1 : Nat) (A2 : Option Addr) (c2 : Nat) (W : World) : Prop where
  blk : Block W g 44 (outCs p A1 c1 A2 c2 code)
  lies : PLies W b p A1 A2
  lt : g < b
  le : b ≤ W.heap.size
section
variable {W W' : World} {b g : Nat} {p : PD} {code : Int} {A1 A2 : Option Addr} {c1 c2 : Nat}
theorem WSt.below (h : WSt b g p code A1 c1 A2 c2 W) (hb : Below b W W') : WSt b g p code A1 c1 A2 c2 W' := ⟨h.blk.below hb h.lt, h.lies.below hb, h.lt, Nat.le_trans h.le hb.size⟩
theorem WSt.on (h : WSt b g p code A1 c1 A2 c2 W) (hb : Below W.heap.size W W') : WSt b g p code A1 c1 A2 c2 W' := h.below (hb.mono h.le)
theorem WSt.alloc (h : WSt b g p code A1 c1 A2 c2 W) (o : Obj) : WSt b g p code A1 c1 A2 c2 (W.alloc o) := h.on ((Below.refl _ W).alloc (Nat.le_refl _) o)
theorem WSt.all (h : WSt b g p code A1 c1 A2 c2 W) : PLies W W.heap.size p A1 A2 := h.lies.mono h.le
end
/-- What impl gave: a box, and two rows from block b on. -/
structure GSt (b g : Nat) (p : PD) (code : Int) (A1 : Option Addr) (c1 : Nat) (A2 : Option Addr) (c2 : Nat) (xs ys : List Value) (W : World) : Prop where
  blk : Block W g 44 (outCs p A1 c1 A2 c2 code)
  ns : W.ownsRow b 9 1 (.slice A1 p.names.length c1) p.names.length xs
  hs : W.ownsRow b 49 3 (.slice A2 p.holds.length c2) p.holds.length ys
  le : b ≤ W.heap.size
section
variable {W W' : World} {b g : Nat} {p : PD} {code : Int} {A1 A2 : Option Addr} {c1 c2 : Nat} {xs ys : List Value}
theorem GSt.on (h : GSt b g p code A1 c1 A2 c2 xs ys W) (hb : Below W.heap.size W W') : GSt b g p code A1 c1 A2 c2 xs ys W' := ⟨h.blk.on hb, ownsRow_below h.ns hb, ownsRow_below h.hs hb, Nat.le_trans h.le hb.size⟩
theorem GSt.alloc (h : GSt b g p code A1 c1 A2 c2 xs ys W) (o : Obj) : GSt b g p code A1 c1 A2 c2 xs ys (W.alloc o) := h.on ((Below.refl _ W).alloc (Nat.le_refl _) o)
/-- Behind the marks. -/
theorem GSt.marked (h : GSt b g p code A1 c1 A2 c2 xs ys W) {xs' ys' : List Value} (h1 : W'.ownsRow b 9 1 (.slice A1 p.names.length c1) p.names.length xs') (h2 : W'.ownsRow b 49 3 (.slice A2 p.holds.length c2) p.holds.length ys')
    (hm : Marked W (Value.slice A1 p.names.length c1).ownBlock (Value.slice A2 p.holds.length c2).ownBlock W') : GSt b g p code A1 c1 A2 c2 xs' ys' W' ∧ Below b W W' := by
  obtain ⟨wm, g1, g2⟩ := hm
  have hb1 : Below b W wm := below_of_grown g1 h.le (fun j e => (h.ns.lt j e).1)
  have hsm := h.hs.kept g1 (own_apart (by decide) h.hs h.ns)
  have hb2 : Below b wm W' := below_of_grown g2 (Nat.le_trans h.le g1.size) (fun j e => (hsm.lt j e).1)
  have k1 : Block wm g 44 (outCs p A1 c1 A2 c2 code) := h.blk.kept g1 (fun e => own_not_block h.blk (by decide) h.ns e.symm)
  have k2 := k1.kept g2 (fun e => own_not_block k1 (by decide) hsm e.symm)
  exact ⟨⟨k2, h1, h2, Nat.le_trans h.le (hb1.trans hb2).size⟩, hb1.trans hb2⟩
end
end Go.Proofs.YtpncnkihfijmaaaGreatDoor
