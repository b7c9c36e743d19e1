/-
  spec.l03Fill: its world between two steps; how great a booking comes.
-/
import Derived.Test.YtpncnkihfijmaaaGreatDoorM8
namespace Go.Proofs.YtpncnkihfijmaaaGreatDoor
open Go.ChangeShapes Go.WideShapes Go.ChangeAt Go.RowKit Go.ChangeMaps
set_option maxRecDepth 10000
set_option linter.unusedSimpArgs false
set_option linter.unusedVariables false

structure FSt (g : Nat) (w : World) (p : PD) (A1 : Option Addr) (c1 : Nat) (A2 : Option Addr) (c2 : Nat) (W : World) : Prop where
  st : PSt (g + 1) g p A1 c1 A2 c2 W
  below : Below g w W
section
variable {w W W' : World} {g : Nat} {p : PD} {A1 A2 : Option Addr} {c1 c2 : Nat}
theorem FSt.le (h : FSt g w p A1 c1 A2 c2 W) : g + 1 ≤ W.heap.size := h.st.blk.lt
theorem FSt.on (h : FSt g w p A1 c1 A2 c2 W) (hb : Below W.heap.size W W') : FSt g w p A1 c1 A2 c2 W' := ⟨h.st.on hb, h.below.trans (hb.mono (Nat.le_of_lt h.st.blk.lt))⟩
theorem FSt.drew (h : FSt g w p A1 c1 A2 c2 W) : FSt g w p A1 c1 A2 c2 W.drew := ⟨h.st.drew, h.below.drew⟩
theorem FSt.alloc (h : FSt g w p A1 c1 A2 c2 W) (o : Obj) : FSt g w p A1 c1 A2 c2 (W.alloc o) := h.on ((Below.refl _ W).alloc (Nat.le_refl _) o)
theorem FSt.offer (h : FSt g w p A1 c1 A2 c2 W) (n : Int) : FSt g w { p with offer := n } A1 c1 A2 c2 (W.setCell ⟨g, 6, none⟩ (.int .i64 n)) :=
  ⟨h.st.offer n, h.below.setCell (Nat.le_refl g) _⟩
theorem FSt.name (h : FSt g w p A1 c1 A2 c2 W) {A3 : Option Addr} {c3 : Nat} {s : ByteArray} (hg : W.grownBy W' (Value.slice A1 p.names.length c1).ownBlock) (hr : W'.ownsRow (g + 1) 9 1 (.slice A3 (p.names.length + 1) c3) (p.names.length + 1) (strsC p.names ++ [.string s])) :
    Block W' g 40 (pdCs p A1 c1 A2 c2) ∧ FSt g w { p with names := p.names ++ [s] } A3 c3 A2 c2 (W'.setCell ⟨g, 3, none⟩ (.slice A3 (p.names.length + 1) c3)) := by
  have Y := h.st.name hg hr
  refine ⟨Y.1, ⟨Y.2, ?_⟩⟩
  exact (h.below.grown hg (Nat.le_of_lt h.st.blk.lt) (fun j e => by have := (h.st.ns.lt j e).1; omega)).setCell (Nat.le_refl g) _
theorem FSt.hold (h : FSt g w p A1 c1 A2 c2 W) {A3 : Option Addr} {c3 : Nat} {x : HD} (hg : W.grownBy W' (Value.slice A2 p.holds.length c2).ownBlock) (hr : W'.ownsRow (g + 1) 49 3 (.slice A3 (p.holds.length + 1) c3) (p.holds.length + 1) (holdsC p.holds ++ [.string x.f, .int .i64 x.r, .int .i64 x.c])) :
    Block W' g 40 (pdCs p A1 c1 A2 c2) ∧ FSt g w { p with holds := p.holds ++ [x] } A1 c1 A3 c3 (W'.setCell ⟨g, 4, none⟩ (.slice A3 (p.holds.length + 1) c3)) := by
  have Y := h.st.hold hg hr
  refine ⟨Y.1, ⟨Y.2, ?_⟩⟩
  exact (h.below.grown hg (Nat.le_of_lt h.st.blk.lt) (fun j e => by have := (h.st.hs.lt j e).1; omega)).setCell (Nat.le_refl g) _
end
def FillGot (g : Nat) (w : World) (p : PD) (W : World) : Prop := ∃ A1 c1 A2 c2, FSt g w p A1 c1 A2 c2 W

theorem step1_name {p : PD} {x : ByteArray} (h : x.data.toList.head? = some 43) : step1 p x = { p with names := p.names ++ [x.extract 1 x.size] } := by rw [step1, if_pos h]
theorem step1_seat {p : PD} {x a b : ByteArray} (h : ¬ x.data.toList.head? = some 43) (h2 : cutB 58 x = [a, b]) : step1 p x = { p with holds := p.holds ++ [⟨a, (seatReadT b).1, (seatReadT b).2.1⟩] } := by rw [step1, if_neg h, h2]
theorem step1_none {p : PD} {x : ByteArray} (h : ¬ x.data.toList.head? = some 43) (h2 : (cutB 58 x).length ≠ 2) : step1 p x = p := by
  rw [step1, if_neg h]
  match hc : cutB 58 x with
  | [a, b] => rw [hc] at h2; simp at h2
  | [] => rfl
  | [_] => rfl
  | _ :: _ :: _ :: _ => rfl
theorem FitN.mono {p : PD} {N M : Nat} (h : FitN p N) (hM : N ≤ M) : FitN p M := ⟨Nat.le_trans h.1 hM, Nat.le_trans h.2.1 hM, h.2.2.1, h.2.2.2⟩
theorem FitN.addName {p : PD} {N : Nat} {s : ByteArray} (h : FitN p N) (hs : s.size ≤ 8000) : FitN { p with names := p.names ++ [s] } (N + 1) := by
  obtain ⟨h1, h2, h3, h4⟩ := h
  refine ⟨by simp; omega, by dsimp only; omega, fun x hx => ?_, h4⟩
  rcases List.mem_append.1 hx with hx | hx
  · exact h3 x hx
  · obtain rfl := List.mem_singleton.1 hx
    exact hs
theorem FitN.addHold {p : PD} {N : Nat} {y : HD} (h : FitN p N) (hs : y.f.size ≤ 8000) : FitN { p with holds := p.holds ++ [y] } (N + 1) := by
  obtain ⟨h1, h2, h3, h4⟩ := h
  refine ⟨by dsimp only; omega, by simp; omega, h3, fun x hx => ?_⟩
  rcases List.mem_append.1 hx with hx | hx
  · exact h4 x hx
  · obtain rfl := List.mem_singleton.1 hx
    exact hs
theorem FitN.withOffer {p : PD} {N : Nat} (h : FitN p N) (n : Int) : FitN { p with offer := n } N := h
theorem drop_at {l : List ByteArray} {k : Nat} {x : ByteArray} (h : l[k]? = some x) : l.drop k = x :: l.drop (k + 1) := by
  obtain ⟨hk, rfl⟩ := List.getElem?_eq_some_iff.1 h
  exact List.drop_eq_getElem_cons hk
end Go.Proofs.YtpncnkihfijmaaaGreatDoor
