/-
  A request among a law's arguments: what it is.
-/
import Derived.Test.YtpncnkihfijmaaaDoorReq
import Derived.Lib.SmallJoins
import Derived.Deep.Slices
namespace Go.Proofs.YtpncnkihfijmaaaDoor
open Go.ChangeShapes Go.WideShapes Go.ChangeAt Go.RowKit Go.ChangeMaps
set_option maxRecDepth 10000
set_option linter.unusedSimpArgs false
set_option linter.unusedVariables false

section
variable {H : Type} {enc : TypeId × Value → H} {w : World} {base : Nat} {spare : Nat → Bool} {held : Bool}
theorem cellsR_seat : Tryd.prog.cellsOf 23 = 2 := by kernel_rfl
theorem cellsR_req : Tryd.prog.cellsOf 25 = 9 := by kernel_rfl
theorem cellsR_int : Tryd.prog.cellsOf 2 = 1 := by kernel_rfl
theorem cellsR_str : Tryd.prog.cellsOf 9 = 1 := by kernel_rfl

theorem trodR_seat {fuel : Nat} {cs : List Value} {x : DataW H × List MemPlace} (h : DataW.trod enc Tryd.prog w base spare held fuel 23 cs = some x) : ∃ r c : Int, cs = [.int .i64 r, .int .i64 c] := by
  obtain ⟨xs, n, _, hx, hl, hlen, hg⟩ := DataW.trod_struct Tryd.underlying23 h
  rw [cellsR_seat] at hl
  match cs, hl, xs, hlen with
  | [c0, c1], _, [y0, y1], _ =>
    have g0 : DataW.trod enc Tryd.prog w base spare held n 2 (([c0, c1].drop 0).take (Tryd.prog.cellsOf 2)) = some y0 := hg 0 _ rfl
    have g1 : DataW.trod enc Tryd.prog w base spare held n 2 (([c0, c1].drop 1).take (Tryd.prog.cellsOf 2)) = some y1 := hg 1 _ rfl
    rw [cellsR_int] at g0 g1
    obtain ⟨r, e0, q0, _⟩ := DataW.trod_int Tryd.underlying2 g0
    obtain ⟨c, e1, q1, _⟩ := DataW.trod_int Tryd.underlying2 g1
    simp at e0 e1
    subst e0 e1
    exact ⟨r, c, rfl⟩

theorem trod_req {fuel : Nat} {cs : List Value} {x : DataW H × List MemPlace} (h : DataW.trod enc Tryd.prog w base spare held fuel 25 cs = some x) :
    ∃ (k t h l : Int) (n f : ByteArray) (r c o : Int), cs = [.int .i64 k, .int .i64 t, .int .i64 h, .int .i64 l, .string n, .string f, .int .i64 r, .int .i64 c, .int .i64 o] ∧ n.size ≤ maxLen ∧ f.size ≤ maxLen := by
  obtain ⟨xs, n, _, hx, hl, hlen, hg⟩ := DataW.trod_struct Tryd.underlying25 h
  rw [cellsR_req] at hl
  match cs, hl, xs, hlen with
  | [c0, c1, c2, c3, c4, c5, c6, c7, c8], _, [y0, y1, y2, y3, y4, y5, y6, y7], _ =>
    have g0 : DataW.trod enc Tryd.prog w base spare held n 2 (([c0, c1, c2, c3, c4, c5, c6, c7, c8].drop 0).take (Tryd.prog.cellsOf 2)) = some y0 := hg 0 _ rfl
    have g1 : DataW.trod enc Tryd.prog w base spare held n 2 (([c0, c1, c2, c3, c4, c5, c6, c7, c8].drop 1).take (Tryd.prog.cellsOf 2)) = some y1 := hg 1 _ rfl
    have g2 : DataW.trod enc Tryd.prog w base spare held n 2 (([c0, c1, c2, c3, c4, c5, c6, c7, c8].drop 2).take (Tryd.prog.cellsOf 2)) = some y2 := hg 2 _ rfl
    have g3 : DataW.trod enc Tryd.prog w base spare held n 2 (([c0, c1, c2, c3, c4, c5, c6, c7, c8].drop 3).take (Tryd.prog.cellsOf 2)) = some y3 := hg 3 _ rfl
    have g4 : DataW.trod enc Tryd.prog w base spare held n 9 (([c0, c1, c2, c3, c4, c5, c6, c7, c8].drop 4).take (Tryd.prog.cellsOf 9)) = some y4 := hg 4 _ rfl
    have g5 : DataW.trod enc Tryd.prog w base spare held n 9 (([c0, c1, c2, c3, c4, c5, c6, c7, c8].drop 5).take (Tryd.prog.cellsOf 9)) = some y5 := hg 5 _ rfl
    have g6 : DataW.trod enc Tryd.prog w base spare held n 23 (([c0, c1, c2, c3, c4, c5, c6, c7, c8].drop 6).take (Tryd.prog.cellsOf 23)) = some y6 := hg 6 _ rfl
    have g7 : DataW.trod enc Tryd.prog w base spare held n 2 (([c0, c1, c2, c3, c4, c5, c6, c7, c8].drop 8).take (Tryd.prog.cellsOf 2)) = some y7 := hg 7 _ rfl
    rw [cellsR_int] at g0 g1 g2 g3 g7
    rw [cellsR_str] at g4 g5
    rw [cellsR_seat] at g6
    obtain ⟨a0, e0, -, _⟩ := DataW.trod_int Tryd.underlying2 g0
    obtain ⟨a1, e1, -, _⟩ := DataW.trod_int Tryd.underlying2 g1
    obtain ⟨a2, e2, -, _⟩ := DataW.trod_int Tryd.underlying2 g2
    obtain ⟨a3, e3, -, _⟩ := DataW.trod_int Tryd.underlying2 g3
    obtain ⟨s4, e4, -, hs4⟩ := DataW.trod_string Tryd.underlying9 g4
    obtain ⟨s5, e5, -, hs5⟩ := DataW.trod_string Tryd.underlying9 g5
    obtain ⟨r, c, e6⟩ := trodR_seat g6
    obtain ⟨a7, e7, -, _⟩ := DataW.trod_int Tryd.underlying2 g7
    simp at e0 e1 e2 e3 e4 e5 e6 e7
    obtain ⟨rfl, rfl⟩ := e6
    subst e0 e1 e2 e3 e4 e5 e7
    exact ⟨a0, a1, a2, a3, s4, s5, r, c, a7, rfl, hs4, hs5⟩

theorem open_req {r : Reach} {b0 : Nat} {v : Value} {d : DataW H} {p : List MemPlace} (hv : Value.okWide Tryd.prog w r b0 25 v) (h : DataW.Trod enc Tryd.prog w base spare held 25 v d p) :
    ∃ (k t h l : Int) (n f : ByteArray) (r c o : Int), v = reqV k t h l n f r c o ∧ n.size ≤ maxLen ∧ f.size ≤ maxLen := by
  obtain ⟨cs, rfl, hsz⟩ := okWide_struct Tryd.underlying25 hv
  obtain ⟨fuel, hf⟩ := h
  obtain ⟨k, t, h, l, n, f, r, c, o, hc, hn, hfs⟩ := trod_req hf
  obtain ⟨cs⟩ := cs
  have hcs : cs = [.int .i64 k, .int .i64 t, .int .i64 h, .int .i64 l, .string n, .string f, .int .i64 r, .int .i64 c, .int .i64 o] := hc
  subst hcs
  exact ⟨k, t, h, l, n, f, r, c, o, rfl, hn, hfs⟩
end
end Go.Proofs.YtpncnkihfijmaaaDoor
