/-
  impl.PnrText: the round over the holds.
-/
import Derived.Test.YtpncnkihfijmaaaGreatDoorPartsZ
import Derived.Test.YtpncnkihfijmaaaGreatDoorCameZ
namespace Go.Proofs.YtpncnkihfijmaaaGreatDoor
open Go.ChangeShapes Go.WideShapes Go.ChangeAt Go.RowKit Go.ChangeMaps
set_option maxRecDepth 10000
set_option linter.unusedSimpArgs false
set_option linter.unusedVariables false
attribute [local go_sem] Oper.semAt_some

def TextJ (bk : Array Value) (w : World) (g : Nat) (P2 : List ByteArray) (l : List HD) (pre : List (Fin l.length)) (W : World) : Prop :=
  ((∃ v, Boxed W g 37 v ∧ W.ownsRow w.heap.size 9 1 v (partsH P2 (came l pre)).length (strsC (partsH P2 (came l pre))) ∧ True) ∧ Block W w.heap.size 40 bk) ∧ Below w.heap.size w W
theorem TextJ.pb {bk : Array Value} {w W : World} {g : Nat} {P2 : List ByteArray} {l : List HD} {pre : List (Fin l.length)} (h : TextJ bk w g P2 l pre W) (hg : w.heap.size < g) : PBx bk w g (partsH P2 (came l pre)) W := by
  obtain ⟨⟨⟨v, h1, h2, -⟩, h3⟩, h4⟩ := h
  exact ⟨v, h1, h2, h3, h4, hg⟩
theorem PBx.tj {bk : Array Value} {w W : World} {g : Nat} {P2 : List ByteArray} {l : List HD} {pre : List (Fin l.length)} (h : PBx bk w g (partsH P2 (came l pre)) W) : TextJ bk w g P2 l pre W := by
  obtain ⟨v, h1, h2, h3, h4, -⟩ := h
  exact ⟨⟨⟨v, h1, h2, trivial⟩, h3⟩, h4⟩
def TextAx (g : Nat) (w : World) (l : List HD) (x : Fin l.length) (a' : Act) (W : World) : Prop :=
  ∃ Bx, w.heap.size < Bx ∧ Block W Bx 49 #[.string (hAt l x.1).f, .int .i64 (hAt l x.1).r, .int .i64 (hAt l x.1).c] ∧ ∃ u0 u1 u2 u4 u5 u6 u8 u9 u10 u11 u12 u13 u14 u15 u16 u17 u18 u19 u20 u21 u22 u23 u24 u25 u26 u27 u28 u29 u30 u31 u32 u33 u34 u35 u36 u37 u38 u39 u40 u41 u42 u43 u44 u45 u46 u47 u48 u49 u50 u51 u52 u53 u54 u55 u56 u57 u58 : Value, a' = { tmps := #[u0, u1, u2, .pointer (some ⟨g, 0, none⟩), u4, u5, u6, .pointer (some ⟨Bx, 0, none⟩), u8, u9, u10, u11, u12, u13, u14, u15, u16, u17, u18, u19, u20, u21, u22, u23, u24, u25, u26, u27, u28, u29, u30, u31, u32, u33, u34, u35, u36, u37, u38, u39, u40, u41, u42, u43, u44, u45, u46, u47, u48, u49, u50, u51, u52, u53, u54, u55, u56, u57, u58], defers := [] }
end Go.Proofs.YtpncnkihfijmaaaGreatDoor
