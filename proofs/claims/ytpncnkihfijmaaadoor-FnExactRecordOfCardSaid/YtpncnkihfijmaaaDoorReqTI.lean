/-
  impl.ReqText: the walk, by kind. (By gen_reqti.py.)
-/
import Derived.Test.YtpncnkihfijmaaaDoorReqW
import Derived.Test.YtpncnkihfijmaaaDoorKindW
import Derived.Test.YtpncnkihfijmaaaDoorJoinS
import Derived.Test.YtpncnkihfijmaaaDoorReqRightJ
namespace Go.Proofs.YtpncnkihfijmaaaDoor
open Go.ChangeShapes Go.WideShapes Go.ChangeAt Go.RowKit Go.ChangeMaps
set_option maxRecDepth 10000
set_option linter.unusedSimpArgs false
set_option linter.unusedVariables false

/-- Whose words a kind has: at a world behind w. -/
def WordsAt (w : World) (F : FuncId) (v : Value) (ps : List ByteArray) (m : Nat) : Prop :=
  ∀ W : World, Below w.heap.size w W → Calls Tryd.prog F #[v] W fun e w' => (∃ A c, e = .returned (.slice A m c) ∧ w'.ownsRow w.heap.size 9 1 (.slice A m c) m (strsC ps)) ∧ Below W.heap.size W w' ∧ Below w.heap.size w w'
theorem words_at {w : World} {F : FuncId} {v : Value} {ps : List ByteArray} (h : ∀ W, Calls Tryd.prog F #[v] W (WMade W ps)) : WordsAt w F v ps ps.length := fun W hW =>
  (h W).mono fun e w' ⟨A, c, he, ho, hb⟩ => ⟨⟨A, c, he, ownsRow_base ho hW.size⟩, hb, hW.trans (hb.mono hW.size)⟩
/-- Join of a row of one's own. -/
theorem join_own {w W : World} {A : Option Addr} {c m : Nat} {xs : List ByteArray} {R : ByteArray} (h : W.ownsRow w.heap.size 9 1 (.slice A m c) m (strsC xs)) (hm : m = xs.length) (h0 : 0 < m) (h1 : m ≤ 1000) (hR : (⟨(Lib.join (xs.map (·.data.toList)) spA.data.toList).toArray⟩ : ByteArray) = R) (hs : R.size ≤ 1000) :
    Calls Tryd.prog 16 #[.slice A m c, .string spA] W fun e w' => e = .returned (.string R) ∧ Below W.heap.size W w' := by
  subst hm
  obtain ⟨g, cap, hv, _, hnc, _, hlt, hc⟩ := row_at h h0
  injection hv with h1 h2 h3
  subst h1 h3
  have := join_any g c xs spA W (fun j x hx => hc j _ (strsC_at hx)) hlt h1 hnc (by rw [← hR, bsize] at hs; exact hs)
  rw [hR] at this
  exact this
end Go.Proofs.YtpncnkihfijmaaaDoor
