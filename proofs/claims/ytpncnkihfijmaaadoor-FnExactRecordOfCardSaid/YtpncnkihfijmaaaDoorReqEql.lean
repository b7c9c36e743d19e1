/-
  Two requests held against each other.
-/
import Derived.Test.YtpncnkihfijmaaaDoorReq
namespace Go.Proofs.YtpncnkihfijmaaaDoor
open Go.ChangeShapes Go.WideShapes Go.ChangeAt Go.RowKit Go.ChangeMaps
set_option maxRecDepth 10000
set_option linter.unusedSimpArgs false
set_option linter.unusedVariables false

set_option maxHeartbeats 1000000 in
theorem req_eql (k t h l : Int) (n f : ByteArray) (r c o k' t' h' l' : Int) (n' f' : ByteArray) (r' c' o' : Int) (W : World) :
    (binOp .eql 30 (reqV k t h l n f r c o) (reqV k' t' h' l' n' f' r' c' o')).run Tryd.prog W = .ok (.bool (decide ((⟨k, t, h, l, n, f, r, c, o⟩ : RQ) = ⟨k', t', h', l', n', f', r', c', o'⟩))) W := by
  by_cases e : (⟨k, t, h, l, n, f, r, c, o⟩ : RQ) = ⟨k', t', h', l', n', f', r', c', o'⟩
  · rw [decide_eq_true e]
    cases e
    go_simp
  · rw [decide_eq_false e]
    have en : n.toList = n'.toList → n = n' := str_inj
    have ef : f.toList = f'.toList → f = f' := str_inj
    simp only [RQ.mk.injEq] at e
    go_simp
    intros
    simp_all
end Go.Proofs.YtpncnkihfijmaaaDoor
