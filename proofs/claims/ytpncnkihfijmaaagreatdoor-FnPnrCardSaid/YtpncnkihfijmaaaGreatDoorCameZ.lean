/-
  What has come in a range over holds; append as one step, inside a fence.
-/
import Derived.Test.YtpncnkihfijmaaaGreatDoorEachHoldZ
import Derived.Test.YtpncnkihfijmaaaGreatDoorM1
import Derived.Test.YtpncnkihfijmaaaGreatDoorM3
namespace Go.Proofs.YtpncnkihfijmaaaGreatDoor
open Go.ChangeShapes Go.WideShapes Go.ChangeAt Go.RowKit Go.ChangeMaps
set_option maxRecDepth 10000
set_option linter.unusedSimpArgs false
set_option linter.unusedVariables false
attribute [local go_sem] Oper.semAt_some

/-- append as one step of a region that draws, inside a fence, its run known by an equation. -/
theorem stepIn_append_run {F : Fence} {n : Nat} {P : Program} {ops : Array Oper} {o : Oper} {a : Act} {w : World} {K : Act → World → Prop} {Q : Exit → Act → World → Prop} {E : Prop}
    (hg : o.guard = none) (s x : Operand) (t : TypeId) (hop : o.op = Op.call { callee := Callee.builtin Builtin.append, args := #[s, x], argTypes := #[t, t] })
    (v u : Value) (hs : a.eval s = v) (hx : a.eval x = u) {v' : Value} {w' : World} (hr : (Builtin.append_ #[t, t] o.type #[v, u]).run P w = .ok v' w') (hK : K (a.put o.dst v') w') :
    if Region.wanted o (yielded ops a.tmps) = true then Oper.wpIn F n P o a w K Q else E := by
  have hw : Region.wanted o (yielded ops a.tmps) = true := by simp [Region.wanted, hg]
  rw [if_pos hw]
  unfold Oper.wpIn
  refine ⟨?_, ?_⟩
  · simp [Oper.about, hop, resolve, Target.leads, Sem.run_pure]
  · rw [Oper.semAt_plain F _ _ (by rw [hop]; intro c hc'; cases hc')]
    simp [execOp, hop, resolve, invoke, builtin, hs, hx, hr, Result.andThen]
    exact hK

/-- What has come. -/
def came (l : List HD) (pre : List (Fin l.length)) : List HD := pre.map fun y => hAt l y.1
theorem came_all {l : List HD} {ys : List (Fin l.length)} (h : FirstK l.length ys) : came l ys = l := by
  have e : came l ys = (ys.map (·.1)).map (hAt l) := by simp [came]
  rw [e, h]
  refine List.ext_getElem (by simp) fun i h1 h2 => ?_
  have := at_hAt (l := l) (j := i) (by simpa using h2)
  rw [List.getElem?_eq_getElem (by simpa using h2)] at this
  simpa using (Option.some.inj this).symm
theorem came_snoc (l : List HD) (pre : List (Fin l.length)) (x : Fin l.length) : holdsC (came l (pre ++ [x])) = holdsC (came l pre) ++ holdC (hAt l x.1) := by
  rw [came, List.map_append, holdsC_append]
  simp [came, holdsC]
end Go.Proofs.YtpncnkihfijmaaaGreatDoor
