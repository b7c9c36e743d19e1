/-
  Holds: as values, as cells, as lists; HoldLess; the laws' own copies of a hold.
-/
import Derived.Test.YtihlilihipcfaaaDoorSeatSame
import Derived.WalkLawsBesides
namespace Go.Proofs.YtihlilihipcfaaaDoor
open Go.ChangeShapes Go.WideShapes Go.ChangeAt Go.RowKit Go.ChangeMaps
set_option maxRecDepth 10000
set_option linter.unusedSimpArgs false
set_option linter.unusedVariables false

structure HD where
  f : ByteArray
  r : Int
  c : Int
deriving DecidableEq

/-- A hold, as a value. -/
abbrev holdV (f : ByteArray) (r c : Int) : Value := .agg #[.string f, .int .i64 r, .int .i64 c]

/-- Which of two stands ahead. -/
def lessB (a b : HD) : Bool := if a.f = b.f then (if a.r = b.r then decide (a.c < b.c) else decide (a.r < b.r)) else Op.bytesLess a.f.toList b.f.toList

set_option maxHeartbeats 400000 in
theorem szHold_any (f : ByteArray) (r c n : Int) (w : World) (hs : f.size ≤ maxLen) (h0 : 0 ≤ n) (h1 : n ≤ 1048576) :
    Calls Tryd.prog 48 #[holdV f r c, .int .i64 n] w fun e w' => e = .returned (.int .i64 (if n < f.size then -1 else n - f.size)) ∧ Below w.heap.size w w' := by
  unfold maxLen at hs
  by_cases h : n < f.size
  · go_enter Tryd.func48, Tryd.ntmps48
    go_wp2
    go_ret
    exact ⟨rfl, by go_grown⟩
  · go_enter Tryd.func48, Tryd.ntmps48
    go_wp2
    go_ret
    exact ⟨rfl, by go_grown⟩

set_option maxHeartbeats 400000 in
theorem toHold_any (f : ByteArray) (r c : Int) (w : World) : Calls Tryd.prog 50 #[holdV f r c] w fun e w' => e = .returned (holdV f r c) ∧ Below w.heap.size w w' := by
  go_enter Tryd.func50, Tryd.ntmps50
  go_wp2
  refine bodyPost_ret (v := holdV f r c) (by simp [results, Tryd.results50, go_sem]) rfl ?_
  exact ⟨rfl, by go_grown⟩

set_option maxHeartbeats 400000 in
theorem eqHold_same (f : ByteArray) (r c : Int) (w : World) : Calls Tryd.prog 57 #[holdV f r c, holdV f r c] w fun e w' => e = .returned (.bool true) ∧ Below w.heap.size w w' := by
  go_enter Tryd.func57, Tryd.ntmps57
  go_wp2
  go_ret
  exact ⟨rfl, by go_grown⟩

set_option maxHeartbeats 400000 in
theorem iHoldLess_any (a b : HD) (w : World) : Calls Tryd.prog 63 #[holdV a.f a.r a.c, holdV b.f b.r b.c] w fun e w' => e = .returned (.bool (lessB a b)) ∧ Below w.heap.size w w' := by
  obtain ⟨af, ar, ac⟩ := a
  obtain ⟨bf, br, bc⟩ := b
  dsimp only
  by_cases hf : af = bf
  · subst hf
    by_cases hr : ar = br
    · subst hr
      go_enter Tryd.func63, Tryd.ntmps63
      go_wp2
      go_ret
      exact ⟨ret_bool (by simp [lessB]), by go_grown⟩
    · have hr' : (ar == br) = false := beq_eq_false_iff_ne.2 hr
      go_enter Tryd.func63, Tryd.ntmps63
      go_wp2
      go_ret
      exact ⟨ret_bool (by simp [lessB, hr]), by go_grown⟩
  · have hf' := str_ne hf
    go_enter Tryd.func63, Tryd.ntmps63
    go_wp2
    go_ret
    exact ⟨ret_bool (by simp [lessB, hf]), by go_grown⟩

set_option maxHeartbeats 400000 in
theorem sHoldLess_any (a b : HD) (w : World) : Calls Tryd.prog 61 #[holdV a.f a.r a.c, holdV b.f b.r b.c] w fun e w' => e = .returned (.bool (lessB a b)) ∧ Below w.heap.size w w' := by
  obtain ⟨af, ar, ac⟩ := a
  obtain ⟨bf, br, bc⟩ := b
  dsimp only
  by_cases hf : af = bf
  · subst hf
    by_cases hr : ar = br
    · subst hr
      go_enter Tryd.func61, Tryd.ntmps61
      go_wp2
      go_ret
      exact ⟨ret_bool (by simp [lessB]), by go_grown⟩
    · have hr' : (ar == br) = false := beq_eq_false_iff_ne.2 hr
      go_enter Tryd.func61, Tryd.ntmps61
      go_wp2
      go_ret
      exact ⟨ret_bool (by simp [lessB, hr]), by go_grown⟩
  · have hf' := str_ne hf
    go_enter Tryd.func61, Tryd.ntmps61
    go_wp2
    go_ret
    exact ⟨ret_bool (by simp [lessB, hf]), by go_grown⟩
end Go.Proofs.YtihlilihipcfaaaDoor
