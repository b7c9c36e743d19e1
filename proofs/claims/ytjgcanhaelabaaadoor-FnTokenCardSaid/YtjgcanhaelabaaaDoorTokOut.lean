/-
  What Issue and Revoke tell: tokens in memory of the call's own, a number, a code.
-/
import Derived.Test.YtjgcanhaelabaaaDoorTokMap
import Derived.Test.YtjgcanhaelabaaaDoorTokOkS
import Derived.Test.YtjgcanhaelabaaaDoorBlocks
import Derived.Test.YtjgcanhaelabaaaDoorAppendLies
namespace Go.Proofs.YtjgcanhaelabaaaDoor
open Go.ChangeShapes Go.WideShapes Go.ChangeAt Go.RowKit Go.ChangeMaps
set_option maxRecDepth 10000
set_option linter.unusedSimpArgs false
set_option linter.unusedVariables false

abbrev outV (A : Option Addr) (n c : Nat) (no code : Int) : Value := .agg #[.slice A n c, .int .i64 no, .int .i64 code]
/-- The box of a result, as it is laid. -/
abbrev outW (w : World) : World := w.alloc (.cells #[.slice none 0 0, .int .i64 0, .int .i64 0] 28)

def ToksMade (o : List TK × Int × Int) (w : World) (e : Ending) (w' : World) : Prop :=
  ∃ (A : Option Addr) (c : Nat), e = .returned (outV A o.1.length c o.2.1 o.2.2) ∧ w'.ownsRow (w.heap.size + 1) 39 4 (.slice A o.1.length c) o.1.length (toksC o.1) ∧ Below w.heap.size w w'
theorem toksMade_err {o : List TK × Int × Int} {w w' : World} {no code : Int} {e : Ending} (ho : o = ([], no, code)) (he : e = .returned (outV none 0 0 no code)) (hb : Below w.heap.size w w') : ToksMade o w e w' := by
  subst ho
  exact ⟨none, 0, he, World.ownsRow_nil _ _ _ _, hb⟩
theorem toksMade_row {o : List TK × Int × Int} {w w' : World} {l : List TK} {no code : Int} {v : Value} {n : Nat} {xs : List Value} {e : Ending} (ho : o = (l, no, code)) (hown : w'.ownsRow (w.heap.size + 1) 39 4 v n xs) (hn : n = l.length) (hx : xs = toksC l) (he : e = .returned (.agg #[v, .int .i64 no, .int .i64 code])) (hb : Below w.heap.size w w') : ToksMade o w e w' := by
  subst ho hn hx
  obtain ⟨A, c, rfl, -⟩ := own_form hown
  exact ⟨A, c, he, hown, hb⟩

/-- A row of one's own behind a store into another block. -/
theorem row_far {w : World} {base : Nat} {e : TypeId} {k n : Nat} {v : Value} {xs : List Value} (h : w.ownsRow base e k v n xs) (p : Addr) (hp : p.block < base) (u : Value) : (w.setCell p u).ownsRow base e k v n xs := by
  refine h.kept (row := some p.block) ⟨rfl, rfl, rfl, by simp, fun j hj hne => Below.heap_setCell w p u j (fun e => hne (by rw [e]))⟩ ?_
  cases hv : v.ownBlock with
  | none => exact .inl rfl
  | some g => exact .inr fun he => by have := (h.lt g hv).1; cases he; omega
theorem row_out {w : World} {base g : Nat} {e : TypeId} {k n : Nat} {v : Value} {xs : List Value} (h : w.ownsRow base e k v n xs) (hg : g < base) (u0 u1 u2 : Value) : (((w.setCell ⟨g, 0, none⟩ u0).setCell ⟨g, 1, none⟩ u1).setCell ⟨g, 2, none⟩ u2).ownsRow base e k v n xs :=
  row_far (row_far (row_far h _ hg _) _ hg _) _ hg _
theorem below_out {w w' : World} (h : Below w.heap.size w w') {g : Nat} (hg : w.heap.size ≤ g) (u0 u1 u2 : Value) : Below w.heap.size w (((w'.setCell ⟨g, 0, none⟩ u0).setCell ⟨g, 1, none⟩ u1).setCell ⟨g, 2, none⟩ u2) :=
  ((h.setCell (p := ⟨g, 0, none⟩) hg _).setCell (p := ⟨g, 1, none⟩) hg _).setCell (p := ⟨g, 2, none⟩) hg _

/-- The greatest number, and 0 where there is none. -/
def lastN (l : List TK) : Int := if l.length = 0 then 0 else (tAt l (l.length - 1)).n
theorem lastN_bound {l : List TK} (h : toksOkB l = true) : 0 ≤ lastN l ∧ lastN l ≤ 999 := by
  unfold lastN
  split
  · omega
  · have hk : l.length - 1 < l.length := by omega
    have hx := List.getElem?_eq_getElem hk
    have := (toks_at h hx).1
    rw [tAt_of hx]
    omega

/-- What Issue tells. -/
def issueT (l : List TK) (h r t : Int) : List TK × Int × Int :=
  if 400 < l.length then ([], 0, 2) else if toksOkB l = true ∧ grantB h r t = true then (if l.length = 20 ∨ 999 < lastN l + 1 then ([], 0, 9) else (l ++ [⟨lastN l + 1, h, r, t⟩], lastN l + 1, 0)) else ([], 0, 1)
theorem issue_big {l : List TK} {h r t : Int} (h1 : 400 < l.length) : issueT l h r t = ([], 0, 2) := if_pos h1
theorem issue_form {l : List TK} {h r t : Int} (h1 : ¬ 400 < l.length) (h2 : toksOkB l = false ∨ grantB h r t = false) : issueT l h r t = ([], 0, 1) := by
  rw [issueT, if_neg h1, if_neg (by rcases h2 with h2 | h2 <;> simp [h2])]
theorem issue_full {l : List TK} {h r t : Int} (h1 : ¬ 400 < l.length) (h2 : toksOkB l = true) (h3 : grantB h r t = true) (h4 : l.length = 20 ∨ 999 < lastN l + 1) : issueT l h r t = ([], 0, 9) := by
  rw [issueT, if_neg h1, if_pos ⟨h2, h3⟩, if_pos h4]
theorem issue_one {l : List TK} {h r t : Int} (h1 : ¬ 400 < l.length) (h2 : toksOkB l = true) (h3 : grantB h r t = true) (h4 : ¬ (l.length = 20 ∨ 999 < lastN l + 1)) : issueT l h r t = (l ++ [⟨lastN l + 1, h, r, t⟩], lastN l + 1, 0) := by
  rw [issueT, if_neg h1, if_pos ⟨h2, h3⟩, if_neg h4]
theorem issue_len (l : List TK) (h r t : Int) : (issueT l h r t).1.length ≤ 1099511627 := by
  unfold issueT
  split
  · simp
  · split
    · rename_i h2
      have := toks_len h2.1
      split
      · simp
      · simp; omega
    · simp
end Go.Proofs.YtjgcanhaelabaaaDoor
