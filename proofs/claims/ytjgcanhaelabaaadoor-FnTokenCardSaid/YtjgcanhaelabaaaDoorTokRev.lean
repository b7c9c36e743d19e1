/-
  What Revoke tells.
-/
import Derived.Test.YtjgcanhaelabaaaDoorTokOut
namespace Go.Proofs.YtjgcanhaelabaaaDoor
open Go.ChangeShapes Go.WideShapes Go.ChangeAt Go.RowKit Go.ChangeMaps
set_option maxRecDepth 10000
set_option linter.unusedSimpArgs false
set_option linter.unusedVariables false

/-- What Revoke tells. -/
def keepNo (l : List TK) (no : Int) : List TK := l.filter (fun x => !(x.n == no))
def revokeT (l : List TK) (no : Int) : List TK × Int × Int :=
  if 400 < l.length then ([], 0, 2) else if toksOkB l = true then (if (keepNo l no).length = l.length then ([], 0, 6) else (keepNo l no, 0, 0)) else ([], 0, 1)
theorem revoke_big {l : List TK} {no : Int} (h1 : 400 < l.length) : revokeT l no = ([], 0, 2) := if_pos h1
theorem revoke_form {l : List TK} {no : Int} (h1 : ¬ 400 < l.length) (h2 : toksOkB l = false) : revokeT l no = ([], 0, 1) := by rw [revokeT, if_neg h1, if_neg (by simp [h2])]
theorem revoke_none {l : List TK} {no : Int} (h1 : ¬ 400 < l.length) (h2 : toksOkB l = true) (h3 : (keepNo l no).length = l.length) : revokeT l no = ([], 0, 6) := by rw [revokeT, if_neg h1, if_pos h2, if_pos h3]
theorem revoke_one {l : List TK} {no : Int} (h1 : ¬ 400 < l.length) (h2 : toksOkB l = true) (h3 : ¬ (keepNo l no).length = l.length) : revokeT l no = (keepNo l no, 0, 0) := by rw [revokeT, if_neg h1, if_pos h2, if_neg h3]
theorem keepNo_le (l : List TK) (no : Int) : (keepNo l no).length ≤ l.length := List.length_filter_le _ _
theorem revoke_len (l : List TK) (no : Int) : (revokeT l no).1.length ≤ 1099511627 := by
  unfold revokeT
  split
  · simp
  · split
    · rename_i h2
      have := toks_len h2
      have := keepNo_le l no
      split
      · simp
      · show (keepNo l no).length ≤ _
        omega
    · simp
theorem keepNo_hit {l : List TK} {k : Nat} {x : TK} {no : Int} (h : l[k]? = some x) (hn : x.n = no) : keepNo (l.take (k + 1)) no = keepNo (l.take k) no := by
  rw [List.take_add_one, h, keepNo, List.filter_append]
  simp [keepNo, hn]
theorem keepNo_miss {l : List TK} {k : Nat} {x : TK} {no : Int} (h : l[k]? = some x) (hn : ¬ x.n = no) : keepNo (l.take (k + 1)) no = keepNo (l.take k) no ++ [x] := by
  rw [List.take_add_one, h, keepNo, List.filter_append]
  simp [keepNo, hn]
theorem keepNo_all {l : List TK} {no : Int} : (keepNo l no).length = l.length ↔ ∀ x ∈ l, x.n ≠ no := by
  rw [keepNo, List.length_filter_eq_length_iff]
  simp
end Go.Proofs.YtjgcanhaelabaaaDoor
