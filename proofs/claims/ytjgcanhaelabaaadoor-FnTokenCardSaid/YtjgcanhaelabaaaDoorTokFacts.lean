/-
  What FnToken rests on: what was told of tokens; what the roles may; a world's state under the law.
-/
import Derived.Test.YtjgcanhaelabaaaDoorDrawT3
import Derived.Test.YtjgcanhaelabaaaDoorLwTok
import Derived.Test.YtjgcanhaelabaaaDoorLawRoleMay
import Derived.Test.YtjgcanhaelabaaaDoorIssueI
import Derived.Test.YtjgcanhaelabaaaDoorRevokeI
import Derived.Test.YtjgcanhaelabaaaDoorRevokeS
namespace Go.Proofs.YtjgcanhaelabaaaDoor
open Go.ChangeShapes Go.WideShapes Go.ChangeAt Go.RowKit Go.ChangeMaps
set_option maxRecDepth 10000
set_option linter.unusedSimpArgs false
set_option linter.unusedVariables false

theorem issue_len2 (l : List TK) (h r t : Int) (hl : l.length ≤ 30) : (issueT l h r t).1.length ≤ 31 := by
  unfold issueT
  split
  · simp
  · split
    · split
      · simp
      · simp; omega
    · simp
theorem issue_code (l : List TK) (h r t : Int) : (issueT l h r t).2.2 = 0 ∨ (issueT l h r t).2.2 = 1 ∨ (issueT l h r t).2.2 = 2 ∨ (issueT l h r t).2.2 = 9 := by
  unfold issueT
  split
  · simp
  · split
    · split <;> simp
    · simp
theorem revoke_len2 (l : List TK) (no : Int) (hl : l.length ≤ 30) : (revokeT l no).1.length ≤ 30 := by
  unfold revokeT
  split
  · simp
  · split
    · split
      · simp
      · exact Nat.le_trans (keepNo_le l no) hl
    · simp
theorem issue_bounds {l : List TK} {h r t : Int} (hc : (issueT l h r t).2.2 = 0) : (0 ≤ t ∧ t ≤ 1000000) ∧ 1 ≤ (issueT l h r t).2.1 ∧ (issueT l h r t).2.1 ≤ 999 := by
  unfold issueT at hc ⊢
  split at hc
  · cases hc
  · split at hc
    · rename_i h1 h2
      split at hc
      · cases hc
      · rename_i h3
        have hb := lastN_bound h2.1
        have hg := h2.2
        simp [grantB, inB] at hg
        rw [if_neg h1, if_pos h2, if_neg h3]
        dsimp only
        omega
    · cases hc

theorem may_mono (k : Int) : (mayB 1 k = true → mayB 2 k = true) ∧ (mayB 2 k = true → mayB 3 k = true) := by
  by_cases h : 1 ≤ k ∧ k ≤ 10
  · obtain ⟨j, rfl⟩ := nat_of (show 0 ≤ k by omega)
    have key : ∀ j : Fin 11, (mayB 1 (j.1 : Int) = true → mayB 2 (j.1 : Int) = true) ∧ (mayB 2 (j.1 : Int) = true → mayB 3 (j.1 : Int) = true) := by decide +kernel
    exact key ⟨j, by omega⟩
  · have : ∀ r : Int, mayB r k = false := fun r => by rw [mayB, decide_eq_false (by omega)]; rfl
    simp [this]

theorem MayT.on {W W' : World} (h : MayT W) (hb : Below W.heap.size W W') : MayT W' :=
  h.below (World.block_lt_of_cell? W _ (h 0 0 _ _ rfl rfl (by omega))) hb
theorem MayT.drew {W : World} (h : MayT W) : MayT W.drew := h

/-- The law's state: nothing that lay has turned; the table, both codes and the lists ts lie. -/
def TSt (w : World) (A : Option Addr) (l : List UInt8) (A' : Option Addr) (l' : List UInt8) (ts : List (Option Addr × List TK)) (W : World) : Prop :=
  Below w.heap.size w W ∧ MayT W ∧ Lies W W.heap.size 1 A l.length (bytesV l) ∧ Lies W W.heap.size 1 A' l'.length (bytesV l') ∧ ∀ x ∈ ts, Lies W W.heap.size 4 x.1 x.2.length (toksC x.2)
section
variable {w W W' : World} {A A' : Option Addr} {l l' : List UInt8} {ts : List (Option Addr × List TK)}
theorem TSt.on (h : TSt w A l A' l' ts W) (hb : Below W.heap.size W W') : TSt w A l A' l' ts W' :=
  ⟨h.1.trans (hb.mono h.1.size), h.2.1.on hb, h.2.2.1.on hb, h.2.2.2.1.on hb, fun x hx => (h.2.2.2.2 x hx).on hb⟩
theorem TSt.alloc (h : TSt w A l A' l' ts W) (o : Obj) : TSt w A l A' l' ts (W.alloc o) := h.on ((Below.refl _ W).alloc (Nat.le_refl _) o)
theorem TSt.add (h : TSt w A l A' l' ts W) {B : Option Addr} {L : List TK} (hL : Lies W W.heap.size 4 B L.length (toksC L)) : TSt w A l A' l' ((B, L) :: ts) W :=
  ⟨h.1, h.2.1, h.2.2.1, h.2.2.2.1, List.forall_mem_cons.2 ⟨hL, h.2.2.2.2⟩⟩
theorem TSt.has (h : TSt w A l A' l' ts W) {B : Option Addr} {L : List TK} (i : Nat) (hi : ts[i]? = some (B, L)) : Lies W W.heap.size 4 B L.length (toksC L) := h.2.2.2.2 (B, L) (List.mem_of_getElem? hi)
end
end Go.Proofs.YtjgcanhaelabaaaDoor
