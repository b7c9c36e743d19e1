/-
  append as one step of a region that draws; what a block holds, read as a list.
-/
import Derived.Test.YtpncnkihfijmaaaDoorAppendLies
import Derived.Test.YtpncnkihfijmaaaDoorBlocks
import Derived.Deep.RegionLaw
namespace Go.Proofs.YtpncnkihfijmaaaDoor
open Go.ChangeShapes Go.WideShapes Go.ChangeAt Go.RowKit Go.ChangeMaps
set_option maxRecDepth 10000
set_option linter.unusedSimpArgs false
set_option linter.unusedVariables false

/-- append as one step of a region that draws. -/
theorem step_app {P : Program} {ops : Array Oper} {o : Oper} {a : Act} {w : World} {K : Act → World → Prop} {Q : Exit → Act → World → Prop} {E : Prop} (hg : o.guard = none) (s x : Operand) (t : TypeId) (hop : o.op = Op.call { callee := Callee.builtin Builtin.append, args := #[s, x], argTypes := #[t, t] })
    {e : TypeId} {z : Value} {k bytes : Nat} (ht : P.underlying t = some (.slice e)) (hi : (P.info? e).map (fun i => (i.zero, i.size, i.bytes)) = some (some z, k, bytes)) (hzs : z.cells.size = k) (hk : 0 < k) (hby : bytes ≤ 1000)
    {base n : Nat} {v : Value} {xs : List Value} (hown : w.ownsRow base e k v n xs) (hs : a.eval s = v) {B m c : Nat} {A : Option Addr} {news : List Value} (hl : Lies w B k A m news) (hx : a.eval x = .slice A m c)
    (h1 : ∀ u ∈ news, u.oneCell' = true) (hlen : n + m ≤ 1099511627) (hbase : base ≤ w.heap.size)
    (h : ∀ A' c' w', w'.ownsRow base e k (.slice A' (n + m) c') (n + m) (xs ++ news) → w.grownBy w' v.ownBlock → K (a.put o.dst (.slice A' (n + m) c')) w') :
    if Region.wanted o (yielded ops a.tmps) = true then Oper.wp P o a w K Q else E := by
  have hw : Region.wanted o (yielded ops a.tmps) = true := by simp [Region.wanted, hg]
  rw [if_pos hw]
  obtain ⟨v', w', hr, h2, h3⟩ := run_append_lies (ty := o.type) (c := c) ht hi hzs hk hby hown hl h1 hlen hbase
  obtain ⟨A', c', rfl, -, -⟩ := own_form h2
  unfold Oper.wp
  simp [execOp, hop, resolve, invoke, builtin, hs, hx, hr, Result.andThen]
  exact h A' c' w' h2 h3
/-- What a block holds, read as one element. -/
theorem lies_block {w : World} {g : Nat} {t : TypeId} {cs : Array Value} (h : Block w g t cs) {k : Nat} (hk : cs.size = k) : Lies w w.heap.size k (some ⟨g, 0, none⟩) 1 cs.toList :=
  ⟨by simp [hk], fun _ => ⟨g, 0, rfl, h.lt, fun j u hu => by rw [Nat.zero_add, h.cell j]; simpa using hu⟩⟩
/-- .. as some elements of one cell each. -/
theorem lies_blockN {w : World} {g : Nat} {t : TypeId} {cs : Array Value} (h : Block w g t cs) {n : Nat} (hk : cs.size = n) : Lies w w.heap.size 1 (some ⟨g, 0, none⟩) n cs.toList :=
  ⟨by simp [hk], fun _ => ⟨g, 0, rfl, h.lt, fun j u hu => by rw [Nat.zero_add, h.cell j]; simpa using hu⟩⟩
end Go.Proofs.YtpncnkihfijmaaaDoor
