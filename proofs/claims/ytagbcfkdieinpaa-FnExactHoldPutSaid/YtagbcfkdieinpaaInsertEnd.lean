/-
  slices.Insert of one hold into a row of the call's own: at its end.
-/
import Derived.Test.YtagbcfkdieinpaaPutL
import Derived.Test.YtagbcfkdieinpaaAppendLies
import Derived.Test.YtagbcfkdieinpaaBlocks
namespace Go.Proofs.Ytagbcfkdieinpaa
open Go.ChangeShapes Go.WideShapes Go.ChangeAt Go.RowKit Go.ChangeMaps
set_option linter.unusedSimpArgs false
set_option linter.unusedVariables false

/-- A block of one hold reads as a list of one. -/
theorem lies_one {W : World} {vb : Nat} {x : HD} (h : Block W vb 30 #[.string x.f, .int .i64 x.r, .int .i64 x.c]) : Lies W W.heap.size 3 (some ⟨vb, 0, none⟩) 1 (holdsC [x]) :=
  ⟨rfl, fun _ => ⟨vb, 0, rfl, h.lt, fun j u hu => by rw [Nat.zero_add, h.cell j]; simpa [holdsC, holdC] using hu⟩⟩

set_option maxHeartbeats 2000000 in
theorem insert_end (l : List HD) (x : HD) (v : Value) (base vb : Nat) (W : World) (hown : W.ownsRow base 30 3 v l.length (holdsC l)) (hv : Block W vb 30 #[.string x.f, .int .i64 x.r, .int .i64 x.c]) (hbase : base ≤ W.heap.size) (hm : l.length ≤ 1099511626) :
    Calls Try.prog 28 #[v, .int .i64 (l.length : Int), .slice (some ⟨vb, 0, none⟩) 1 1] W fun e w' => ∃ v', e = .returned v' ∧ w'.ownsRow base 30 3 v' (l.length + 1) (holdsC (l ++ [x])) ∧ Below base W w' := by
  obtain ⟨A, cap, rfl, hnc, hcm⟩ := own_form hown
  have HO := Lib.hid hown
  have HL := Lib.hid (lies_one hv)
  have HB : Hid (∀ k, (Value.slice A l.length cap).ownBlock = some k → base ≤ k) := ownBlock_from hown
  unfold maxLen at hcm
  clear hown hv
  go_enter Try.func28, Try.ntmps28
  go_wp2_with (at_builtin; have hq := HO.out; refine wpList_append_lies Try.underlying35 info_hold rfl (by decide) (by decide) base _ _ _ rfl hq W.heap.size _ _ _ _ rfl HL.out (holdsC_one _) (by omega) hbase ?_; intro v' w' hown' hg')
  all_goals
    go_ret
    exact ⟨v', by simp, by rw [holdsC_append]; exact hown', (Below.refl base W).grown hg' hbase HB.out⟩
end Go.Proofs.Ytagbcfkdieinpaa
