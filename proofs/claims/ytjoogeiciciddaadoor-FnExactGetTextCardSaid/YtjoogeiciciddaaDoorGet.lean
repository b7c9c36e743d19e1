/-
  GetNum: both functions; codeOf.
-/
import Derived.Test.YtjoogeiciciddaaDoorReadNum
import Derived.Test.YtjoogeiciciddaaDoorAs
import Derived.Handy
namespace Go.Proofs.YtjoogeiciciddaaDoor
open Go.ChangeShapes Go.WideShapes Go.ChangeAt Go.RowKit Go.ChangeMaps
set_option linter.unusedSimpArgs false
set_option linter.unusedVariables false

theorem codeOf_nil (w : World) : Calls Tryd.prog 12 #[.nilIface] w fun e w' => e = .returned (.int .i64 0) ∧ Below w.heap.size w w' := by
  go_enter Tryd.func12, Tryd.ntmps12
  go_wp2_with (go_at_call 16; refine (as_nil _ _).mono ?_; rintro e w' ⟨rfl, rfl⟩)
  go_ret
  exact ⟨rfl, (Below.refl _ _).alloc (Nat.le_refl _) _⟩

set_option maxHeartbeats 400000 in
theorem codeOf_hit (c : Int) (w : World) (hg : Handle w) : Calls Tryd.prog 12 #[.iface 42 (.agg #[.int .i64 c])] w fun e w' => e = .returned (.int .i64 c) ∧ Below w.heap.size w w' := by
  have hlt : 0 < w.heap.size := by
    rcases Nat.eq_zero_or_pos w.heap.size with h0 | h
    · simp [Handle, World.cell?, h0] at hg
    · exact h
  have hgA : (w.alloc (.cells #[.int .i64 0] 42)).cell? ⟨0, 0, none⟩ = some (.iface 63 (.agg #[.pointer (some ⟨1, 34, none⟩)])) := by
    rw [World.cell?_alloc_lt _ _ ⟨0, 0, none⟩ hlt]; exact hg
  have htA : (w.alloc (.cells #[.int .i64 0] 42)).cell? ⟨w.heap.size, 0, none⟩ = some (.int .i64 0) := by simp
  have hfA : (w.alloc (.cells #[.int .i64 0] 42)).frozen? ⟨w.heap.size, 0, none⟩ = false := by simp
  go_enter Tryd.func12, Tryd.ntmps12
  go_wp2_with (go_at_call 16; refine (as_hit c _ _ _ hgA htA hfA).mono ?_; rintro e w' ⟨rfl, rfl⟩)
  go_ret
  exact ⟨rfl, by go_grown⟩

theorem Handle.below {w w' : World} (h : Handle w) (hb : Below w.heap.size w w') : Handle w' := cell_later hb h
theorem codeOf_any (c : Int) (w : World) (hg : Handle w) : Calls Tryd.prog 12 #[errV c] w fun e w' => e = .returned (.int .i64 c) ∧ Below w.heap.size w w' := by
  by_cases h : c = 0
  · subst h
    exact codeOf_nil w
  · rw [errV, if_neg h]
    exact codeOf_hit c w hg

/-- A NumOut as a value. -/
def numOut (n q c : Int) : Value := .agg #[.int .i64 n, .int .i64 q, .int .i64 c]

set_option maxHeartbeats 400000 in
theorem iGetNum_any (s : ByteArray) (p : Int) (n q c : Int) (w : World) (hg : Handle w) (h1 : -9223372036854775808 ≤ p) (h2 : p ≤ 9223372036854775807) (hR : getN s p = (n, q, c)) :
    Calls Tryd.prog 6 #[.string s, .int .i64 p] w fun e w' => e = .returned (numOut n q c) ∧ Below w.heap.size w w' := by
  have HR := Lib.hid (fun W => readNum_any s p n q c W h1 h2 hR)
  have HG := Lib.hid hg
  have HC : Hid (∀ W, Handle W → Calls Tryd.prog 12 #[errV c] W fun e w' => e = .returned (.int .i64 c) ∧ Below W.heap.size W w') := fun W hW => codeOf_any c W hW
  generalize errV c = E at *
  clear hR h1 h2 hg
  go_enter Tryd.func6, Tryd.ntmps6
  go_wp2_with fail
  refine (HR.out _).mono ?_
  rintro e w1 ⟨rfl, rfl⟩
  go_wp2_with fail
  refine (HC.out _ (HG.out.below ((Below.refl _ _).alloc (Nat.le_refl _) _))).mono ?_
  rintro e w1 ⟨rfl, hb1⟩
  obtain ⟨d0, f0⟩ := newcell (w := w) hb1 0 rfl
  obtain ⟨d1, f1⟩ := newcell (w := w) hb1 1 rfl
  obtain ⟨d2, f2⟩ := newcell (w := w) hb1 2 rfl
  go_wp2_with fail
  refine bodyPost_ret (v := numOut n q c) (by simp [results, Tryd.results6, numOut, go_sem, d0, d1, d2]) rfl ?_
  exact ⟨rfl, (((((Below.refl _ _).alloc (Nat.le_refl _) _).trans (hb1.mono (by simp))).setCell (by simp) _).setCell (by simp) _).setCell (by simp) _⟩

set_option maxHeartbeats 400000 in
theorem eqNumOut_same (n q c : Int) (w : World) : Calls Tryd.prog 7 #[numOut n q c, numOut n q c] w fun e w' => e = .returned (.bool true) ∧ Below w.heap.size w w' := by
  unfold numOut
  go_enter Tryd.func7, Tryd.ntmps7
  go_wp2
  go_ret
  exact ⟨rfl, by go_grown⟩

end Go.Proofs.YtjoogeiciciddaaDoor
