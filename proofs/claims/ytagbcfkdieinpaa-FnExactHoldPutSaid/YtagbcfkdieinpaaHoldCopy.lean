/-
  impl.holdCopy: the walk.
-/
import Derived.Test.YtagbcfkdieinpaaJoined
import Derived.Test.YtagbcfkdieinpaaHolds
import Derived.Test.YtagbcfkdieinpaaKept
import Derived.Test.YtagbcfkdieinpaaBlocks
import Derived.Deep.RegionWith
namespace Go.Proofs.Ytagbcfkdieinpaa
open Go.ChangeShapes Go.WideShapes Go.ChangeAt Go.RowKit Go.ChangeMaps
set_option linter.unusedSimpArgs false
set_option linter.unusedVariables false

/-- joined of one text, in a block laid for it, a draw ago. -/
theorem joined_lone (a : ByteArray) (W : World) (e' : TypeId) (g : Nat) (hg : g = W.heap.size) (h : a.size ≤ 1099511627776) :
    Calls Try.prog 47 #[.slice (some ⟨g, 0, none⟩) 1 1] (W.alloc (.cells #[.string a] e')).drew fun e w' => e = .returned (.string a) ∧ Below W.heap.size W w' := by
  subst hg
  exact (joined_one a W.drew e' h).mono fun e w' ⟨h1, h2⟩ => ⟨h1, (Below.refl _ W).drew.trans h2⟩

set_option maxHeartbeats 4000000 in
theorem holdCopy_any (x : HD) (w : World) (hx : x.f.size ≤ 1099511627776) :
    Calls Try.prog 29 #[holdV x.f x.r x.c] w fun e w' => e = .returned (holdV x.f x.r x.c) ∧ Below w.heap.size w w' := by
  obtain ⟨f, r, c⟩ := x
  dsimp only at *
  have hq : (w.alloc (.cells #[.string f, .int .i64 r, .int .i64 c] 30)).heap.size = w.heap.size + 1 := by simp
  have HJ := Lib.hid (joined_lone f ((w.alloc (.cells #[.string f, .int .i64 r, .int .i64 c] 30)).alloc (.cells #[.string ⟨#[]⟩, .int .i64 0, .int .i64 0] 30)) 9 (w.heap.size + 1 + 1) (by simp) hx)
  have bX := (Block.new w #[.string f, .int .i64 r, .int .i64 c] 30).alloc (.cells #[.string ⟨#[]⟩, .int .i64 0, .int .i64 0] 30)
  have bR := Block.new (w.alloc (.cells #[.string f, .int .i64 r, .int .i64 c] 30)) #[.string ⟨#[]⟩, .int .i64 0, .int .i64 0] 30
  rw [hq] at bR
  have hB : Below w.heap.size w ((w.alloc (.cells #[.string f, .int .i64 r, .int .i64 c] 30)).alloc (.cells #[.string ⟨#[]⟩, .int .i64 0, .int .i64 0] 30)) := ((Below.refl _ w).alloc (Nat.le_refl _) _).alloc (by simp) _
  have hs : ((w.alloc (.cells #[.string f, .int .i64 r, .int .i64 c] 30)).alloc (.cells #[.string ⟨#[]⟩, .int .i64 0, .int .i64 0] 30)).heap.size = w.heap.size + 2 := by simp
  obtain ⟨W2, hW2⟩ : ∃ W2, W2 = (w.alloc (.cells #[.string f, .int .i64 r, .int .i64 c] 30)).alloc (.cells #[.string ⟨#[]⟩, .int .i64 0, .int .i64 0] 30) := ⟨_, rfl⟩
  have HP : Hid (∀ w1, Below W2.heap.size W2 w1 → Block w1 w.heap.size 30 #[.string f, .int .i64 r, .int .i64 c] ∧ Block w1 (w.heap.size + 1) 30 #[.string ⟨#[]⟩, .int .i64 0, .int .i64 0] ∧ Below w.heap.size w w1) := fun w1 h => by
    rw [← hW2] at bX bR hB hs
    exact ⟨bX.below h (by omega), bR.below h (by omega), hB.trans (h.mono (by omega))⟩
  rw [hW2] at HP
  clear hW2 W2 bX bR hq hB hs
  go_enter Try.func29, Try.ntmps29
  go_wp2_with fail
  go_region_with (go_at_call 47; refine HJ.out.mono ?_; rintro e w1 ⟨rfl, hb1⟩; obtain ⟨bX, bR, hB⟩ := HP.out _ hb1; have x0 := bX.cell 0; have x1 := bX.cell 1; have x2 := bX.cell 2; have r0 := bR.cell 0; have r1 := bR.cell 1; have r2 := bR.cell 2; have f0 := bR.free 0; have f1 := bR.free 1; have f2 := bR.free 2; clear hb1)
  all_goals
    have bR3 := ((bR.set_ 0 (.string f)).set_ 1 (.int .i64 r)).set_ 2 (.int .i64 c)
    have d0 := bR3.cell 0
    have d1 := bR3.cell 1
    have d2 := bR3.cell 2
    have hB3 := ((hB.setCell (p := ⟨w.heap.size + 1, 0, none⟩) (by simp) (.string f)).setCell (p := ⟨w.heap.size + 1, 1, none⟩) (by simp) (.int .i64 r)).setCell (p := ⟨w.heap.size + 1, 2, none⟩) (by simp) (.int .i64 c)
    clear bR bX r0 r1 r2 x0 x1 x2
    go_wp2
    refine bodyPost_ret (v := holdV f r c) (by simp [results, Try.results29, go_sem, d0, d1, d2]) rfl ?_
    exact ⟨rfl, hB3⟩
end Go.Proofs.Ytagbcfkdieinpaa
