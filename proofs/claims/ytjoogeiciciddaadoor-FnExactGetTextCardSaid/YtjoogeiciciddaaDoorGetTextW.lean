/-
  laws.FnExactGetText: the walk.
-/
import Derived.Test.YtjoogeiciciddaaDoorGetTextS
import Derived.Handy
namespace Go.Proofs.YtjoogeiciciddaaDoor
open Go.ChangeShapes Go.WideShapes Go.ChangeAt Go.RowKit Go.ChangeMaps
set_option linter.unusedSimpArgs false
set_option linter.unusedVariables false

set_option maxHeartbeats 400000 in
theorem getText_walk (s : ByteArray) (p : Int) (w : World) (hs : s.size ≤ maxLen) (hp : (Lit.int .i64 p).wf = true) (hg : Handle w) : Calls Tryd.prog 4 #[.string s, .int .i64 p] w fun e w' => Holds e w w' := by
  unfold maxLen at hs
  obtain ⟨h1, h2⟩ := wf_i64 hp
  clear hp
  by_cases hb : 1048576 < s.size
  · go_enter Tryd.func4, Tryd.ntmps4
    go_wp2
    go_ret
    exact ⟨rfl, Below.refl _ _⟩
  · obtain ⟨n, q, c, hR⟩ : ∃ n q c, getT s p = (n, q, c) := ⟨_, _, _, rfl⟩
    have HII : Hid (∀ W : World, Handle W → Calls Tryd.prog 9 #[.string s, .int .i64 p] W fun e w' => e = .returned (.agg #[.string n, .int .i64 q, .int .i64 c]) ∧ Below W.heap.size W w') := fun W hW => iGetText_any s p n q c W hW h1 h2 hR
    have HSS : Hid (∀ W : World, Calls Tryd.prog 8 #[.string s, .int .i64 p] W fun e w' => e = .returned (.agg #[.string n, .int .i64 q, .int .i64 c]) ∧ Below W.heap.size W w') := fun W => sGetText_any s p n q c W h1 h2 hR
    have HE : Hid (∀ W : World, Calls Tryd.prog 10 #[.agg #[.string n, .int .i64 q, .int .i64 c], .agg #[.string n, .int .i64 q, .int .i64 c]] W fun e w' => e = .returned (.bool true) ∧ Below W.heap.size W w') := fun W => eqTextOut_same n q c W
    have HG := Lib.hid hg
    clear hR hg h1 h2
    go_enter Tryd.func4, Tryd.ntmps4
    go_wp2_with fail
    refine (HSS.out _).mono ?_
    rintro e w1 ⟨rfl, hb1⟩
    go_wp2_with fail
    refine (HII.out _ (HG.out.below (hb1.alloc hb1.size _))).mono ?_
    rintro e w2 ⟨rfl, hb2⟩
    obtain ⟨d0, f0⟩ := newcell (w := w1) hb2 0 rfl
    obtain ⟨d1, f1⟩ := newcell (w := w1) hb2 1 rfl
    obtain ⟨d2, f2⟩ := newcell (w := w1) hb2 2 rfl
    have hz2 : w1.heap.size < w2.heap.size := by have := hb2.size; simp at this; omega
    go_wp2_with fail
    refine (HE.out _).mono ?_
    rintro e w3 ⟨rfl, hb3⟩
    go_wp2_with fail
    go_ret
    exact ⟨rfl, (((hb1.alloc hb1.size _).trans (hb2.mono (by have := hb1.size; simp; omega))).alloc (by have := hb1.size; omega) _).trans (hb3.mono (by have := hb1.size; simp; omega))⟩
end Go.Proofs.YtjoogeiciciddaaDoor
