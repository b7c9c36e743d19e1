/-
  Unseal: the walks.
-/
import Derived.Test.YtjoogeiciciddaaUnsealS
import Derived.Handy
import Derived.LoopN
import Derived.Deep.RegionWith
namespace Go.Proofs.Ytjoogeiciciddaa
open Go.ChangeShapes Go.WideShapes Go.ChangeAt Go.RowKit Go.ChangeMaps
set_option linter.unusedSimpArgs false
set_option linter.unusedVariables false
set_option maxHeartbeats 400000 in
theorem unseal_walk (s : ByteArray) (w : World) (hs : s.size ≤ maxLen) : Calls Try.prog 9 #[.string s] w fun e w' => Holds e w w' := by
  unfold maxLen at hs
  by_cases h1 : 1048576 < s.size
  · go_enter Try.func9, Try.ntmps9
    go_wp2
    go_ret
    exact ⟨rfl, Below.refl _ _⟩
  · have HI : ∀ W : World, Calls Try.prog 23 #[.string s] W fun e w' => e = .returned (unsealV s) ∧ Below W.heap.size W w' := fun W => iUnseal_any s W (by omega)
    have HS : ∀ W : World, Calls Try.prog 22 #[.string s] W fun e w' => e = .returned (unsealV s) ∧ Below W.heap.size W w' := fun W => sUnseal_any s W (by omega)
    obtain ⟨t, c, hv⟩ := unsealV_text s
    rw [hv] at HI HS
    have HII := Lib.hid HI
    have HSS := Lib.hid HS
    clear HI HS hv
    unfold textOut at HII HSS
    have HE : Hid (∀ W : World, Calls Try.prog 24 #[.agg #[.string t, .int .i64 0, .int .i64 c], .agg #[.string t, .int .i64 0, .int .i64 c]] W fun e w' => e = .returned (.bool true) ∧ Below W.heap.size W w') := fun W => eqTextOut_same t 0 c W
    go_enter Try.func9, Try.ntmps9
    go_wp2_with fail
    refine (HSS.out _).mono ?_
    rintro e w1 ⟨rfl, hb1⟩
    go_wp2_with fail
    refine (HII.out _).mono ?_
    rintro e w2 ⟨rfl, hb2⟩
    obtain ⟨d0, f0⟩ := newcell (w := w1) hb2 0 rfl
    obtain ⟨d1, f1⟩ := newcell (w := w1) hb2 1 rfl
    obtain ⟨d2, f2⟩ := newcell (w := w1) hb2 2 rfl
    have hz2 : w1.heap.size < w2.heap.size := by have := hb2.size; simp at this; omega
    go_wp2_with fail
    refine (HE.out _).mono ?_
    rintro e w3 ⟨rfl, hb3⟩
    go_wp2_with fail
    go_ret
    exact ⟨rfl, (((hb1.alloc hb1.size _).trans (hb2.mono (by have := hb1.size; simp; omega))).alloc (by have := hb1.size; omega) _).trans (hb3.mono (by have := hb1.size; simp; omega))⟩
end Go.Proofs.Ytjoogeiciciddaa
