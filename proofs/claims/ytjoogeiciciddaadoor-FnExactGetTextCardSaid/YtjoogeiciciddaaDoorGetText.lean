/-
  impl.readText, impl.GetText: the walks.
-/
import Derived.Test.YtjoogeiciciddaaDoorGet
import Derived.Test.YtjoogeiciciddaaDoorGetTextLaw
import Derived.Test.YtjoogeiciciddaaDoorJoined
import Derived.Test.YtjoogeiciciddaaDoorTextOut
import Derived.Handy
namespace Go.Proofs.YtjoogeiciciddaaDoor
open Go.ChangeShapes Go.WideShapes Go.ChangeAt Go.RowKit Go.ChangeMaps
set_option linter.unusedSimpArgs false
set_option linter.unusedVariables false

theorem parts3T {a t : ByteArray} {b d q c : Int} (h : (a, b, d) = (t, q, c)) : a = t ∧ b = q ∧ d = c := by simpa using h

set_option maxHeartbeats 1000000 in
theorem readText_any (s : ByteArray) (p : Int) (t : ByteArray) (q c : Int) (w : World) (h1 : -9223372036854775808 ≤ p) (h2 : p ≤ 9223372036854775807) (hT : getT s p = (t, q, c)) :
    Calls Tryd.prog 13 #[.string s, .int .i64 p] w fun e w' => e = .returned (.tuple #[.string t, .int .i64 q, errV c]) ∧ Below w.heap.size w w' := by
  obtain ⟨n, a, d, hR⟩ : ∃ n a d, getN s p = (n, a, d) := ⟨_, _, _, rfl⟩
  have HR : ∀ W : World, Calls Tryd.prog 11 #[.string s, .int .i64 p] W fun e w' => e = .returned (.tuple #[.int .i64 n, .int .i64 a, errV d]) ∧ W = w' := fun W => readNum_any s p n a d W h1 h2 hR
  rw [getT_of hR] at hT
  by_cases hd : d = 0
  · subst hd
    obtain ⟨hs8, ha0, has⟩ := getN_place hR
    rw [show errV 0 = .nilIface from rfl] at HR
    have HRR := Lib.hid HR
    clear HR hR h1 h2
    by_cases hn : n < 0 ∨ 8000 < n
    · rw [getTof_range hn] at hT
      obtain ⟨rfl, rfl, rfl⟩ := parts3T hT
      clear hT
      rcases hn with hn | hn
      all_goals
        go_enter Tryd.func13, Tryd.ntmps13
        go_wp2_with fail
        refine (HRR.out _).mono ?_
        rintro e w1 ⟨rfl, rfl⟩
        go_wp2_with fail
        go_ret3
        exact ⟨rfl, Below.refl _ _⟩
    · have hn0 : 0 ≤ n := by omega
      have hn8 : n ≤ 8000 := by omega
      by_cases hl : (s.size : Int) < a + n
      · rw [getTof_short hn hl] at hT
        obtain ⟨rfl, rfl, rfl⟩ := parts3T hT
        clear hT hn
        go_enter Tryd.func13, Tryd.ntmps13
        go_wp2_with fail
        refine (HRR.out _).mono ?_
        rintro e w1 ⟨rfl, rfl⟩
        go_wp2_with fail
        go_ret3
        exact ⟨rfl, Below.refl _ _⟩
      · rw [getTof_yes hn hl] at hT
        obtain ⟨rfl, rfl, rfl⟩ := parts3T hT
        clear hT hn
        go_enter Tryd.func13, Tryd.ntmps13
        go_wp2_with fail
        refine (HRR.out _).mono ?_
        rintro e w1 ⟨rfl, rfl⟩
        go_wp2_with fail
        refine (joined_one _ _ _ ?_).mono ?_
        · have : (s.extract a.toNat (a + n).toNat).size ≤ s.size := by simp; omega
          omega
        rintro e w1 ⟨rfl, hb1⟩
        go_wp2_with fail
        go_ret3
        exact ⟨rfl, hb1⟩
  · rw [getTof_code hd] at hT
    obtain ⟨rfl, rfl, rfl⟩ := parts3T hT
    have he : errV d = .iface 42 (.agg #[.int .i64 d]) := by rw [errV, if_neg hd]
    rw [he] at HR ⊢
    have HRR := Lib.hid HR
    clear HR hR h1 h2 hT he
    go_enter Tryd.func13, Tryd.ntmps13
    go_wp2_with fail
    refine (HRR.out _).mono ?_
    rintro e w1 ⟨rfl, rfl⟩
    go_wp2_with fail
    go_ret3
    exact ⟨rfl, Below.refl _ _⟩

set_option maxHeartbeats 400000 in
theorem iGetText_any (s : ByteArray) (p : Int) (t : ByteArray) (q c : Int) (w : World) (hg : Handle w) (h1 : -9223372036854775808 ≤ p) (h2 : p ≤ 9223372036854775807) (hR : getT s p = (t, q, c)) :
    Calls Tryd.prog 9 #[.string s, .int .i64 p] w fun e w' => e = .returned (textOut t q c) ∧ Below w.heap.size w w' := by
  have HR := Lib.hid (fun W => readText_any s p t q c W h1 h2 hR)
  have HG := Lib.hid hg
  have HC : Hid (∀ W, Handle W → Calls Tryd.prog 12 #[errV c] W fun e w' => e = .returned (.int .i64 c) ∧ Below W.heap.size W w') := fun W hW => codeOf_any c W hW
  generalize errV c = E at *
  clear hR h1 h2 hg
  go_enter Tryd.func9, Tryd.ntmps9
  go_wp2_with fail
  refine (HR.out _).mono ?_
  rintro e w1 ⟨rfl, hb1⟩
  have c0 := newcell (w := w) hb1 0 rfl
  have c1 := newcell (w := w) hb1 1 rfl
  have c2 := newcell (w := w) hb1 2 rfl
  have hz1 : w.heap.size + 1 ≤ w1.heap.size := by have := hb1.size; simpa using this
  have HG1 := Lib.hid ((HG.out.below ((Below.refl w.heap.size w).alloc (Nat.le_refl _) _)).below hb1)
  go_wp2_with fail
  refine (HC.out _ HG1.out).mono ?_
  rintro e w2 ⟨rfl, hb2⟩
  obtain ⟨d0, f0⟩ := cell_on c0 hb2 hz1
  obtain ⟨d1, f1⟩ := cell_on c1 hb2 hz1
  obtain ⟨d2, f2⟩ := cell_on c2 hb2 hz1
  clear c0 c1 c2
  go_wp2_with fail
  refine bodyPost_ret (v := textOut t q c) (by simp [results, Tryd.results9, textOut, go_sem, d0, d1, d2]) rfl ?_
  exact ⟨rfl, ((((((Below.refl _ _).alloc (Nat.le_refl _) _).trans (hb1.mono (by simp))).trans (hb2.mono (by omega))).setCell (by simp) _).setCell (by simp) _).setCell (by simp) _⟩
end Go.Proofs.YtjoogeiciciddaaDoor
