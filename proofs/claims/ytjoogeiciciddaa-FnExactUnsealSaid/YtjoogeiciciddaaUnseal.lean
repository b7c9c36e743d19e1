/-
  Unseal: the walks.
-/
import Derived.Test.YtjoogeiciciddaaSeal
import Derived.Handy
import Derived.LoopN
import Derived.Deep.RegionWith
namespace Go.Proofs.Ytjoogeiciciddaa
open Go.ChangeShapes Go.WideShapes Go.ChangeAt Go.RowKit Go.ChangeMaps
set_option linter.unusedSimpArgs false
set_option linter.unusedVariables false

/-- A TextOut as a value. -/
def textOut (t : ByteArray) (at_ code : Int) : Value := .agg #[.string t, .int .i64 at_, .int .i64 code]
set_option maxHeartbeats 400000 in
theorem eqTextOut_same (t : ByteArray) (n c : Int) (w : World) : Calls Try.prog 24 #[textOut t n c, textOut t n c] w fun e w' => e = .returned (.bool true) ∧ Below w.heap.size w w' := by
  unfold textOut
  go_enter Try.func24, Try.ntmps24
  go_wp2
  go_ret
  exact ⟨rfl, by go_grown⟩

def innerS (s : ByteArray) : ByteArray := s.extract 0 (s.size - 4)
def unsealV (s : ByteArray) : Value :=
  if 8000 < s.size then textOut ⟨#[]⟩ 0 2
  else if s.size < 4 then textOut ⟨#[]⟩ 0 4
  else if sealS (innerS s) = s then textOut (innerS s) 0 0
  else textOut ⟨#[]⟩ 0 5

theorem unsealV_long {s : ByteArray} (h : 8000 < s.size) : unsealV s = textOut ⟨#[]⟩ 0 2 := by rw [unsealV, if_pos h]
theorem unsealV_short {s : ByteArray} (h : s.size < 4) : unsealV s = textOut ⟨#[]⟩ 0 4 := by rw [unsealV, if_neg (by omega), if_pos h]
theorem unsealV_yes {s : ByteArray} (h : s.size ≤ 8000) (h4 : 4 ≤ s.size) (hs : sealS (innerS s) = s) : unsealV s = textOut (innerS s) 0 0 := by rw [unsealV, if_neg (by omega), if_neg (by omega), if_pos hs]
theorem unsealV_no {s : ByteArray} (h : s.size ≤ 8000) (h4 : 4 ≤ s.size) (hs : ¬ sealS (innerS s) = s) : unsealV s = textOut ⟨#[]⟩ 0 5 := by rw [unsealV, if_neg (by omega), if_neg (by omega), if_neg hs]

set_option maxHeartbeats 400000 in
theorem iUnseal_any (s : ByteArray) (w : World) (hs : s.size ≤ 1048576) : Calls Try.prog 23 #[.string s] w fun e w' => e = .returned (unsealV s) ∧ Below w.heap.size w w' := by
  by_cases h : 8000 < s.size
  · have HV := Lib.hid (unsealV_long h)
    go_enter Try.func23, Try.ntmps23
    go_wp2_with (go_at_call 27; refine (tooLong_any _ _).mono ?_; rintro e w1 ⟨rfl, rfl⟩)
    go_returns
    exact ⟨by rw [HV.out]; rfl, by go_grown⟩
  by_cases h4 : s.size < 4
  · have HV := Lib.hid (unsealV_short h4)
    go_enter Try.func23, Try.ntmps23
    go_wp2_with (go_at_call 27; refine (tooLong_any _ _).mono ?_; rintro e w1 ⟨rfl, rfl⟩)
    go_returns
    exact ⟨by rw [HV.out]; rfl, by go_grown⟩
  have hin : (innerS s).size ≤ s.size - 4 := by simp [innerS]
  have hE : Hid (s.extract 0 (s.size - 4) = innerS s) := rfl
  by_cases hq : sealS (innerS s) = s
  · have HV := Lib.hid (unsealV_yes (by omega) (by omega) hq)
    have HC : ∀ W : World, Calls Try.prog 21 #[.string (innerS s)] W fun e w' => e = .returned (.string s) ∧ Below W.heap.size W w' := fun W => by
      have := iSeal_any (innerS s) W (by omega)
      rw [hq] at this
      exact this
    have HCC := Lib.hid HC
    clear hq HC
    generalize innerS s = I at *
    go_enter Try.func23, Try.ntmps23
    go_wp2_with (go_at_call 27; refine (tooLong_any _ _).mono ?_; rintro e w1 ⟨rfl, rfl⟩)
    rw [hE.out]
    refine (HCC.out _).mono ?_
    rintro e w1 ⟨rfl, hb1⟩
    have c0 := newcell hb1 0 rfl
    have c1 := newcell hb1 1 rfl
    have c2 := newcell hb1 2 rfl
    have hz1 : w.heap.size + 1 ≤ w1.heap.size := by have := hb1.size; simpa using this
    go_wp2_with fail
    refine (joined_one _ _ _ (by omega)).mono ?_
    rintro e w2 ⟨rfl, hb2⟩
    obtain ⟨d0, f0⟩ := cell_on c0 hb2 hz1
    obtain ⟨d1, f1⟩ := cell_on c1 hb2 hz1
    obtain ⟨d2, f2⟩ := cell_on c2 hb2 hz1
    clear c0 c1 c2
    go_wp2_with fail
    refine bodyPost_ret (v := textOut I 0 0) (by simp [results, Try.results23, textOut, go_sem, d0, d1, d2]) rfl ?_
    exact ⟨by rw [HV.out], ((((((Below.refl _ _).alloc (Nat.le_refl _) _).trans (hb1.mono (by simp))).trans (hb2.mono (by omega))).setCell (by simp) _).setCell (by simp) _).setCell (by simp) _⟩
  · have HV := Lib.hid (unsealV_no (by omega) (by omega) hq)
    have HC : ∀ W : World, Calls Try.prog 21 #[.string (innerS s)] W fun e w' => e = .returned (.string (sealS (innerS s))) ∧ Below W.heap.size W w' := fun W => iSeal_any (innerS s) W (by omega)
    generalize sealS (innerS s) = T at *
    have hne := str_ne hq
    have HCC := Lib.hid HC
    clear hq HC
    generalize innerS s = I at *
    go_enter Try.func23, Try.ntmps23
    go_wp2_with (go_at_call 27; refine (tooLong_any _ _).mono ?_; rintro e w1 ⟨rfl, rfl⟩)
    rw [hE.out]
    refine (HCC.out _).mono ?_
    rintro e w1 ⟨rfl, hb1⟩
    obtain ⟨d0, f0⟩ := newcell hb1 0 rfl
    obtain ⟨d1, f1⟩ := newcell hb1 1 rfl
    obtain ⟨d2, f2⟩ := newcell hb1 2 rfl
    go_wp2_with fail
    refine bodyPost_ret (v := textOut ⟨#[]⟩ 0 5) (by simp [results, Try.results23, textOut, go_sem, d0, d1, d2]) rfl ?_
    exact ⟨by rw [HV.out], (((((Below.refl _ _).alloc (Nat.le_refl _) _).trans (hb1.mono (by simp))).setCell (by simp) _).setCell (by simp) _).setCell (by simp) _⟩

end Go.Proofs.Ytjoogeiciciddaa
