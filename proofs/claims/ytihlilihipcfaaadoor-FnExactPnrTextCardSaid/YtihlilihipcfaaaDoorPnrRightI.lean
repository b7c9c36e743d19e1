/-
  PnrRight: the walks.
-/
import Derived.Test.YtihlilihipcfaaaDoorPnrs
import Derived.Test.YtihlilihipcfaaaDoorHoldsOk
namespace Go.Proofs.YtihlilihipcfaaaDoor
open Go.ChangeShapes Go.WideShapes Go.ChangeAt Go.RowKit Go.ChangeMaps
set_option maxRecDepth 10000
set_option linter.unusedSimpArgs false
set_option linter.unusedVariables false

def offerB (f o : Int) : Bool := decide (f = 0) || (houseB f && !decide (f = o))
def lastB (b : Bool) (n : Nat) (f : Int) : Bool := b || (decide (n = 0) && decide (f = 0))
/-- Is a booking right? -/
def rightB (p : PD) : Bool := (houseB p.home && (houseB p.owner && inB p.loc 1 9)) && ((namesOkB p.names && holdsOkB p.holds) && (offerB p.offer p.owner && lastB p.live p.holds.length p.offer))

set_option maxHeartbeats 400000 in
theorem isLoc_any (n : Int) (w : World) : Calls Tryd.prog 52 #[.int .i64 n] w fun e w' => e = .returned (.bool (inB n 1 9)) ∧ w = w' := by
  go_enter Tryd.func52, Tryd.ntmps52
  go_wp2
  all_goals
    go_ret
    refine ⟨ret_bool ?_, rfl⟩
    rw [Bool.eq_iff_iff]
    simp [inB]
    try omega
set_option maxHeartbeats 4000000 in
theorem iPnrRight_any (p : PD) (A1 : Option Addr) (c1 : Nat) (A2 : Option Addr) (c2 : Nat) (w : World) (hl : PLies w w.heap.size p A1 A2) (hf : PFit p) (hn : p.names.length ≤ 1099511627) (hh : p.holds.length ≤ 1099511627) :
    Calls Tryd.prog 28 #[pdV p A1 c1 A2 c2] w fun e w' => e = .returned (.bool (rightB p)) ∧ Below w.heap.size w w' := by
  obtain ⟨h, l, o, ns, hs, b, f⟩ := p
  obtain ⟨hl1, hl2⟩ := hl
  obtain ⟨-, fn1, -, fh1⟩ := hf
  dsimp only [pdV] at *
  have HG : Hid (∀ W : World, Below w.heap.size w W → Calls Tryd.prog 53 #[.slice A1 ns.length c1] W fun e w' => e = .returned (.bool (namesOkB ns)) ∧ W = w') := fun W hW => guestsRight_any ns A1 c1 W (hl1.on hW) hn fn1
  have HO : Hid (∀ W : World, Below w.heap.size w W → Calls Tryd.prog 54 #[.slice A2 hs.length c2] W fun e w' => e = .returned (.bool (holdsOkB hs)) ∧ Below W.heap.size W w') := fun W hW => iHoldsRight_any hs A2 c2 W (hl2.on hW) hh fh1
  have HD : Hid (rightB ⟨h, l, o, ns, hs, b, f⟩ = ((houseB h && (houseB o && inB l 1 9)) && ((namesOkB ns && holdsOkB hs) && (offerB f o && lastB b hs.length f)))) := rfl
  clear hl1 hl2 fn1 fh1 hn
  generalize rightB ⟨h, l, o, ns, hs, b, f⟩ = R at *
  generalize namesOkB ns = xn at *
  generalize holdsOkB hs = xh at *
  cases k1 : houseB h
  · skip
    have HR : Hid (R = false) := by rw [Hid, HD.out]; rw [k1]; rfl
    clear HD HG HO
    go_enter Tryd.func28, Tryd.ntmps28
    go_wp2_with (first | (go_at_call 51; refine (isHouse_any _ _).mono ?_; rintro e w' ⟨rfl, rfl⟩) | (go_at_call 52; refine (isLoc_any _ _).mono ?_; rintro e w' ⟨rfl, rfl⟩))
    go_ret
    exact ⟨ret_bool HR.out.symm, by go_grown⟩
  cases k23 : inB l 1 9
  · skip
    have HR : Hid (R = false) := by rw [Hid, HD.out]; rw [k23]; simp
    clear HD HG HO
    go_enter Tryd.func28, Tryd.ntmps28
    go_wp2_with (first | (go_at_call 51; refine (isHouse_any _ _).mono ?_; rintro e w' ⟨rfl, rfl⟩) | (go_at_call 52; refine (isLoc_any _ _).mono ?_; rintro e w' ⟨rfl, rfl⟩))
    go_ret
    exact ⟨ret_bool HR.out.symm, by go_grown⟩
  cases k4 : houseB o
  · skip
    have HR : Hid (R = false) := by rw [Hid, HD.out]; rw [k4]; simp
    clear HD HG HO
    go_enter Tryd.func28, Tryd.ntmps28
    go_wp2_with (first | (go_at_call 51; refine (isHouse_any _ _).mono ?_; rintro e w' ⟨rfl, rfl⟩) | (go_at_call 52; refine (isLoc_any _ _).mono ?_; rintro e w' ⟨rfl, rfl⟩))
    go_ret
    exact ⟨ret_bool HR.out.symm, by go_grown⟩
  rw [k1, k4, k23] at HD
  have HD2 : Hid (R = ((xn && xh) && (offerB f o && lastB b hs.length f))) := HD
  clear HD
  by_cases k5 : f = 0
  · subst k5
    cases b
    · by_cases k6 : 0 < hs.length
      · skip
        have HR : Hid (R = false) := by rw [Hid, HD2.out]; rw [lastB, decide_eq_false (show ¬ hs.length = 0 by omega)]; simp
        clear HD2 HG HO
        have k7 : (0 : Int) < (hs.length : Int) := by omega
        go_enter Tryd.func28, Tryd.ntmps28
        go_wp2_with (first | (go_at_call 51; refine (isHouse_any _ _).mono ?_; rintro e w' ⟨rfl, rfl⟩) | (go_at_call 52; refine (isLoc_any _ _).mono ?_; rintro e w' ⟨rfl, rfl⟩))
        go_ret
        exact ⟨ret_bool HR.out.symm, by go_grown⟩
      · have k7 : hs.length = 0 := by omega
        have k8 : ¬ (0 : Int) < (hs.length : Int) := by omega
        have HR : Hid (R = (xn && xh)) := by rw [Hid, HD2.out]; simp [offerB, lastB, k7]
        clear HD2
        replace k7 := Lib.hid k7
        cases xn
        · go_enter Tryd.func28, Tryd.ntmps28
          go_wp2_with (first | (go_at_call 51; refine (isHouse_any _ _).mono ?_; rintro e w' ⟨rfl, rfl⟩) | (go_at_call 52; refine (isLoc_any _ _).mono ?_; rintro e w' ⟨rfl, rfl⟩))
          refine (HG.out _ (by go_grown)).mono ?_
          rintro e w1 ⟨rfl, rfl⟩
          go_wp2_with fail
          go_ret
          exact ⟨ret_bool HR.out.symm, by go_grown⟩
        · go_enter Tryd.func28, Tryd.ntmps28
          go_wp2_with (first | (go_at_call 51; refine (isHouse_any _ _).mono ?_; rintro e w' ⟨rfl, rfl⟩) | (go_at_call 52; refine (isLoc_any _ _).mono ?_; rintro e w' ⟨rfl, rfl⟩))
          refine (HG.out _ (by go_grown)).mono ?_
          rintro e w1 ⟨rfl, rfl⟩
          go_wp2_with fail
          refine (HO.out _ (by go_grown)).mono ?_
          rintro e w2 ⟨rfl, hb2⟩
          go_wp2_with fail
          go_ret
          exact ⟨ret_bool HR.out.symm, boxed hb2⟩
    · skip
      have HR : Hid (R = (xn && xh)) := by rw [Hid, HD2.out]; simp [offerB, lastB]
      clear HD2
      cases xn
      · go_enter Tryd.func28, Tryd.ntmps28
        go_wp2_with (first | (go_at_call 51; refine (isHouse_any _ _).mono ?_; rintro e w' ⟨rfl, rfl⟩) | (go_at_call 52; refine (isLoc_any _ _).mono ?_; rintro e w' ⟨rfl, rfl⟩))
        refine (HG.out _ (by go_grown)).mono ?_
        rintro e w1 ⟨rfl, rfl⟩
        go_wp2_with fail
        go_ret
        exact ⟨ret_bool HR.out.symm, by go_grown⟩
      · go_enter Tryd.func28, Tryd.ntmps28
        go_wp2_with (first | (go_at_call 51; refine (isHouse_any _ _).mono ?_; rintro e w' ⟨rfl, rfl⟩) | (go_at_call 52; refine (isLoc_any _ _).mono ?_; rintro e w' ⟨rfl, rfl⟩))
        refine (HG.out _ (by go_grown)).mono ?_
        rintro e w1 ⟨rfl, rfl⟩
        go_wp2_with fail
        refine (HO.out _ (by go_grown)).mono ?_
        rintro e w2 ⟨rfl, hb2⟩
        go_wp2_with fail
        go_ret
        exact ⟨ret_bool HR.out.symm, boxed hb2⟩
  · have e1 : (f == 0) = false := beq_eq_false_iff_ne.2 k5
    have e2 : (f != 0) = true := bne_iff_ne.2 k5
    have K5 := Lib.hid k5
    cases k6 : houseB f
    · skip
      have HR : Hid (R = false) := by rw [Hid, HD2.out]; simp [offerB, k6, K5.out]
      clear HD2 HG HO
      clear k5
      go_enter Tryd.func28, Tryd.ntmps28
      go_wp2_with (first | (go_at_call 51; refine (isHouse_any _ _).mono ?_; rintro e w' ⟨rfl, rfl⟩) | (go_at_call 52; refine (isLoc_any _ _).mono ?_; rintro e w' ⟨rfl, rfl⟩))
      go_ret
      exact ⟨ret_bool HR.out.symm, by go_grown⟩
    · by_cases k7 : f = o
      · subst k7
        have HR : Hid (R = false) := by rw [Hid, HD2.out]; simp [offerB, K5.out]
        clear HD2 HG HO
        clear k5
        go_enter Tryd.func28, Tryd.ntmps28
        go_wp2_with (first | (go_at_call 51; refine (isHouse_any _ _).mono ?_; rintro e w' ⟨rfl, rfl⟩) | (go_at_call 52; refine (isLoc_any _ _).mono ?_; rintro e w' ⟨rfl, rfl⟩))
        go_ret
        exact ⟨ret_bool HR.out.symm, by go_grown⟩
      · have e3 : (f == o) = false := beq_eq_false_iff_ne.2 k7
        have e4 : (f != o) = true := bne_iff_ne.2 k7
        have K7 := Lib.hid k7
        clear k7 k5
        cases b
        · by_cases k8 : 0 < hs.length
          · have k9 : (0 : Int) < (hs.length : Int) := by omega
            have HR : Hid (R = false) := by rw [Hid, HD2.out]; simp [lastB, K5.out]
            clear HD2 HG HO
            go_enter Tryd.func28, Tryd.ntmps28
            go_wp2_with (first | (go_at_call 51; refine (isHouse_any _ _).mono ?_; rintro e w' ⟨rfl, rfl⟩) | (go_at_call 52; refine (isLoc_any _ _).mono ?_; rintro e w' ⟨rfl, rfl⟩))
            go_ret
            exact ⟨ret_bool HR.out.symm, by go_grown⟩
          · have k9 : ¬ (0 : Int) < (hs.length : Int) := by omega
            have HR : Hid (R = false) := by rw [Hid, HD2.out]; simp [lastB, K5.out]
            clear HD2 HG HO
            go_enter Tryd.func28, Tryd.ntmps28
            go_wp2_with (first | (go_at_call 51; refine (isHouse_any _ _).mono ?_; rintro e w' ⟨rfl, rfl⟩) | (go_at_call 52; refine (isLoc_any _ _).mono ?_; rintro e w' ⟨rfl, rfl⟩))
            go_ret
            exact ⟨ret_bool HR.out.symm, by go_grown⟩
        · skip
          have HR : Hid (R = (xn && xh)) := by rw [Hid, HD2.out]; simp [offerB, lastB, k6, K7.out]
          clear HD2
          cases xn
          · go_enter Tryd.func28, Tryd.ntmps28
            go_wp2_with (first | (go_at_call 51; refine (isHouse_any _ _).mono ?_; rintro e w' ⟨rfl, rfl⟩) | (go_at_call 52; refine (isLoc_any _ _).mono ?_; rintro e w' ⟨rfl, rfl⟩))
            refine (HG.out _ (by go_grown)).mono ?_
            rintro e w1 ⟨rfl, rfl⟩
            go_wp2_with fail
            go_ret
            exact ⟨ret_bool HR.out.symm, by go_grown⟩
          · go_enter Tryd.func28, Tryd.ntmps28
            go_wp2_with (first | (go_at_call 51; refine (isHouse_any _ _).mono ?_; rintro e w' ⟨rfl, rfl⟩) | (go_at_call 52; refine (isLoc_any _ _).mono ?_; rintro e w' ⟨rfl, rfl⟩))
            refine (HG.out _ (by go_grown)).mono ?_
            rintro e w1 ⟨rfl, rfl⟩
            go_wp2_with fail
            refine (HO.out _ (by go_grown)).mono ?_
            rintro e w2 ⟨rfl, hb2⟩
            go_wp2_with fail
            go_ret
            exact ⟨ret_bool HR.out.symm, boxed hb2⟩
end Go.Proofs.YtihlilihipcfaaaDoor
