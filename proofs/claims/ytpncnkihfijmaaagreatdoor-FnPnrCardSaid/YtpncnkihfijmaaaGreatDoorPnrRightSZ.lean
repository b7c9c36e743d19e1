/-
  spec.PnrRight: the walk.
-/
import Derived.Test.YtpncnkihfijmaaaGreatDoorM2
import Derived.Test.YtpncnkihfijmaaaGreatDoorM1
namespace Go.Proofs.YtpncnkihfijmaaaGreatDoor
open Go.ChangeShapes Go.WideShapes Go.ChangeAt Go.RowKit Go.ChangeMaps
set_option maxRecDepth 10000
set_option linter.unusedSimpArgs false
set_option linter.unusedVariables false

set_option maxHeartbeats 4000000 in
theorem sPnrRight_any (p : PD) (A1 : Option Addr) (c1 : Nat) (A2 : Option Addr) (c2 : Nat) (w : World) (hl : PLies w w.heap.size p A1 A2) (hf : PFit p) (hn : p.names.length ≤ 1099511627) (hh : p.holds.length ≤ 1099511627) :
    Calls Tryz.prog 30 #[pdV p A1 c1 A2 c2] w fun e w' => e = .returned (.bool (rightB p)) ∧ Below w.heap.size w w' := by
  obtain ⟨h, l, o, ns, hs, b, f⟩ := p
  obtain ⟨hl1, hl2⟩ := hl
  obtain ⟨-, fn1, -, fh1⟩ := hf
  dsimp only [pdV] at *
  have HG : Hid (∀ k : Nat, k ≤ ns.length → ∀ W : World, Below w.heap.size w W → k < ns.length → ∃ b off s, A1 = some ⟨b, off, none⟩ ∧ ns[k]? = some s ∧ s.size ≤ maxLen ∧ W.cell? ⟨b, off + k, none⟩ = some (.string s)) := fun k hk W hW hlt => by
    obtain ⟨b, off, s, e, hlb, hx, c0⟩ := (hl1.below hW).str hlt
    exact ⟨b, off, s, e, hx, fn1 s (List.mem_of_getElem? hx), c0⟩
  have HO : Hid (∀ W : World, Below w.heap.size w W → Calls Tryz.prog 87 #[.slice A2 hs.length c2] W fun e w' => e = .returned (.bool (holdsOkB hs)) ∧ Below W.heap.size W w') := fun W hW => l03Holds_any hs A2 c2 W (hl2.on hW) hh fh1
  have HD : Hid (rightB ⟨h, l, o, ns, hs, b, f⟩ = ((houseB h && (houseB o && inB l 1 9)) && ((namesOkB ns && holdsOkB hs) && (offerB f o && lastB b hs.length f)))) := rfl
  have HNN : Hid (namesOkB ns = (decide (ns.length ≤ 4) && ns.all wordB)) := rfl
  clear hl1 hl2 fn1 fh1
  generalize rightB ⟨h, l, o, ns, hs, b, f⟩ = R at *
  generalize holdsOkB hs = xh at *
  cases k1 : houseB h
  · skip
    have HR : Hid (R = false) := by rw [Hid, HD.out]; rw [k1]; rfl
    clear HD HG HO HNN
    go_enter Tryz.func30, Tryz.ntmps30
    go_wp2_with (first | (go_at_call 60; refine (l03House_any _ _).mono ?_; rintro e w' ⟨rfl, rfl⟩) | (go_at_call 58; refine (l02Is_any _ _ _ _).mono ?_; rintro e w' ⟨rfl, rfl⟩))
    go_ret
    exact ⟨ret_bool HR.out.symm, by go_grown⟩
  cases k4 : houseB o
  · skip
    have HR : Hid (R = false) := by rw [Hid, HD.out]; rw [k1, k4]; rfl
    clear HD HG HO HNN
    go_enter Tryz.func30, Tryz.ntmps30
    go_wp2_with (first | (go_at_call 60; refine (l03House_any _ _).mono ?_; rintro e w' ⟨rfl, rfl⟩) | (go_at_call 58; refine (l02Is_any _ _ _ _).mono ?_; rintro e w' ⟨rfl, rfl⟩))
    go_ret
    exact ⟨ret_bool HR.out.symm, by go_grown⟩
  cases k3 : inB l 1 9
  · skip
    have HR : Hid (R = false) := by rw [Hid, HD.out]; rw [k1, k4, k3]; rfl
    clear HD HG HO HNN
    go_enter Tryz.func30, Tryz.ntmps30
    go_wp2_with (first | (go_at_call 60; refine (l03House_any _ _).mono ?_; rintro e w' ⟨rfl, rfl⟩) | (go_at_call 58; refine (l02Is_any _ _ _ _).mono ?_; rintro e w' ⟨rfl, rfl⟩))
    go_ret
    exact ⟨ret_bool HR.out.symm, by go_grown⟩
  by_cases k2 : 4 < ns.length
  · have k2' : (4 : Int) < (ns.length : Int) := by omega
    have HR : Hid (R = false) := by rw [Hid, HD.out]; rw [HNN.out, decide_eq_false (show ¬ ns.length ≤ 4 by omega)]; simp
    clear HD HG HO HNN
    go_enter Tryz.func30, Tryz.ntmps30
    go_wp2_with (first | (go_at_call 60; refine (l03House_any _ _).mono ?_; rintro e w' ⟨rfl, rfl⟩) | (go_at_call 58; refine (l02Is_any _ _ _ _).mono ?_; rintro e w' ⟨rfl, rfl⟩))
    go_ret
    exact ⟨ret_bool HR.out.symm, by go_grown⟩
  rw [k1, k4, k3] at HD
  have k2' : ¬ (4 : Int) < (ns.length : Int) := by omega
  have HD2 : Hid (R = ((ns.all wordB && xh) && (offerB f o && lastB b hs.length f))) := by rw [Hid, HD.out, HNN.out, decide_eq_true (show ns.length ≤ 4 by omega)]; rfl
  clear HD HNN k2
  cases xh
  · have HR : Hid (R = false) := by rw [Hid, HD2.out]; simp
    clear HD2 HG
    go_enter Tryz.func30, Tryz.ntmps30
    go_wp2_with (first | (go_at_call 60; refine (l03House_any _ _).mono ?_; rintro e w' ⟨rfl, rfl⟩) | (go_at_call 58; refine (l02Is_any _ _ _ _).mono ?_; rintro e w' ⟨rfl, rfl⟩))
    refine (HO.out _ (by go_grown)).mono ?_
    rintro e w1 ⟨rfl, hb1⟩
    have hB := boxed hb1
    have bl : Block w1 w.heap.size 40 #[.int .i64 h, .int .i64 l, .int .i64 o, .slice A1 ns.length c1, .slice A2 hs.length c2, .bool b, .int .i64 f] := (Block.new w _ _).on hb1
    have q3 := bl.cell 3
    have q4 := bl.cell 4
    have q5 := bl.cell 5
    have q6 := bl.cell 6
    have q2 := bl.cell 2
    clear bl hb1
    go_wp2_with fail
    go_ret
    exact ⟨ret_bool HR.out.symm, hB⟩
  by_cases k5 : f = 0
  · subst k5
    cases b
    · by_cases k6 : hs.length = 0
      · have k7 : (hs.length : Int) = 0 := by omega
        have k8 : ((hs.length : Int) == 0) = true := by rw [k7]; rfl
        have K6 := Lib.hid k6
        clear k6
        replace k7 := Lib.hid k7
        have HR : Hid (R = (ns.all wordB && true)) := by rw [Hid, HD2.out]; simp [offerB, lastB, K6.out]
        clear HD2
        go_enter Tryz.func30, Tryz.ntmps30
        go_wp2_with (first | (go_at_call 60; refine (l03House_any _ _).mono ?_; rintro e w' ⟨rfl, rfl⟩) | (go_at_call 58; refine (l02Is_any _ _ _ _).mono ?_; rintro e w' ⟨rfl, rfl⟩))
        refine (HO.out _ (by go_grown)).mono ?_
        rintro e w1 ⟨rfl, hb1⟩
        have hB := boxed hb1
        have bl : Block w1 w.heap.size 40 #[.int .i64 h, .int .i64 l, .int .i64 o, .slice A1 ns.length c1, .slice A2 hs.length c2, .bool false, .int .i64 0] := (Block.new w _ _).on hb1
        have q3 := bl.cell 3
        have q4 := bl.cell 4
        have q5 := bl.cell 5
        have q6 := bl.cell 6
        have q2 := bl.cell 2
        clear bl hb1
        go_wp2_with (first | (go_at_call 60; refine (l03House_any _ _).mono ?_; rintro e w' ⟨rfl, rfl⟩) | (go_at_call 58; refine (l02Is_any _ _ _ _).mono ?_; rintro e w' ⟨rfl, rfl⟩))
        go_loop [3] (fun i => ∃ k : Nat, k ≤ ns.length ∧ i = .int .i64 k ∧ Hid ((ns.take k).all wordB = true)) (fun i => ns.length - (intOf i).toNat)
        case atStart => exact ⟨0, Nat.zero_le _, rfl, rfl⟩
        case round =>
          obtain ⟨k, hk, rfl, HA⟩ := hrel
          by_cases hlt : k < ns.length
          · obtain ⟨bb, off, s, rfl, hx, hs', c0⟩ := HG.out k hk w1 hB hlt
            have HW : Hid (∀ W : World, Calls Tryz.prog 61 #[.string s] W fun e w' => e = .returned (.bool (wordB s)) ∧ W = w') := fun W => sWord_any s W hs'
            cases hb : wordB s
            · rw [hb] at HW
              have HN := Lib.hid (names_no hx hb)
              clear hx hb HG
              go_wp2_with fail
              refine (HW.out _).mono ?_
              rintro e w1 ⟨rfl, rfl⟩
              go_wp2_with fail
              go_ret
              exact ⟨ret_bool (by rw [HR.out, HN.out]; rfl), hB⟩
            · rw [hb] at HW
              have HN := Lib.hid (all_take_succ HA.out hx hb)
              clear hx hb HG
              go_wp2_with fail
              refine (HW.out _).mono ?_
              rintro e w1 ⟨rfl, rfl⟩
              go_wp2_with fail
              go_round
              case rel => exact ⟨k + 1, by omega, by go_num, HN⟩
              case measure => simp [intOf]; omega
          · obtain rfl : k = ns.length := by omega
            have HE : Hid (ns.all wordB = true) := by have := HA.out; rwa [List.take_length] at this
            clear HG
            go_wp2
            go_ret
            exact ⟨ret_bool (by rw [HR.out, HE.out]; rfl), hB⟩
      · have k8 : ((hs.length : Int) == 0) = false := beq_eq_false_iff_ne.2 (by omega)
        have K6 := Lib.hid k6
        clear k6
        have HR : Hid (R = (ns.all wordB && false)) := by rw [Hid, HD2.out]; rw [lastB, decide_eq_false K6.out]; simp
        clear HD2
        go_enter Tryz.func30, Tryz.ntmps30
        go_wp2_with (first | (go_at_call 60; refine (l03House_any _ _).mono ?_; rintro e w' ⟨rfl, rfl⟩) | (go_at_call 58; refine (l02Is_any _ _ _ _).mono ?_; rintro e w' ⟨rfl, rfl⟩))
        refine (HO.out _ (by go_grown)).mono ?_
        rintro e w1 ⟨rfl, hb1⟩
        have hB := boxed hb1
        have bl : Block w1 w.heap.size 40 #[.int .i64 h, .int .i64 l, .int .i64 o, .slice A1 ns.length c1, .slice A2 hs.length c2, .bool false, .int .i64 0] := (Block.new w _ _).on hb1
        have q3 := bl.cell 3
        have q4 := bl.cell 4
        have q5 := bl.cell 5
        have q6 := bl.cell 6
        have q2 := bl.cell 2
        clear bl hb1
        go_wp2_with (first | (go_at_call 60; refine (l03House_any _ _).mono ?_; rintro e w' ⟨rfl, rfl⟩) | (go_at_call 58; refine (l02Is_any _ _ _ _).mono ?_; rintro e w' ⟨rfl, rfl⟩))
        go_loop [3] (fun i => ∃ k : Nat, k ≤ ns.length ∧ i = .int .i64 k ∧ Hid ((ns.take k).all wordB = true)) (fun i => ns.length - (intOf i).toNat)
        case atStart => exact ⟨0, Nat.zero_le _, rfl, rfl⟩
        case round =>
          obtain ⟨k, hk, rfl, HA⟩ := hrel
          by_cases hlt : k < ns.length
          · obtain ⟨bb, off, s, rfl, hx, hs', c0⟩ := HG.out k hk w1 hB hlt
            have HW : Hid (∀ W : World, Calls Tryz.prog 61 #[.string s] W fun e w' => e = .returned (.bool (wordB s)) ∧ W = w') := fun W => sWord_any s W hs'
            cases hb : wordB s
            · rw [hb] at HW
              have HN := Lib.hid (names_no hx hb)
              clear hx hb HG
              go_wp2_with fail
              refine (HW.out _).mono ?_
              rintro e w1 ⟨rfl, rfl⟩
              go_wp2_with fail
              go_ret
              exact ⟨ret_bool (by rw [HR.out, HN.out]; rfl), hB⟩
            · rw [hb] at HW
              have HN := Lib.hid (all_take_succ HA.out hx hb)
              clear hx hb HG
              go_wp2_with fail
              refine (HW.out _).mono ?_
              rintro e w1 ⟨rfl, rfl⟩
              go_wp2_with fail
              go_round
              case rel => exact ⟨k + 1, by omega, by go_num, HN⟩
              case measure => simp [intOf]; omega
          · obtain rfl : k = ns.length := by omega
            have HE : Hid (ns.all wordB = true) := by have := HA.out; rwa [List.take_length] at this
            clear HG
            go_wp2
            go_ret
            exact ⟨ret_bool (by rw [HR.out, HE.out]; rfl), hB⟩
    · skip
      have HR : Hid (R = (ns.all wordB && true)) := by rw [Hid, HD2.out]; simp [offerB, lastB]
      clear HD2
      go_enter Tryz.func30, Tryz.ntmps30
      go_wp2_with (first | (go_at_call 60; refine (l03House_any _ _).mono ?_; rintro e w' ⟨rfl, rfl⟩) | (go_at_call 58; refine (l02Is_any _ _ _ _).mono ?_; rintro e w' ⟨rfl, rfl⟩))
      refine (HO.out _ (by go_grown)).mono ?_
      rintro e w1 ⟨rfl, hb1⟩
      have hB := boxed hb1
      have bl : Block w1 w.heap.size 40 #[.int .i64 h, .int .i64 l, .int .i64 o, .slice A1 ns.length c1, .slice A2 hs.length c2, .bool true, .int .i64 0] := (Block.new w _ _).on hb1
      have q3 := bl.cell 3
      have q4 := bl.cell 4
      have q5 := bl.cell 5
      have q6 := bl.cell 6
      have q2 := bl.cell 2
      clear bl hb1
      go_wp2_with (first | (go_at_call 60; refine (l03House_any _ _).mono ?_; rintro e w' ⟨rfl, rfl⟩) | (go_at_call 58; refine (l02Is_any _ _ _ _).mono ?_; rintro e w' ⟨rfl, rfl⟩))
      go_loop [3] (fun i => ∃ k : Nat, k ≤ ns.length ∧ i = .int .i64 k ∧ Hid ((ns.take k).all wordB = true)) (fun i => ns.length - (intOf i).toNat)
      case atStart => exact ⟨0, Nat.zero_le _, rfl, rfl⟩
      case round =>
        obtain ⟨k, hk, rfl, HA⟩ := hrel
        by_cases hlt : k < ns.length
        · obtain ⟨bb, off, s, rfl, hx, hs', c0⟩ := HG.out k hk w1 hB hlt
          have HW : Hid (∀ W : World, Calls Tryz.prog 61 #[.string s] W fun e w' => e = .returned (.bool (wordB s)) ∧ W = w') := fun W => sWord_any s W hs'
          cases hb : wordB s
          · rw [hb] at HW
            have HN := Lib.hid (names_no hx hb)
            clear hx hb HG
            go_wp2_with fail
            refine (HW.out _).mono ?_
            rintro e w1 ⟨rfl, rfl⟩
            go_wp2_with fail
            go_ret
            exact ⟨ret_bool (by rw [HR.out, HN.out]; rfl), hB⟩
          · rw [hb] at HW
            have HN := Lib.hid (all_take_succ HA.out hx hb)
            clear hx hb HG
            go_wp2_with fail
            refine (HW.out _).mono ?_
            rintro e w1 ⟨rfl, rfl⟩
            go_wp2_with fail
            go_round
            case rel => exact ⟨k + 1, by omega, by go_num, HN⟩
            case measure => simp [intOf]; omega
        · obtain rfl : k = ns.length := by omega
          have HE : Hid (ns.all wordB = true) := by have := HA.out; rwa [List.take_length] at this
          clear HG
          go_wp2
          go_ret
          exact ⟨ret_bool (by rw [HR.out, HE.out]; rfl), hB⟩
  · have e1 : (f == 0) = false := beq_eq_false_iff_ne.2 k5
    have e2 : (f != 0) = true := bne_iff_ne.2 k5
    have K5 := Lib.hid k5
    cases k6 : houseB f
    · skip
      have HR : Hid (R = false) := by rw [Hid, HD2.out]; simp [offerB, k6, K5.out]
      clear HD2 HG
      go_enter Tryz.func30, Tryz.ntmps30
      go_wp2_with (first | (go_at_call 60; refine (l03House_any _ _).mono ?_; rintro e w' ⟨rfl, rfl⟩) | (go_at_call 58; refine (l02Is_any _ _ _ _).mono ?_; rintro e w' ⟨rfl, rfl⟩))
      refine (HO.out _ (by go_grown)).mono ?_
      rintro e w1 ⟨rfl, hb1⟩
      have hB := boxed hb1
      have bl : Block w1 w.heap.size 40 #[.int .i64 h, .int .i64 l, .int .i64 o, .slice A1 ns.length c1, .slice A2 hs.length c2, .bool b, .int .i64 f] := (Block.new w _ _).on hb1
      have q3 := bl.cell 3
      have q4 := bl.cell 4
      have q5 := bl.cell 5
      have q6 := bl.cell 6
      have q2 := bl.cell 2
      clear bl hb1
      go_wp2_with (first | (go_at_call 60; refine (l03House_any _ _).mono ?_; rintro e w' ⟨rfl, rfl⟩) | (go_at_call 58; refine (l02Is_any _ _ _ _).mono ?_; rintro e w' ⟨rfl, rfl⟩))
      go_ret
      exact ⟨ret_bool HR.out.symm, hB⟩
    · by_cases k7 : f = o
      · have e3 : (f == o) = true := beq_iff_eq.2 k7
        have K7 := Lib.hid k7
        clear k5 k7
        have HR : Hid (R = false) := by rw [Hid, HD2.out]; rw [offerB, decide_eq_false K5.out, decide_eq_true K7.out]; simp
        clear HD2 HG
        go_enter Tryz.func30, Tryz.ntmps30
        go_wp2_with (first | (go_at_call 60; refine (l03House_any _ _).mono ?_; rintro e w' ⟨rfl, rfl⟩) | (go_at_call 58; refine (l02Is_any _ _ _ _).mono ?_; rintro e w' ⟨rfl, rfl⟩))
        refine (HO.out _ (by go_grown)).mono ?_
        rintro e w1 ⟨rfl, hb1⟩
        have hB := boxed hb1
        have bl : Block w1 w.heap.size 40 #[.int .i64 h, .int .i64 l, .int .i64 o, .slice A1 ns.length c1, .slice A2 hs.length c2, .bool b, .int .i64 f] := (Block.new w _ _).on hb1
        have q3 := bl.cell 3
        have q4 := bl.cell 4
        have q5 := bl.cell 5
        have q6 := bl.cell 6
        have q2 := bl.cell 2
        clear bl hb1
        go_wp2_with (first | (go_at_call 60; refine (l03House_any _ _).mono ?_; rintro e w' ⟨rfl, rfl⟩) | (go_at_call 58; refine (l02Is_any _ _ _ _).mono ?_; rintro e w' ⟨rfl, rfl⟩))
        go_ret
        exact ⟨ret_bool HR.out.symm, hB⟩
      · have e3 : (f == o) = false := beq_eq_false_iff_ne.2 k7
        have e4 : (f != o) = true := bne_iff_ne.2 k7
        have K7 := Lib.hid k7
        clear k7 k5
        cases b
        · by_cases k6' : hs.length = 0
          · have k7 : (hs.length : Int) = 0 := by omega
            have k8 : ((hs.length : Int) == 0) = true := by rw [k7]; rfl
            replace k7 := Lib.hid k7
            replace k6' := Lib.hid k6'
            have HR : Hid (R = (ns.all wordB && false)) := by rw [Hid, HD2.out]; simp [lastB, K5.out]
            clear HD2
            go_enter Tryz.func30, Tryz.ntmps30
            go_wp2_with (first | (go_at_call 60; refine (l03House_any _ _).mono ?_; rintro e w' ⟨rfl, rfl⟩) | (go_at_call 58; refine (l02Is_any _ _ _ _).mono ?_; rintro e w' ⟨rfl, rfl⟩))
            refine (HO.out _ (by go_grown)).mono ?_
            rintro e w1 ⟨rfl, hb1⟩
            have hB := boxed hb1
            have bl : Block w1 w.heap.size 40 #[.int .i64 h, .int .i64 l, .int .i64 o, .slice A1 ns.length c1, .slice A2 hs.length c2, .bool false, .int .i64 f] := (Block.new w _ _).on hb1
            have q3 := bl.cell 3
            have q4 := bl.cell 4
            have q5 := bl.cell 5
            have q6 := bl.cell 6
            have q2 := bl.cell 2
            clear bl hb1
            go_wp2_with (first | (go_at_call 60; refine (l03House_any _ _).mono ?_; rintro e w' ⟨rfl, rfl⟩) | (go_at_call 58; refine (l02Is_any _ _ _ _).mono ?_; rintro e w' ⟨rfl, rfl⟩))
            go_loop [3] (fun i => ∃ k : Nat, k ≤ ns.length ∧ i = .int .i64 k ∧ Hid ((ns.take k).all wordB = true)) (fun i => ns.length - (intOf i).toNat)
            case atStart => exact ⟨0, Nat.zero_le _, rfl, rfl⟩
            case round =>
              obtain ⟨k, hk, rfl, HA⟩ := hrel
              by_cases hlt : k < ns.length
              · obtain ⟨bb, off, s, rfl, hx, hs', c0⟩ := HG.out k hk w1 hB hlt
                have HW : Hid (∀ W : World, Calls Tryz.prog 61 #[.string s] W fun e w' => e = .returned (.bool (wordB s)) ∧ W = w') := fun W => sWord_any s W hs'
                cases hb : wordB s
                · rw [hb] at HW
                  have HN := Lib.hid (names_no hx hb)
                  clear hx hb HG
                  go_wp2_with fail
                  refine (HW.out _).mono ?_
                  rintro e w1 ⟨rfl, rfl⟩
                  go_wp2_with fail
                  go_ret
                  exact ⟨ret_bool (by rw [HR.out, HN.out]; rfl), hB⟩
                · rw [hb] at HW
                  have HN := Lib.hid (all_take_succ HA.out hx hb)
                  clear hx hb HG
                  go_wp2_with fail
                  refine (HW.out _).mono ?_
                  rintro e w1 ⟨rfl, rfl⟩
                  go_wp2_with fail
                  go_round
                  case rel => exact ⟨k + 1, by omega, by go_num, HN⟩
                  case measure => simp [intOf]; omega
              · obtain rfl : k = ns.length := by omega
                have HE : Hid (ns.all wordB = true) := by have := HA.out; rwa [List.take_length] at this
                clear HG
                go_wp2
                go_ret
                exact ⟨ret_bool (by rw [HR.out, HE.out]; rfl), hB⟩
          · have k8 : ((hs.length : Int) == 0) = false := beq_eq_false_iff_ne.2 (by omega)
            have HR : Hid (R = (ns.all wordB && false)) := by rw [Hid, HD2.out]; simp [lastB, K5.out]
            clear HD2
            go_enter Tryz.func30, Tryz.ntmps30
            go_wp2_with (first | (go_at_call 60; refine (l03House_any _ _).mono ?_; rintro e w' ⟨rfl, rfl⟩) | (go_at_call 58; refine (l02Is_any _ _ _ _).mono ?_; rintro e w' ⟨rfl, rfl⟩))
            refine (HO.out _ (by go_grown)).mono ?_
            rintro e w1 ⟨rfl, hb1⟩
            have hB := boxed hb1
            have bl : Block w1 w.heap.size 40 #[.int .i64 h, .int .i64 l, .int .i64 o, .slice A1 ns.length c1, .slice A2 hs.length c2, .bool false, .int .i64 f] := (Block.new w _ _).on hb1
            have q3 := bl.cell 3
            have q4 := bl.cell 4
            have q5 := bl.cell 5
            have q6 := bl.cell 6
            have q2 := bl.cell 2
            clear bl hb1
            go_wp2_with (first | (go_at_call 60; refine (l03House_any _ _).mono ?_; rintro e w' ⟨rfl, rfl⟩) | (go_at_call 58; refine (l02Is_any _ _ _ _).mono ?_; rintro e w' ⟨rfl, rfl⟩))
            go_loop [3] (fun i => ∃ k : Nat, k ≤ ns.length ∧ i = .int .i64 k ∧ Hid ((ns.take k).all wordB = true)) (fun i => ns.length - (intOf i).toNat)
            case atStart => exact ⟨0, Nat.zero_le _, rfl, rfl⟩
            case round =>
              obtain ⟨k, hk, rfl, HA⟩ := hrel
              by_cases hlt : k < ns.length
              · obtain ⟨bb, off, s, rfl, hx, hs', c0⟩ := HG.out k hk w1 hB hlt
                have HW : Hid (∀ W : World, Calls Tryz.prog 61 #[.string s] W fun e w' => e = .returned (.bool (wordB s)) ∧ W = w') := fun W => sWord_any s W hs'
                cases hb : wordB s
                · rw [hb] at HW
                  have HN := Lib.hid (names_no hx hb)
                  clear hx hb HG
                  go_wp2_with fail
                  refine (HW.out _).mono ?_
                  rintro e w1 ⟨rfl, rfl⟩
                  go_wp2_with fail
                  go_ret
                  exact ⟨ret_bool (by rw [HR.out, HN.out]; rfl), hB⟩
                · rw [hb] at HW
                  have HN := Lib.hid (all_take_succ HA.out hx hb)
                  clear hx hb HG
                  go_wp2_with fail
                  refine (HW.out _).mono ?_
                  rintro e w1 ⟨rfl, rfl⟩
                  go_wp2_with fail
                  go_round
                  case rel => exact ⟨k + 1, by omega, by go_num, HN⟩
                  case measure => simp [intOf]; omega
              · obtain rfl : k = ns.length := by omega
                have HE : Hid (ns.all wordB = true) := by have := HA.out; rwa [List.take_length] at this
                clear HG
                go_wp2
                go_ret
                exact ⟨ret_bool (by rw [HR.out, HE.out]; rfl), hB⟩
        · skip
          have HR : Hid (R = (ns.all wordB && true)) := by rw [Hid, HD2.out]; simp [offerB, lastB, k6, K5.out, K7.out]
          clear HD2
          go_enter Tryz.func30, Tryz.ntmps30
          go_wp2_with (first | (go_at_call 60; refine (l03House_any _ _).mono ?_; rintro e w' ⟨rfl, rfl⟩) | (go_at_call 58; refine (l02Is_any _ _ _ _).mono ?_; rintro e w' ⟨rfl, rfl⟩))
          refine (HO.out _ (by go_grown)).mono ?_
          rintro e w1 ⟨rfl, hb1⟩
          have hB := boxed hb1
          have bl : Block w1 w.heap.size 40 #[.int .i64 h, .int .i64 l, .int .i64 o, .slice A1 ns.length c1, .slice A2 hs.length c2, .bool true, .int .i64 f] := (Block.new w _ _).on hb1
          have q3 := bl.cell 3
          have q4 := bl.cell 4
          have q5 := bl.cell 5
          have q6 := bl.cell 6
          have q2 := bl.cell 2
          clear bl hb1
          go_wp2_with (first | (go_at_call 60; refine (l03House_any _ _).mono ?_; rintro e w' ⟨rfl, rfl⟩) | (go_at_call 58; refine (l02Is_any _ _ _ _).mono ?_; rintro e w' ⟨rfl, rfl⟩))
          go_loop [3] (fun i => ∃ k : Nat, k ≤ ns.length ∧ i = .int .i64 k ∧ Hid ((ns.take k).all wordB = true)) (fun i => ns.length - (intOf i).toNat)
          case atStart => exact ⟨0, Nat.zero_le _, rfl, rfl⟩
          case round =>
            obtain ⟨k, hk, rfl, HA⟩ := hrel
            by_cases hlt : k < ns.length
            · obtain ⟨bb, off, s, rfl, hx, hs', c0⟩ := HG.out k hk w1 hB hlt
              have HW : Hid (∀ W : World, Calls Tryz.prog 61 #[.string s] W fun e w' => e = .returned (.bool (wordB s)) ∧ W = w') := fun W => sWord_any s W hs'
              cases hb : wordB s
              · rw [hb] at HW
                have HN := Lib.hid (names_no hx hb)
                clear hx hb HG
                go_wp2_with fail
                refine (HW.out _).mono ?_
                rintro e w1 ⟨rfl, rfl⟩
                go_wp2_with fail
                go_ret
                exact ⟨ret_bool (by rw [HR.out, HN.out]; rfl), hB⟩
              · rw [hb] at HW
                have HN := Lib.hid (all_take_succ HA.out hx hb)
                clear hx hb HG
                go_wp2_with fail
                refine (HW.out _).mono ?_
                rintro e w1 ⟨rfl, rfl⟩
                go_wp2_with fail
                go_round
                case rel => exact ⟨k + 1, by omega, by go_num, HN⟩
                case measure => simp [intOf]; omega
            · obtain rfl : k = ns.length := by omega
              have HE : Hid (ns.all wordB = true) := by have := HA.out; rwa [List.take_length] at this
              clear HG
              go_wp2
              go_ret
              exact ⟨ret_bool (by rw [HR.out, HE.out]; rfl), hB⟩
end Go.Proofs.YtpncnkihfijmaaaGreatDoor
