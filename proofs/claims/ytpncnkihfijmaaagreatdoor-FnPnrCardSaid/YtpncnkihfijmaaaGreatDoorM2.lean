/-
  spec.l03Holds, l03House; impl.isHouse, guestsRight: the walks. PnrRight: the walks.
-/
import Derived.Test.YtpncnkihfijmaaaGreatDoorHoldsRightZ
import Derived.Test.YtpncnkihfijmaaaGreatDoorM1
namespace Go.Proofs.YtpncnkihfijmaaaGreatDoor
open Go.ChangeShapes Go.WideShapes Go.ChangeAt Go.RowKit Go.ChangeMaps
set_option maxRecDepth 10000
set_option linter.unusedSimpArgs false
set_option linter.unusedVariables false

def houseB (n : Int) : Bool := decide (1 ≤ n ∧ n ≤ 4)
set_option maxHeartbeats 400000 in
theorem isHouse_any (n : Int) (w : World) : Calls Tryz.prog 83 #[.int .i64 n] w fun e w' => e = .returned (.bool (houseB n)) ∧ w = w' := by
  go_enter Tryz.func83, Tryz.ntmps83
  go_wp2
  all_goals
    go_ret
    refine ⟨ret_bool ?_, rfl⟩
    rw [Bool.eq_iff_iff]
    simp [houseB]
    try omega
set_option maxHeartbeats 400000 in
theorem l03House_any (n : Int) (w : World) : Calls Tryz.prog 60 #[.int .i64 n] w fun e w' => e = .returned (.bool (houseB n)) ∧ w = w' := by
  have HI : Hid (inB n 1 4 = houseB n) := by
    rw [Hid, Bool.eq_iff_iff]
    simp [houseB, inB]
  go_enter Tryz.func60, Tryz.ntmps60
  go_wp2_with (go_at_call 58; refine (l02Is_any _ _ _ _).mono ?_; rintro e w' ⟨rfl, rfl⟩)
  go_ret
  exact ⟨ret_bool HI.out, rfl⟩

def namesOkB (l : List ByteArray) : Bool := decide (l.length ≤ 4) && l.all wordB
theorem names_no {l : List ByteArray} {k : Nat} {s : ByteArray} (h : l[k]? = some s) (hs : wordB s = false) : l.all wordB = false :=
  List.all_eq_false.2 ⟨s, List.mem_of_getElem? h, by simp [hs]⟩
theorem all_take_succ {l : List ByteArray} {k : Nat} {s : ByteArray} (ha : (l.take k).all wordB = true) (h : l[k]? = some s) (hs : wordB s = true) : (l.take (k + 1)).all wordB = true := by
  rw [List.take_add_one, h, List.all_append, ha]
  simp [hs]

set_option maxHeartbeats 1000000 in
theorem guestsRight_any (l : List ByteArray) (A : Option Addr) (cap : Nat) (w : World) (hl : Lies w w.heap.size 1 A l.length (strsC l)) (hm : l.length ≤ 1099511627) (hf : ∀ x ∈ l, x.size ≤ maxLen) :
    Calls Tryz.prog 85 #[.slice A l.length cap] w fun e w' => e = .returned (.bool (namesOkB l)) ∧ w = w' := by
  by_cases h4 : 4 < l.length
  · have HR : Hid (namesOkB l = false) := by rw [Hid, namesOkB, decide_eq_false (by omega)]; rfl
    clear hl hf
    go_enter Tryz.func85, Tryz.ntmps85
    go_wp2
    go_ret
    exact ⟨ret_bool HR.out.symm, rfl⟩
  have HR : Hid (namesOkB l = l.all wordB) := by rw [Hid, namesOkB, decide_eq_true (by omega)]; rfl
  have h4' : decide ((4 : Int) < (l.length : Int)) = false := by simp; omega
  have HF := Lib.hid hf
  clear hf
  generalize namesOkB l = R at *
  go_enter Tryz.func85, Tryz.ntmps85
  go_wp2
  go_loop [10] (fun i => ∃ k : Nat, k ≤ l.length ∧ i = .int .i64 k ∧ Hid ((l.take k).all wordB = true)) (fun i => l.length - (intOf i).toNat)
  case atStart => exact ⟨0, Nat.zero_le _, rfl, rfl⟩
  case round =>
    obtain ⟨k, hk, rfl, HA⟩ := hrel
    by_cases hlt : k < l.length
    · obtain ⟨b, off, s, rfl, hlb, hx, c0⟩ := hl.str hlt
      have hs := HF.out s (List.mem_of_getElem? hx)
      have HW : Hid (∀ W : World, Calls Tryz.prog 112 #[.string s] W fun e w' => e = .returned (.bool (wordB s)) ∧ W = w') := fun W => iWord_any s W hs
      cases hb : wordB s
      · rw [hb] at HW
        have HN := Lib.hid (names_no hx hb)
        clear hx hb hl
        go_wp2_with fail
        refine (HW.out _).mono ?_
        rintro e w1 ⟨rfl, rfl⟩
        go_wp2_with fail
        go_ret
        exact ⟨ret_bool (by rw [HR.out, HN.out]), rfl⟩
      · rw [hb] at HW
        have HN := Lib.hid (all_take_succ HA.out hx hb)
        clear hx hb hl
        go_wp2_with fail
        refine (HW.out _).mono ?_
        rintro e w1 ⟨rfl, rfl⟩
        go_wp2_with fail
        go_round
        case rel => exact ⟨k + 1, by omega, by go_num, HN⟩
        case measure => simp [intOf]; omega
    · obtain rfl : k = l.length := by omega
      have HE : Hid (l.all wordB = true) := by have := HA.out; rwa [List.take_length] at this
      clear hl
      go_wp2
      go_ret
      exact ⟨ret_bool (by rw [HR.out, HE.out]), rfl⟩

/-- The first k holds stand right. -/
def okTo (l : List HD) (k : Nat) : Prop := ∀ i, i < k → okAt l i = true
theorem okTo_succ {l : List HD} {k : Nat} (h : okTo l k) (hk : okAt l k = true) : okTo l (k + 1) := fun i hi => by
  rcases Nat.lt_or_ge i k with h1 | h1
  · exact h i h1
  · have : i = k := by omega
    rw [this]; exact hk
theorem holdsOk_at {l : List HD} {k : Nat} (hk : k < l.length) (h : okAt l k = false) : holdsOkB l = false := by
  rw [holdsOkB, Bool.and_eq_false_iff]
  exact .inr (List.all_eq_false.2 ⟨k, List.mem_range.2 hk, by simp [h]⟩)
theorem holdsOk_len {l : List HD} (h : okTo l l.length) : holdsOkB l = decide (l.length ≤ 4) := by
  have : (List.range l.length).all (okAt l) = true := List.all_eq_true.2 fun i hi => h i (List.mem_range.1 hi)
  rw [holdsOkB, this, Bool.and_true]

set_option maxHeartbeats 4000000 in
theorem l03Holds_any (l : List HD) (A : Option Addr) (cap : Nat) (w : World) (hl : Lies w w.heap.size 3 A l.length (holdsC l)) (hm : l.length ≤ 1099511627) (hf : ∀ x ∈ l, x.f.size ≤ maxLen) :
    Calls Tryz.prog 87 #[.slice A l.length cap] w fun e w' => e = .returned (.bool (holdsOkB l)) ∧ Below w.heap.size w w' := by
  have HF := Lib.hid hf
  clear hf
  go_enter Tryz.func87, Tryz.ntmps87
  go_wp2
  go_loopw [3] (fun i wr => ∃ k : Nat, k ≤ l.length ∧ i = .int .i64 k ∧ Hid (okTo l k) ∧ Below w.heap.size w wr) (fun i _ => l.length - (intOf i).toNat)
  case atStart => exact ⟨0, Nat.zero_le _, rfl, fun i hi => absurd hi (Nat.not_lt_zero _), Below.refl _ _⟩
  case round =>
    obtain ⟨k, hk, rfl, HA, hB⟩ := hrel
    by_cases hlt : k < l.length
    · have HN : Hid (okAt l k = false → holdsOkB l = false) := fun h => holdsOk_at hlt h
      have HY : Hid (okAt l k = true → okTo l (k + 1)) := fun h => okTo_succ HA.out h
      have hx0 := at_hAt hlt
      have hOK : Hid (okAt l k = (wordB (hAt l k).f && (seatB (hAt l k).r (hAt l k).c && (decide (k = 0) || lessB (hAt l (k - 1)) (hAt l k))))) := rfl
      obtain ⟨b, off, x, rfl, hlb, hx, c0, c1, c2⟩ := (hl.below hB).hold hlt
      have hxs := HF.out x (List.mem_of_getElem? hx)
      rw [hAt_of hx] at hOK
      have hy : 0 < k → w.cell? ⟨b, off + (k - 1) * 3, none⟩ = w.cell? ⟨b, off + (k - 1) * 3, none⟩ := fun _ => rfl
      have hprev : 0 < k → ∃ y : HD, hAt l (k - 1) = y ∧ wr.cell? ⟨b, off + (k - 1) * 3, none⟩ = some (.string y.f) ∧ wr.cell? ⟨b, off + (k - 1) * 3 + 1, none⟩ = some (.int .i64 y.r) ∧ wr.cell? ⟨b, off + (k - 1) * 3 + 2, none⟩ = some (.int .i64 y.c) := fun h0 => by
        obtain ⟨b', off', y, he, _, hy, d0, d1, d2⟩ := (hl.below hB).hold (show k - 1 < l.length by omega)
        cases he
        exact ⟨y, hAt_of hy, d0, d1, d2⟩
      have HW : Hid (∀ W : World, Calls Tryz.prog 61 #[.string x.f] W fun e w' => e = .returned (.bool (wordB x.f)) ∧ W = w') := fun W => sWord_any x.f W hxs
      have HSR : Hid (∀ W : World, Calls Tryz.prog 62 #[seatV x.r x.c] W fun e w' => e = .returned (.bool (seatB x.r x.c)) ∧ Below W.heap.size W w') := fun W => sSeatRight_any x.r x.c W
      clear hx hx0 hy hl
      have hz := hB.size
      have e0 := Cls.cell c0
      have e1 := Cls.cell c1
      have e2 := Cls.cell c2
      cases hbw : wordB x.f
      · rw [hbw] at HW
        have HO : Hid (holdsOkB l = false) := HN.out (by rw [hOK.out, hbw]; rfl)
        have HWq : Hid (∀ p : Cls wr, Calls Tryz.prog 61 #[.string x.f] p.W fun e w'' => e = .returned (.bool false) ∧ ∃ p' : Cls wr, w'' = p'.W) := fun p => Cls.same (HW.out p.W)
        clear hOK hbw HSR hprev HN HY c1 c2 e1 e2
        go_wp2_with fail
        refine wp_region_cls (by kernel_rfl) (by kernel_rfl) ?_
        repeat (go_big_quiet_step (first | (go_at_call 61; exact HWq.out _)))
        refine wpQuiet_nil ?_
        rintro _ ⟨⟨W, hW⟩, rfl⟩
        have hBW := hB.trans (hW.mono hz)
        go_wp2_with fail
        go_ret
        exact ⟨ret_bool HO.out.symm, hBW⟩
      · rw [hbw] at HW
        have HWq : Hid (∀ p : Cls wr, Calls Tryz.prog 61 #[.string x.f] p.W fun e w'' => e = .returned (.bool true) ∧ ∃ p' : Cls wr, w'' = p'.W) := fun p => Cls.same (HW.out p.W)
        cases hbs : seatB x.r x.c
        · rw [hbs] at HSR
          have HO : Hid (holdsOkB l = false) := HN.out (by rw [hOK.out, hbw, hbs]; rfl)
          have HSq : Hid (∀ p : Cls wr, Calls Tryz.prog 62 #[seatV x.r x.c] p.W fun e w'' => e = .returned (.bool false) ∧ ∃ p' : Cls wr, w'' = p'.W) := fun p => Cls.call (HSR.out p.W)
          clear hOK hbw hbs hprev HN HY
          go_wp2_with fail
          refine wp_region_cls (by kernel_rfl) (by kernel_rfl) ?_
          repeat (go_big_quiet_step (first | (go_at_call 61; exact HWq.out _) | (go_at_call 62; exact HSq.out _)))
          refine wpQuiet_nil ?_
          rintro _ ⟨⟨W, hW⟩, rfl⟩
          have hBW := hB.trans (hW.mono hz)
          go_wp2_with fail
          go_ret
          exact ⟨ret_bool HO.out.symm, hBW⟩
        · rw [hbs] at HSR
          have HSq : Hid (∀ p : Cls wr, Calls Tryz.prog 62 #[seatV x.r x.c] p.W fun e w'' => e = .returned (.bool true) ∧ ∃ p' : Cls wr, w'' = p'.W) := fun p => Cls.call (HSR.out p.W)
          by_cases hk0 : k = 0
          · have HO := Lib.hid (HY.out (by rw [hOK.out, hbw, hbs, decide_eq_true hk0]; rfl))
            subst hk0
            simp only [Nat.zero_mul, Nat.add_zero, Nat.zero_add] at e0 e1 e2
            clear hOK hbw hbs hprev HN HY
            go_wp2_with fail
            refine wp_region_cls (by kernel_rfl) (by kernel_rfl) ?_
            repeat (go_big_quiet_step (first | (go_at_call 61; exact HWq.out _) | (go_at_call 62; exact HSq.out _)))
            refine wpQuiet_nil ?_
            rintro _ ⟨⟨W, hW⟩, rfl⟩
            have hBW := hB.trans (hW.mono hz)
            go_wp2_with fail
            go_roundw
            case rel => exact ⟨0 + 1, by omega, by go_num, HO, hBW⟩
            case measure => simp [intOf]; omega
          · obtain ⟨y, hy, d0, d1, d2⟩ := hprev (by omega)
            rw [hy] at hOK
            have f0 := Cls.cell d0
            have f1 := Cls.cell d1
            have f2 := Cls.cell d2
            have hk1 : decide (0 < k) = true := decide_eq_true (by omega)
            have hk2 : decide ((0 : Int) < (k : Int)) = true := decide_eq_true (by omega)
            have hw1 : IntKind.i64.wrap ((k : Int) - 1) = (k : Int) - 1 := IntWalk.i64_in _ (by omega)
            have hw2 : (0 : Int) ≤ (k : Int) - 1 := by omega
            have hw4 : (k : Int) - 1 < (l.length : Int) := by omega
            have hw3 : ((k : Int) - 1).toNat = k - 1 := by omega
            cases hbl : lessB y x
            · have HO : Hid (holdsOkB l = false) := HN.out (by rw [hOK.out, hbw, hbs, hbl, decide_eq_false hk0]; rfl)
              have HLq : Hid (∀ p : Cls wr, Calls Tryz.prog 32 #[holdV y.f y.r y.c, holdV x.f x.r x.c] p.W fun e w'' => e = .returned (.bool false) ∧ ∃ p' : Cls wr, w'' = p'.W) := fun p => Cls.call (hbl ▸ sHoldLess_any y x p.W)
              clear hOK hbw hbs hprev hy hk0 hbl HN HY
              go_wp2_with fail
              refine wp_region_cls (by kernel_rfl) (by kernel_rfl) ?_
              repeat (go_big_quiet_step (first | (go_at_call 61; exact HWq.out _) | (go_at_call 62; exact HSq.out _) | (go_at_call 32; exact HLq.out _)))
              refine wpQuiet_nil ?_
              rintro _ ⟨⟨W, hW⟩, rfl⟩
              have hBW := hB.trans (hW.mono hz)
              go_wp2_with fail
              go_ret
              exact ⟨ret_bool HO.out.symm, hBW⟩
            · have HO := Lib.hid (HY.out (by rw [hOK.out, hbw, hbs, hbl]; simp))
              have HLq : Hid (∀ p : Cls wr, Calls Tryz.prog 32 #[holdV y.f y.r y.c, holdV x.f x.r x.c] p.W fun e w'' => e = .returned (.bool true) ∧ ∃ p' : Cls wr, w'' = p'.W) := fun p => Cls.call (hbl ▸ sHoldLess_any y x p.W)
              clear hOK hbw hbs hprev hy hk0 hbl HN HY
              go_wp2_with fail
              refine wp_region_cls (by kernel_rfl) (by kernel_rfl) ?_
              repeat (go_big_quiet_step (first | (go_at_call 61; exact HWq.out _) | (go_at_call 62; exact HSq.out _) | (go_at_call 32; exact HLq.out _)))
              refine wpQuiet_nil ?_
              rintro _ ⟨⟨W, hW⟩, rfl⟩
              have hBW := hB.trans (hW.mono hz)
              clear hw1 hw3
              go_wp2_with fail
              go_roundw
              case rel => exact ⟨k + 1, by omega, by go_num, HO, hBW⟩
              case measure => simp [intOf]; omega
    · obtain rfl : k = l.length := by omega
      have HE := Lib.hid (holdsOk_len HA.out)
      clear hl
      by_cases h4 : l.length ≤ 4
      · have HE2 : Hid (holdsOkB l = true) := by rw [Hid, HE.out, decide_eq_true h4]
        go_wp2
        go_ret
        exact ⟨ret_bool (by rw [HE2.out]; simp; omega), hB⟩
      · have HE2 : Hid (holdsOkB l = false) := by rw [Hid, HE.out, decide_eq_false h4]
        go_wp2
        go_ret
        exact ⟨ret_bool (by rw [HE2.out]; simp; omega), hB⟩
end Go.Proofs.YtpncnkihfijmaaaGreatDoor
namespace Go.Proofs.YtpncnkihfijmaaaGreatDoor
open Go.ChangeShapes Go.WideShapes Go.ChangeAt Go.RowKit Go.ChangeMaps
set_option maxRecDepth 10000
set_option linter.unusedSimpArgs false
set_option linter.unusedVariables false

def offerB (f o : Int) : Bool := decide (f = 0) || (houseB f && !decide (f = o))
def lastB (b : Bool) (n : Nat) (f : Int) : Bool := b || (decide (n = 0) && decide (f = 0))
/-- Is a booking right? -/
def rightB (p : PD) : Bool := (houseB p.home && (houseB p.owner && inB p.loc 1 9)) && ((namesOkB p.names && holdsOkB p.holds) && (offerB p.offer p.owner && lastB p.live p.holds.length p.offer))

set_option maxHeartbeats 400000 in
theorem isLoc_any (n : Int) (w : World) : Calls Tryz.prog 84 #[.int .i64 n] w fun e w' => e = .returned (.bool (inB n 1 9)) ∧ w = w' := by
  go_enter Tryz.func84, Tryz.ntmps84
  go_wp2
  all_goals
    go_ret
    refine ⟨ret_bool ?_, rfl⟩
    rw [Bool.eq_iff_iff]
    simp [inB]
    try omega
set_option maxHeartbeats 4000000 in
theorem iPnrRight_any (p : PD) (A1 : Option Addr) (c1 : Nat) (A2 : Option Addr) (c2 : Nat) (w : World) (hl : PLies w w.heap.size p A1 A2) (hf : PFit p) (hn : p.names.length ≤ 1099511627) (hh : p.holds.length ≤ 1099511627) :
    Calls Tryz.prog 29 #[pdV p A1 c1 A2 c2] w fun e w' => e = .returned (.bool (rightB p)) ∧ Below w.heap.size w w' := by
  obtain ⟨h, l, o, ns, hs, b, f⟩ := p
  obtain ⟨hl1, hl2⟩ := hl
  obtain ⟨-, fn1, -, fh1⟩ := hf
  dsimp only [pdV] at *
  have HG : Hid (∀ W : World, Below w.heap.size w W → Calls Tryz.prog 85 #[.slice A1 ns.length c1] W fun e w' => e = .returned (.bool (namesOkB ns)) ∧ W = w') := fun W hW => guestsRight_any ns A1 c1 W (hl1.on hW) hn fn1
  have HO : Hid (∀ W : World, Below w.heap.size w W → Calls Tryz.prog 86 #[.slice A2 hs.length c2] W fun e w' => e = .returned (.bool (holdsOkB hs)) ∧ Below W.heap.size W w') := fun W hW => iHoldsRight_any hs A2 c2 W (hl2.on hW) hh fh1
  have HD : Hid (rightB ⟨h, l, o, ns, hs, b, f⟩ = ((houseB h && (houseB o && inB l 1 9)) && ((namesOkB ns && holdsOkB hs) && (offerB f o && lastB b hs.length f)))) := rfl
  clear hl1 hl2 fn1 fh1 hn
  generalize rightB ⟨h, l, o, ns, hs, b, f⟩ = R at *
  generalize namesOkB ns = xn at *
  generalize holdsOkB hs = xh at *
  cases k1 : houseB h
  · skip
    have HR : Hid (R = false) := by rw [Hid, HD.out]; rw [k1]; rfl
    clear HD HG HO
    go_enter Tryz.func29, Tryz.ntmps29
    go_wp2_with (first | (go_at_call 83; refine (isHouse_any _ _).mono ?_; rintro e w' ⟨rfl, rfl⟩) | (go_at_call 84; refine (isLoc_any _ _).mono ?_; rintro e w' ⟨rfl, rfl⟩))
    go_ret
    exact ⟨ret_bool HR.out.symm, by go_grown⟩
  cases k23 : inB l 1 9
  · skip
    have HR : Hid (R = false) := by rw [Hid, HD.out]; rw [k23]; simp
    clear HD HG HO
    go_enter Tryz.func29, Tryz.ntmps29
    go_wp2_with (first | (go_at_call 83; refine (isHouse_any _ _).mono ?_; rintro e w' ⟨rfl, rfl⟩) | (go_at_call 84; refine (isLoc_any _ _).mono ?_; rintro e w' ⟨rfl, rfl⟩))
    go_ret
    exact ⟨ret_bool HR.out.symm, by go_grown⟩
  cases k4 : houseB o
  · skip
    have HR : Hid (R = false) := by rw [Hid, HD.out]; rw [k4]; simp
    clear HD HG HO
    go_enter Tryz.func29, Tryz.ntmps29
    go_wp2_with (first | (go_at_call 83; refine (isHouse_any _ _).mono ?_; rintro e w' ⟨rfl, rfl⟩) | (go_at_call 84; refine (isLoc_any _ _).mono ?_; rintro e w' ⟨rfl, rfl⟩))
    go_ret
    exact ⟨ret_bool HR.out.symm, by go_grown⟩
  rw [k1, k4, k23] at HD
  have HD2 : Hid (R = ((xn && xh) && (offerB f o && lastB b hs.length f))) := HD
  clear HD
  by_cases k5 : f = 0
  · subst k5
    cases b
    · by_cases k6 : 0 < hs.length
      · skip
        have HR : Hid (R = false) := by rw [Hid, HD2.out]; rw [lastB, decide_eq_false (show ¬ hs.length = 0 by omega)]; simp
        clear HD2 HG HO
        have k7 : (0 : Int) < (hs.length : Int) := by omega
        go_enter Tryz.func29, Tryz.ntmps29
        go_wp2_with (first | (go_at_call 83; refine (isHouse_any _ _).mono ?_; rintro e w' ⟨rfl, rfl⟩) | (go_at_call 84; refine (isLoc_any _ _).mono ?_; rintro e w' ⟨rfl, rfl⟩))
        go_ret
        exact ⟨ret_bool HR.out.symm, by go_grown⟩
      · have k7 : hs.length = 0 := by omega
        have k8 : ¬ (0 : Int) < (hs.length : Int) := by omega
        have HR : Hid (R = (xn && xh)) := by rw [Hid, HD2.out]; simp [offerB, lastB, k7]
        clear HD2
        replace k7 := Lib.hid k7
        cases xn
        · go_enter Tryz.func29, Tryz.ntmps29
          go_wp2_with (first | (go_at_call 83; refine (isHouse_any _ _).mono ?_; rintro e w' ⟨rfl, rfl⟩) | (go_at_call 84; refine (isLoc_any _ _).mono ?_; rintro e w' ⟨rfl, rfl⟩))
          refine (HG.out _ (by go_grown)).mono ?_
          rintro e w1 ⟨rfl, rfl⟩
          go_wp2_with fail
          go_ret
          exact ⟨ret_bool HR.out.symm, by go_grown⟩
        · go_enter Tryz.func29, Tryz.ntmps29
          go_wp2_with (first | (go_at_call 83; refine (isHouse_any _ _).mono ?_; rintro e w' ⟨rfl, rfl⟩) | (go_at_call 84; refine (isLoc_any _ _).mono ?_; rintro e w' ⟨rfl, rfl⟩))
          refine (HG.out _ (by go_grown)).mono ?_
          rintro e w1 ⟨rfl, rfl⟩
          go_wp2_with fail
          refine (HO.out _ (by go_grown)).mono ?_
          rintro e w2 ⟨rfl, hb2⟩
          go_wp2_with fail
          go_ret
          exact ⟨ret_bool HR.out.symm, boxed hb2⟩
    · skip
      have HR : Hid (R = (xn && xh)) := by rw [Hid, HD2.out]; simp [offerB, lastB]
      clear HD2
      cases xn
      · go_enter Tryz.func29, Tryz.ntmps29
        go_wp2_with (first | (go_at_call 83; refine (isHouse_any _ _).mono ?_; rintro e w' ⟨rfl, rfl⟩) | (go_at_call 84; refine (isLoc_any _ _).mono ?_; rintro e w' ⟨rfl, rfl⟩))
        refine (HG.out _ (by go_grown)).mono ?_
        rintro e w1 ⟨rfl, rfl⟩
        go_wp2_with fail
        go_ret
        exact ⟨ret_bool HR.out.symm, by go_grown⟩
      · go_enter Tryz.func29, Tryz.ntmps29
        go_wp2_with (first | (go_at_call 83; refine (isHouse_any _ _).mono ?_; rintro e w' ⟨rfl, rfl⟩) | (go_at_call 84; refine (isLoc_any _ _).mono ?_; rintro e w' ⟨rfl, rfl⟩))
        refine (HG.out _ (by go_grown)).mono ?_
        rintro e w1 ⟨rfl, rfl⟩
        go_wp2_with fail
        refine (HO.out _ (by go_grown)).mono ?_
        rintro e w2 ⟨rfl, hb2⟩
        go_wp2_with fail
        go_ret
        exact ⟨ret_bool HR.out.symm, boxed hb2⟩
  · have e1 : (f == 0) = false := beq_eq_false_iff_ne.2 k5
    have e2 : (f != 0) = true := bne_iff_ne.2 k5
    have K5 := Lib.hid k5
    cases k6 : houseB f
    · skip
      have HR : Hid (R = false) := by rw [Hid, HD2.out]; simp [offerB, k6, K5.out]
      clear HD2 HG HO
      clear k5
      go_enter Tryz.func29, Tryz.ntmps29
      go_wp2_with (first | (go_at_call 83; refine (isHouse_any _ _).mono ?_; rintro e w' ⟨rfl, rfl⟩) | (go_at_call 84; refine (isLoc_any _ _).mono ?_; rintro e w' ⟨rfl, rfl⟩))
      go_ret
      exact ⟨ret_bool HR.out.symm, by go_grown⟩
    · by_cases k7 : f = o
      · subst k7
        have HR : Hid (R = false) := by rw [Hid, HD2.out]; simp [offerB, K5.out]
        clear HD2 HG HO
        clear k5
        go_enter Tryz.func29, Tryz.ntmps29
        go_wp2_with (first | (go_at_call 83; refine (isHouse_any _ _).mono ?_; rintro e w' ⟨rfl, rfl⟩) | (go_at_call 84; refine (isLoc_any _ _).mono ?_; rintro e w' ⟨rfl, rfl⟩))
        go_ret
        exact ⟨ret_bool HR.out.symm, by go_grown⟩
      · have e3 : (f == o) = false := beq_eq_false_iff_ne.2 k7
        have e4 : (f != o) = true := bne_iff_ne.2 k7
        have K7 := Lib.hid k7
        clear k7 k5
        cases b
        · by_cases k8 : 0 < hs.length
          · have k9 : (0 : Int) < (hs.length : Int) := by omega
            have HR : Hid (R = false) := by rw [Hid, HD2.out]; simp [lastB, K5.out]
            clear HD2 HG HO
            go_enter Tryz.func29, Tryz.ntmps29
            go_wp2_with (first | (go_at_call 83; refine (isHouse_any _ _).mono ?_; rintro e w' ⟨rfl, rfl⟩) | (go_at_call 84; refine (isLoc_any _ _).mono ?_; rintro e w' ⟨rfl, rfl⟩))
            go_ret
            exact ⟨ret_bool HR.out.symm, by go_grown⟩
          · have k9 : ¬ (0 : Int) < (hs.length : Int) := by omega
            have HR : Hid (R = false) := by rw [Hid, HD2.out]; simp [lastB, K5.out]
            clear HD2 HG HO
            go_enter Tryz.func29, Tryz.ntmps29
            go_wp2_with (first | (go_at_call 83; refine (isHouse_any _ _).mono ?_; rintro e w' ⟨rfl, rfl⟩) | (go_at_call 84; refine (isLoc_any _ _).mono ?_; rintro e w' ⟨rfl, rfl⟩))
            go_ret
            exact ⟨ret_bool HR.out.symm, by go_grown⟩
        · skip
          have HR : Hid (R = (xn && xh)) := by rw [Hid, HD2.out]; simp [offerB, lastB, k6, K7.out]
          clear HD2
          cases xn
          · go_enter Tryz.func29, Tryz.ntmps29
            go_wp2_with (first | (go_at_call 83; refine (isHouse_any _ _).mono ?_; rintro e w' ⟨rfl, rfl⟩) | (go_at_call 84; refine (isLoc_any _ _).mono ?_; rintro e w' ⟨rfl, rfl⟩))
            refine (HG.out _ (by go_grown)).mono ?_
            rintro e w1 ⟨rfl, rfl⟩
            go_wp2_with fail
            go_ret
            exact ⟨ret_bool HR.out.symm, by go_grown⟩
          · go_enter Tryz.func29, Tryz.ntmps29
            go_wp2_with (first | (go_at_call 83; refine (isHouse_any _ _).mono ?_; rintro e w' ⟨rfl, rfl⟩) | (go_at_call 84; refine (isLoc_any _ _).mono ?_; rintro e w' ⟨rfl, rfl⟩))
            refine (HG.out _ (by go_grown)).mono ?_
            rintro e w1 ⟨rfl, rfl⟩
            go_wp2_with fail
            refine (HO.out _ (by go_grown)).mono ?_
            rintro e w2 ⟨rfl, hb2⟩
            go_wp2_with fail
            go_ret
            exact ⟨ret_bool HR.out.symm, boxed hb2⟩
end Go.Proofs.YtpncnkihfijmaaaGreatDoor
