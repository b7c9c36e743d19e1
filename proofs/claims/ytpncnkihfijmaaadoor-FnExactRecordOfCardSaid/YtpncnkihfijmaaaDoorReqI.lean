/-
  impl.askOf, reqOf and the kinds' own rules: the walks. (By gen_reqi.py.)
-/
import Derived.Test.YtpncnkihfijmaaaDoorReq
import Derived.Test.YtpncnkihfijmaaaDoorCls
import Derived.Test.YtpncnkihfijmaaaDoorBlocks
import Derived.BigRegion
import Derived.Deep.RegionHeld3
namespace Go.Proofs.YtpncnkihfijmaaaDoor
open Go.ChangeShapes Go.WideShapes Go.ChangeAt Go.RowKit Go.ChangeMaps
set_option maxRecDepth 10000
set_option linter.unusedSimpArgs false
set_option linter.unusedVariables false

set_option maxHeartbeats 400000 in
theorem isHouseR_any (n : Int) (w : World) : Calls Tryd.prog 83 #[.int .i64 n] w fun e w' => e = .returned (.bool (inB n 1 4)) ∧ w = w' := by
  go_enter Tryd.func83, Tryd.ntmps83
  go_wp2
  all_goals
    go_ret
    refine ⟨ret_bool ?_, rfl⟩
    rw [Bool.eq_iff_iff]
    simp [inB]
    try omega
set_option maxHeartbeats 400000 in
theorem isLocR_any (n : Int) (w : World) : Calls Tryd.prog 84 #[.int .i64 n] w fun e w' => e = .returned (.bool (inB n 1 9)) ∧ w = w' := by
  go_enter Tryd.func84, Tryd.ntmps84
  go_wp2
  all_goals
    go_ret
    refine ⟨ret_bool ?_, rfl⟩
    rw [Bool.eq_iff_iff]
    simp [inB]
    try omega

set_option maxHeartbeats 1000000 in
theorem askOf_1 (t h l : Int) (n f : ByteArray) (r c o : Int) (w : World) : Calls Tryd.prog 17 #[reqV 1 t h l n f r c o] w fun e w' => e = .returned (.iface 70 (.agg #[])) ∧ Below w.heap.size w w' := by
  go_enter Tryd.func17, Tryd.ntmps17
  go_wp2
  go_ret
  exact ⟨rfl, by go_grown⟩

set_option maxHeartbeats 1000000 in
theorem askOf_2 (t h l : Int) (n f : ByteArray) (r c o : Int) (w : World) : Calls Tryd.prog 17 #[reqV 2 t h l n f r c o] w fun e w' => e = .returned (.iface 72 (.agg #[.int .i64 h, .int .i64 l, .string n])) ∧ Below w.heap.size w w' := by
  go_enter Tryd.func17, Tryd.ntmps17
  go_wp2
  go_ret
  exact ⟨rfl, by go_grown⟩

set_option maxHeartbeats 1000000 in
theorem askOf_3 (t h l : Int) (n f : ByteArray) (r c o : Int) (w : World) : Calls Tryd.prog 17 #[reqV 3 t h l n f r c o] w fun e w' => e = .returned (.iface 74 (.agg #[.int .i64 h, .int .i64 l, .string f, .int .i64 r, .int .i64 c])) ∧ Below w.heap.size w w' := by
  go_enter Tryd.func17, Tryd.ntmps17
  go_wp2
  go_ret
  exact ⟨rfl, by go_grown⟩

set_option maxHeartbeats 1000000 in
theorem askOf_4 (t h l : Int) (n f : ByteArray) (r c o : Int) (w : World) : Calls Tryd.prog 17 #[reqV 4 t h l n f r c o] w fun e w' => e = .returned (.iface 75 (.agg #[.int .i64 h, .int .i64 l, .string f, .int .i64 r, .int .i64 c])) ∧ Below w.heap.size w w' := by
  go_enter Tryd.func17, Tryd.ntmps17
  go_wp2
  go_ret
  exact ⟨rfl, by go_grown⟩

set_option maxHeartbeats 1000000 in
theorem askOf_5 (t h l : Int) (n f : ByteArray) (r c o : Int) (w : World) : Calls Tryd.prog 17 #[reqV 5 t h l n f r c o] w fun e w' => e = .returned (.iface 77 (.agg #[.int .i64 h, .int .i64 l])) ∧ Below w.heap.size w w' := by
  go_enter Tryd.func17, Tryd.ntmps17
  go_wp2
  go_ret
  exact ⟨rfl, by go_grown⟩

set_option maxHeartbeats 1000000 in
theorem askOf_6 (t h l : Int) (n f : ByteArray) (r c o : Int) (w : World) : Calls Tryd.prog 17 #[reqV 6 t h l n f r c o] w fun e w' => e = .returned (.iface 79 (.agg #[.int .i64 h, .int .i64 l, .int .i64 o])) ∧ Below w.heap.size w w' := by
  go_enter Tryd.func17, Tryd.ntmps17
  go_wp2
  go_ret
  exact ⟨rfl, by go_grown⟩

set_option maxHeartbeats 1000000 in
theorem askOf_7 (t h l : Int) (n f : ByteArray) (r c o : Int) (w : World) : Calls Tryd.prog 17 #[reqV 7 t h l n f r c o] w fun e w' => e = .returned (.iface 80 (.agg #[.int .i64 h, .int .i64 l])) ∧ Below w.heap.size w w' := by
  go_enter Tryd.func17, Tryd.ntmps17
  go_wp2
  go_ret
  exact ⟨rfl, by go_grown⟩

set_option maxHeartbeats 1000000 in
theorem askOf_8 (t h l : Int) (n f : ByteArray) (r c o : Int) (w : World) : Calls Tryd.prog 17 #[reqV 8 t h l n f r c o] w fun e w' => e = .returned (.iface 81 (.agg #[.int .i64 h, .int .i64 l])) ∧ Below w.heap.size w w' := by
  go_enter Tryd.func17, Tryd.ntmps17
  go_wp2
  go_ret
  exact ⟨rfl, by go_grown⟩

set_option maxHeartbeats 1000000 in
theorem askOf_9 (t h l : Int) (n f : ByteArray) (r c o : Int) (w : World) : Calls Tryd.prog 17 #[reqV 9 t h l n f r c o] w fun e w' => e = .returned (.iface 83 (.agg #[.string f])) ∧ Below w.heap.size w w' := by
  go_enter Tryd.func17, Tryd.ntmps17
  go_wp2
  go_ret
  exact ⟨rfl, by go_grown⟩

set_option maxHeartbeats 1000000 in
theorem askOf_10 (t h l : Int) (n f : ByteArray) (r c o : Int) (w : World) : Calls Tryd.prog 17 #[reqV 10 t h l n f r c o] w fun e w' => e = .returned (.iface 84 (.agg #[])) ∧ Below w.heap.size w w' := by
  go_enter Tryd.func17, Tryd.ntmps17
  go_wp2
  go_ret
  exact ⟨rfl, by go_grown⟩

set_option maxHeartbeats 1000000 in
theorem askOf_no (k t h l : Int) (n f : ByteArray) (r c o : Int) (w : World) (hk : inB k 1 10 = false) : Calls Tryd.prog 17 #[reqV k t h l n f r c o] w fun e w' => e = .returned .nilIface ∧ Below w.heap.size w w' := by
  have e2 : ∀ i : Int, 1 ≤ i → i ≤ 10 → (k == i) = false := fun i h1 h2 => beq_eq_false_iff_ne.2 fun e => by subst e; rw [inB, decide_eq_true h1, decide_eq_true h2] at hk; cases hk
  have f1 := e2 1 (by decide) (by decide)
  have f2 := e2 2 (by decide) (by decide)
  have f3 := e2 3 (by decide) (by decide)
  have f4 := e2 4 (by decide) (by decide)
  have f5 := e2 5 (by decide) (by decide)
  have f6 := e2 6 (by decide) (by decide)
  have f7 := e2 7 (by decide) (by decide)
  have f8 := e2 8 (by decide) (by decide)
  have f9 := e2 9 (by decide) (by decide)
  have f10 := e2 10 (by decide) (by decide)
  clear e2 hk
  go_enter Tryd.func17, Tryd.ntmps17
  go_wp2
  go_ret
  exact ⟨rfl, by go_grown⟩

set_option maxHeartbeats 400000 in
theorem right_none (w : World) : Calls Tryd.prog 93 #[.agg #[]] w fun e w' => e = .returned (.bool true) ∧ Below w.heap.size w w' := by
  go_enter Tryd.func93, Tryd.ntmps93
  go_wp2
  go_ret
  exact ⟨rfl, by go_grown⟩
set_option maxHeartbeats 400000 in
theorem right_pnr (h l : Int) (w : World) : Calls Tryd.prog 81 #[.agg #[.int .i64 h, .int .i64 l]] w fun e w' => e = .returned (.bool (inB h 1 4 && inB l 1 9)) ∧ Below w.heap.size w w' := by
  cases h1 : inB h 1 4
  all_goals
    go_enter Tryd.func81, Tryd.ntmps81
    go_wp2_with (first | (go_at_call 83; refine (isHouseR_any _ _).mono ?_; rintro e w' ⟨rfl, rfl⟩) | (go_at_call 84; refine (isLocR_any _ _).mono ?_; rintro e w' ⟨rfl, rfl⟩))
    go_ret
    exact ⟨ret_bool (by simp), by go_grown⟩

set_option maxHeartbeats 1000000 in
theorem right_seat (h l : Int) (f : ByteArray) (r c : Int) (w : World) (hf : f.size ≤ maxLen) : Calls Tryd.prog 86 #[.agg #[.int .i64 h, .int .i64 l, .string f, .int .i64 r, .int .i64 c]] w fun e w' => e = .returned (.bool ((inB h 1 4 && inB l 1 9) && (wordB f && seatB r c))) ∧ Below w.heap.size w w' := by
  have HP : Hid (∀ W : World, Calls Tryd.prog 81 #[.agg #[.int .i64 h, .int .i64 l]] W fun e w' => e = .returned (.bool (inB h 1 4 && inB l 1 9)) ∧ Below W.heap.size W w') := fun W => right_pnr h l W
  generalize (inB h 1 4 && inB l 1 9) = p at *
  have B := Block.new w #[.int .i64 h, .int .i64 l, .string f, .int .i64 r, .int .i64 c] 66
  cases p
  · go_enter Tryd.func86, Tryd.ntmps86
    go_wp2_with (go_at_call 81; refine (HP.out _).mono ?_; rintro e w1 ⟨rfl, hb1⟩; have x1 := (B.on hb1).cell)
    go_ret
    exact ⟨rfl, boxR hb1⟩
  · have HW : Hid (∀ W : World, Calls Tryd.prog 88 #[.string f] W fun e w' => e = .returned (.bool (wordB f)) ∧ W = w') := fun W => iWord_any f W hf
    have HS : Hid (∀ W : World, Calls Tryd.prog 89 #[seatV r c] W fun e w' => e = .returned (.bool (seatB r c)) ∧ Below W.heap.size W w') := fun W => iSeatRight_any r c W
    generalize wordB f = q at *
    generalize seatB r c = s at *
    cases q
    · go_enter Tryd.func86, Tryd.ntmps86
      go_wp2_with (first | (go_at_call 81; refine (HP.out _).mono ?_; rintro e w1 ⟨rfl, hb1⟩; have x1 := (B.on hb1).cell) | (go_at_call 88; refine (HW.out _).mono ?_; rintro e w' ⟨rfl, rfl⟩))
      go_ret
      exact ⟨rfl, boxR hb1⟩
    · go_enter Tryd.func86, Tryd.ntmps86
      go_wp2_with (first | (go_at_call 81; refine (HP.out _).mono ?_; rintro e w1 ⟨rfl, hb1⟩; have x1 := (B.on hb1).cell) | (go_at_call 88; refine (HW.out _).mono ?_; rintro e w' ⟨rfl, rfl⟩) | (go_at_call 89; refine (HS.out _).mono ?_; rintro e w2 ⟨rfl, hb2⟩))
      go_ret
      exact ⟨by simp, (boxR hb1).trans (hb2.mono (boxR hb1).size)⟩

set_option maxHeartbeats 1000000 in
theorem right_name (h l : Int) (n : ByteArray) (w : World) (hn : n.size ≤ maxLen) : Calls Tryd.prog 95 #[.agg #[.int .i64 h, .int .i64 l, .string n]] w fun e w' => e = .returned (.bool ((inB h 1 4 && inB l 1 9) && wordB n)) ∧ Below w.heap.size w w' := by
  have HP : Hid (∀ W : World, Calls Tryd.prog 81 #[.agg #[.int .i64 h, .int .i64 l]] W fun e w' => e = .returned (.bool (inB h 1 4 && inB l 1 9)) ∧ Below W.heap.size W w') := fun W => right_pnr h l W
  generalize (inB h 1 4 && inB l 1 9) = p at *
  have B := Block.new w #[.int .i64 h, .int .i64 l, .string n] 72
  cases p
  · go_enter Tryd.func95, Tryd.ntmps95
    go_wp2_with (go_at_call 81; refine (HP.out _).mono ?_; rintro e w1 ⟨rfl, hb1⟩; have x1 := (B.on hb1).cell)
    go_ret
    exact ⟨rfl, boxR hb1⟩
  · have HW : Hid (∀ W : World, Calls Tryd.prog 88 #[.string n] W fun e w' => e = .returned (.bool (wordB n)) ∧ W = w') := fun W => iWord_any n W hn
    generalize wordB n = q at *
    go_enter Tryd.func95, Tryd.ntmps95
    go_wp2_with (first | (go_at_call 81; refine (HP.out _).mono ?_; rintro e w1 ⟨rfl, hb1⟩; have x1 := (B.on hb1).cell) | (go_at_call 88; refine (HW.out _).mono ?_; rintro e w' ⟨rfl, rfl⟩))
    go_ret
    exact ⟨by simp, boxR hb1⟩

set_option maxHeartbeats 1000000 in
theorem right_offer (h l o : Int) (w : World) : Calls Tryd.prog 97 #[.agg #[.int .i64 h, .int .i64 l, .int .i64 o]] w fun e w' => e = .returned (.bool ((inB h 1 4 && inB l 1 9) && inB o 1 4)) ∧ Below w.heap.size w w' := by
  have HP : Hid (∀ W : World, Calls Tryd.prog 81 #[.agg #[.int .i64 h, .int .i64 l]] W fun e w' => e = .returned (.bool (inB h 1 4 && inB l 1 9)) ∧ Below W.heap.size W w') := fun W => right_pnr h l W
  generalize (inB h 1 4 && inB l 1 9) = p at *
  have B := Block.new w #[.int .i64 h, .int .i64 l, .int .i64 o] 79
  cases p
  · go_enter Tryd.func97, Tryd.ntmps97
    go_wp2_with (go_at_call 81; refine (HP.out _).mono ?_; rintro e w1 ⟨rfl, hb1⟩; have x1 := (B.on hb1).cell)
    go_ret
    exact ⟨rfl, boxR hb1⟩
  · go_enter Tryd.func97, Tryd.ntmps97
    go_wp2_with (first | (go_at_call 81; refine (HP.out _).mono ?_; rintro e w1 ⟨rfl, hb1⟩; have x1 := (B.on hb1).cell) | (go_at_call 83; refine (isHouseR_any _ _).mono ?_; rintro e w' ⟨rfl, rfl⟩))
    go_ret
    exact ⟨by simp, boxR hb1⟩

set_option maxHeartbeats 400000 in
theorem right_map (f : ByteArray) (w : World) (hf : f.size ≤ maxLen) : Calls Tryd.prog 99 #[.agg #[.string f]] w fun e w' => e = .returned (.bool (wordB f)) ∧ Below w.heap.size w w' := by
  have HW : Hid (∀ W : World, Calls Tryd.prog 88 #[.string f] W fun e w' => e = .returned (.bool (wordB f)) ∧ W = w') := fun W => iWord_any f W hf
  go_enter Tryd.func99, Tryd.ntmps99
  go_wp2_with (go_at_call 88; refine (HW.out _).mono ?_; rintro e w' ⟨rfl, rfl⟩)
  go_ret
  exact ⟨rfl, by go_grown⟩

end Go.Proofs.YtpncnkihfijmaaaDoor