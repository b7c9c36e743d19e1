/-
  Numbers, places and seats as texts, as both sides write them.
-/
import Derived.Test.YtpncnkihfijmaaaDoorSeatText
import Derived.Test.YtpncnkihfijmaaaDoorSeatTextL
import Derived.Test.YtpncnkihfijmaaaDoorJoined
import Derived.Test.YtpncnkihfijmaaaDoorWord
namespace Go.Proofs.YtpncnkihfijmaaaDoor
open Go.ChangeShapes Go.WideShapes Go.ChangeAt Go.RowKit Go.ChangeMaps
set_option maxRecDepth 10000
set_option linter.unusedSimpArgs false
set_option linter.unusedVariables false

theorem wordB_le {s : ByteArray} (h : wordB s = true) : s.size ≤ 8 := (of_decide_eq_true h).2.1
def dgT (n : Int) : ByteArray := ⟨(Lib.decDigits n.toNat).toArray⟩
theorem dgT_size {n : Int} (h0 : 0 ≤ n) (h1 : n < 10) : (dgT n).size = 1 := by
  rw [dgT, bsize, Lib.decDigits_one (by omega)]
  rfl
def seatT (r c : Int) : ByteArray := ⟨(seatTextL r c).toArray⟩
theorem seatT_size {r c : Int} (h : seatB r c = true) : (seatT r c).size ≤ 3 := by
  obtain ⟨⟨r1, r2⟩, c1, c2⟩ := seatB_parts h
  rw [seatT, bsize, seatTextL, if_pos h]
  have : (Lib.decDigits r.toNat).length ≤ 2 := by
    by_cases h : r.toNat < 10
    · rw [Lib.decDigits_one h]; simp
    · rw [Lib.decDigits_two h (by omega)]; simp
  simp
  omega
abbrev dotA : ByteArray := ⟨#[46]⟩
abbrev spA : ByteArray := ⟨#[32]⟩
theorem add_str (a b : ByteArray) (h : a.size + b.size ≤ 1000) : ∀ W : World, (Op.stringOp .add a b).run Tryd.prog W = .ok (.string (a ++ b)) W := fun W => run_string_add_sum _ _ _ (by omega)
theorem dec_any (n : Int) (h0 : 0 ≤ n) (h1 : n < 10) (W : World) : Calls Tryd.prog 28 #[.int .i64 n] W fun e w' => e = .returned (.string (dgT n)) ∧ Below W.heap.size W w' := by
  obtain ⟨m, rfl⟩ := nat_of h0
  exact l01Dec_nat m W (by omega)
theorem l02T_any (r c : Int) (h : seatB r c = true) (W : World) : Calls Tryd.prog 29 #[seatV r c] W fun e w' => e = .returned (.string (seatT r c)) ∧ Below W.heap.size W w' := by
  obtain ⟨⟨r1, r2⟩, c1, c2⟩ := seatB_parts h
  have hS : seatT r c = ⟨(Lib.decDigits r.toNat ++ [UInt8.ofNat (97 + c.toNat)]).toArray⟩ := by rw [seatT, seatTextL, if_pos h]
  rw [hS]
  obtain ⟨r, rfl⟩ := nat_of (show 0 ≤ r by omega)
  obtain ⟨c, rfl⟩ := nat_of c1
  exact l02Text_any r c W (by omega) (by omega)
set_option maxHeartbeats 400000 in
theorem digits_any (n : Int) (h0 : 0 ≤ n) (h1 : n < 10) (w : World) : Calls Tryd.prog 15 #[.int .i64 n] w fun e w' => e = .returned (.string (dgT n)) ∧ w = w' := by
  obtain ⟨m, rfl⟩ := nat_of h0
  have HF : Hid (∀ W : World, Calls Tryd.prog 31 #[.int .i64 m, .int .i64 10] W fun e w' => e = .returned (.string (dgT (m : Int))) ∧ W = w') := fun W => formatSmall m (by omega) W
  generalize dgT (m : Int) = D at *
  go_enter Tryd.func15, Tryd.ntmps15
  go_wp2_with fail
  refine (HF.out _).mono ?_
  rintro e w' ⟨rfl, rfl⟩
  go_wp2_with fail
  go_ret
  exact ⟨rfl, rfl⟩
theorem ba_ext {a b : ByteArray} (h : a.data.toList = b.data.toList) : a = b := ByteArray.ext (Array.toList_inj.1 h)
theorem ba_app (a b : ByteArray) : (a ++ b).data.toList = a.data.toList ++ b.data.toList := by simp
/-- The house that made a booking, and its number there. -/
def placeT (h l : Int) : ByteArray := (dgT h ++ dotA) ++ dgT l
theorem placeT_data (h l : Int) : placeT h l = ⟨((dgT h).data.toList ++ (dotA.data.toList ++ (dgT l).data.toList)).toArray⟩ := by
  apply ba_ext
  rw [placeT, ba_app, ba_app]
  simp
theorem placeT_size {h l : Int} (h0 : 0 ≤ h) (h1 : h < 10) (l0 : 0 ≤ l) (l1 : l < 10) : (placeT h l).size = 3 := by
  simp [placeT, ByteArray.size_append, dgT_size h0 h1, dgT_size l0 l1]
  rfl
set_option maxHeartbeats 400000 in
theorem placeText_any (h l : Int) (h0 : 0 ≤ h) (h1 : h < 10) (l0 : 0 ≤ l) (l1 : l < 10) (w : World) : Calls Tryd.prog 85 #[.int .i64 h, .int .i64 l] w fun e w' => e = .returned (.string (placeT h l)) ∧ Below w.heap.size w w' := by
  have HDh : Hid (∀ W : World, Calls Tryd.prog 15 #[.int .i64 h] W fun e w' => e = .returned (.string (dgT h)) ∧ W = w') := fun W => digits_any h h0 h1 W
  have HDl : Hid (∀ W : World, Calls Tryd.prog 15 #[.int .i64 l] W fun e w' => e = .returned (.string (dgT l)) ∧ W = w') := fun W => digits_any l l0 l1 W
  have s1 := dgT_size h0 h1
  have s2 := dgT_size l0 l1
  have HJ : Hid (∀ W : World, Calls Tryd.prog 38 #[.slice (some ⟨W.heap.size, 0, none⟩) 3 3] (W.alloc (.cells #[.string (dgT h), .string dotA, .string (dgT l)] 9)) fun e w' => e = .returned (.string (placeT h l)) ∧ Below W.heap.size W w') := fun W => by
    rw [placeT_data]
    exact joined_three (dgT h) dotA (dgT l) W 9 (by rw [s1, s2]; decide)
  clear s1 s2
  generalize placeT h l = R at *
  generalize dgT h = gh at *
  generalize dgT l = gl at *
  go_enter Tryd.func85, Tryd.ntmps85
  go_wp2_with (first | (go_at_call 15; (first | (with_reducible refine (HDh.out _).mono ?_) | (with_reducible refine (HDl.out _).mono ?_)); rintro e w' ⟨rfl, rfl⟩))
  refine (HJ.out _).mono ?_
  rintro e w' ⟨rfl, hb⟩
  go_wp2_with fail
  go_ret
  exact ⟨rfl, hb⟩
end Go.Proofs.YtpncnkihfijmaaaDoor
