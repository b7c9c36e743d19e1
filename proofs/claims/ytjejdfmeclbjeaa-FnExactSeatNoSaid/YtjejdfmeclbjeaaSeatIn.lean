/-
  SeatIn, and spec's SeatNo: the walks.
-/
import Derived.Test.YtjejdfmeclbjeaaFlight
namespace Go.Proofs.Ytjejdfmeclbjeaa
open Go.ChangeShapes Go.WideShapes Go.ChangeAt Go.RowKit Go.ChangeMaps
set_option linter.unusedSimpArgs false
set_option linter.unusedVariables false

/-- A cell of an old block reads on behind a call that left all that stood. -/
theorem kc {n : Nat} {W w1 : World} (hb : Below n W w1) {b i : Nat} {v : Value} (h : W.cell? ⟨b, i, none⟩ = some v) (hlt : b < n) : w1.cell? ⟨b, i, none⟩ = some v :=
  (hb.cell (p := ⟨b, i, none⟩) hlt).trans h

theorem kf {n : Nat} {W w1 : World} (hb : Below n W w1) {b i : Nat} (h : W.frozen? ⟨b, i, none⟩ = false) (hlt : b < n) : w1.frozen? ⟨b, i, none⟩ = false :=
  (hb.frozen (p := ⟨b, i, none⟩) hlt).trans h

def seatInB (s : ByteArray) (fr fc r c : Int) : Bool := flightB s fr fc && (seatB r c && (decide (r ≤ fr) && decide (c < fc)))

set_option maxHeartbeats 400000 in
theorem iSeatIn_any (s : ByteArray) (fr fc r c : Int) (w : World) (hs : s.size ≤ maxLen) : Calls Try.prog 19 #[flightV s fr fc, seatV r c] w fun e w' => e = .returned (.bool (seatInB s fr fc r c)) ∧ Below w.heap.size w w' := by
  have HF : Hid (∀ W : World, Calls Try.prog 14 #[flightV s fr fc] W fun e w' => e = .returned (.bool (flightB s fr fc)) ∧ Below W.heap.size W w') := fun W => iFlightRight_any s fr fc W hs
  have HS : Hid (∀ W : World, Calls Try.prog 17 #[seatV r c] W fun e w' => e = .returned (.bool (seatB r c)) ∧ Below W.heap.size W w') := fun W => iSeatRight_any r c W
  have HD : Hid (seatInB s fr fc r c = (flightB s fr fc && (seatB r c && (decide (r ≤ fr) && decide (c < fc))))) := rfl
  generalize seatInB s fr fc r c = R at *
  generalize flightB s fr fc = b1 at *
  generalize seatB r c = b2 at *
  cases b1
  · go_enter Try.func19, Try.ntmps19
    go_wp2_with fail
    refine (HF.out _).mono ?_
    rintro e w1 ⟨rfl, hb1⟩
    go_wp2_with fail
    go_ret
    exact ⟨ret_bool (by rw [HD.out]; rfl), ((Below.refl _ _).alloc (Nat.le_refl _) _ |>.alloc (by simp) _).trans (hb1.mono (by simp; omega))⟩
  · go_enter Try.func19, Try.ntmps19
    go_wp2_with fail
    refine (HF.out _).mono ?_
    rintro e w1 ⟨rfl, hb1⟩
    have hz : w.heap.size + 2 ≤ w1.heap.size := by have := hb1.size; simpa using this
    have c1 := kc hb1 (b := w.heap.size) (i := 1) (v := .int .i64 fr) (by go_simp) (by simp; omega)
    have c2 := kc hb1 (b := w.heap.size) (i := 2) (v := .int .i64 fc) (by go_simp) (by simp; omega)
    have d0 := kc hb1 (b := w.heap.size + 1) (i := 0) (v := .int .i64 r) (by go_simp) (by simp)
    have d1 := kc hb1 (b := w.heap.size + 1) (i := 1) (v := .int .i64 c) (by go_simp) (by simp)
    go_wp2_with fail
    refine (HS.out _).mono ?_
    rintro e w2 ⟨rfl, hb2⟩
    replace c1 := kc hb2 c1 (by omega)
    replace c2 := kc hb2 c2 (by omega)
    replace d0 := kc hb2 d0 (by omega)
    replace d1 := kc hb2 d1 (by omega)
    have hB : Below w.heap.size w w2 := (((Below.refl _ _).alloc (Nat.le_refl _) _ |>.alloc (by simp) _).trans (hb1.mono (by simp; omega))).trans (hb2.mono (by omega))
    cases b2
    · go_wp2_with fail
      go_ret
      exact ⟨ret_bool (by rw [HD.out]; rfl), hB⟩
    · clear hb1 hb2
      go_wp2_with fail
      all_goals
        go_ret
        refine ⟨ret_bool ?_, by first | exact hB | exact hB.drew | go_grown⟩
        rw [HD.out]
        rw [Bool.eq_iff_iff]
        simp
        try omega

set_option maxHeartbeats 400000 in
theorem sSeatIn_any (s : ByteArray) (fr fc r c : Int) (w : World) (hs : s.size ≤ maxLen) : Calls Try.prog 18 #[flightV s fr fc, seatV r c] w fun e w' => e = .returned (.bool (seatInB s fr fc r c)) ∧ Below w.heap.size w w' := by
  have HF : Hid (∀ W : World, Calls Try.prog 12 #[flightV s fr fc] W fun e w' => e = .returned (.bool (flightB s fr fc)) ∧ Below W.heap.size W w') := fun W => sFlightRight_any s fr fc W hs
  have HS : Hid (∀ W : World, Calls Try.prog 15 #[seatV r c] W fun e w' => e = .returned (.bool (seatB r c)) ∧ Below W.heap.size W w') := fun W => sSeatRight_any r c W
  have HD : Hid (seatInB s fr fc r c = (flightB s fr fc && (seatB r c && (decide (r ≤ fr) && decide (c < fc))))) := rfl
  generalize seatInB s fr fc r c = R at *
  generalize flightB s fr fc = b1 at *
  generalize seatB r c = b2 at *
  cases b1
  · go_enter Try.func18, Try.ntmps18
    go_wp2_with fail
    refine (HF.out _).mono ?_
    rintro e w1 ⟨rfl, hb1⟩
    go_wp2_with fail
    go_ret
    exact ⟨ret_bool (by rw [HD.out]; rfl), ((Below.refl _ _).alloc (Nat.le_refl _) _ |>.alloc (by simp) _).trans (hb1.mono (by simp; omega))⟩
  · go_enter Try.func18, Try.ntmps18
    go_wp2_with fail
    refine (HF.out _).mono ?_
    rintro e w1 ⟨rfl, hb1⟩
    have hz : w.heap.size + 2 ≤ w1.heap.size := by have := hb1.size; simpa using this
    have c1 := kc hb1 (b := w.heap.size) (i := 1) (v := .int .i64 fr) (by go_simp) (by simp; omega)
    have c2 := kc hb1 (b := w.heap.size) (i := 2) (v := .int .i64 fc) (by go_simp) (by simp; omega)
    have d0 := kc hb1 (b := w.heap.size + 1) (i := 0) (v := .int .i64 r) (by go_simp) (by simp)
    have d1 := kc hb1 (b := w.heap.size + 1) (i := 1) (v := .int .i64 c) (by go_simp) (by simp)
    go_wp2_with fail
    refine (HS.out _).mono ?_
    rintro e w2 ⟨rfl, hb2⟩
    replace c1 := kc hb2 c1 (by omega)
    replace c2 := kc hb2 c2 (by omega)
    replace d0 := kc hb2 d0 (by omega)
    replace d1 := kc hb2 d1 (by omega)
    have hB : Below w.heap.size w w2 := (((Below.refl _ _).alloc (Nat.le_refl _) _ |>.alloc (by simp) _).trans (hb1.mono (by simp; omega))).trans (hb2.mono (by omega))
    cases b2
    · go_wp2_with fail
      go_ret
      exact ⟨ret_bool (by rw [HD.out]; rfl), hB⟩
    · clear hb1 hb2
      go_wp2_with fail
      all_goals
        go_ret
        refine ⟨ret_bool ?_, by first | exact hB | exact hB.drew | go_grown⟩
        rw [HD.out]
        rw [Bool.eq_iff_iff]
        simp
        try omega


/-- The number of a seat in its flight. -/
def seatNoI (s : ByteArray) (fr fc r c : Int) : Int := if seatInB s fr fc r c = true then (r - 1) * fc + c else -1
theorem seatInB_parts {s : ByteArray} {fr fc r c : Int} (h : seatInB s fr fc r c = true) : wordB s = true ∧ (1 ≤ fr ∧ fr ≤ 20) ∧ (1 ≤ fc ∧ fc ≤ 6) ∧ (1 ≤ r ∧ r ≤ fr) ∧ (0 ≤ c ∧ c < fc) := by
  simp [seatInB, flightB, rcB, seatB] at h
  obtain ⟨⟨h1, h2, h3, h4, h5⟩, ⟨h6, h7, h8, h9⟩, h10, h11⟩ := h
  exact ⟨h1, ⟨h2, h3⟩, ⟨h4, h5⟩, ⟨h6, h10⟩, ⟨h8, h11⟩⟩

set_option maxHeartbeats 400000 in
theorem sSeatNo_any (s : ByteArray) (fr fc r c : Int) (w : World) (hs : s.size ≤ maxLen) : Calls Try.prog 20 #[flightV s fr fc, seatV r c] w fun e w' => e = .returned (.int .i64 (seatNoI s fr fc r c)) ∧ Below w.heap.size w w' := by
  have HF : Hid (∀ W : World, Calls Try.prog 18 #[flightV s fr fc, seatV r c] W fun e w' => e = .returned (.bool (seatInB s fr fc r c)) ∧ Below W.heap.size W w') := fun W => sSeatIn_any s fr fc r c W hs
  obtain ⟨b, hb⟩ : ∃ b, seatInB s fr fc r c = b := ⟨_, rfl⟩
  have HB := Lib.hid hb
  rw [hb] at HF
  cases b
  · clear hb
    go_enter Try.func20, Try.ntmps20
    go_wp2_with fail
    refine (HF.out _).mono ?_
    rintro e w1 ⟨rfl, hb1⟩
    go_wp2_with fail
    go_ret
    exact ⟨ret_int (by rw [seatNoI, if_neg (by rw [HB.out]; simp)]), ((Below.refl _ _).alloc (Nat.le_refl _) _ |>.alloc (by simp) _).trans (hb1.mono (by simp; omega))⟩
  · obtain ⟨-, ⟨f1, f2⟩, ⟨g1, g2⟩, ⟨r1, r2⟩, c1, c2⟩ := seatInB_parts hb
    clear hb
    have hm : (r - 1) * fc ≤ 20 * fc := Int.mul_le_mul_of_nonneg_right (by omega) (by omega)
    have hm0 : 0 ≤ (r - 1) * fc := Int.mul_nonneg (by omega) (by omega)
    go_enter Try.func20, Try.ntmps20
    go_wp2_with fail
    refine (HF.out _).mono ?_
    rintro e w1 ⟨rfl, hb1⟩
    have e2 := kc hb1 (b := w.heap.size) (i := 2) (v := .int .i64 fc) (by go_simp) (by simp; omega)
    have d0 := kc hb1 (b := w.heap.size + 1) (i := 0) (v := .int .i64 r) (by go_simp) (by simp)
    have d1 := kc hb1 (b := w.heap.size + 1) (i := 1) (v := .int .i64 c) (by go_simp) (by simp)
    go_wp2_with fail
    go_ret
    exact ⟨ret_int (by rw [seatNoI, if_pos HB.out]), ((Below.refl _ _).alloc (Nat.le_refl _) _ |>.alloc (by simp) _).trans (hb1.mono (by simp; omega))⟩

end Go.Proofs.Ytjejdfmeclbjeaa
