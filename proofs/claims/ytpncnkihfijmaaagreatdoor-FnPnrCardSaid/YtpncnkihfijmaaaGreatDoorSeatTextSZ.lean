/-
  spec.SeatText writes out a seat.
-/
import Derived.Test.YtpncnkihfijmaaaGreatDoorM7
namespace Go.Proofs.YtpncnkihfijmaaaGreatDoor
open Go.ChangeShapes Go.WideShapes Go.ChangeAt Go.RowKit Go.ChangeMaps
set_option maxRecDepth 10000
set_option linter.unusedSimpArgs false
set_option linter.unusedVariables false

set_option maxHeartbeats 1000000 in
theorem sSeatText_any (r c : Int) (w : World) : Calls Tryz.prog 118 #[seatV r c] w fun e w' => e = .returned (.string ⟨(seatTextL r c).toArray⟩) ∧ Below w.heap.size w w' := by
  have HS : Hid (∀ W : World, Calls Tryz.prog 62 #[seatV r c] W fun e w' => e = .returned (.bool (seatB r c)) ∧ Below W.heap.size W w') := fun W => sSeatRight_any r c W
  obtain ⟨b, hb⟩ : ∃ b, seatB r c = b := ⟨_, rfl⟩
  have HB := Lib.hid hb
  rw [hb] at HS
  cases b
  · clear hb
    go_enter Tryz.func118, Tryz.ntmps118
    go_wp2_with fail
    refine (HS.out _).mono ?_
    rintro e w1 ⟨rfl, hb1⟩
    go_wp2_with fail
    go_ret
    exact ⟨by rw [seatTextL, if_neg (by rw [HB.out]; simp)]; rfl, ((Below.refl _ _).alloc (Nat.le_refl _) _).trans (hb1.mono (by simp))⟩
  · obtain ⟨⟨r1, r2⟩, c1, c2⟩ := seatB_parts hb
    clear hb
    obtain ⟨r, rfl⟩ := nat_of (show 0 ≤ r by omega)
    obtain ⟨c, rfl⟩ := nat_of c1
    have HT : Hid (∀ W : World, Calls Tryz.prog 80 #[seatV r c] W fun e w' => e = .returned (.string ⟨(seatTextL (r : Int) (c : Int)).toArray⟩) ∧ Below W.heap.size W w') := fun W => by
      rw [seatTextL, if_pos HB.out]
      exact l02Text_any r c W (by omega) (by omega)
    generalize seatTextL (r : Int) (c : Int) = L at *
    go_enter Tryz.func118, Tryz.ntmps118
    go_wp2_with fail
    refine (HS.out _).mono ?_
    rintro e w1 ⟨rfl, hb1⟩
    have c00 := kc hb1 (b := w.heap.size) (i := 0) (v := .int .i64 r) (by go_simp) (by simp)
    have c01 := kc hb1 (b := w.heap.size) (i := 1) (v := .int .i64 c) (by go_simp) (by simp)
    have hz : w.heap.size < w1.heap.size := by have := hb1.size; simp at this; omega
    have hB : Below w.heap.size w w1 := ((Below.refl _ _).alloc (Nat.le_refl _) _).trans (hb1.mono (by simp))
    clear hb1
    go_wp2_with fail
    refine (HT.out _).mono ?_
    rintro e w2 ⟨rfl, hb2⟩
    go_wp2_with fail
    go_ret
    exact ⟨rfl, hB.trans (hb2.mono (by omega))⟩
end Go.Proofs.YtpncnkihfijmaaaGreatDoor
