/-
  spec.SeatAt answers 'seatAtT'.
-/
import Derived.Test.YtjejdfmeclbjeaaSeatAt
import Derived.RegionTactic
import Derived.ChangeAlike
import Derived.StillTailTactics
import Derived.IntWalk
namespace Go.Proofs.Ytjejdfmeclbjeaa
open Go.ChangeShapes Go.WideShapes Go.ChangeAt Go.RowKit Go.ChangeMaps
set_option linter.unusedSimpArgs false
set_option linter.unusedVariables false

set_option maxHeartbeats 1000000 in
theorem sSeatAt_any (s : ByteArray) (fr fc n : Int) (w : World) (hs : s.size ≤ maxLen) (hn1 : -9223372036854775808 ≤ n) (hn2 : n ≤ 9223372036854775807) :
    Calls Try.prog 22 #[flightV s fr fc, .int .i64 n] w fun e w' => e = .returned (seatOutV (seatAtT s fr fc n)) ∧ Below w.heap.size w w' := by
  have HF : Hid (∀ W : World, Calls Try.prog 12 #[flightV s fr fc] W fun e w' => e = .returned (.bool (flightB s fr fc)) ∧ Below W.heap.size W w') := fun W => sFlightRight_any s fr fc W hs
  obtain ⟨b, hb⟩ : ∃ b, flightB s fr fc = b := ⟨_, rfl⟩
  have HB := Lib.hid hb
  rw [hb] at HF
  cases b
  · clear hb
    go_enter Try.func22, Try.ntmps22
    go_wp2_with fail
    refine (HF.out _).mono ?_
    rintro e w1 ⟨rfl, hb1⟩
    have d0 := kc hb1 (b := w.heap.size + 1) (i := 0) (v := .int .i64 0) (by go_simp) (by simp)
    have d1 := kc hb1 (b := w.heap.size + 1) (i := 1) (v := .int .i64 0) (by go_simp) (by simp)
    have d2 := kc hb1 (b := w.heap.size + 1) (i := 2) (v := .int .i64 0) (by go_simp) (by simp)
    have f0' := kf hb1 (b := w.heap.size + 1) (i := 0) (by go_simp) (by simp)
    have f1' := kf hb1 (b := w.heap.size + 1) (i := 1) (by go_simp) (by simp)
    have f2' := kf hb1 (b := w.heap.size + 1) (i := 2) (by go_simp) (by simp)
    have hz : w.heap.size + 2 ≤ w1.heap.size := by have := hb1.size; simpa using this
    go_wp2_with fail
    have hB : Below w.heap.size w w1 := ((Below.refl _ _).alloc (Nat.le_refl _) _ |>.alloc (by simp) _).trans (hb1.mono (by simp; omega))
    refine bodyPost_ret (v := seatOutV (0, 0, 1)) (by simp [results, Try.results22, go_sem, d0, d1, d2, f0', f1', f2']) rfl ?_
    exact ⟨by rw [seatAtT, if_pos HB.out], ((hB.setCell (by simp) _).setCell (by simp) _).setCell (by simp) _⟩
  · obtain ⟨-, ⟨f1, f2⟩, ⟨g1, g2⟩⟩ := flightB_parts hb
    clear hb
    obtain ⟨fr, rfl⟩ := nat_of (show 0 ≤ fr by omega)
    obtain ⟨fc, rfl⟩ := nat_of (show 0 ≤ fc by omega)
    have hm : fr * fc ≤ 120 := Nat.le_trans (Nat.mul_le_mul (show fr ≤ 20 by omega) (show fc ≤ 6 by omega)) (by omega)
    have hm1 : 0 < fr * fc := Nat.mul_pos (by omega) (by omega)
    have hM : (fr : Int) * (fc : Int) = ((fr * fc : Nat) : Int) := by simp
    have hq0 : 0 ≤ (fr : Int) * (fc : Int) := by omega
    have hq1 : (fr : Int) * (fc : Int) ≤ 120 := by omega
    have HM := Lib.hid hM
    clear hM
    have HI : Hid (∀ W : World, Calls Try.prog 27 #[.int .i64 n, .int .i64 0, .int .i64 ((fr : Int) * (fc : Int) - 1)] W fun e w' => e = .returned (.bool (inB n 0 ((fr : Int) * (fc : Int) - 1))) ∧ W = w') := fun W => l02Is_any _ _ _ W
    by_cases hin : 0 ≤ n ∧ n < (fr : Int) * (fc : Int)
    · rw [inB_yes (by omega)] at HI
      obtain ⟨hn0, hnm⟩ := hin
      obtain ⟨n, rfl⟩ := nat_of hn0
      have hqq : (n : Int) / (fc : Int) ≤ n := Int.ediv_le_self _ (by omega)
      have hqz : 0 ≤ (n : Int) / (fc : Int) := Int.ediv_nonneg (by omega) (by omega)
      have hw1 := IntWalk.i64_in ((n : Int) / (fc : Int) + 1) (by omega)
      go_enter Try.func22, Try.ntmps22
      go_wp2_with fail
      refine (HF.out _).mono ?_
      rintro e w1 ⟨rfl, hb1⟩
      have c0 := kc hb1 (b := w.heap.size) (i := 0) (v := .string s) (by go_simp) (by simp; omega)
      have c1 := kc hb1 (b := w.heap.size) (i := 1) (v := .int .i64 fr) (by go_simp) (by simp; omega)
      have c2 := kc hb1 (b := w.heap.size) (i := 2) (v := .int .i64 fc) (by go_simp) (by simp; omega)
      have d0 := kc hb1 (b := w.heap.size + 1) (i := 0) (v := .int .i64 0) (by go_simp) (by simp)
      have d1 := kc hb1 (b := w.heap.size + 1) (i := 1) (v := .int .i64 0) (by go_simp) (by simp)
      have d2 := kc hb1 (b := w.heap.size + 1) (i := 2) (v := .int .i64 0) (by go_simp) (by simp)
      have f0' := kf hb1 (b := w.heap.size + 1) (i := 0) (by go_simp) (by simp)
      have f1' := kf hb1 (b := w.heap.size + 1) (i := 1) (by go_simp) (by simp)
      have f2' := kf hb1 (b := w.heap.size + 1) (i := 2) (by go_simp) (by simp)
      have hz : w.heap.size + 2 ≤ w1.heap.size := by have := hb1.size; simpa using this
      have hB : Below w.heap.size w w1 := ((Below.refl _ _).alloc (Nat.le_refl _) _ |>.alloc (by simp) _).trans (hb1.mono (by simp; omega))
      clear hb1
      go_wp2_with fail
      refine (HI.out _).mono ?_
      rintro e w' ⟨rfl, rfl⟩
      go_wp2_with fail
      go_region
      go_wp2
      refine bodyPost_ret (v := seatOutV ((n : Int) / (fc : Int) + 1, (n : Int) % (fc : Int), 0)) (by simp [results, Try.results22, go_sem, d0, d1, d2, f0', f1', f2']) rfl ?_
      exact ⟨by rw [seatAtT, if_neg (by rw [HB.out]; simp), if_pos ⟨hn0, hnm⟩], (((hB.setCell (by simp) _).setCell (by simp) _).setCell (by simp) _).drew⟩
    · rw [inB_no (by omega)] at HI
      go_enter Try.func22, Try.ntmps22
      go_wp2_with fail
      refine (HF.out _).mono ?_
      rintro e w1 ⟨rfl, hb1⟩
      have c1 := kc hb1 (b := w.heap.size) (i := 1) (v := .int .i64 fr) (by go_simp) (by simp; omega)
      have c2 := kc hb1 (b := w.heap.size) (i := 2) (v := .int .i64 fc) (by go_simp) (by simp; omega)
      have d0 := kc hb1 (b := w.heap.size + 1) (i := 0) (v := .int .i64 0) (by go_simp) (by simp)
      have d1 := kc hb1 (b := w.heap.size + 1) (i := 1) (v := .int .i64 0) (by go_simp) (by simp)
      have d2 := kc hb1 (b := w.heap.size + 1) (i := 2) (v := .int .i64 0) (by go_simp) (by simp)
      have f0' := kf hb1 (b := w.heap.size + 1) (i := 0) (by go_simp) (by simp)
      have f1' := kf hb1 (b := w.heap.size + 1) (i := 1) (by go_simp) (by simp)
      have f2' := kf hb1 (b := w.heap.size + 1) (i := 2) (by go_simp) (by simp)
      have hz : w.heap.size + 2 ≤ w1.heap.size := by have := hb1.size; simpa using this
      have hB : Below w.heap.size w w1 := ((Below.refl _ _).alloc (Nat.le_refl _) _ |>.alloc (by simp) _).trans (hb1.mono (by simp; omega))
      clear hb1
      go_wp2_with fail
      refine (HI.out _).mono ?_
      rintro e w' ⟨rfl, rfl⟩
      go_wp2_with fail
      refine bodyPost_ret (v := seatOutV (0, 0, 8)) (by simp [results, Try.results22, go_sem, d0, d1, d2, f0', f1', f2']) rfl ?_
      exact ⟨by rw [seatAtT, if_neg (by rw [HB.out]; simp), if_neg hin], ((hB.setCell (by simp) _).setCell (by simp) _).setCell (by simp) _⟩
end Go.Proofs.Ytjejdfmeclbjeaa
