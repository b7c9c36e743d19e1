/-
  SeatAt: both functions answer 'seatAtT'.
-/
import Derived.Test.YtjejdfmeclbjeaaSeats
namespace Go.Proofs.Ytjejdfmeclbjeaa
open Go.ChangeShapes Go.WideShapes Go.ChangeAt Go.RowKit Go.ChangeMaps
set_option linter.unusedSimpArgs false
set_option linter.unusedVariables false

/-- A seat and a code, as a value. -/
abbrev seatOutV (x : Int × Int × Int) : Value := .agg #[.int .i64 x.1, .int .i64 x.2.1, .int .i64 x.2.2]
def seatAtT (s : ByteArray) (fr fc n : Int) : Int × Int × Int :=
  if flightB s fr fc = false then (0, 0, 1) else if 0 ≤ n ∧ n < fr * fc then (n / fc + 1, n % fc, 0) else (0, 0, 8)
theorem flightB_parts {s : ByteArray} {fr fc : Int} (h : flightB s fr fc = true) : wordB s = true ∧ (1 ≤ fr ∧ fr ≤ 20) ∧ (1 ≤ fc ∧ fc ≤ 6) := by
  simp [flightB, rcB] at h
  exact ⟨h.1, ⟨h.2.1, h.2.2.1⟩, ⟨h.2.2.2.1, h.2.2.2.2⟩⟩

set_option maxHeartbeats 1000000 in
theorem iSeatAt_any (s : ByteArray) (fr fc n : Int) (w : World) (hs : s.size ≤ maxLen) (hn1 : -9223372036854775808 ≤ n) (hn2 : n ≤ 9223372036854775807) :
    Calls Try.prog 23 #[flightV s fr fc, .int .i64 n] w fun e w' => e = .returned (seatOutV (seatAtT s fr fc n)) ∧ Below w.heap.size w w' := by
  have HF : Hid (∀ W : World, Calls Try.prog 14 #[flightV s fr fc] W fun e w' => e = .returned (.bool (flightB s fr fc)) ∧ Below W.heap.size W w') := fun W => iFlightRight_any s fr fc W hs
  obtain ⟨b, hb⟩ : ∃ b, flightB s fr fc = b := ⟨_, rfl⟩
  have HB := Lib.hid hb
  rw [hb] at HF
  cases b
  · clear hb
    go_enter Try.func23, Try.ntmps23
    go_wp2_with fail
    refine (HF.out _).mono ?_
    rintro e w1 ⟨rfl, hb1⟩
    have d0 := kc hb1 (b := w.heap.size + 1) (i := 0) (v := .int .i64 0) (by go_simp) (by simp)
    have d1 := kc hb1 (b := w.heap.size + 1) (i := 1) (v := .int .i64 0) (by go_simp) (by simp)
    have d2 := kc hb1 (b := w.heap.size + 1) (i := 2) (v := .int .i64 0) (by go_simp) (by simp)
    have f0' := kf hb1 (b := w.heap.size + 1) (i := 0) (by go_simp) (by simp)
    have f1' := kf hb1 (b := w.heap.size + 1) (i := 1) (by go_simp) (by simp)
    have f2' := kf hb1 (b := w.heap.size + 1) (i := 2) (by go_simp) (by simp)
    have hz : w.heap.size + 2 ≤ w1.heap.size := by have := hb1.size; simpa using this
    go_wp2_with fail
    have hB : Below w.heap.size w w1 := ((Below.refl _ _).alloc (Nat.le_refl _) _ |>.alloc (by simp) _).trans (hb1.mono (by simp; omega))
    refine bodyPost_ret (v := seatOutV (0, 0, 1)) (by simp [results, Try.results23, go_sem, d0, d1, d2, f0', f1', f2']) rfl ?_
    exact ⟨by rw [seatAtT, if_pos HB.out], ((hB.setCell (by simp) _).setCell (by simp) _).setCell (by simp) _⟩
  · obtain ⟨-, ⟨f1, f2⟩, ⟨g1, g2⟩⟩ := flightB_parts hb
    clear hb
    obtain ⟨fr, rfl⟩ := nat_of (show 0 ≤ fr by omega)
    obtain ⟨fc, rfl⟩ := nat_of (show 0 ≤ fc by omega)
    have HG : Hid (∀ W : World, Calls Try.prog 29 #[flightV s fr fc] W fun e w' => (∃ v, e = .returned v ∧ w'.ownsRow W.heap.size 33 2 v (fr * fc) (seatsTo fc (fr * fc))) ∧ Below W.heap.size W w') := fun W => seatsOf_any s fr fc W (by omega) (by omega) (by omega) (by omega)
    have hm : fr * fc ≤ 120 := Nat.le_trans (Nat.mul_le_mul (show fr ≤ 20 by omega) (show fc ≤ 6 by omega)) (by omega)
    have hm1 : 0 < fr * fc := Nat.mul_pos (by omega) (by omega)
    generalize hM : fr * fc = M at *
    have HM := Lib.hid hM
    clear hM
    go_enter Try.func23, Try.ntmps23
    go_wp2_with fail
    refine (HF.out _).mono ?_
    rintro e w1 ⟨rfl, hb1⟩
    have c0 := kc hb1 (b := w.heap.size) (i := 0) (v := .string s) (by go_simp) (by simp; omega)
    have c1 := kc hb1 (b := w.heap.size) (i := 1) (v := .int .i64 fr) (by go_simp) (by simp; omega)
    have c2 := kc hb1 (b := w.heap.size) (i := 2) (v := .int .i64 fc) (by go_simp) (by simp; omega)
    have d0 := kc hb1 (b := w.heap.size + 1) (i := 0) (v := .int .i64 0) (by go_simp) (by simp)
    have d1 := kc hb1 (b := w.heap.size + 1) (i := 1) (v := .int .i64 0) (by go_simp) (by simp)
    have d2 := kc hb1 (b := w.heap.size + 1) (i := 2) (v := .int .i64 0) (by go_simp) (by simp)
    have f0' := kf hb1 (b := w.heap.size + 1) (i := 0) (by go_simp) (by simp)
    have f1' := kf hb1 (b := w.heap.size + 1) (i := 1) (by go_simp) (by simp)
    have f2' := kf hb1 (b := w.heap.size + 1) (i := 2) (by go_simp) (by simp)
    have hz : w.heap.size + 2 ≤ w1.heap.size := by have := hb1.size; simpa using this
    have hB : Below w.heap.size w w1 := ((Below.refl _ _).alloc (Nat.le_refl _) _ |>.alloc (by simp) _).trans (hb1.mono (by simp; omega))
    clear hb1
    go_wp2_with fail
    refine (HG.out _).mono ?_
    rintro e w2 ⟨⟨v, rfl, hown⟩, hb2⟩
    obtain ⟨g, cap, rfl, hg, hcap, hcm, hgl, hcell⟩ := row_at hown hm1
    replace d0 := kc hb2 d0 (by omega)
    replace d1 := kc hb2 d1 (by omega)
    replace d2 := kc hb2 d2 (by omega)
    replace f0' := kf hb2 f0' (by omega)
    replace f1' := kf hb2 f1' (by omega)
    replace f2' := kf hb2 f2' (by omega)
    replace hB := hB.trans (hb2.mono (by omega))
    replace hz := Nat.le_trans hz hb2.size
    have HC := Lib.hid hcell
    clear hcell hb2 hown c0 c1 c2
    by_cases hn0 : n < 0
    · go_wp2_with fail
      refine bodyPost_ret (v := seatOutV (0, 0, 8)) (by simp [results, Try.results23, go_sem, d0, d1, d2, f0', f1', f2']) rfl ?_
      exact ⟨by rw [seatAtT, if_neg (by rw [HB.out]; simp), if_neg (by omega)], ((hB.setCell (by simp) _).setCell (by simp) _).setCell (by simp) _⟩
    · obtain ⟨n, rfl⟩ := nat_of (show 0 ≤ n by omega)
      by_cases hnm : M ≤ n
      · go_wp2_with fail
        refine bodyPost_ret (v := seatOutV (0, 0, 8)) (by simp [results, Try.results23, go_sem, d0, d1, d2, f0', f1', f2']) rfl ?_
        exact ⟨by rw [seatAtT, if_neg (by rw [HB.out]; simp), if_neg (by have := HM.out; rw [← Int.natCast_mul, this]; omega)], ((hB.setCell (by simp) _).setCell (by simp) _).setCell (by simp) _⟩
      · obtain ⟨e0, e1⟩ := seatsTo_at fc M n (by omega)
        replace e0 := HC.out _ _ e0
        replace e1 := HC.out _ _ e1
        go_wp2_with fail
        refine bodyPost_ret (v := seatOutV (((n / fc + 1 : Nat) : Int), ((n % fc : Nat) : Int), 0)) (by simp [results, Try.results23, go_sem, d0, d1, d2, f0', f1', f2']) rfl ?_
        exact ⟨by rw [seatAtT, if_neg (by rw [HB.out]; simp), if_pos (by have := HM.out; rw [← Int.natCast_mul, this]; omega)]; simp, ((hB.setCell (by simp) _).setCell (by simp) _).setCell (by simp) _⟩
end Go.Proofs.Ytjejdfmeclbjeaa
