/-
  impl's SeatNo answers 'seatNoI'.
-/
import Derived.Test.YtjejdfmeclbjeaaSeatNum
import Derived.Test.YtjejdfmeclbjeaaRegFS
namespace Go.Proofs.Ytjejdfmeclbjeaa
open Go.ChangeShapes Go.WideShapes Go.ChangeAt Go.RowKit Go.ChangeMaps
set_option linter.unusedSimpArgs false
set_option linter.unusedVariables false

set_option maxHeartbeats 1000000 in
theorem iSeatNo_any (s : ByteArray) (fr fc r c : Int) (w : World) (hs : s.size ≤ maxLen) : Calls Try.prog 21 #[flightV s fr fc, seatV r c] w fun e w' => e = .returned (.int .i64 (seatNoI s fr fc r c)) ∧ Below w.heap.size w w' := by
  have HF : Hid (∀ W : World, Calls Try.prog 19 #[flightV s fr fc, seatV r c] W fun e w' => e = .returned (.bool (seatInB s fr fc r c)) ∧ Below W.heap.size W w') := fun W => iSeatIn_any s fr fc r c W hs
  obtain ⟨b, hb⟩ : ∃ b, seatInB s fr fc r c = b := ⟨_, rfl⟩
  have HB := Lib.hid hb
  rw [hb] at HF
  cases b
  · clear hb
    go_enter Try.func21, Try.ntmps21
    go_wp2_with fail
    refine (HF.out _).mono ?_
    rintro e w1 ⟨rfl, hb1⟩
    go_wp2_with fail
    go_ret
    exact ⟨ret_int (by rw [seatNoI, if_neg (by rw [HB.out]; simp)]), ((Below.refl _ _).alloc (Nat.le_refl _) _ |>.alloc (by simp) _).trans (hb1.mono (by simp; omega))⟩
  · obtain ⟨-, ⟨f1, f2⟩, ⟨g1, g2⟩, ⟨r1, r2⟩, c1, c2⟩ := seatInB_parts hb
    clear hb
    obtain ⟨fr, rfl⟩ := nat_of (show 0 ≤ fr by omega)
    obtain ⟨fc, rfl⟩ := nat_of (show 0 ≤ fc by omega)
    have HN : Hid (∀ W : World, Calls Try.prog 28 #[flightV s fr fc] W fun e w' => (∃ b, e = .returned (.map (some b)) ∧ (Instr.lookup 46 (.map (some b)) (seatV r c) false).run Try.prog w' = .ok (.int .i64 ((r - 1) * fc + c)) w') ∧ Below W.heap.size W w') :=
      fun W => seatNumbers_look s fr fc r c W (by omega) (by omega) (by omega) (by omega) r1 r2 c1 c2
    have HR : Hid (seatNoI s fr fc r c = (r - 1) * fc + c) := by rw [Hid, seatNoI, if_pos HB.out]
    generalize (r - 1) * (fc : Int) + c = N at *
    go_enter Try.func21, Try.ntmps21
    go_wp2_with fail
    refine (HF.out _).mono ?_
    rintro e w1 ⟨rfl, hb1⟩
    have hz : w.heap.size + 2 ≤ w1.heap.size := by have := hb1.size; simpa using this
    have c00 := kc hb1 (b := w.heap.size) (i := 0) (v := .string s) (by go_simp) (by simp; omega)
    have c01 := kc hb1 (b := w.heap.size) (i := 1) (v := .int .i64 fr) (by go_simp) (by simp; omega)
    have c02 := kc hb1 (b := w.heap.size) (i := 2) (v := .int .i64 fc) (by go_simp) (by simp; omega)
    have c10 := kc hb1 (b := w.heap.size + 1) (i := 0) (v := .int .i64 r) (by go_simp) (by simp)
    have c11 := kc hb1 (b := w.heap.size + 1) (i := 1) (v := .int .i64 c) (by go_simp) (by simp)
    have hB : Below w.heap.size w w1 := ((Below.refl _ _).alloc (Nat.le_refl _) _ |>.alloc (by simp) _).trans (hb1.mono (by simp; omega))
    have hBd := hB.drew
    clear hb1
    go_wp2_with fail
    go_region_held3 (fun W => W.cell? ⟨w.heap.size, 0, none⟩ = some (.string s) ∧ W.cell? ⟨w.heap.size, 1, none⟩ = some (.int .i64 fr) ∧ W.cell? ⟨w.heap.size, 2, none⟩ = some (.int .i64 fc) ∧
        W.cell? ⟨w.heap.size + 1, 0, none⟩ = some (.int .i64 r) ∧ W.cell? ⟨w.heap.size + 1, 1, none⟩ = some (.int .i64 c) ∧ Below w.heap.size w W ∧ w.heap.size + 2 ≤ W.heap.size)
      (first | (go_keep; done) | (go_split_ands; exact ⟨kc hb (by assumption) (by omega), kc hb (by assumption) (by omega), kc hb (by assumption) (by omega), kc hb (by assumption) (by omega), kc hb (by assumption) (by omega), bstep hb (by assumption) (by omega), zstep hb (by assumption)⟩))
      (first | (go_at_call 28; refine (HN.out _).mono ?_; rintro e w' ⟨⟨b, rfl, hlk⟩, hb⟩))
    rename_i hHeld
    obtain ⟨-, -, -, -, -, hB', -⟩ := hHeld
    go_wp2_with fail
    go_ret
    exact ⟨ret_int HR.out.symm, hB'⟩
end Go.Proofs.Ytjejdfmeclbjeaa
