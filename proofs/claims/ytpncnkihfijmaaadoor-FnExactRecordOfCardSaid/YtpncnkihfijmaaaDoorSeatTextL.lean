/-
  spec.SeatText writes out a seat.
-/
import Derived.Test.YtpncnkihfijmaaaDoorSeatText
namespace Go.Proofs.YtpncnkihfijmaaaDoor
open Go.ChangeShapes Go.WideShapes Go.ChangeAt Go.RowKit Go.ChangeMaps
set_option maxRecDepth 10000
set_option linter.unusedSimpArgs false
set_option linter.unusedVariables false

theorem letters_at (c : Nat) (hc : c ≤ 5) : ByteArray.extract ⟨#[97, 98, 99, 100, 101, 102]⟩ c (c + 1) = ⟨[UInt8.ofNat (97 + c)].toArray⟩ := by
  have h : c = 0 ∨ c = 1 ∨ c = 2 ∨ c = 3 ∨ c = 4 ∨ c = 5 := by omega
  rcases h with rfl | rfl | rfl | rfl | rfl | rfl <;> decide +kernel

set_option maxHeartbeats 1000000 in
theorem l02Text_any (r c : Nat) (w : World) (hr : r ≤ 20) (hc : c ≤ 5) : Calls Tryd.prog 29 #[seatV r c] w fun e w' => e = .returned (.string ⟨(Lib.decDigits r ++ [UInt8.ofNat (97 + c)]).toArray⟩) ∧ Below w.heap.size w w' := by
  have HF : Hid (∀ W : World, Calls Tryd.prog 28 #[.int .i64 r] W fun e w' => e = .returned (.string ⟨(Lib.decDigits r).toArray⟩) ∧ Below W.heap.size W w') := fun W => l01Dec_nat r W (by omega)
  have hDl : (Lib.decDigits r).length ≤ 2 := by
    by_cases h : r < 10
    · rw [Lib.decDigits_one h]; simp
    · rw [Lib.decDigits_two h (by omega)]; simp
  generalize Lib.decDigits r = D at *
  have hcI0 : (0 : Int) ≤ c := by omega
  have hcI : (c : Int) ≤ 5 := by omega
  have hwr : IntKind.i64.wrap ((c : Int) + 1) = (c : Int) + 1 := IntWalk.i64_in _ (by omega)
  have hB0 : Below w.heap.size w (w.alloc (.cells #[.int .i64 r, .int .i64 c] 28)).drew := ((Below.refl _ _).alloc (Nat.le_refl _) _).drew
  have hsl : ∀ W : World, (Instr.slice 9 (.string ⟨#[97, 98, 99, 100, 101, 102]⟩) (some (.int .i64 (c : Int))) (some (.int .i64 ((c : Int) + 1))) none).run Tryd.prog W = .ok (.string ⟨[UInt8.ofNat (97 + c)].toArray⟩) W := fun W => by
    have h := run_slice_string (P := Tryd.prog) W 9 ⟨#[97, 98, 99, 100, 101, 102]⟩ .i64 .i64 (c : Int) ((c : Int) + 1) Tryd.underlying9 (by omega) (by omega) (by show _ ≤ ((6 : Nat) : Int); omega)
    rw [← letters_at c hc]
    exact h
  generalize UInt8.ofNat (97 + c) = b at *
  have hlen : (ByteArray.mk D.toArray).size + (ByteArray.mk [b].toArray).size ≤ 9223372036854775807 := by rw [bsize, bsize]; simp; omega
  have hadd : ∀ W : World, (Op.stringOp .add ⟨D.toArray⟩ ⟨[b].toArray⟩).run Tryd.prog W = .ok (.string ⟨(D ++ [b]).toArray⟩) W := fun W => by
    rw [run_string_add_sum _ _ _ hlen, bappend]
  go_enter Tryd.func29, Tryd.ntmps29
  go_wp2_with fail
  go_region_held3 (fun W => W.cell? ⟨w.heap.size, 0, none⟩ = some (.int .i64 r) ∧ W.cell? ⟨w.heap.size, 1, none⟩ = some (.int .i64 c) ∧ Below w.heap.size w W ∧ w.heap.size + 1 ≤ W.heap.size)
    (first | (go_keep; done) | (go_split_ands; exact ⟨kc hb (by assumption) (by omega), kc hb (by assumption) (by omega), bstep hb (by assumption) (by omega), zstep hb (by assumption)⟩))
    (first | (go_at_call 28; refine (HF.out _).mono ?_; rintro e w' ⟨rfl, hb⟩))
  rename_i hHeld
  obtain ⟨-, -, hB, -⟩ := hHeld
  go_wp2_with fail
  go_ret
  exact ⟨rfl, hB⟩
end Go.Proofs.YtpncnkihfijmaaaDoor
