/-
  FnExactSeatIn: the walk and the row: at every flight and seat impl answers as spec, and below the old heap nothing has turned.
-/
import Derived.Test.YtjejdfmeclbjeaaRegFS
import Derived.Test.YtjejdfmeclbjeaaOpenFS
import Derived.Test.YtjejdfmeclbjeaaLift
namespace Go.Proofs.Ytjejdfmeclbjeaa
open Go.ChangeShapes Go.WideShapes Go.ChangeAt Go.RowKit Go.ChangeMaps
set_option linter.unusedSimpArgs false
set_option linter.unusedVariables false

set_option maxHeartbeats 2000000 in
theorem seatIn_walk (s : ByteArray) (fr fc : Int) (r c : Int) (w : World) (hs : s.size ≤ maxLen) : Calls Try.prog 6 #[flightV s fr fc, seatV r c] w fun e w' => Holds e w w' := by
  have HS : Hid (∀ W : World, Calls Try.prog 18 #[flightV s fr fc, seatV r c] W fun e w' => e = .returned (.bool (seatInB s fr fc r c)) ∧ Below W.heap.size W w') := fun W => sSeatIn_any s fr fc r c W hs
  have HI : Hid (∀ W : World, Calls Try.prog 19 #[flightV s fr fc, seatV r c] W fun e w' => e = .returned (.bool (seatInB s fr fc r c)) ∧ Below W.heap.size W w') := fun W => iSeatIn_any s fr fc r c W hs
  have HZ : Hid (∀ W : World, Calls Try.prog 11 #[flightV s fr fc, .int .i64 1048576] W fun e w' => e = .returned (.int .i64 (if (1048576 : Int) < s.size then -1 else 1048576 - s.size)) ∧ Below W.heap.size W w') := fun W => szFlight_any s fr fc 1048576 W hs (by omega) (by omega)
  have HTF : Hid (∀ W : World, Calls Try.prog 13 #[flightV s fr fc] W fun e w' => e = .returned (flightV s fr fc) ∧ Below W.heap.size W w') := fun W => toFlight_any s fr fc W
  have HTS : Hid (∀ W : World, Calls Try.prog 16 #[seatV r c] W fun e w' => e = .returned (seatV r c) ∧ Below W.heap.size W w') := fun W => toSeat_any r c W
  unfold maxLen at hs
  by_cases hbig : (1048576 : Int) < s.size
  · rw [if_pos hbig] at HZ
    go_enter Try.func6, Try.ntmps6
    go_wp2_with fail
    refine (HZ.out _).mono ?_
    rintro e w1 ⟨rfl, hb1⟩
    go_wp2_with fail
    go_ret
    exact ⟨rfl, ((Below.refl _ _).alloc (Nat.le_refl _) _ |>.alloc (by simp) _).trans (hb1.mono (by simp; omega))⟩
  rw [if_neg hbig] at HZ
  go_enter Try.func6, Try.ntmps6
  go_wp2_with fail
  refine (HZ.out _).mono ?_
  rintro e w1 ⟨rfl, hb1⟩
  have hB : Below w.heap.size w w1 := ((Below.refl _ _).alloc (Nat.le_refl _) _ |>.alloc (by simp) _).trans (hb1.mono (by simp; omega))
  have hBd := hB.drew
  have hz : w.heap.size + 2 ≤ w1.heap.size := by have := hb1.size; simpa using this
  have c00 := kc hb1 (b := w.heap.size) (i := 0) (v := .string s) (by go_simp) (by simp; omega)
  have c01 := kc hb1 (b := w.heap.size) (i := 1) (v := .int .i64 fr) (by go_simp) (by simp; omega)
  have c02 := kc hb1 (b := w.heap.size) (i := 2) (v := .int .i64 fc) (by go_simp) (by simp; omega)
  have c10 := kc hb1 (b := w.heap.size + 1) (i := 0) (v := .int .i64 r) (by go_simp) (by simp)
  have c11 := kc hb1 (b := w.heap.size + 1) (i := 1) (v := .int .i64 c) (by go_simp) (by simp)
  clear hb1
  go_wp2_with fail
  go_region_held3 (fun W => W.cell? ⟨w.heap.size, 0, none⟩ = some (.string s) ∧ W.cell? ⟨w.heap.size, 1, none⟩ = some (.int .i64 fr) ∧ W.cell? ⟨w.heap.size, 2, none⟩ = some (.int .i64 fc) ∧ W.cell? ⟨w.heap.size + 1, 0, none⟩ = some (.int .i64 r) ∧ W.cell? ⟨w.heap.size + 1, 1, none⟩ = some (.int .i64 c) ∧ Below w.heap.size w W ∧ w.heap.size + 2 ≤ W.heap.size)
    (first | (go_keep; done) | (go_split_ands; exact ⟨kc hb (by assumption) (by omega), kc hb (by assumption) (by omega), kc hb (by assumption) (by omega), kc hb (by assumption) (by omega), kc hb (by assumption) (by omega), bstep hb (by assumption) (by omega), zstep hb (by assumption)⟩))
    (first | (go_at_call 13; refine (HTF.out _).mono ?_; rintro e w' ⟨rfl, hb⟩) | (go_at_call 16; refine (HTS.out _).mono ?_; rintro e w' ⟨rfl, hb⟩) | (go_at_call 18; refine (HS.out _).mono ?_; rintro e w' ⟨rfl, hb⟩))
  clear c00 c01 c02 c10 c11 hB hBd hz
  rename_i hHeld
  obtain ⟨c00, c01, c02, c10, c11, hB, hz⟩ := hHeld
  have hBd := hB.drew
  go_wp2_with fail
  go_region_held3 (fun W => W.cell? ⟨w.heap.size, 0, none⟩ = some (.string s) ∧ W.cell? ⟨w.heap.size, 1, none⟩ = some (.int .i64 fr) ∧ W.cell? ⟨w.heap.size, 2, none⟩ = some (.int .i64 fc) ∧ W.cell? ⟨w.heap.size + 1, 0, none⟩ = some (.int .i64 r) ∧ W.cell? ⟨w.heap.size + 1, 1, none⟩ = some (.int .i64 c) ∧ Below w.heap.size w W ∧ w.heap.size + 2 ≤ W.heap.size)
    (first | (go_keep; done) | (go_split_ands; exact ⟨kc hb (by assumption) (by omega), kc hb (by assumption) (by omega), kc hb (by assumption) (by omega), kc hb (by assumption) (by omega), kc hb (by assumption) (by omega), bstep hb (by assumption) (by omega), zstep hb (by assumption)⟩))
    (first | (go_at_call 13; refine (HTF.out _).mono ?_; rintro e w' ⟨rfl, hb⟩) | (go_at_call 16; refine (HTS.out _).mono ?_; rintro e w' ⟨rfl, hb⟩) | (go_at_call 19; refine (HI.out _).mono ?_; rintro e w' ⟨rfl, hb⟩))
  clear c00 c01 c02 c10 c11 hB hBd hz
  rename_i hHeld
  obtain ⟨c00, c01, c02, c10, c11, hB, hz⟩ := hHeld
  go_wp2_with fail
  go_ret
  exact ⟨rfl, hB⟩

set_option maxRecDepth 100000 in
theorem fnExactSeatIn_lifted (os : Os) (started : os.Started) (H : Type) (enc : TypeId × Value → H) :
    ReturnsInHanded {} Try.checked os 6 .any (Rows.fnExactSeatInSpec.pre6 enc Try.prog Try.f6 Rows.fnExactSeatInRow.domain false) (Rows.fnExactSeatInSpec.post enc Try.prog Try.f6 false true false false) := by
  refine law_lifted started (by kernel_rfl) Try.func6 rfl rfl Try.underlying4 (by rw [Try.params6]; exact List.forall_mem_cons.2 ⟨⟨by kernel_rfl, of_decide_eq_true (by kernel_rfl)⟩, List.forall_mem_cons.2 ⟨⟨by kernel_rfl, of_decide_eq_true (by kernel_rfl)⟩, fun _ h => by cases h⟩⟩) (fun ds hd => ?_)
    (ChangeSpec.witness6 (enc := enc) (C := Try.checked) false ⟨#[], #[.agg #[.string ⟨#[]⟩, .int .i64 0, .int .i64 0], .agg #[.int .i64 0, .int .i64 0]], []⟩ 8 (by kernel_rfl) (by kernel_rfl) (by kernel_rfl) (by kernel_rfl)) ?_
  · match ds, hd with
    | [_, _], _ => rfl
  · intro W base args ds p hval hA hlt _
    rw [Try.params6] at hA hval
    obtain ⟨v0, vs0, d0, ds0, p0, q0, hargs, rfl, rfl, h0, r0⟩ := trodAll_cons hA
    obtain ⟨v1, vs1, d1, ds1, p1, q1, rfl, rfl, rfl, h1, r1⟩ := trodAll_cons r0
    obtain ⟨rfl, rfl, rfl⟩ := trodAll_nil r1
    obtain rfl : args = #[v0, v1] := by cases args; simp_all
    obtain ⟨a0x, a0y, a0z, rfl, rfl, w0⟩ := open_flight (hval 0 24 v0 rfl rfl) h0
    obtain ⟨a1x, a1y, rfl, rfl⟩ := open_seat (hval 1 31 v1 rfl rfl) h1
    exact seatIn_walk a0x a0y a0z a1x a1y W w0

theorem fnExactSeatIn_holds : Rows.FnExactSeatInSaid :=
  OpenClaim.holds_of_wide 6 Try.f6 rfl rfl rfl rfl rfl rfl rfl ⟨rfl, rfl, rfl, rfl, rfl⟩ rfl rfl rfl rfl rfl (by kernel_rfl) Try.func6 (by kernel_rfl)
    (of_decide_eq_true (by kernel_rfl)) (by unfold Func.isWrapper; first | (rw [if_pos (by decide +kernel)]; kernel_rfl) | (rw [if_neg (by decide +kernel)]; exact ⟨rfl, rfl⟩))
    (fun os started H enc _ => fnExactSeatIn_lifted os started H enc)
end Go.Proofs.Ytjejdfmeclbjeaa
