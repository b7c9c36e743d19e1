/-
  FnExactSeatRight: the walk and the row: at every seat impl answers as spec, and below the old heap nothing has turned.
-/
import Derived.Test.YtjejdfmeclbjeaaSeatIn
import Derived.Test.YtjejdfmeclbjeaaOpenFS
import Derived.Test.YtjejdfmeclbjeaaLift
namespace Go.Proofs.Ytjejdfmeclbjeaa
open Go.ChangeShapes Go.WideShapes Go.ChangeAt Go.RowKit Go.ChangeMaps
set_option linter.unusedSimpArgs false
set_option linter.unusedVariables false

set_option maxHeartbeats 1000000 in
theorem seatRight_walk (r c : Int) (w : World)  : Calls Try.prog 5 #[seatV r c] w fun e w' => Holds e w w' := by
  have HS : Hid (∀ W : World, Calls Try.prog 15 #[seatV r c] W fun e w' => e = .returned (.bool (seatB r c)) ∧ Below W.heap.size W w') := fun W => sSeatRight_any r c W
  have HI : Hid (∀ W : World, Calls Try.prog 17 #[seatV r c] W fun e w' => e = .returned (.bool (seatB r c)) ∧ Below W.heap.size W w') := fun W => iSeatRight_any r c W
  have HTS : Hid (∀ W : World, Calls Try.prog 16 #[seatV r c] W fun e w' => e = .returned (seatV r c) ∧ Below W.heap.size W w') := fun W => toSeat_any r c W

  go_enter Try.func5, Try.ntmps5
  go_wp2_with fail
  refine (HTS.out _).mono ?_
  rintro e w1 ⟨rfl, hb1⟩
  have hB : Below w.heap.size w w1 := ((Below.refl _ _).alloc (Nat.le_refl _) _).trans (hb1.mono (by simp))
  have hz : w.heap.size + 1 ≤ w1.heap.size := by have := hb1.size; simpa using this
  have c00 := kc hb1 (b := w.heap.size) (i := 0) (v := .int .i64 r) (by go_simp) (by simp)
  have c01 := kc hb1 (b := w.heap.size) (i := 1) (v := .int .i64 c) (by go_simp) (by simp)
  clear hb1
  go_wp2_with fail
  refine (HS.out _).mono ?_
  rintro e w2 ⟨rfl, hb2⟩
  replace hB := hB.trans (hb2.mono (by omega))
  replace c00 := kc hb2 c00 (by omega)
  replace c01 := kc hb2 c01 (by omega)
  replace hz := Nat.le_trans hz hb2.size
  clear hb2
  go_wp2_with fail
  refine (HTS.out _).mono ?_
  rintro e w3 ⟨rfl, hb3⟩
  replace hB := hB.trans (hb3.mono (by omega))
  replace c00 := kc hb3 c00 (by omega)
  replace c01 := kc hb3 c01 (by omega)
  replace hz := Nat.le_trans hz hb3.size
  clear hb3
  go_wp2_with fail
  refine (HI.out _).mono ?_
  rintro e w4 ⟨rfl, hb4⟩
  replace hB := hB.trans (hb4.mono (by omega))
  replace c00 := kc hb4 c00 (by omega)
  replace c01 := kc hb4 c01 (by omega)
  replace hz := Nat.le_trans hz hb4.size
  clear hb4
  go_wp2_with fail
  go_ret
  exact ⟨rfl, hB⟩

set_option maxRecDepth 100000 in
theorem fnExactSeatRight_lifted (os : Os) (started : os.Started) (H : Type) (enc : TypeId × Value → H) :
    ReturnsInHanded {} Try.checked os 5 .any (Rows.fnExactSeatRightSpec.pre6 enc Try.prog Try.f5 Rows.fnExactSeatRightRow.domain false) (Rows.fnExactSeatRightSpec.post enc Try.prog Try.f5 false true false false) := by
  refine law_lifted started (by kernel_rfl) Try.func5 rfl rfl Try.underlying4 (by rw [Try.params5]; exact List.forall_mem_cons.2 ⟨⟨by kernel_rfl, of_decide_eq_true (by kernel_rfl)⟩, fun _ h => by cases h⟩) (fun ds hd => ?_)
    (ChangeSpec.witness6 (enc := enc) (C := Try.checked) false ⟨#[], #[.agg #[.int .i64 0, .int .i64 0]], []⟩ 8 (by kernel_rfl) (by kernel_rfl) (by kernel_rfl) (by kernel_rfl)) ?_
  · match ds, hd with
    | [_], _ => rfl
  · intro W base args ds p hval hA hlt _
    rw [Try.params5] at hA hval
    obtain ⟨v0, vs0, d0, ds0, p0, q0, hargs, rfl, rfl, h0, r0⟩ := trodAll_cons hA
    obtain ⟨rfl, rfl, rfl⟩ := trodAll_nil r0
    obtain rfl : args = #[v0] := by cases args; simp_all
    obtain ⟨a0x, a0y, rfl, rfl⟩ := open_seat (hval 0 31 v0 rfl rfl) h0
    exact seatRight_walk a0x a0y W 

theorem fnExactSeatRight_holds : Rows.FnExactSeatRightSaid :=
  OpenClaim.holds_of_wide 5 Try.f5 rfl rfl rfl rfl rfl rfl rfl ⟨rfl, rfl, rfl, rfl, rfl⟩ rfl rfl rfl rfl rfl (by kernel_rfl) Try.func5 (by kernel_rfl)
    (of_decide_eq_true (by kernel_rfl)) (by unfold Func.isWrapper; first | (rw [if_pos (by decide +kernel)]; kernel_rfl) | (rw [if_neg (by decide +kernel)]; exact ⟨rfl, rfl⟩))
    (fun os started H enc _ => fnExactSeatRight_lifted os started H enc)
end Go.Proofs.Ytjejdfmeclbjeaa
