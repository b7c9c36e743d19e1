/-
  FnExactFlightRight: the walk and the row: at every flight impl answers as spec, and below the old heap nothing has turned.
-/
import Derived.Test.YtjejdfmeclbjeaaSeatIn
import Derived.Test.YtjejdfmeclbjeaaOpenFS
import Derived.Test.YtjejdfmeclbjeaaLift
namespace Go.Proofs.Ytjejdfmeclbjeaa
open Go.ChangeShapes Go.WideShapes Go.ChangeAt Go.RowKit Go.ChangeMaps
set_option linter.unusedSimpArgs false
set_option linter.unusedVariables false

set_option maxHeartbeats 1000000 in
theorem flightRight_walk (s : ByteArray) (fr fc : Int) (w : World) (hs : s.size ≤ maxLen) : Calls Try.prog 4 #[flightV s fr fc] w fun e w' => Holds e w w' := by
  have HS : Hid (∀ W : World, Calls Try.prog 12 #[flightV s fr fc] W fun e w' => e = .returned (.bool (flightB s fr fc)) ∧ Below W.heap.size W w') := fun W => sFlightRight_any s fr fc W hs
  have HI : Hid (∀ W : World, Calls Try.prog 14 #[flightV s fr fc] W fun e w' => e = .returned (.bool (flightB s fr fc)) ∧ Below W.heap.size W w') := fun W => iFlightRight_any s fr fc W hs
  have HZ : Hid (∀ W : World, Calls Try.prog 11 #[flightV s fr fc, .int .i64 1048576] W fun e w' => e = .returned (.int .i64 (if (1048576 : Int) < s.size then -1 else 1048576 - s.size)) ∧ Below W.heap.size W w') := fun W => szFlight_any s fr fc 1048576 W hs (by omega) (by omega)
  have HTF : Hid (∀ W : World, Calls Try.prog 13 #[flightV s fr fc] W fun e w' => e = .returned (flightV s fr fc) ∧ Below W.heap.size W w') := fun W => toFlight_any s fr fc W

  unfold maxLen at hs
  by_cases hbig : (1048576 : Int) < s.size
  · rw [if_pos hbig] at HZ
    go_enter Try.func4, Try.ntmps4
    go_wp2_with fail
    refine (HZ.out _).mono ?_
    rintro e w1 ⟨rfl, hb1⟩
    go_wp2_with fail
    go_ret
    exact ⟨rfl, ((Below.refl _ _).alloc (Nat.le_refl _) _).trans (hb1.mono (by simp))⟩
  rw [if_neg hbig] at HZ
  go_enter Try.func4, Try.ntmps4
  go_wp2_with fail
  refine (HZ.out _).mono ?_
  rintro e w1 ⟨rfl, hb1⟩
  have hB : Below w.heap.size w w1 := ((Below.refl _ _).alloc (Nat.le_refl _) _).trans (hb1.mono (by simp))
  have hz : w.heap.size + 1 ≤ w1.heap.size := by have := hb1.size; simpa using this
  have c00 := kc hb1 (b := w.heap.size) (i := 0) (v := .string s) (by go_simp) (by simp)
  have c01 := kc hb1 (b := w.heap.size) (i := 1) (v := .int .i64 fr) (by go_simp) (by simp)
  have c02 := kc hb1 (b := w.heap.size) (i := 2) (v := .int .i64 fc) (by go_simp) (by simp)
  clear hb1
  go_wp2_with fail
  refine (HTF.out _).mono ?_
  rintro e w2 ⟨rfl, hb2⟩
  replace hB := hB.trans (hb2.mono (by omega))
  replace c00 := kc hb2 c00 (by omega)
  replace c01 := kc hb2 c01 (by omega)
  replace c02 := kc hb2 c02 (by omega)
  replace hz := Nat.le_trans hz hb2.size
  clear hb2
  go_wp2_with fail
  refine (HS.out _).mono ?_
  rintro e w3 ⟨rfl, hb3⟩
  replace hB := hB.trans (hb3.mono (by omega))
  replace c00 := kc hb3 c00 (by omega)
  replace c01 := kc hb3 c01 (by omega)
  replace c02 := kc hb3 c02 (by omega)
  replace hz := Nat.le_trans hz hb3.size
  clear hb3
  go_wp2_with fail
  refine (HTF.out _).mono ?_
  rintro e w4 ⟨rfl, hb4⟩
  replace hB := hB.trans (hb4.mono (by omega))
  replace c00 := kc hb4 c00 (by omega)
  replace c01 := kc hb4 c01 (by omega)
  replace c02 := kc hb4 c02 (by omega)
  replace hz := Nat.le_trans hz hb4.size
  clear hb4
  go_wp2_with fail
  refine (HI.out _).mono ?_
  rintro e w5 ⟨rfl, hb5⟩
  replace hB := hB.trans (hb5.mono (by omega))
  replace c00 := kc hb5 c00 (by omega)
  replace c01 := kc hb5 c01 (by omega)
  replace c02 := kc hb5 c02 (by omega)
  replace hz := Nat.le_trans hz hb5.size
  clear hb5
  go_wp2_with fail
  go_ret
  exact ⟨rfl, hB⟩

set_option maxRecDepth 100000 in
theorem fnExactFlightRight_lifted (os : Os) (started : os.Started) (H : Type) (enc : TypeId × Value → H) :
    ReturnsInHanded {} Try.checked os 4 .any (Rows.fnExactFlightRightSpec.pre6 enc Try.prog Try.f4 Rows.fnExactFlightRightRow.domain false) (Rows.fnExactFlightRightSpec.post enc Try.prog Try.f4 false true false false) := by
  refine law_lifted started (by kernel_rfl) Try.func4 rfl rfl Try.underlying4 (by rw [Try.params4]; exact List.forall_mem_cons.2 ⟨⟨by kernel_rfl, of_decide_eq_true (by kernel_rfl)⟩, fun _ h => by cases h⟩) (fun ds hd => ?_)
    (ChangeSpec.witness6 (enc := enc) (C := Try.checked) false ⟨#[], #[.agg #[.string ⟨#[]⟩, .int .i64 0, .int .i64 0]], []⟩ 8 (by kernel_rfl) (by kernel_rfl) (by kernel_rfl) (by kernel_rfl)) ?_
  · match ds, hd with
    | [_], _ => rfl
  · intro W base args ds p hval hA hlt _
    rw [Try.params4] at hA hval
    obtain ⟨v0, vs0, d0, ds0, p0, q0, hargs, rfl, rfl, h0, r0⟩ := trodAll_cons hA
    obtain ⟨rfl, rfl, rfl⟩ := trodAll_nil r0
    obtain rfl : args = #[v0] := by cases args; simp_all
    obtain ⟨a0x, a0y, a0z, rfl, rfl, w0⟩ := open_flight (hval 0 24 v0 rfl rfl) h0
    exact flightRight_walk a0x a0y a0z W w0

theorem fnExactFlightRight_holds : Rows.FnExactFlightRightSaid :=
  OpenClaim.holds_of_wide 4 Try.f4 rfl rfl rfl rfl rfl rfl rfl ⟨rfl, rfl, rfl, rfl, rfl⟩ rfl rfl rfl rfl rfl (by kernel_rfl) Try.func4 (by kernel_rfl)
    (of_decide_eq_true (by kernel_rfl)) (by unfold Func.isWrapper; first | (rw [if_pos (by decide +kernel)]; kernel_rfl) | (rw [if_neg (by decide +kernel)]; exact ⟨rfl, rfl⟩))
    (fun os started H enc _ => fnExactFlightRight_lifted os started H enc)
end Go.Proofs.Ytjejdfmeclbjeaa
