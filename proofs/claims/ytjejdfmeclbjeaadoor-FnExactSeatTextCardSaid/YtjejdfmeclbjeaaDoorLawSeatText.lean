/-
  FnExactSeatText: the walk, the row and the tied card: at every seat impl answers as spec, and below the old heap nothing has turned. The row lists tables of the library, as its text lays them; no step reads them.
-/
import Derived.Test.YtjejdfmeclbjeaaDoorSeatTextS
import Derived.Test.YtjejdfmeclbjeaaDoorOpenSeat
import Derived.Test.YtjejdfmeclbjeaaDoorLiftL
import Derived.Test.YtjejdfmeclbjeaaDoorTie
import Derived.Test.YtjejdfmeclbjeaaDoorCards
import Derived.SevenTiedAt
namespace Go.Proofs.YtjejdfmeclbjeaaDoor
open Go.ChangeShapes Go.WideShapes Go.ChangeAt Go.RowKit Go.ChangeMaps
set_option linter.unusedSimpArgs false
set_option linter.unusedVariables false

set_option maxHeartbeats 1000000 in
theorem seatText_walk (r c : Int) (w : World) (hl : laidMetH Tryd.prog Rows.fnExactSeatTextRow.laid w) : Calls Tryd.prog 3 #[seatV r c] w fun e w' => Holds e w w' := by
  clear hl
  have HS : Hid (∀ W : World, Calls Tryd.prog 5 #[seatV r c] W fun e w' => e = .returned (.string ⟨(seatTextL r c).toArray⟩) ∧ Below W.heap.size W w') := fun W => sSeatText_any r c W
  have HI : Hid (∀ W : World, Calls Tryd.prog 7 #[seatV r c] W fun e w' => e = .returned (.string ⟨(seatTextL r c).toArray⟩) ∧ Below W.heap.size W w') := fun W => iSeatText_any r c W
  have HTS : Hid (∀ W : World, Calls Tryd.prog 6 #[seatV r c] W fun e w' => e = .returned (seatV r c) ∧ Below W.heap.size W w') := fun W => toSeat_any r c W
  generalize (⟨(seatTextL r c).toArray⟩ : ByteArray) = T at *
  go_enter Tryd.func3, Tryd.ntmps3
  go_wp2_with fail
  refine (HTS.out _).mono ?_
  rintro e w1 ⟨rfl, hb1⟩
  have hB : Below w.heap.size w w1 := ((Below.refl _ _).alloc (Nat.le_refl _) _).trans (hb1.mono (by simp))
  have hz : w.heap.size + 1 ≤ w1.heap.size := by have := hb1.size; simpa using this
  have c00 := kc hb1 (b := w.heap.size) (i := 0) (v := .int .i64 r) (by go_simp) (by simp)
  have c01 := kc hb1 (b := w.heap.size) (i := 1) (v := .int .i64 c) (by go_simp) (by simp)
  clear hb1
  go_wp2_with fail
  refine (HS.out _).mono ?_
  rintro e w2 ⟨rfl, hb2⟩
  replace hB := hB.trans (hb2.mono (by omega))
  replace c00 := kc hb2 c00 (by omega)
  replace c01 := kc hb2 c01 (by omega)
  replace hz := Nat.le_trans hz hb2.size
  clear hb2
  go_wp2_with fail
  refine (HTS.out _).mono ?_
  rintro e w3 ⟨rfl, hb3⟩
  replace hB := hB.trans (hb3.mono (by omega))
  replace c00 := kc hb3 c00 (by omega)
  replace c01 := kc hb3 c01 (by omega)
  replace hz := Nat.le_trans hz hb3.size
  clear hb3
  go_wp2_with fail
  refine (HI.out _).mono ?_
  rintro e w4 ⟨rfl, hb4⟩
  replace hB := hB.trans (hb4.mono (by omega))
  replace c00 := kc hb4 c00 (by omega)
  replace c01 := kc hb4 c01 (by omega)
  replace hz := Nat.le_trans hz hb4.size
  clear hb4
  go_wp2_with fail
  go_ret
  exact ⟨rfl, hB⟩

theorem fnExactSeatText_door (os : Os) (args : Array Value) : laidMetH Tryd.prog Rows.fnExactSeatTextRow.laid ((World.doorLaid Tryd.prog 400 os).forCall (fun _ _ => 0) ⟨#[], args, []⟩).memory :=
  laidMetH_of_parts3 (fuel := 8) (laidMet_of_run' 8 (by kernel_rfl) (by kernel_rfl)) (by kernel_rfl) (by kernel_rfl)
set_option maxRecDepth 100000 in
theorem fnExactSeatText_lifted (os : Os) (started : os.Started) (H : Type) (enc : TypeId × Value → H) :
    ReturnsInHanded {} Tryd.checked os 3 .any (fun w args => (Rows.fnExactSeatTextSpec.pre enc Tryd.prog Tryd.f3 [] false w args ∧ laidMetH Tryd.prog Rows.fnExactSeatTextRow.laid w) ∧ sizedMet enc Tryd.prog Tryd.f3 (OpenSpec.ofChange Rows.fnExactSeatTextSpec) false w args)
      (Rows.fnExactSeatTextSpec.post enc Tryd.prog Tryd.f3 false true false false) := by
  refine law_listed Rows.fnExactSeatTextRow.laid started (by kernel_rfl) Tryd.func3 rfl rfl Tryd.underlying4 (by rw [Tryd.params3]; exact List.forall_mem_cons.2 ⟨⟨by kernel_rfl, of_decide_eq_true (by kernel_rfl)⟩, fun _ h => by cases h⟩) (fun ds hd => ?_)
    (ChangeSpec.witness_shaped (enc := enc) (C := Tryd.checked) (os := os) (X := fun w _ => laidMetH Tryd.prog Rows.fnExactSeatTextRow.laid w) false (World.doorLaid Tryd.prog 400 os) #[.agg #[.int .i64 0, .int .i64 0]] 8 rfl (World.shaped_of_RefB (by kernel_rfl) (by kernel_rfl)) (by kernel_rfl) (by kernel_rfl) (by kernel_rfl) (fnExactSeatText_door os _)) ?_
  · match ds, hd with
    | [_], _ => rfl
  · intro W base args ds p hval hA hlt _ hl
    rw [Tryd.params3] at hA hval
    obtain ⟨v0, vs0, d0, ds0, p0, q0, hargs, rfl, rfl, h0, r0⟩ := trodAll_cons hA
    obtain ⟨rfl, rfl, rfl⟩ := trodAll_nil r0
    obtain rfl : args = #[v0] := by cases args; simp_all
    obtain ⟨a0x, a0y, rfl, rfl⟩ := open_seat (hval 0 23 v0 rfl rfl) h0
    exact seatText_walk a0x a0y W  hl

theorem fnExactSeatText_row : Rows.FnExactSeatTextSaid :=
  OpenClaim.holds_of_wide 3 Tryd.f3 rfl rfl rfl rfl rfl rfl rfl ⟨rfl, rfl, rfl, rfl, rfl⟩ rfl rfl rfl rfl rfl (by kernel_rfl) Tryd.func3 (by kernel_rfl)
    (of_decide_eq_true (by kernel_rfl)) (by unfold Func.isWrapper; first | (rw [if_pos (by decide +kernel)]; kernel_rfl) | (rw [if_neg (by decide +kernel)]; exact ⟨rfl, rfl⟩))
    (fun os started H enc _ => fnExactSeatText_lifted os started H enc)

/-- The tied card. -/
theorem fnExactSeatText_card : Rows.FnExactSeatTextCardSaid :=
  Claim7.holds_tied_plain_at .later [] Rows.fnExactSeatTextCard.laidKinds true Rows.fnExactSeatTextCard.stood.harness true
    fnExactSeatText_row (fun _ h => by cases h) (by kernel_rfl) (fun _ h => by cases h) fnExactSeatText_row_tie rfl ⟨rfl, rfl⟩ (by kernel_rfl) rfl
    (fun f fn hf hfn => by
      obtain rfl : f = 3 := Option.some.inj ((show Tryd.prog.funcNamed "loop.example/g00755/laws.FnExactSeatText" = some 3 by kernel_rfl).symm.trans hf) |>.symm
      obtain rfl : fn = Tryd.f3 := (Option.some.inj (Tryd.func3.symm.trans hfn)).symm
      refine ⟨by kernel_rfl, fun j t ht => ?_⟩
      rw [Tryd.params3] at ht
      have hm : t ∈ [23] := by
        have := Array.mem_of_getElem? ht
        simpa using this
      have hall : ([23].all fun u => !Tryd.prog.wantsStandIn u) = true := by kernel_rfl
      exact (show Tryd.prog.wantsStandIn t = false by simpa using List.all_eq_true.1 hall t hm))
    (by kernel_rfl)
end Go.Proofs.YtjejdfmeclbjeaaDoor
