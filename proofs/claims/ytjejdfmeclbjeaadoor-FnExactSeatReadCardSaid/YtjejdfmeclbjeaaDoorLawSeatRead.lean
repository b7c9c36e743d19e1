/-
  FnExactSeatRead: the walk, the row and the tied card: at every text impl answers as spec, and below the old heap nothing has turned. The row lists strconv's two sentinels and tables of the library, as its text lays them.
-/
import Derived.Test.YtjejdfmeclbjeaaDoorSeatReadS
import Derived.Test.YtjejdfmeclbjeaaDoorLiftL
import Derived.Test.YtjejdfmeclbjeaaDoorTie
import Derived.Test.YtjejdfmeclbjeaaDoorCards
import Derived.SevenTiedAt
namespace Go.Proofs.YtjejdfmeclbjeaaDoor
open Go.ChangeShapes Go.WideShapes Go.ChangeAt Go.RowKit Go.ChangeMaps
set_option linter.unusedSimpArgs false
set_option linter.unusedVariables false

theorem seatRead_vars {W : World} (hl : laidMetH Tryd.prog Rows.fnExactSeatReadRow.laid W) : ErrVars W := by
  rw [MakeChecks.laidMetH_plain _ _ _ (by kernel_rfl)] at hl
  exact ⟨laid_ifaceVar (g := 1) 4 hl rfl (by kernel_rfl) (by kernel_rfl) Tryd.underlying42, laid_ifaceVar (g := 2) 3 hl rfl (by kernel_rfl) (by kernel_rfl) Tryd.underlying42⟩

set_option maxHeartbeats 1000000 in
theorem seatRead_walk (s : ByteArray) (w : World) (hs : s.size ≤ maxLen) (hl : laidMetH Tryd.prog Rows.fnExactSeatReadRow.laid w) : Calls Tryd.prog 4 #[.string s] w fun e w' => Holds e w w' := by
  have HE := Lib.hid (seatRead_vars hl)
  clear hl
  unfold maxLen at hs
  by_cases hbig : 1048576 < s.size
  · go_enter Tryd.func4, Tryd.ntmps4
    go_wp2
    go_ret
    exact ⟨rfl, Below.refl _ _⟩
  have HS : Hid (∀ W : World, Calls Tryd.prog 8 #[.string s] W fun e w' => e = .returned (seatOutV (seatReadT s)) ∧ Below W.heap.size W w') := fun W => sSeatRead_any s W (by omega)
  have HI : Hid (∀ W : World, ErrVars W → Calls Tryd.prog 9 #[.string s] W fun e w' => e = .returned (seatOutV (seatReadT s)) ∧ Below W.heap.size W w') := fun W hW => iSeatRead_any s W hW
  generalize seatReadT s = x at *
  obtain ⟨x, y, z⟩ := x
  have HQ : Hid (∀ W : World, Calls Tryd.prog 10 #[.agg #[.int .i64 x, .int .i64 y, .int .i64 z], .agg #[.int .i64 x, .int .i64 y, .int .i64 z]] W fun e w' => e = .returned (.bool true) ∧ Below W.heap.size W w') := fun W => eqSeatOut_same x y z W
  go_enter Tryd.func4, Tryd.ntmps4
  go_wp2_with fail
  refine (HS.out _).mono ?_
  rintro e w1 ⟨rfl, hb1⟩
  go_wp2_with fail
  refine (HI.out _ (HE.out.below (hb1.alloc hb1.size _) (Nat.le_refl _))).mono ?_
  rintro e w2 ⟨rfl, hb2⟩
  have hz : w1.heap.size < w2.heap.size := by have := hb2.size; simp at this; omega
  have hB : Below w.heap.size w w2 := (hb1.alloc hb1.size _).trans (hb2.mono (by have := hb1.size; simp; omega))
  have d0 := kc hb2 (b := w1.heap.size) (i := 0) (v := .int .i64 x) (by go_simp) (by simp)
  have d1 := kc hb2 (b := w1.heap.size) (i := 1) (v := .int .i64 y) (by go_simp) (by simp)
  have d2 := kc hb2 (b := w1.heap.size) (i := 2) (v := .int .i64 z) (by go_simp) (by simp)
  have hz1 := hb1.size
  clear hb1 hb2
  go_wp2_with fail
  refine (HQ.out _).mono ?_
  rintro e w3 ⟨rfl, hb3⟩
  go_wp2_with fail
  go_ret
  exact ⟨rfl, (hB.alloc (by omega) _).trans (hb3.mono (by simp; omega))⟩

theorem fnExactSeatRead_door (os : Os) (args : Array Value) : laidMetH Tryd.prog Rows.fnExactSeatReadRow.laid ((World.doorLaid Tryd.prog 400 os).forCall (fun _ _ => 0) ⟨#[], args, []⟩).memory :=
  laidMetH_of_parts3 (fuel := 8) (laidMet_of_run' 8 (by kernel_rfl) (by kernel_rfl)) (by kernel_rfl) (by kernel_rfl)
set_option maxRecDepth 100000 in
theorem fnExactSeatRead_lifted (os : Os) (started : os.Started) (H : Type) (enc : TypeId × Value → H) :
    ReturnsInHanded {} Tryd.checked os 4 .any (fun w args => (Rows.fnExactSeatReadSpec.pre enc Tryd.prog Tryd.f4 [] false w args ∧ laidMetH Tryd.prog Rows.fnExactSeatReadRow.laid w) ∧ sizedMet enc Tryd.prog Tryd.f4 (OpenSpec.ofChange Rows.fnExactSeatReadSpec) false w args)
      (Rows.fnExactSeatReadSpec.post enc Tryd.prog Tryd.f4 false true false false) := by
  refine law_listed Rows.fnExactSeatReadRow.laid started (by kernel_rfl) Tryd.func4 rfl rfl Tryd.underlying4 (by rw [Tryd.params4]; exact List.forall_mem_cons.2 ⟨⟨by kernel_rfl, of_decide_eq_true (by kernel_rfl)⟩, fun _ h => by cases h⟩) (fun ds hd => ?_)
    (ChangeSpec.witness_shaped (enc := enc) (C := Tryd.checked) (os := os) (X := fun w _ => laidMetH Tryd.prog Rows.fnExactSeatReadRow.laid w) false (World.doorLaid Tryd.prog 400 os) #[.string ⟨#[]⟩] 8 rfl (World.shaped_of_RefB (by kernel_rfl) (by kernel_rfl)) (by kernel_rfl) (by kernel_rfl) (by kernel_rfl) (fnExactSeatRead_door os _)) ?_
  · match ds, hd with
    | [_], _ => rfl
  · intro W base args ds p hval hA hlt _ hl
    rw [Tryd.params4] at hA hval
    obtain ⟨v0, vs0, d0, ds0, p0, q0, hargs, rfl, rfl, h0, r0⟩ := trodAll_cons hA
    obtain ⟨rfl, rfl, rfl⟩ := trodAll_nil r0
    obtain rfl : args = #[v0] := by cases args; simp_all
    obtain ⟨a0, rfl, rfl, rfl, w0⟩ := open_string Tryd.underlying9 (hval 0 9 v0 rfl rfl) h0
    exact seatRead_walk a0 W w0 hl

theorem fnExactSeatRead_row : Rows.FnExactSeatReadSaid :=
  OpenClaim.holds_of_wide 4 Tryd.f4 rfl rfl rfl rfl rfl rfl rfl ⟨rfl, rfl, rfl, rfl, rfl⟩ rfl rfl rfl rfl rfl (by kernel_rfl) Tryd.func4 (by kernel_rfl)
    (of_decide_eq_true (by kernel_rfl)) (by unfold Func.isWrapper; first | (rw [if_pos (by decide +kernel)]; kernel_rfl) | (rw [if_neg (by decide +kernel)]; exact ⟨rfl, rfl⟩))
    (fun os started H enc _ => fnExactSeatRead_lifted os started H enc)

/-- The tied card. -/
theorem fnExactSeatRead_card : Rows.FnExactSeatReadCardSaid :=
  Claim7.holds_tied_plain_at .later [] Rows.fnExactSeatReadCard.laidKinds true Rows.fnExactSeatReadCard.stood.harness true
    fnExactSeatRead_row (fun _ h => by cases h) (by kernel_rfl) (fun _ h => by cases h) fnExactSeatRead_row_tie rfl ⟨rfl, rfl⟩ (by kernel_rfl) rfl
    (fun f fn hf hfn => by
      obtain rfl : f = 4 := Option.some.inj ((show Tryd.prog.funcNamed "loop.example/g00755/laws.FnExactSeatRead" = some 4 by kernel_rfl).symm.trans hf) |>.symm
      obtain rfl : fn = Tryd.f4 := (Option.some.inj (Tryd.func4.symm.trans hfn)).symm
      refine ⟨by kernel_rfl, fun j t ht => ?_⟩
      rw [Tryd.params4] at ht
      have hm : t ∈ [9] := by
        have := Array.mem_of_getElem? ht
        simpa using this
      have hall : ([9].all fun u => !Tryd.prog.wantsStandIn u) = true := by kernel_rfl
      exact (show Tryd.prog.wantsStandIn t = false by simpa using List.all_eq_true.1 hall t hm))
    (by kernel_rfl)
end Go.Proofs.YtjejdfmeclbjeaaDoor
