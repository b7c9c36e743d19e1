/-
  FnToken: the row and the tied card: at every two codes the law returns true, and below the old heap nothing has turned. The row lists the table of what each role may ask, as the program's text lays it.
-/
import Derived.Test.YtjgcanhaelabaaaDoorLawToken
import Derived.Test.YtjgcanhaelabaaaDoorTie
import Derived.Test.YtjgcanhaelabaaaDoorCards
import Derived.SevenTiedAt
namespace Go.Proofs.YtjgcanhaelabaaaDoor
open Go.ChangeShapes Go.WideShapes Go.ChangeAt Go.RowKit Go.ChangeMaps
set_option maxRecDepth 10000
set_option linter.unusedSimpArgs false
set_option linter.unusedVariables false

theorem fnToken_door (os : Os) (args : Array Value) : laidMetH Tryd.prog Rows.fnTokenRow.laid ((World.doorLaid Tryd.prog 400 os).forCall (fun _ _ => 0) ⟨#[], args, []⟩).memory :=
  laidMetH_of_parts3 (fuel := 8) (laidMet_of_run' 8 (by kernel_rfl) (by kernel_rfl)) (by kernel_rfl) (by kernel_rfl)
set_option maxRecDepth 100000 in
theorem fnToken_lifted (os : Os) (started : os.Started) (H : Type) (enc : TypeId × Value → H) :
    ReturnsInHanded {} Tryd.checked os 4 .any (fun w args => (Rows.fnTokenSpec.pre enc Tryd.prog Tryd.f4 [] false w args ∧ laidMetH Tryd.prog Rows.fnTokenRow.laid w) ∧ sizedMet enc Tryd.prog Tryd.f4 (OpenSpec.ofChange Rows.fnTokenSpec) false w args)
      (Rows.fnTokenSpec.post enc Tryd.prog Tryd.f4 false true false false) := by
  refine law_handed "loop.example/g00755/impl.mayAsk" (fun g t h1 h2 => by obtain rfl := Option.some.inj (gMay.symm.trans h1); obtain rfl := Option.some.inj (tMay.symm.trans h2); exact ⟨by kernel_rfl, of_decide_eq_true (by kernel_rfl)⟩) Rows.fnTokenRow.laid started (by kernel_rfl) Tryd.func4 rfl rfl Tryd.underlying4 (by rw [Tryd.params4]; exact List.forall_mem_cons.2 ⟨⟨by kernel_rfl, of_decide_eq_true (by kernel_rfl)⟩, List.forall_mem_cons.2 ⟨⟨by kernel_rfl, of_decide_eq_true (by kernel_rfl)⟩, fun _ h => by cases h⟩⟩) (fun ds g hd => ?_)
    (ChangeSpec.witness_shaped (enc := enc) (C := Tryd.checked) (os := os) (X := fun w _ => laidMetH Tryd.prog Rows.fnTokenRow.laid w) false (World.doorLaid Tryd.prog 400 os) #[.slice none 0 0, .slice none 0 0] 8 rfl (World.shaped_of_RefB (by kernel_rfl) (by kernel_rfl)) (by kernel_rfl) (by kernel_rfl) (by kernel_rfl) (fnToken_door os _)) ?_
  · match ds, hd with
    | [_, _], _ => rfl
  · intro W base args ds p hval hA hlt hl
    rw [Tryd.params4] at hA hval
    obtain ⟨v0, vs0, d0, ds0, p0, q0, hargs, rfl, rfl, h0, r0⟩ := trodAll_cons hA
    obtain ⟨v1, vs1, d1, ds1, p1, q1, rfl, rfl, rfl, h1, r1⟩ := trodAll_cons r0
    obtain ⟨rfl, rfl, rfl⟩ := trodAll_nil r1
    obtain rfl : args = #[v0, v1] := by cases args; simp_all
    obtain ⟨l0, A0, c0, rfl, m0, k0⟩ := open_bytes_arg (hval 0 23 v0 rfl rfl) h0
    obtain ⟨l1, A1, c1, rfl, m1, k1⟩ := open_bytes_arg (hval 1 23 v1 rfl rfl) h1
    exact fnToken_walk A0 l0 c0 A1 l1 c1 W k0 k1 m0 m1 hl

theorem fnToken_row : Rows.FnTokenSaid :=
  OpenClaim.holds_of_wide 4 Tryd.f4 rfl rfl rfl rfl rfl rfl rfl ⟨rfl, rfl, rfl, rfl, rfl⟩ rfl rfl rfl rfl rfl (by kernel_rfl) Tryd.func4 (by kernel_rfl)
    (of_decide_eq_true (by kernel_rfl)) (by unfold Func.isWrapper; first | (rw [if_pos (by decide +kernel)]; kernel_rfl) | (rw [if_neg (by decide +kernel)]; exact ⟨rfl, rfl⟩))
    (fun os started H enc _ => fnToken_lifted os started H enc)

/-- The tied card. -/
theorem fnToken_card : Rows.FnTokenCardSaid :=
  Claim7.holds_tied_plain_at .later [] Rows.fnTokenCard.laidKinds true Rows.fnTokenCard.stood.harness false
    fnToken_row (fun _ h => by cases h) (by kernel_rfl) (fun _ h => by cases h) fnToken_row_tie rfl ⟨rfl, rfl⟩ (by kernel_rfl) rfl
    (fun f fn hf hfn => by
      obtain rfl : f = 4 := Option.some.inj ((show Tryd.prog.funcNamed "loop.example/g00755/laws.FnToken" = some 4 by kernel_rfl).symm.trans hf) |>.symm
      obtain rfl : fn = Tryd.f4 := (Option.some.inj (Tryd.func4.symm.trans hfn)).symm
      refine ⟨by kernel_rfl, fun j t ht => ?_⟩
      rw [Tryd.params4] at ht
      have hm : t ∈ [23, 23] := by
        have := Array.mem_of_getElem? ht
        simpa using this
      have hall : ([23, 23].all fun u => !Tryd.prog.wantsStandIn u) = true := by kernel_rfl
      exact (show Tryd.prog.wantsStandIn t = false by simpa using List.all_eq_true.1 hall t hm))
    (by kernel_rfl)
end Go.Proofs.YtjgcanhaelabaaaDoor
