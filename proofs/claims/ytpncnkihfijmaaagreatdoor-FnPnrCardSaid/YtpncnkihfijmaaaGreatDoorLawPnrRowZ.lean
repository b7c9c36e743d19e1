/-
  FnPnr: the row and the tied card: at every two codes the law returns true, and below the old heap nothing has turned.
-/
import Derived.Test.YtpncnkihfijmaaaGreatDoorLawPnrZ
import Derived.Test.YtpncnkihfijmaaaGreatDoorCards
import Derived.Test.YtpncnkihfijmaaaGreatDoorTie
import Derived.Test.YtpncnkihfijmaaaGreatDoorLiftSZ
import Derived.Test.YtpncnkihfijmaaaGreatDoorOpenBytesZ
import Derived.SevenTiedAt
import Derived.Lay
namespace Go.Proofs.YtpncnkihfijmaaaGreatDoor
open Go.ChangeShapes Go.WideShapes Go.ChangeAt Go.RowKit Go.ChangeMaps
set_option maxRecDepth 10000
set_option linter.unusedSimpArgs false
set_option linter.unusedVariables false

theorem fnPnr_vars {W : World} (hl : laidMetH Tryz.prog Rows.fnPnrRow.laid W) : ErrVars W := by
  rw [MakeChecks.laidMetH_plain _ _ _ (by kernel_rfl)] at hl
  exact ⟨laid_ifaceVar (g := 4) 5 hl rfl (by kernel_rfl) (by kernel_rfl) Tryz.underlying136, laid_ifaceVar (g := 5) 4 hl rfl (by kernel_rfl) (by kernel_rfl) Tryz.underlying136⟩
set_option maxRecDepth 100000 in
theorem fnPnr_lifted (os : Os) (started : os.Started) (H : Type) (enc : TypeId × Value → H) :
    ReturnsInHanded {} Tryz.checked os 5 .any (fun w args => (Rows.fnPnrSpec.pre enc Tryz.prog Tryz.f5 [] false w args ∧ laidMetH Tryz.prog Rows.fnPnrRow.laid w) ∧ sizedMet enc Tryz.prog Tryz.f5 (OpenSpec.ofChange Rows.fnPnrSpec) false w args)
      (Rows.fnPnrSpec.post enc Tryz.prog Tryz.f5 false true false false) := by
  refine law_shaped Rows.fnPnrRow.laid started (by kernel_rfl) Tryz.func5 rfl rfl Tryz.underlying4 (by rw [Tryz.params5]; exact List.forall_mem_cons.2 ⟨⟨by kernel_rfl, of_decide_eq_true (by kernel_rfl)⟩, List.forall_mem_cons.2 ⟨⟨by kernel_rfl, of_decide_eq_true (by kernel_rfl)⟩, fun _ h => by cases h⟩⟩) (fun ds hd => ?_)
    (ChangeSpec.witness_shaped (enc := enc) (C := Tryz.checked) (os := os) (X := fun w _ => laidMetH Tryz.prog Rows.fnPnrRow.laid w) false (World.laidAll Tryz.prog os Rows.fnPnrRow.laid) #[.slice none 0 0, .slice none 0 0] 8 (World.laidAll_os _ _ _) (World.shaped_of_ZipB (by kernel_rfl) (by kernel_rfl)) (by kernel_rfl) (by kernel_rfl) (by kernel_rfl) (by rw [MakeChecks.laidMetH_plain _ _ _ (by kernel_rfl)]; exact laidMet_laidAll _ (by kernel_rfl) (by kernel_rfl))) ?_
  · match ds, hd with
    | [_, _], _ => rfl
  · intro W base args ds p hval hA hlt _ hl hsh
    rw [Tryz.params5] at hA hval
    obtain ⟨v0, vs0, d0, ds0, p0, q0, hargs, rfl, rfl, h0, r0⟩ := trodAll_cons hA
    obtain ⟨v1, vs1, d1, ds1, p1, q1, rfl, rfl, rfl, h1, r1⟩ := trodAll_cons r0
    obtain ⟨rfl, rfl, rfl⟩ := trodAll_nil r1
    obtain rfl : args = #[v0, v1] := by cases args; simp_all
    obtain ⟨l0, A0, c0, rfl, m0, k0⟩ := open_bytes_arg (hval 0 31 v0 rfl rfl) h0
    obtain ⟨l1, A1, c1, rfl, m1, k1⟩ := open_bytes_arg (hval 1 31 v1 rfl rfl) h1
    exact fnPnr_walk A0 l0 c0 A1 l1 c1 W k0 k1 m0 m1 ⟨fnPnr_vars hl, hsh⟩

theorem fnPnr_row : Rows.FnPnrSaid :=
  OpenClaim.holds_of_wide 5 Tryz.f5 rfl rfl rfl rfl rfl rfl rfl ⟨rfl, rfl, rfl, rfl, rfl⟩ rfl rfl rfl rfl rfl (by kernel_rfl) Tryz.func5 (by kernel_rfl)
    (of_decide_eq_true (by kernel_rfl)) (by unfold Func.isWrapper; first | (rw [if_pos (by decide +kernel)]; kernel_rfl) | (rw [if_neg (by decide +kernel)]; exact ⟨rfl, rfl⟩))
    (fun os started H enc _ => fnPnr_lifted os started H enc)

/-- The tied card. -/
theorem fnPnr_card : Rows.FnPnrCardSaid :=
  Claim7.holds_tied_plain_at .later [] Rows.fnPnrCard.laidKinds true Rows.fnPnrCard.stood.harness true
    fnPnr_row (fun _ h => by cases h) (by kernel_rfl) (fun _ h => by cases h) fnPnr_row_tie rfl ⟨rfl, rfl⟩ (by kernel_rfl) rfl
    (fun f fn hf hfn => by
      obtain rfl : f = 5 := Option.some.inj ((show Tryz.prog.funcNamed "loop.example/g00755/laws.FnPnr" = some 5 by kernel_rfl).symm.trans hf) |>.symm
      obtain rfl : fn = Tryz.f5 := (Option.some.inj (Tryz.func5.symm.trans hfn)).symm
      refine ⟨by kernel_rfl, fun j t ht => ?_⟩
      rw [Tryz.params5] at ht
      have hm : t ∈ [31, 31] := by
        have := Array.mem_of_getElem? ht
        simpa using this
      have hall : ([31, 31].all fun u => !Tryz.prog.wantsStandIn u) = true := by kernel_rfl
      exact (show Tryz.prog.wantsStandIn t = false by simpa using List.all_eq_true.1 hall t hm))
    (by kernel_rfl)
end Go.Proofs.YtpncnkihfijmaaaGreatDoor
