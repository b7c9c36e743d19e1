/-
  FnExactRecordOf: the walk, the row and the tied card: at every request impl writes the record that spec writes, and below the old heap nothing has turned. The row lists the table of the kinds' words and tables of the library, as the program's text lays them.
-/
import Derived.Test.YtpncnkihfijmaaaDoorOpenReq
import Derived.Test.YtpncnkihfijmaaaDoorRec
import Derived.Test.YtpncnkihfijmaaaDoorLiftV
import Derived.Test.YtpncnkihfijmaaaDoorTie
import Derived.Test.YtpncnkihfijmaaaDoorCards
import Derived.SevenTiedAt
namespace Go.Proofs.YtpncnkihfijmaaaDoor
open Go.ChangeShapes Go.WideShapes Go.ChangeAt Go.RowKit Go.ChangeMaps
set_option maxRecDepth 10000
set_option linter.unusedSimpArgs false
set_option linter.unusedVariables false

theorem recordOf_vars {W : World} (hl : laidMetH Tryd.prog Rows.fnExactRecordOfRow.laid W) : PowT W ∧ KwT W := by
  rw [MakeChecks.laidMetH_plain _ _ _ (by kernel_rfl)] at hl
  exact ⟨laid_pows 2 hl rfl, laid_kinds 3 hl rfl⟩

set_option maxHeartbeats 2000000 in
theorem recordOf_walk (k t h l : Int) (n f : ByteArray) (r c o : Int) (w : World) (hn : n.size ≤ maxLen) (hf : f.size ≤ maxLen) (hl : laidMetH Tryd.prog Rows.fnExactRecordOfRow.laid w) :
    Calls Tryd.prog 4 #[reqV k t h l n f r c o] w fun e w' => Holds e w w' := by
  obtain ⟨hP, hK⟩ := recordOf_vars hl
  clear hl
  have HZ : Hid (∀ W : World, Calls Tryd.prog 5 #[reqV k t h l n f r c o, .int .i64 1048576] W fun e w' => e = .returned (.int .i64 (leftR 1048576 n.size f.size)) ∧ Below W.heap.size W w') := fun W => szReq_any k t h l n f r c o 1048576 W hn hf (by omega) (by omega)
  have HT : Hid (∀ W : World, Calls Tryd.prog 7 #[reqV k t h l n f r c o] W fun e w' => e = .returned (reqV k t h l n f r c o) ∧ Below W.heap.size W w') := fun W => toReq_any k t h l n f r c o W
  have HS : Hid (∀ W : World, Calls Tryd.prog 9 #[reqV k t h l n f r c o] W fun e w' => e = .returned (.string (recT ⟨k, t, h, l, n, f, r, c, o⟩)) ∧ Below W.heap.size W w') := fun W => sRecordOf_any k t h l n f r c o W hn hf
  have HI : Hid (∀ W : World, Below w.heap.size w W → Calls Tryd.prog 10 #[reqV k t h l n f r c o] W fun e w' => e = .returned (.string (recT ⟨k, t, h, l, n, f, r, c, o⟩)) ∧ Below W.heap.size W w') := fun W hW => iRecordOf_any k t h l n f r c o W hn hf (hK.on hW) (hP.on hW)
  generalize recT ⟨k, t, h, l, n, f, r, c, o⟩ = R at *
  clear hn hf hP hK
  by_cases hX : (1048576 : Int) < ((n.size + f.size : Nat) : Int)
  · rw [leftR, if_pos hX] at HZ
    go_enter Tryd.func4, Tryd.ntmps4
    go_wp2_with fail
    refine (HZ.out _).mono ?_
    rintro e w1 ⟨rfl, hb1⟩
    go_wp2_with fail
    go_ret
    exact ⟨rfl, boxR hb1⟩
  rw [leftR, if_neg hX] at HZ
  have hle : (0 : Int) ≤ 1048576 - ((n.size + f.size : Nat) : Int) := by omega
  generalize (1048576 : Int) - ((n.size + f.size : Nat) : Int) = z at *
  have hz0 : ¬ z < 0 := by omega
  clear hX
  go_enter Tryd.func4, Tryd.ntmps4
  go_wp2_with fail
  refine (HZ.out _).mono ?_
  rintro e w1 ⟨rfl, hb1⟩
  have hB1 := boxR hb1
  have X1 := (Block.new w #[.int .i64 k, .int .i64 t, .int .i64 h, .int .i64 l, .string n, .string f, .int .i64 r, .int .i64 c, .int .i64 o] 25).on hb1
  have x1 := X1.cell
  clear hb1
  go_wp2_with fail
  refine (HT.out _).mono ?_
  rintro e w2 ⟨rfl, hb2⟩
  have hB2 := hB1.trans (hb2.mono hB1.size)
  have X2 := X1.on hb2
  have x2 := X2.cell
  clear hb2 X1 x1 hB1
  go_wp2_with fail
  refine (HS.out _).mono ?_
  rintro e w3 ⟨rfl, hb3⟩
  have hB3 := hB2.trans (hb3.mono hB2.size)
  have X3 := X2.on hb3
  have x3 := X3.cell
  clear hb3 X2 x2 hB2
  go_wp2_with fail
  refine (HT.out _).mono ?_
  rintro e w4 ⟨rfl, hb4⟩
  have hB4 := hB3.trans (hb4.mono hB3.size)
  clear hb4 X3 x3 hB3
  go_wp2_with fail
  refine (HI.out _ hB4).mono ?_
  rintro e w5 ⟨rfl, hb5⟩
  have hB5 := hB4.trans (hb5.mono hB4.size)
  clear hb5 hB4
  go_wp2_with fail
  go_ret
  exact ⟨rfl, hB5⟩

theorem fnExactRecordOf_door (os : Os) (args : Array Value) : laidMetH Tryd.prog Rows.fnExactRecordOfRow.laid ((World.doorLaid Tryd.prog 400 os).forCall (fun _ _ => 0) ⟨#[], args, []⟩).memory :=
  laidMetH_of_parts3 (fuel := 8) (laidMet_of_run' 8 (by kernel_rfl) (by kernel_rfl)) (by kernel_rfl) (by kernel_rfl)
set_option maxRecDepth 100000 in
theorem fnExactRecordOf_lifted (os : Os) (started : os.Started) (H : Type) (enc : TypeId × Value → H) :
    ReturnsInHanded {} Tryd.checked os 4 .any (fun w args => (Rows.fnExactRecordOfSpec.pre enc Tryd.prog Tryd.f4 [] false w args ∧ laidMetH Tryd.prog Rows.fnExactRecordOfRow.laid w) ∧ sizedMet enc Tryd.prog Tryd.f4 (OpenSpec.ofChange Rows.fnExactRecordOfSpec) false w args)
      (Rows.fnExactRecordOfSpec.post enc Tryd.prog Tryd.f4 false true false false) := by
  refine law_handed "loop.example/g00755/impl.kindWords" (fun g t h1 h2 => by obtain rfl := Option.some.inj (gKw.symm.trans h1); obtain rfl := Option.some.inj (tKw.symm.trans h2); exact ⟨by kernel_rfl, of_decide_eq_true (by kernel_rfl)⟩) Rows.fnExactRecordOfRow.laid started (by kernel_rfl) Tryd.func4 rfl rfl Tryd.underlying4 (by rw [Tryd.params4]; exact List.forall_mem_cons.2 ⟨⟨by kernel_rfl, of_decide_eq_true (by kernel_rfl)⟩, fun _ h => by cases h⟩) (fun ds g hd => ?_)
    (ChangeSpec.witness_shaped (enc := enc) (C := Tryd.checked) (os := os) (X := fun w _ => laidMetH Tryd.prog Rows.fnExactRecordOfRow.laid w) false (World.doorLaid Tryd.prog 400 os) #[.agg #[.int .i64 0, .int .i64 0, .int .i64 0, .int .i64 0, .string ⟨#[]⟩, .string ⟨#[]⟩, .int .i64 0, .int .i64 0, .int .i64 0]] 8 rfl (World.shaped_of_RefB (by kernel_rfl) (by kernel_rfl)) (by kernel_rfl) (by kernel_rfl) (by kernel_rfl) (fnExactRecordOf_door os _)) ?_
  · match ds, hd with
    | [_], _ => rfl
  · intro W base args ds p hval hA hlt hl
    rw [Tryd.params4] at hA hval
    obtain ⟨v0, vs0, d0, ds0, p0, q0, hargs, rfl, rfl, h0, r0⟩ := trodAll_cons hA
    obtain ⟨rfl, rfl, rfl⟩ := trodAll_nil r0
    obtain rfl : args = #[v0] := by cases args; simp_all
    obtain ⟨a0k, a0t, a0h, a0l, a0n, a0f, a0r, a0c, a0o, rfl, u0, y0⟩ := open_req (hval 0 25 v0 rfl rfl) h0
    exact recordOf_walk a0k a0t a0h a0l a0n a0f a0r a0c a0o W u0 y0 hl

theorem fnExactRecordOf_row : Rows.FnExactRecordOfSaid :=
  OpenClaim.holds_of_wide 4 Tryd.f4 rfl rfl rfl rfl rfl rfl rfl ⟨rfl, rfl, rfl, rfl, rfl⟩ rfl rfl rfl rfl rfl (by kernel_rfl) Tryd.func4 (by kernel_rfl)
    (of_decide_eq_true (by kernel_rfl)) (by unfold Func.isWrapper; first | (rw [if_pos (by decide +kernel)]; kernel_rfl) | (rw [if_neg (by decide +kernel)]; exact ⟨rfl, rfl⟩))
    (fun os started H enc _ => fnExactRecordOf_lifted os started H enc)

/-- The tied card. -/
theorem fnExactRecordOf_card : Rows.FnExactRecordOfCardSaid :=
  Claim7.holds_tied_plain_at .later [] Rows.fnExactRecordOfCard.laidKinds true Rows.fnExactRecordOfCard.stood.harness true
    fnExactRecordOf_row (fun _ h => by cases h) (by kernel_rfl) (fun _ h => by cases h) fnExactRecordOf_row_tie rfl ⟨rfl, rfl⟩ (by kernel_rfl) rfl
    (fun f fn hf hfn => by
      obtain rfl : f = 4 := Option.some.inj ((show Tryd.prog.funcNamed "loop.example/g00755/laws.FnExactRecordOf" = some 4 by kernel_rfl).symm.trans hf) |>.symm
      obtain rfl : fn = Tryd.f4 := (Option.some.inj (Tryd.func4.symm.trans hfn)).symm
      refine ⟨by kernel_rfl, fun j t ht => ?_⟩
      rw [Tryd.params4] at ht
      have hm : t ∈ [25] := by
        have := Array.mem_of_getElem? ht
        simpa using this
      have hall : ([25].all fun u => !Tryd.prog.wantsStandIn u) = true := by kernel_rfl
      exact (show Tryd.prog.wantsStandIn t = false by simpa using List.all_eq_true.1 hall t hm))
    (by kernel_rfl)
end Go.Proofs.YtpncnkihfijmaaaDoor
