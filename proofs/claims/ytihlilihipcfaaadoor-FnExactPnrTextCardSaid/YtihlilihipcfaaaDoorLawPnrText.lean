/-
  FnExactPnrText: the walk, the row and the tied card: at every booking impl writes the text that spec writes, and below the old heap nothing has turned. The row lists tables of the library, as its text lays them; no step reads them.
-/
import Derived.Test.YtihlilihipcfaaaDoorOpenPnr
import Derived.Test.YtihlilihipcfaaaDoorTextS
import Derived.Test.YtihlilihipcfaaaDoorTextI
import Derived.Test.YtihlilihipcfaaaDoorBoxes
import Derived.Test.YtihlilihipcfaaaDoorLiftL
import Derived.Test.YtihlilihipcfaaaDoorTie
import Derived.Test.YtihlilihipcfaaaDoorCards
import Derived.SevenTiedAt
import Derived.Deep.RegionWith
import Derived.Deep.DeepCutAuto
namespace Go.Proofs.YtihlilihipcfaaaDoor
open Go.ChangeShapes Go.WideShapes Go.ChangeAt Go.RowKit Go.ChangeMaps
set_option maxRecDepth 10000
set_option linter.unusedSimpArgs false
set_option linter.unusedVariables false

set_option maxHeartbeats 4000000 in
theorem pnrText_walk (p : PD) (A1 : Option Addr) (c1 : Nat) (A2 : Option Addr) (c2 : Nat) (w : World) (hlp : PLies w w.heap.size p A1 A2) (hfp : PFit p) (hlaid : laidMetH Tryd.prog Rows.fnExactPnrTextRow.laid w) :
    Calls Tryd.prog 4 #[pdV p A1 c1 A2 c2] w fun e w' => Holds e w w' := by
  clear hlaid
  have HZP : Hid (∀ W : World, Below w.heap.size w W → Calls Tryd.prog 9 #[pdV p A1 c1 A2 c2, .int .i64 1048576] W fun e w' => e = .returned (.int .i64 (leftP 1048576 p)) ∧ Below W.heap.size W w') :=
    fun W hW => szPnr_any p A1 c1 A2 c2 1048576 W (hlp.on hW) hfp (by omega) (by omega)
  have HP : ¬ (1048576 : Int) < (bulk p : Nat) → p.names.length ≤ 1099511627 ∧ p.holds.length ≤ 1099511626 := fun h => by unfold bulk at h; omega
  unfold leftP at HZP
  generalize bulk p = X at *
  by_cases hX : (1048576 : Int) < (X : Nat)
  · rw [if_pos hX] at HZP
    clear HP
    obtain ⟨h, l, o, ns, hs, b, f⟩ := p
    dsimp only [pdV] at *
    go_enter Tryd.func4, Tryd.ntmps4
    go_wp2_with fail
    refine (HZP.out _ (by go_grown)).mono ?_
    rintro e w1 ⟨rfl, hb1⟩
    go_wp2_with fail
    go_ret
    exact ⟨rfl, boxed hb1⟩
  rw [if_neg hX] at HZP
  obtain ⟨p1, p2⟩ := HP hX
  have HTP : Hid (∀ W : World, Below w.heap.size w W → Calls Tryd.prog 11 #[pdV p A1 c1 A2 c2] W (PnrMade p W)) := fun W hW => toPnr_any p A1 c1 A2 c2 W (hlp.on hW) p1 (by omega)
  have HEP : Hid (∀ (W : World) (A1 : Option Addr) (c1 : Nat) (A2 : Option Addr) (c2 : Nat) (B1 : Option Addr) (d1 : Nat) (B2 : Option Addr) (d2 : Nat), PLies W W.heap.size p A1 A2 → PLies W W.heap.size p B1 B2 → Calls Tryd.prog 13 #[pdV p A1 c1 A2 c2, pdV p B1 d1 B2 d2] W fun e w' => e = .returned (.bool true) ∧ Below W.heap.size W w') :=
    fun W A1 c1 A2 c2 B1 d1 B2 d2 h1 h2 => eqPnr_same p A1 c1 A2 c2 B1 d1 B2 d2 W h1 h2 p1 (by omega)
  have HS : Hid (∀ (W : World) (A1 : Option Addr) (c1 : Nat) (A2 : Option Addr) (c2 : Nat), PLies W W.heap.size p A1 A2 → Calls Tryd.prog 10 #[pdV p A1 c1 A2 c2] W fun e w' => e = .returned (.string (textT p)) ∧ Below W.heap.size W w') :=
    fun W A1 c1 A2 c2 h1 => sPnrText_any p A1 c1 A2 c2 W h1 hfp p1 (by omega)
  have HI : Hid (∀ (W : World) (A1 : Option Addr) (c1 : Nat) (A2 : Option Addr) (c2 : Nat), PLies W W.heap.size p A1 A2 → Calls Tryd.prog 12 #[pdV p A1 c1 A2 c2] W fun e w' => e = .returned (.string (textT p)) ∧ Below W.heap.size W w') :=
    fun W A1 c1 A2 c2 h1 => iPnrText_any p A1 c1 A2 c2 W h1 hfp p1 p2
  clear hlp hfp HP p1 p2
  generalize textT p = R at *
  obtain ⟨h, l, o, ns, hs, b, f⟩ := p
  dsimp only [pdV] at *
  go_enter Tryd.func4, Tryd.ntmps4
  go_wp2_with fail
  refine (HZP.out _ (by go_grown)).mono ?_
  rintro e w1 ⟨rfl, hb1⟩
  have T1 : One w (pnrCs h l o ns.length A1 c1 hs.length A2 c2 b f) w1 := ⟨boxed hb1, (Box.new w _ _).on hb1⟩
  have q1 := T1.2.cells
  clear hb1
  go_wp2_with fail
  refine (HTP.out _ T1.1).mono ?_
  rintro e w2 ⟨D1, d1, D2, d2, rfl, hl2, hb2⟩
  have T2 := T1.on hb2
  clear q1 T1 hb2
  go_wp2_with fail
  refine (HS.out _ _ _ _ _ hl2).mono ?_
  rintro e w3 ⟨rfl, hb3⟩
  have T3 := T2.on hb3
  have q3 := T3.2.cells
  clear T2 hl2 hb3
  go_wp2_with fail
  refine (HTP.out _ T3.1).mono ?_
  rintro e w4 ⟨E1, e1, E2, e2, rfl, hl4, hb4⟩
  have T4 := T3.on hb4
  clear q3 T3 hb4
  go_wp2_with fail
  refine (HI.out _ _ _ _ _ (hl4.alloc _)).mono ?_
  rintro e w5 ⟨rfl, hb5⟩
  have T5 := (T4.alloc _).on hb5
  have X5 : Box w5 w4.heap.size 41 (pnrCs h l o ns.length E1 e1 hs.length E2 e2 b f) := (Box.new w4 _ _).on hb5
  have hl5 := (hl4.alloc _).on hb5
  clear T4 hl4 hb5
  go_upto_region 10 with fail
  go_cut [26] (fun v W => v = .bool false ∧ One w (pnrCs h l o ns.length A1 c1 hs.length A2 c2 b f) W)
  case first =>
    have q5 := T5.2.cells
    have x5 := X5.cells
    go_region_with (first
      | (go_at_call 11; (with_reducible refine (HTP.out _ ?_).mono ?_); (first | exact T5.1 | exact T5.drew.1); rintro e wA ⟨G1, g1, G2, g2, rfl, hlA, hbA⟩; (first | (have TA := T5.on hbA; have XA := X5.on hbA; have hlpA := hl5.on hbA) | (have TA := T5.drew.on hbA; have XA := X5.drew.on hbA; have hlpA := hl5.drew.on hbA)); have qA := TA.2.cells; have xA := XA.cells)
      | (go_at_call 13; (with_reducible refine (HEP.out _ _ _ _ _ _ _ _ _ hlpA hlA).mono ?_); rintro e wC ⟨rfl, hbC⟩; have TC := TA.on hbC))
    all_goals
      go_wp2_with fail
      go_meet
      exact ⟨rfl, TC⟩
  case rest =>
    obtain ⟨rfl, T6⟩ := hcut
    clear T5 X5 hl5
    go_wp2_with fail
    go_ret
    exact ⟨rfl, T6.1⟩

theorem fnExactPnrText_door (os : Os) (args : Array Value) : laidMetH Tryd.prog Rows.fnExactPnrTextRow.laid ((World.doorLaid Tryd.prog 400 os).forCall (fun _ _ => 0) ⟨#[], args, []⟩).memory :=
  laidMetH_of_parts3 (fuel := 8) (laidMet_of_run' 8 (by kernel_rfl) (by kernel_rfl)) (by kernel_rfl) (by kernel_rfl)
set_option maxRecDepth 100000 in
theorem fnExactPnrText_lifted (os : Os) (started : os.Started) (H : Type) (enc : TypeId × Value → H) :
    ReturnsInHanded {} Tryd.checked os 4 .any (fun w args => (Rows.fnExactPnrTextSpec.pre enc Tryd.prog Tryd.f4 [] false w args ∧ laidMetH Tryd.prog Rows.fnExactPnrTextRow.laid w) ∧ sizedMet enc Tryd.prog Tryd.f4 (OpenSpec.ofChange Rows.fnExactPnrTextSpec) false w args)
      (Rows.fnExactPnrTextSpec.post enc Tryd.prog Tryd.f4 false true false false) := by
  refine law_listed Rows.fnExactPnrTextRow.laid started (by kernel_rfl) Tryd.func4 rfl rfl Tryd.underlying4 (by rw [Tryd.params4]; exact List.forall_mem_cons.2 ⟨⟨by kernel_rfl, of_decide_eq_true (by kernel_rfl)⟩, fun _ h => by cases h⟩) (fun ds hd => ?_)
    (ChangeSpec.witness_shaped (enc := enc) (C := Tryd.checked) (os := os) (X := fun w _ => laidMetH Tryd.prog Rows.fnExactPnrTextRow.laid w) false (World.doorLaid Tryd.prog 400 os) #[.agg #[.int .i64 0, .int .i64 0, .int .i64 0, .slice none 0 0, .slice none 0 0, .bool false, .int .i64 0]] 8 rfl (World.shaped_of_RefB (by kernel_rfl) (by kernel_rfl)) (by kernel_rfl) (by kernel_rfl) (by kernel_rfl) (fnExactPnrText_door os _)) ?_
  · match ds, hd with
    | [_], _ => rfl
  · intro W base args ds p hval hA hlt _ hl
    rw [Tryd.params4] at hA hval
    obtain ⟨v0, vs0, d0, ds0, p0, q0, hargs, rfl, rfl, h0, r0⟩ := trodAll_cons hA
    obtain ⟨rfl, rfl, rfl⟩ := trodAll_nil r0
    obtain rfl : args = #[v0] := by cases args; simp_all
    obtain ⟨a0p, a0a, a0b, a0c, a0d, rfl, l0, f0⟩ := open_pnr (hval 0 36 v0 rfl rfl) h0
    exact pnrText_walk a0p a0a a0b a0c a0d W l0 f0 hl

theorem fnExactPnrText_row : Rows.FnExactPnrTextSaid :=
  OpenClaim.holds_of_wide 4 Tryd.f4 rfl rfl rfl rfl rfl rfl rfl ⟨rfl, rfl, rfl, rfl, rfl⟩ rfl rfl rfl rfl rfl (by kernel_rfl) Tryd.func4 (by kernel_rfl)
    (of_decide_eq_true (by kernel_rfl)) (by unfold Func.isWrapper; first | (rw [if_pos (by decide +kernel)]; kernel_rfl) | (rw [if_neg (by decide +kernel)]; exact ⟨rfl, rfl⟩))
    (fun os started H enc _ => fnExactPnrText_lifted os started H enc)

/-- The tied card. -/
theorem fnExactPnrText_card : Rows.FnExactPnrTextCardSaid :=
  Claim7.holds_tied_plain_at .later [] Rows.fnExactPnrTextCard.laidKinds true Rows.fnExactPnrTextCard.stood.harness true
    fnExactPnrText_row (fun _ h => by cases h) (by kernel_rfl) (fun _ h => by cases h) fnExactPnrText_row_tie rfl ⟨rfl, rfl⟩ (by kernel_rfl) rfl
    (fun f fn hf hfn => by
      obtain rfl : f = 4 := Option.some.inj ((show Tryd.prog.funcNamed "loop.example/g00755/laws.FnExactPnrText" = some 4 by kernel_rfl).symm.trans hf) |>.symm
      obtain rfl : fn = Tryd.f4 := (Option.some.inj (Tryd.func4.symm.trans hfn)).symm
      refine ⟨by kernel_rfl, fun j t ht => ?_⟩
      rw [Tryd.params4] at ht
      have hm : t ∈ [36] := by
        have := Array.mem_of_getElem? ht
        simpa using this
      have hall : ([36].all fun u => !Tryd.prog.wantsStandIn u) = true := by kernel_rfl
      exact (show Tryd.prog.wantsStandIn t = false by simpa using List.all_eq_true.1 hall t hm))
    (by kernel_rfl)
end Go.Proofs.YtihlilihipcfaaaDoor
