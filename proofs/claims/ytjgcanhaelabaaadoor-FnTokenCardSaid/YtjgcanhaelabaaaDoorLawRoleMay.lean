/-
  FnExactRoleMay: the walk, the row and the tied card: at every role and kind impl answers as spec, and below the old heap nothing has turned. The row lists the table of what each role may ask, as the program's text lays it.
-/
import Derived.Test.YtjgcanhaelabaaaDoorIs
import Derived.Test.YtjgcanhaelabaaaDoorLiftV
import Derived.Test.YtjgcanhaelabaaaDoorTie
import Derived.Test.YtjgcanhaelabaaaDoorCards
import Derived.SevenTiedAt
namespace Go.Proofs.YtjgcanhaelabaaaDoor
open Go.ChangeShapes Go.WideShapes Go.ChangeAt Go.RowKit Go.ChangeMaps
set_option linter.unusedSimpArgs false
set_option linter.unusedVariables false

/-- The table's rows. -/
def mayRows : List (List Bool) := [List.replicate 11 false, [false, false, false, false, false, false, false, false, true, true, false], [false, true, true, true, true, true, false, false, true, true, false], false :: List.replicate 10 true]
theorem mayD {H : Type} : (Rows.laid_loop_example_g00755_impl_mayAsk : DataW H) = .agg (mayRows.map fun r => .agg (r.map fun b => .lit (.bool b))) := rfl
theorem gMay : Tryd.prog.globalNamed "loop.example/g00755/impl.mayAsk" = some 0 := by kernel_rfl
theorem tMay : (Tryd.prog.globals[0]?).map (·.type) = some 57 := by kernel_rfl
theorem cMay1 : Tryd.prog.cellsOf 56 = 11 := by kernel_rfl
theorem cMay0 : Tryd.prog.cellsOf 4 = 1 := by kernel_rfl

section
variable {H : Type} {enc : TypeId × Value → H} {w : World} {base : Nat} {spare : Nat → Bool} {held : Bool}
theorem trod_row {fuel : Nat} {cs : List Value} {r : List Bool} {p : List MemPlace} (h : DataW.trod enc Tryd.prog w base spare held fuel 56 cs = some (.agg (r.map fun b => .lit (.bool b)), p)) (j : Nat) (b : Bool) (hj : r[j]? = some b) : cs[j]? = some (.bool b) := by
  obtain ⟨xs, m, _, hx, hl, hlen, hg⟩ := DataW.trod_array Tryd.underlying56 h
  simp only [Prod.mk.injEq, DataW.agg.injEq] at hx
  have hjr := (List.getElem?_eq_some_iff.1 hj).1
  have hr : r.length = 11 := by
    have := congrArg List.length hx.1
    simp at this
    omega
  have g := hg j (by omega)
  rw [cMay0] at g
  obtain ⟨x, hxj⟩ : ∃ x, xs[j]? = some x := ⟨_, List.getElem?_eq_getElem (by omega)⟩
  rw [hxj] at g
  obtain ⟨b', hc, rfl⟩ := DataW.trod_bool Tryd.underlying4 g
  have e1 : (xs.map (·.1))[j]? = some (.lit (.bool b')) := by rw [List.getElem?_map, hxj]; rfl
  rw [← hx.1, List.getElem?_map, hj] at e1
  simp only [Option.map_some, Option.some.injEq, DataW.lit.injEq, Lit.bool.injEq] at e1
  subst e1
  have e2 : (cs.drop (j * 1))[0]? = some (.bool b) := by
    have := congrArg (·[0]?) hc
    simpa using this
  simpa using e2
theorem trod_table {fuel : Nat} {cs : List Value} {p : List MemPlace} (h : DataW.trod enc Tryd.prog w base spare held fuel 57 cs = some (.agg (mayRows.map fun r => .agg (r.map fun b => .lit (.bool b))), p)) (i j : Nat) (r : List Bool) (b : Bool) (hi : mayRows[i]? = some r) (hj : r[j]? = some b) (h11 : j < 11) : cs[i * 11 + j]? = some (.bool b) := by
  obtain ⟨xs, m, _, hx, hl, hlen, hg⟩ := DataW.trod_array Tryd.underlying57 h
  simp only [Prod.mk.injEq, DataW.agg.injEq] at hx
  have hir := (List.getElem?_eq_some_iff.1 hi).1
  have hr : mayRows.length = 4 := rfl
  have g := hg i (by omega)
  rw [cMay1] at g
  obtain ⟨⟨d, q⟩, hxi⟩ : ∃ x, xs[i]? = some x := ⟨_, List.getElem?_eq_getElem (by omega)⟩
  rw [hxi] at g
  have e1 : (xs.map (·.1))[i]? = some d := by rw [List.getElem?_map, hxi]; rfl
  rw [← hx.1, List.getElem?_map, hi] at e1
  simp only [Option.map_some, Option.some.injEq] at e1
  subst e1
  have := trod_row g j b hj
  rw [List.getElem?_take_of_lt h11, List.getElem?_drop] at this
  exact this
end

/-- What the condition gives the walk: each of the table's cells. -/
theorem may_of_laid {W : World} (h : laidMetH Tryd.prog [("loop.example/g00755/impl.mayAsk", Rows.laid_loop_example_g00755_impl_mayAsk)] W) (i j : Nat) (r : List Bool) (b : Bool) (hi : mayRows[i]? = some r) (hj : r[j]? = some b) (h11 : j < 11) :
    W.cell? ⟨0, i * 11 + j, none⟩ = some (.bool b) := by
  rw [MakeChecks.laidMetH_plain _ _ _ (by kernel_rfl)] at h
  obtain ⟨ps, ⟨g0, t0, cs0, f0, p0, q0, hg0, ht0, hv0, hd0, -⟩, -⟩ := h
  obtain rfl := Option.some.inj (gMay.symm.trans hg0)
  obtain rfl := Option.some.inj (tMay.symm.trans ht0)
  rw [mayD] at hd0
  have := trod_table hd0 i j r b hi hj h11
  rw [World.var?_cell hg0 hv0]
  simpa using this

/-- What a role may. -/
def mayB (role kind : Int) : Bool := decide (1 ≤ role ∧ role ≤ 3 ∧ 1 ≤ kind ∧ kind ≤ 10) && ((mayRows.getD role.toNat []).getD kind.toNat false)
def MayT (W : World) : Prop := ∀ (i j : Nat) (r : List Bool) (b : Bool), mayRows[i]? = some r → r[j]? = some b → j < 11 → W.cell? ⟨0, i * 11 + j, none⟩ = some (.bool b)
theorem MayT.below {W W' : World} (h : MayT W) (hlt : 0 < W.heap.size) (hb : Below W.heap.size W W') : MayT W' := fun i j r b hi hj h11 => kc hb (h i j r b hi hj h11) hlt

theorem may_row : ∀ (i : Nat), i ≤ 3 → ∀ (j : Nat), j ≤ 10 → ∃ r, mayRows[i]? = some r ∧ r[j]? = some ((mayRows.getD i []).getD j false) := by decide

set_option maxHeartbeats 1000000 in
theorem iRoleMay_any (role kind : Int) (w : World) (ht : MayT w) : Calls Tryd.prog 7 #[.int .i64 role, .int .i64 kind] w fun e w' => e = .returned (.bool (mayB role kind)) ∧ w = w' := by
  have HD : Hid (mayB role kind = (decide (1 ≤ role ∧ role ≤ 3 ∧ 1 ≤ kind ∧ kind ≤ 10) && ((mayRows.getD role.toNat []).getD kind.toNat false))) := rfl
  by_cases h1 : role < 1
  · have HR : Hid (mayB role kind = false) := by rw [Hid, HD.out, decide_eq_false (by omega)]; rfl
    clear HD
    go_enter Tryd.func7, Tryd.ntmps7
    go_wp2
    go_ret
    exact ⟨ret_bool HR.out.symm, rfl⟩
  by_cases h2 : 3 < role
  · have HR : Hid (mayB role kind = false) := by rw [Hid, HD.out, decide_eq_false (by omega)]; rfl
    clear HD
    go_enter Tryd.func7, Tryd.ntmps7
    go_wp2
    go_ret
    exact ⟨ret_bool HR.out.symm, rfl⟩
  by_cases h3 : kind < 1
  · have HR : Hid (mayB role kind = false) := by rw [Hid, HD.out, decide_eq_false (by omega)]; rfl
    clear HD
    go_enter Tryd.func7, Tryd.ntmps7
    go_wp2
    go_ret
    exact ⟨ret_bool HR.out.symm, rfl⟩
  by_cases h4 : 10 < kind
  · have HR : Hid (mayB role kind = false) := by rw [Hid, HD.out, decide_eq_false (by omega)]; rfl
    clear HD
    go_enter Tryd.func7, Tryd.ntmps7
    go_wp2
    go_ret
    exact ⟨ret_bool HR.out.symm, rfl⟩
  obtain ⟨i, rfl⟩ := nat_of (show 0 ≤ role by omega)
  obtain ⟨j, rfl⟩ := nat_of (show 0 ≤ kind by omega)
  obtain ⟨r, hi, hj⟩ := may_row i (by omega) j (by omega)
  have c0 := ht i j r _ hi hj (by omega)
  have HR : Hid (mayB i j = (mayRows.getD i []).getD j false) := by rw [Hid, HD.out, decide_eq_true (by omega)]; rfl
  generalize (mayRows.getD i []).getD j false = B at *
  clear hi hj ht HD
  go_enter Tryd.func7, Tryd.ntmps7
  go_wp2
  go_ret
  exact ⟨ret_bool HR.out.symm, rfl⟩

theorem may_spec (role kind : Int) : mayB role kind = (inB kind 1 10 && (if role = 1 then (decide (kind = 8) || decide (kind = 9)) else if role = 2 then ((decide (kind = 8) || decide (kind = 9)) || decide (kind ≤ 5)) else decide (role = 3))) := by
  by_cases h : 1 ≤ role ∧ role ≤ 3 ∧ 1 ≤ kind ∧ kind ≤ 10
  · obtain ⟨h1, h2, h3, h4⟩ := h
    have key : ∀ i : Fin 4, ∀ j : Fin 11, 1 ≤ i.1 → 1 ≤ j.1 → mayB (i.1 : Int) (j.1 : Int) = (inB (j.1 : Int) 1 10 && (if (i.1 : Int) = 1 then (decide ((j.1 : Int) = 8) || decide ((j.1 : Int) = 9)) else if (i.1 : Int) = 2 then ((decide ((j.1 : Int) = 8) || decide ((j.1 : Int) = 9)) || decide ((j.1 : Int) ≤ 5)) else decide ((i.1 : Int) = 3))) := by decide +kernel
    obtain ⟨i, rfl⟩ := nat_of (show 0 ≤ role by omega)
    obtain ⟨j, rfl⟩ := nat_of (show 0 ≤ kind by omega)
    exact key ⟨i, by omega⟩ ⟨j, by omega⟩ (by show 1 ≤ i; omega) (by show 1 ≤ j; omega)
  · rw [mayB, decide_eq_false h, Bool.false_and]
    by_cases hk : 1 ≤ kind ∧ kind ≤ 10
    · rw [if_neg (by omega), if_neg (by omega), decide_eq_false (by omega), Bool.and_false]
    · have : inB kind 1 10 = false := by simp [inB]; omega
      rw [this, Bool.false_and]

set_option maxHeartbeats 1000000 in
theorem sRoleMay_any (role kind : Int) (w : World) : Calls Tryd.prog 6 #[.int .i64 role, .int .i64 kind] w fun e w' => e = .returned (.bool (mayB role kind)) ∧ w = w' := by
  have HD := Lib.hid (may_spec role kind)
  have HI : Hid (∀ W : World, Calls Tryd.prog 26 #[.int .i64 kind, .int .i64 1, .int .i64 10] W fun e w' => e = .returned (.bool (inB kind 1 10)) ∧ W = w') := fun W => l02Is_any _ _ _ W
  have HK : Hid (inB kind 1 10 = (decide (1 ≤ kind) && decide (kind ≤ 10))) := rfl
  generalize mayB role kind = R at *
  generalize inB kind 1 10 = b at *
  cases b
  · go_enter Tryd.func6, Tryd.ntmps6
    go_wp2_with (first | (go_at_call 26; refine (HI.out _).mono ?_; rintro e w' ⟨rfl, rfl⟩))
    go_ret
    exact ⟨ret_bool (by rw [HD.out]; rfl), rfl⟩
  go_enter Tryd.func6, Tryd.ntmps6
  go_wp2_with (first | (go_at_call 26; refine (HI.out _).mono ?_; rintro e w' ⟨rfl, rfl⟩))
  all_goals
    go_ret
    refine ⟨ret_bool ?_, rfl⟩
    rw [HD.out, Bool.eq_iff_iff]
    simp_all
    try omega

set_option maxHeartbeats 1000000 in
theorem roleMay_walk (role kind : Int) (w : World) (hw1 : (Lit.int .i64 role).wf = true) (hw2 : (Lit.int .i64 kind).wf = true) (hl : laidMetH Tryd.prog Rows.fnExactRoleMayRow.laid w) : Calls Tryd.prog 3 #[.int .i64 role, .int .i64 kind] w fun e w' => Holds e w w' := by
  have hM : MayT w := may_of_laid hl
  clear hl hw1 hw2
  have HS : Hid (∀ W : World, Calls Tryd.prog 6 #[.int .i64 role, .int .i64 kind] W fun e w' => e = .returned (.bool (mayB role kind)) ∧ W = w') := fun W => sRoleMay_any role kind W
  have HI : Hid (Calls Tryd.prog 7 #[.int .i64 role, .int .i64 kind] w fun e w' => e = .returned (.bool (mayB role kind)) ∧ w = w') := iRoleMay_any role kind w hM
  clear hM
  generalize mayB role kind = R at *
  go_enter Tryd.func3, Tryd.ntmps3
  go_wp2_with fail
  refine (HS.out _).mono ?_
  rintro e w1 ⟨rfl, rfl⟩
  go_wp2_with fail
  refine HI.out.mono ?_
  rintro e w2 ⟨rfl, rfl⟩
  go_wp2_with fail
  go_ret
  exact ⟨rfl, Below.refl _ _⟩

theorem fnExactRoleMay_door (os : Os) (args : Array Value) : laidMetH Tryd.prog Rows.fnExactRoleMayRow.laid ((World.doorLaid Tryd.prog 400 os).forCall (fun _ _ => 0) ⟨#[], args, []⟩).memory :=
  laidMetH_of_parts3 (fuel := 8) (laidMet_of_run' 8 (by kernel_rfl) (by kernel_rfl)) (by kernel_rfl) (by kernel_rfl)
set_option maxRecDepth 100000 in
theorem fnExactRoleMay_lifted (os : Os) (started : os.Started) (H : Type) (enc : TypeId × Value → H) :
    ReturnsInHanded {} Tryd.checked os 3 .any (fun w args => (Rows.fnExactRoleMaySpec.pre enc Tryd.prog Tryd.f3 [] false w args ∧ laidMetH Tryd.prog Rows.fnExactRoleMayRow.laid w) ∧ sizedMet enc Tryd.prog Tryd.f3 (OpenSpec.ofChange Rows.fnExactRoleMaySpec) false w args)
      (Rows.fnExactRoleMaySpec.post enc Tryd.prog Tryd.f3 false true false false) := by
  refine law_handed "loop.example/g00755/impl.mayAsk" (fun g t h1 h2 => by obtain rfl := Option.some.inj (gMay.symm.trans h1); obtain rfl := Option.some.inj (tMay.symm.trans h2); exact ⟨by kernel_rfl, of_decide_eq_true (by kernel_rfl)⟩) Rows.fnExactRoleMayRow.laid started (by kernel_rfl) Tryd.func3 rfl rfl Tryd.underlying4 (by rw [Tryd.params3]; exact List.forall_mem_cons.2 ⟨⟨by kernel_rfl, of_decide_eq_true (by kernel_rfl)⟩, List.forall_mem_cons.2 ⟨⟨by kernel_rfl, of_decide_eq_true (by kernel_rfl)⟩, fun _ h => by cases h⟩⟩) (fun ds g hd => ?_)
    (ChangeSpec.witness_shaped (enc := enc) (C := Tryd.checked) (os := os) (X := fun w _ => laidMetH Tryd.prog Rows.fnExactRoleMayRow.laid w) false (World.doorLaid Tryd.prog 400 os) #[.int .i64 0, .int .i64 0] 8 rfl (World.shaped_of_RefB (by kernel_rfl) (by kernel_rfl)) (by kernel_rfl) (by kernel_rfl) (by kernel_rfl) (fnExactRoleMay_door os _)) ?_
  · match ds, hd with
    | [_, _], _ => rfl
  · intro W base args ds p hval hA hlt hl
    rw [Tryd.params3] at hA hval
    obtain ⟨v0, vs0, d0, ds0, p0, q0, hargs, rfl, rfl, h0, r0⟩ := trodAll_cons hA
    obtain ⟨v1, vs1, d1, ds1, p1, q1, rfl, rfl, rfl, h1, r1⟩ := trodAll_cons r0
    obtain ⟨rfl, rfl, rfl⟩ := trodAll_nil r1
    obtain rfl : args = #[v0, v1] := by cases args; simp_all
    obtain ⟨a0, rfl, rfl, rfl, w0⟩ := open_int Tryd.underlying2 (hval 0 2 v0 rfl rfl) h0
    obtain ⟨a1, rfl, rfl, rfl, w1⟩ := open_int Tryd.underlying2 (hval 1 2 v1 rfl rfl) h1
    exact roleMay_walk a0 a1 W w0 w1 hl

theorem fnExactRoleMay_row : Rows.FnExactRoleMaySaid :=
  OpenClaim.holds_of_wide 3 Tryd.f3 rfl rfl rfl rfl rfl rfl rfl ⟨rfl, rfl, rfl, rfl, rfl⟩ rfl rfl rfl rfl rfl (by kernel_rfl) Tryd.func3 (by kernel_rfl)
    (of_decide_eq_true (by kernel_rfl)) (by unfold Func.isWrapper; first | (rw [if_pos (by decide +kernel)]; kernel_rfl) | (rw [if_neg (by decide +kernel)]; exact ⟨rfl, rfl⟩))
    (fun os started H enc _ => fnExactRoleMay_lifted os started H enc)

/-- The tied card. -/
theorem fnExactRoleMay_card : Rows.FnExactRoleMayCardSaid :=
  Claim7.holds_tied_plain_at .later [] Rows.fnExactRoleMayCard.laidKinds true Rows.fnExactRoleMayCard.stood.harness false
    fnExactRoleMay_row (fun _ h => by cases h) (by kernel_rfl) (fun _ h => by cases h) fnExactRoleMay_row_tie rfl ⟨rfl, rfl⟩ (by kernel_rfl) rfl
    (fun f fn hf hfn => by
      obtain rfl : f = 3 := Option.some.inj ((show Tryd.prog.funcNamed "loop.example/g00755/laws.FnExactRoleMay" = some 3 by kernel_rfl).symm.trans hf) |>.symm
      obtain rfl : fn = Tryd.f3 := (Option.some.inj (Tryd.func3.symm.trans hfn)).symm
      refine ⟨by kernel_rfl, fun j t ht => ?_⟩
      rw [Tryd.params3] at ht
      have hm : t ∈ [2, 2] := by
        have := Array.mem_of_getElem? ht
        simpa using this
      have hall : ([2, 2].all fun u => !Tryd.prog.wantsStandIn u) = true := by kernel_rfl
      exact (show Tryd.prog.wantsStandIn t = false by simpa using List.all_eq_true.1 hall t hm))
    (by kernel_rfl)
end Go.Proofs.YtjgcanhaelabaaaDoor
