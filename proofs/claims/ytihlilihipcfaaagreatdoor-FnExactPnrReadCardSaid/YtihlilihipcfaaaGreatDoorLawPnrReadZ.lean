/-
  FnExactPnrRead: the walk, the row and the tied card: at every text impl answers as spec, in memory of its own, and below the old heap nothing has turned. The row lists strconv's two sentinels and tables of the library, as its text lays them.
-/
import Derived.Test.YtihlilihipcfaaaGreatDoorM12
import Derived.Test.YtihlilihipcfaaaGreatDoorM13
import Derived.Test.YtihlilihipcfaaaGreatDoorTie
import Derived.Test.YtihlilihipcfaaaGreatDoorCards
import Derived.SevenTiedAt
import Derived.Lay
namespace Go.Proofs.YtihlilihipcfaaaGreatDoor
open Go.ChangeShapes Go.WideShapes Go.ChangeAt Go.RowKit Go.ChangeMaps
set_option maxRecDepth 10000
set_option linter.unusedSimpArgs false
set_option linter.unusedVariables false

theorem pnrRead_vars {W : World} (hl : laidMetH Tryz.prog Rows.fnExactPnrReadRow.laid W) : ErrVars W := by
  rw [MakeChecks.laidMetH_plain _ _ _ (by kernel_rfl)] at hl
  exact ⟨laid_ifaceVar (g := 3) 5 hl rfl (by kernel_rfl) (by kernel_rfl) Tryz.underlying128, laid_ifaceVar (g := 4) 4 hl rfl (by kernel_rfl) (by kernel_rfl) Tryz.underlying128⟩
theorem readP_few (s : ByteArray) : (readP s).1.names.length ≤ 4 ∧ (readP s).1.holds.length ≤ 4 := by
  rw [readP]
  split
  · exact ⟨Nat.zero_le _, Nat.zero_le _⟩
  · split
    · rename_i h
      obtain ⟨-, ⟨h1, -⟩, ⟨h2, -⟩, -⟩ := right_parts h.1
      exact ⟨h1, h2⟩
    · exact ⟨Nat.zero_le _, Nat.zero_le _⟩

abbrev outCs (p : PD) (A1 : Option Addr) (c1 : Nat) (A2 : Option Addr) (c2 : Nat) (code : Int) : Array Value :=
  #[.int .i64 p.home, .int .i64 p.loc, .int .i64 p.owner, .slice A1 p.names.length c1, .slice A2 p.holds.length c2, .bool p.live, .int .i64 p.offer, .int .i64 code]
/-- What spec gave lies below block b. -/
structure WSt (b g : Nat) (p : PD) (code : Int) (A1 : Option Addr) (c1 : Nat) (A2 : Option Addr) (c2 : Nat) (W : World) : Prop where
  blk : Block W g 42 (outCs p A1 c1 A2 c2 code)
  lies : PLies W b p A1 A2
  lt : g < b
  le : b ≤ W.heap.size
section
variable {W W' : World} {b g : Nat} {p : PD} {code : Int} {A1 A2 : Option Addr} {c1 c2 : Nat}
theorem WSt.below (h : WSt b g p code A1 c1 A2 c2 W) (hb : Below b W W') : WSt b g p code A1 c1 A2 c2 W' := ⟨h.blk.below hb h.lt, h.lies.below hb, h.lt, Nat.le_trans h.le hb.size⟩
theorem WSt.on (h : WSt b g p code A1 c1 A2 c2 W) (hb : Below W.heap.size W W') : WSt b g p code A1 c1 A2 c2 W' := h.below (hb.mono h.le)
theorem WSt.alloc (h : WSt b g p code A1 c1 A2 c2 W) (o : Obj) : WSt b g p code A1 c1 A2 c2 (W.alloc o) := h.on ((Below.refl _ W).alloc (Nat.le_refl _) o)
theorem WSt.all (h : WSt b g p code A1 c1 A2 c2 W) : PLies W W.heap.size p A1 A2 := h.lies.mono h.le
end
/-- What impl gave: a box, and two rows from block b on. -/
structure GSt (b g : Nat) (p : PD) (code : Int) (A1 : Option Addr) (c1 : Nat) (A2 : Option Addr) (c2 : Nat) (xs ys : List Value) (W : World) : Prop where
  blk : Block W g 42 (outCs p A1 c1 A2 c2 code)
  ns : W.ownsRow b 9 1 (.slice A1 p.names.length c1) p.names.length xs
  hs : W.ownsRow b 51 3 (.slice A2 p.holds.length c2) p.holds.length ys
  le : b ≤ W.heap.size
section
variable {W W' : World} {b g : Nat} {p : PD} {code : Int} {A1 A2 : Option Addr} {c1 c2 : Nat} {xs ys : List Value}
theorem GSt.on (h : GSt b g p code A1 c1 A2 c2 xs ys W) (hb : Below W.heap.size W W') : GSt b g p code A1 c1 A2 c2 xs ys W' := ⟨h.blk.on hb, ownsRow_below h.ns hb, ownsRow_below h.hs hb, Nat.le_trans h.le hb.size⟩
theorem GSt.alloc (h : GSt b g p code A1 c1 A2 c2 xs ys W) (o : Obj) : GSt b g p code A1 c1 A2 c2 xs ys (W.alloc o) := h.on ((Below.refl _ W).alloc (Nat.le_refl _) o)
/-- Behind the marks. -/
theorem GSt.marked (h : GSt b g p code A1 c1 A2 c2 xs ys W) {xs' ys' : List Value} (h1 : W'.ownsRow b 9 1 (.slice A1 p.names.length c1) p.names.length xs') (h2 : W'.ownsRow b 51 3 (.slice A2 p.holds.length c2) p.holds.length ys')
    (hm : Marked W (Value.slice A1 p.names.length c1).ownBlock (Value.slice A2 p.holds.length c2).ownBlock W') : GSt b g p code A1 c1 A2 c2 xs' ys' W' ∧ Below b W W' := by
  obtain ⟨wm, g1, g2⟩ := hm
  have hb1 : Below b W wm := below_of_grown g1 h.le (fun j e => (h.ns.lt j e).1)
  have hsm := h.hs.kept g1 (own_apart (by decide) h.hs h.ns)
  have hb2 : Below b wm W' := below_of_grown g2 (Nat.le_trans h.le g1.size) (fun j e => (hsm.lt j e).1)
  have k1 : Block wm g 42 (outCs p A1 c1 A2 c2 code) := h.blk.kept g1 (fun e => own_not_block h.blk (by decide) h.ns e.symm)
  have k2 := k1.kept g2 (fun e => own_not_block k1 (by decide) hsm e.symm)
  exact ⟨⟨k2, h1, h2, Nat.le_trans h.le (hb1.trans hb2).size⟩, hb1.trans hb2⟩
end

set_option maxHeartbeats 4000000 in
theorem pnrRead_walk (s : ByteArray) (w : World) (hs : s.size ≤ maxLen) (hl : laidMetH Tryz.prog Rows.fnExactPnrReadRow.laid w) (hsh : w.ShapedOpen Tryz.prog) : Calls Tryz.prog 5 #[.string s] w fun e w' => Holds e w w' := by
  have HE : Hid (Env w) := ⟨pnrRead_vars hl, hsh⟩
  clear hl hsh
  unfold maxLen at hs
  by_cases hbig : 1048576 < s.size
  · go_enter Tryz.func5, Tryz.ntmps5
    go_wp2
    go_ret
    exact ⟨rfl, Below.refl _ _⟩
  have HS : Hid (∀ W : World, Calls Tryz.prog 16 #[.string s] W (OutMade (readP s).1 (readP s).2 W)) := fun W => sPnrRead_any s W (by omega)
  have HI : Hid (∀ W : World, Below w.heap.size w W → Calls Tryz.prog 17 #[.string s] W (OutMade (readP s).1 (readP s).2 W)) := fun W hW => iPnrRead_any s W (HE.out.on hW)
  obtain ⟨hp1, hp2⟩ := readP_few s
  generalize readP s = R at *
  obtain ⟨p, code⟩ := R
  dsimp only at *
  have HQ : Hid (∀ (W : World) A1 c1 A2 c2 B1 d1 B2 d2, PLies W W.heap.size p A1 A2 → PLies W W.heap.size p B1 B2 → Calls Tryz.prog 18 #[outPV p A1 c1 A2 c2 code, outPV p B1 d1 B2 d2 code] W fun e w' => e = .returned (.bool true) ∧ Below W.heap.size W w') :=
    fun W A1 c1 A2 c2 B1 d1 B2 d2 h1 h2 => eqPnrOut_same p code A1 c1 A2 c2 B1 d1 B2 d2 W h1 h2 (by omega) (by omega)
  have HM : Hid (∀ (W : World) b g A1 c1 A2 c2 xs ys, GSt b g p code A1 c1 A2 c2 xs ys W → Calls Tryz.prog 19 #[outPV p A1 c1 A2 c2 code, .int .i64 ((1 : Nat) : Int)] W (MarkEnd 1 p.names.length p.holds.length b b A1 c1 A2 c2 W)) :=
    fun W b g A1 c1 A2 c2 xs ys h => markPnrOut_any p.home p.loc p.owner p.live p.offer code 1 p.names.length p.holds.length b b A1 c1 A2 c2 xs ys W h.ns h.hs h.le h.le (by omega) (by omega) (by omega) (by omega)
  have HH : Hid (∀ (W : World) b g A1 c1 A2 c2, GSt b g p code A1 c1 A2 c2 (strsC (marksS 1 p.names.length)) (holdsC (marksL (1 + p.names.length) p.holds.length)) W → Calls Tryz.prog 20 #[outPV p A1 c1 A2 c2 code, .int .i64 ((1 : Nat) : Int)] W fun e w' => e = .returned (.int .i64 ((1 + p.names.length + 3 * p.holds.length : Nat) : Int)) ∧ Below W.heap.size W w') :=
    fun W b g A1 c1 A2 c2 h => heldPnrOut_any p.home p.loc p.owner p.live p.offer code 1 p.names.length p.holds.length A1 c1 A2 c2 W (Lies.own h.ns) (Lies.own h.hs) (by omega) (by omega) (by omega) (by omega)
  have hM0 : ¬ ((1 + p.names.length + 3 * p.holds.length : Nat) : Int) < 0 := by omega
  unfold MarkEnd at HM
  unfold OutMade at HS HI
  generalize ((1 + p.names.length + 3 * p.holds.length : Nat) : Int) = M at *
  have e1 : ((1 : Nat) : Int) = 1 := rfl
  rw [e1] at HM HH
  clear e1 hp1 hp2 HE
  go_enter Tryz.func5, Tryz.ntmps5
  go_wp2_with fail
  refine (HS.out _).mono ?_
  rintro e w1 ⟨⟨B1, d1, B2, d2, rfl, r1, r2⟩, hb1⟩
  have W1 : WSt (w1.heap.size + 1) w1.heap.size p code B1 d1 B2 d2 (w1.alloc (.cells (outCs p B1 d1 B2 d2 code) 42)) :=
    ⟨Block.new w1 _ _, ⟨((Lies.own r1).alloc _).mono (by simp), ((Lies.own r2).alloc _).mono (by simp)⟩, Nat.lt_succ_self _, by simp⟩
  have hB1 := hb1.alloc hb1.size (.cells (outCs p B1 d1 B2 d2 code) 42)
  have HW : Hid (w.heap.size ≤ w1.heap.size) := hb1.size
  have HW2 : Hid (∀ W : World, w1.heap.size + 1 ≤ W.heap.size → w1.heap.size < W.heap.size) := fun W h => h
  clear r1 r2 hb1
  go_wp2_with fail
  refine (HI.out _ hB1).mono ?_
  rintro e w2 ⟨⟨A1, c1, A2, c2, rfl, r1, r2⟩, hb2⟩
  have W2 := (W1.on hb2).alloc (.cells (outCs p A1 c1 A2 c2 code) 42)
  have G2 : GSt (w1.heap.size + 1) w2.heap.size p code A1 c1 A2 c2 (strsC p.names) (holdsC p.holds) (w2.alloc (.cells (outCs p A1 c1 A2 c2 code) 42)) :=
    ⟨Block.new w2 _ _, by simpa using r1.alloc (.cells (outCs p A1 c1 A2 c2 code) 42), by simpa using r2.alloc (.cells (outCs p A1 c1 A2 c2 code) 42), W2.le⟩
  have hB2 : Below w.heap.size w (w2.alloc (.cells (outCs p A1 c1 A2 c2 code) 42)) := by
    have h1 := hB1.trans (hb2.mono hB1.size)
    exact h1.alloc h1.size _
  have hlt2 : w1.heap.size < w2.heap.size := by have := hb2.size; simp at this; omega
  clear r1 r2 hb2 W1 hB1
  have x2 := W2.blk.cell
  have y2 := G2.blk.cell
  have n2 := Nat.ne_of_lt hlt2
  go_wp2_with fail
  refine (HQ.out _ _ _ _ _ _ _ _ _ ⟨Lies.own G2.ns, Lies.own G2.hs⟩ W2.all).mono ?_
  rintro e w3 ⟨rfl, hb3⟩
  have W3 := W2.on hb3
  have G3 := G2.on hb3
  have hB3 := hB2.trans (hb3.mono hB2.size)
  have y3 := G3.blk.cell
  clear W2 G2 hb3 hB2 x2 y2 n2
  go_wp2_with fail
  refine (HM.out _ _ _ _ _ _ _ _ _ G3).mono ?_
  rintro e w4 ⟨rfl, r1, r2, hm4⟩
  obtain ⟨G4, hb4⟩ := G3.marked r1 r2 hm4
  have W4 := W3.below hb4
  have hB4 : Below w.heap.size w w4 := hB3.trans (hb4.mono (by have := hB3.size; have := W3.lt; have h3 := HW.out; omega))
  have y4 := G4.blk.cell
  clear W3 G3 hb4 hB3 y3 r1 r2 hm4
  go_wp2_with fail
  refine (HH.out _ _ _ _ _ _ _ G4).mono ?_
  rintro e w5 ⟨rfl, hb5⟩
  have W5 := W4.on hb5
  have G5 := G4.on hb5
  have hB5 := hB4.trans (hb5.mono hB4.size)
  clear W4 G4 hb5 hB4 y4
  go_wp2_with fail
  refine (HI.out _ hB5).mono ?_
  rintro e w6 ⟨⟨E1, e1, E2, e2, rfl, r1, r2⟩, hb6⟩
  have W6 := (W5.on hb6).alloc (.cells (outCs p E1 e1 E2 e2 code) 42)
  have G6 := (G5.on hb6).alloc (.cells (outCs p E1 e1 E2 e2 code) 42)
  have hB6 : Below w.heap.size w (w6.alloc (.cells (outCs p E1 e1 E2 e2 code) 42)) := by
    have h1 := hB5.trans (hb6.mono hB5.size)
    exact h1.alloc h1.size _
  have l6 : PLies (w6.alloc (.cells (outCs p E1 e1 E2 e2 code) 42)) (w6.alloc (.cells (outCs p E1 e1 E2 e2 code) 42)).heap.size p E1 E2 := ⟨(Lies.own r1).alloc _, (Lies.own r2).alloc _⟩
  have x6 := W6.blk.cell
  have z6 := (Block.new w6 (outCs p E1 e1 E2 e2 code) 42).cell
  have n6 := Nat.ne_of_lt (show w1.heap.size < w6.heap.size from by have := W6.le; have h2 := HW2.out w6 (by have := hb6.size; have := W5.le; omega); omega)
  clear W5 G5 hb6 hB5 r1 r2
  go_wp2_with fail
  refine (HQ.out _ _ _ _ _ _ _ _ _ l6 W6.all).mono ?_
  rintro e w7 ⟨rfl, hb7⟩
  have G7 := G6.on hb7
  have hB7 := hB6.trans (hb7.mono hB6.size)
  have y7 := G7.blk.cell
  clear W6 G6 hb7 hB6 l6 x6 z6 n6
  go_wp2_with fail
  refine (HH.out _ _ _ _ _ _ _ G7).mono ?_
  rintro e w8 ⟨rfl, hb8⟩
  have hB8 := hB7.trans (hb8.mono hB7.size)
  clear G7 hb8 hB7 y7
  go_wp2_with fail
  go_ret
  exact ⟨rfl, hB8⟩

set_option maxRecDepth 100000 in
theorem fnExactPnrRead_lifted (os : Os) (started : os.Started) (H : Type) (enc : TypeId × Value → H) :
    ReturnsInHanded {} Tryz.checked os 5 .any (fun w args => (Rows.fnExactPnrReadSpec.pre enc Tryz.prog Tryz.f5 [] false w args ∧ laidMetH Tryz.prog Rows.fnExactPnrReadRow.laid w) ∧ sizedMet enc Tryz.prog Tryz.f5 (OpenSpec.ofChange Rows.fnExactPnrReadSpec) false w args)
      (Rows.fnExactPnrReadSpec.post enc Tryz.prog Tryz.f5 false true false false) := by
  refine law_shaped Rows.fnExactPnrReadRow.laid started (by kernel_rfl) Tryz.func5 rfl rfl Tryz.underlying4 (by rw [Tryz.params5]; exact List.forall_mem_cons.2 ⟨⟨by kernel_rfl, of_decide_eq_true (by kernel_rfl)⟩, fun _ h => by cases h⟩) (fun ds hd => ?_)
    (ChangeSpec.witness_shaped (enc := enc) (C := Tryz.checked) (os := os) (X := fun w _ => laidMetH Tryz.prog Rows.fnExactPnrReadRow.laid w) false (World.laidAll Tryz.prog os Rows.fnExactPnrReadRow.laid) #[.string ⟨#[]⟩] 8 (World.laidAll_os _ _ _) (World.shaped_of_ZipB (by kernel_rfl) (by kernel_rfl)) (by kernel_rfl) (by kernel_rfl) (by kernel_rfl) (by rw [MakeChecks.laidMetH_plain _ _ _ (by kernel_rfl)]; exact laidMet_laidAll _ (by kernel_rfl) (by kernel_rfl))) ?_
  · match ds, hd with
    | [_], _ => rfl
  · intro W base args ds p hval hA hlt _ hl hsh
    rw [Tryz.params5] at hA hval
    obtain ⟨v0, vs0, d0, ds0, p0, q0, hargs, rfl, rfl, h0, r0⟩ := trodAll_cons hA
    obtain ⟨rfl, rfl, rfl⟩ := trodAll_nil r0
    obtain rfl : args = #[v0] := by cases args; simp_all
    obtain ⟨a0, rfl, rfl, rfl, w0⟩ := open_string Tryz.underlying9 (hval 0 9 v0 rfl rfl) h0
    exact pnrRead_walk a0 W w0 hl hsh

theorem fnExactPnrRead_row : Rows.FnExactPnrReadSaid :=
  OpenClaim.holds_of_wide 5 Tryz.f5 rfl rfl rfl rfl rfl rfl rfl ⟨rfl, rfl, rfl, rfl, rfl⟩ rfl rfl rfl rfl rfl (by kernel_rfl) Tryz.func5 (by kernel_rfl)
    (of_decide_eq_true (by kernel_rfl)) (by unfold Func.isWrapper; first | (rw [if_pos (by decide +kernel)]; kernel_rfl) | (rw [if_neg (by decide +kernel)]; exact ⟨rfl, rfl⟩))
    (fun os started H enc _ => fnExactPnrRead_lifted os started H enc)

/-- The tied card. -/
theorem fnExactPnrRead_card : Rows.FnExactPnrReadCardSaid :=
  Claim7.holds_tied_plain_at .later [] Rows.fnExactPnrReadCard.laidKinds true Rows.fnExactPnrReadCard.stood.harness true
    fnExactPnrRead_row (fun _ h => by cases h) (by kernel_rfl) (fun _ h => by cases h) fnExactPnrRead_row_tie rfl ⟨rfl, rfl⟩ (by kernel_rfl) rfl
    (fun f fn hf hfn => by
      obtain rfl : f = 5 := Option.some.inj ((show Tryz.prog.funcNamed "loop.example/g00755/laws.FnExactPnrRead" = some 5 by kernel_rfl).symm.trans hf) |>.symm
      obtain rfl : fn = Tryz.f5 := (Option.some.inj (Tryz.func5.symm.trans hfn)).symm
      refine ⟨by kernel_rfl, fun j t ht => ?_⟩
      rw [Tryz.params5] at ht
      have hm : t ∈ [9] := by
        have := Array.mem_of_getElem? ht
        simpa using this
      have hall : ([9].all fun u => !Tryz.prog.wantsStandIn u) = true := by kernel_rfl
      exact (show Tryz.prog.wantsStandIn t = false by simpa using List.all_eq_true.1 hall t hm))
    (by kernel_rfl)
end Go.Proofs.YtihlilihipcfaaaGreatDoor
