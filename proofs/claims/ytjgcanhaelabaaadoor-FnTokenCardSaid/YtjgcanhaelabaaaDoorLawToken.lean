/-
  FnToken: the walk.
-/
import Derived.Test.YtjgcanhaelabaaaDoorTokFacts
import Derived.Test.YtjgcanhaelabaaaDoorOpenBytes
import Derived.Deep.RegionHeld3
import Derived.Deep.DeepCutAuto
namespace Go.Proofs.YtjgcanhaelabaaaDoor
open Go.ChangeShapes Go.WideShapes Go.ChangeAt Go.RowKit Go.ChangeMaps
set_option maxRecDepth 10000
set_option linter.unusedSimpArgs false
set_option linter.unusedVariables false

/-- A step of a region: what is held stays. -/
theorem tstep {w W W' : World} (hB : Below w.heap.size w W) (hb : Below W.heap.size W W') (hz : w.heap.size ≤ W.heap.size) : Below w.heap.size w W' := hB.trans (hb.mono hz)

/-- Where region 9 begins: what it reads, what it calls. -/
structure At9 (w7 : World) (L1 O1 L2 O2 L3 : List TK) (B1 A1 B2 A2 B3 : Option Addr) (b1 a1 b2 a2 b3 : Nat) (h r t no1 cd1 no2 n2 cd2 n3 now3 who kind : Int) (gX gY : Nat) (S3 : TK) (R OK1 : Bool) : Prop where
  X : Block w7 gX 28 #[.slice A1 O1.length a1, .int .i64 no1, .int .i64 cd1]
  Y : Block w7 gY 28 #[.slice A2 O2.length a2, .int .i64 n2, .int .i64 cd2]
  sIssue : ∀ W, Below w7.heap.size w7 W → Calls Tryd.prog 15 #[.slice B1 L1.length b1, .int .i64 h, .int .i64 r, .int .i64 t] W fun e w' => ∃ A c, e = .returned (outV A O1.length c no1 cd1) ∧ Lies w' w'.heap.size 4 A O1.length (toksC O1) ∧ Below W.heap.size W w'
  same1 : ∀ W A c, Below w7.heap.size w7 W → Lies W W.heap.size 4 A O1.length (toksC O1) → Calls Tryd.prog 14 #[outV A1 O1.length a1 no1 cd1, outV A O1.length c no1 cd1] W fun e w' => e = .returned (.bool true) ∧ Below W.heap.size W w'
  sRevoke : ∀ W, Below w7.heap.size w7 W → Calls Tryd.prog 16 #[.slice B2 L2.length b2, .int .i64 no2] W fun e w' => ∃ A c, e = .returned (outV A O2.length c n2 cd2) ∧ Lies w' w'.heap.size 4 A O2.length (toksC O2) ∧ Below W.heap.size W w'
  same2 : ∀ W A c, Below w7.heap.size w7 W → Lies W W.heap.size 4 A O2.length (toksC O2) → Calls Tryd.prog 14 #[outV A2 O2.length a2 n2 cd2, outV A O2.length c n2 cd2] W fun e w' => e = .returned (.bool true) ∧ Below W.heap.size W w'
  iShow : ∀ W, Below w7.heap.size w7 W → Calls Tryd.prog 17 #[.slice B3 L3.length b3, .int .i64 n3, .int .i64 now3] W fun e w' => e = .returned (tkV S3) ∧ Below W.heap.size W w'
  sShow : ∀ W, Below w7.heap.size w7 W → Calls Tryd.prog 18 #[.slice B3 L3.length b3, .int .i64 n3, .int .i64 now3] W fun e w' => e = .returned (tkV S3) ∧ Below W.heap.size W w'
  iMay : ∀ W, Below w7.heap.size w7 W → Calls Tryd.prog 7 #[.int .i64 who, .int .i64 kind] W fun e w' => e = .returned (.bool R) ∧ Below W.heap.size W w'
  sMay : ∀ W, Below w7.heap.size w7 W → Calls Tryd.prog 6 #[.int .i64 who, .int .i64 kind] W fun e w' => e = .returned (.bool R) ∧ Below W.heap.size W w'
  iRight : ∀ W, Below w7.heap.size w7 W → Calls Tryd.prog 19 #[.slice B1 L1.length b1] W fun e w' => e = .returned (.bool OK1) ∧ Below W.heap.size W w'
  sRight : ∀ W, Below w7.heap.size w7 W → Calls Tryd.prog 20 #[.slice B1 L1.length b1] W fun e w' => e = .returned (.bool OK1) ∧ Below W.heap.size W w'

/-- What comes behind it. -/
structure At11 (w7 : World) (O1 O2 : List TK) (A1 A2 : Option Addr) (a1 a2 : Nat) (h r t no1 cd1 no2 cd2 kind : Int) (m1 m2 m3 : Bool) : Prop where
  may1 : ∀ W, Below w7.heap.size w7 W → Calls Tryd.prog 7 #[.int .i64 1, .int .i64 kind] W fun e w' => e = .returned (.bool m1) ∧ Below W.heap.size W w'
  may2 : ∀ W, Below w7.heap.size w7 W → Calls Tryd.prog 7 #[.int .i64 2, .int .i64 kind] W fun e w' => e = .returned (.bool m2) ∧ Below W.heap.size W w'
  may3 : ∀ W, Below w7.heap.size w7 W → Calls Tryd.prog 7 #[.int .i64 3, .int .i64 kind] W fun e w' => e = .returned (.bool m3) ∧ Below W.heap.size W w'
  code : cd1 = 0 ∨ cd1 = 1 ∨ cd1 = 2 ∨ cd1 = 9
  mono : (m1 = true → m2 = true) ∧ (m2 = true → m3 = true)
  gone : cd2 = 0 → ∀ W, Below w7.heap.size w7 W → Calls Tryd.prog 17 #[.slice A2 O2.length a2, .int .i64 no2, .int .i64 0] W fun e w' => e = .returned (tkV tk0) ∧ Below W.heap.size W w'
  till : cd1 = 0 → IntKind.i64.wrap (t + 1) = t + 1
  there : cd1 = 0 → ∀ W, Below w7.heap.size w7 W → Calls Tryd.prog 17 #[.slice A1 O1.length a1, .int .i64 no1, .int .i64 t] W fun e w' => e = .returned (tokV no1 h r t) ∧ Below W.heap.size W w'
  past : cd1 = 0 → ∀ W, Below w7.heap.size w7 W → Calls Tryd.prog 17 #[.slice A1 O1.length a1, .int .i64 no1, .int .i64 (t + 1)] W fun e w' => e = .returned (tkV tk0) ∧ Below W.heap.size W w'

theorem wf_ten {n : Int} (h : 0 ≤ n ∧ n < 10) : (Lit.int .i64 n).wf = true := by simp [Lit.wf, IntKind.min, IntKind.max, IntKind.signed, IntKind.bits]; omega
theorem calls_same {P : Program} {f : FuncId} {args : Array Value} {W : World} {v : Value} (h : Calls P f args W fun e w' => e = .returned v ∧ W = w') : Calls P f args W fun e w' => e = .returned v ∧ Below W.heap.size W w' :=
  h.mono fun _ _ ⟨he, hw⟩ => ⟨he, hw ▸ Below.refl _ _⟩

theorem out7 {P : Program} {f : FuncId} {args : Array Value} {w7 : World} {v : Value} (h : ∀ W, Below w7.heap.size w7 W → Calls P f args W fun e w' => e = .returned v ∧ Below W.heap.size W w') :
    ∀ W, Below w7.heap.size w7 W → Calls P f args W fun e w' => e = .returned v ∧ Below w7.heap.size w7 w' :=
  fun W hW => (h W hW).mono fun _ _ ⟨he, hb⟩ => ⟨he, hW.trans (hb.mono hW.size)⟩

theorem at9_of {w w7 : World} {A A' : Option Addr} {l l' : List UInt8} {L1 L2 L3 : List TK} {B1 A1 B2 A2 B3 : Option Addr} {b1 a1 b2 a2 b3 : Nat} {h r t no2 n3 now3 who kind : Int} {gX gY : Nat}
    (hS : TSt w A l A' l' [(B3, L3), (A2, (revokeT L2 no2).1), (B2, L2), (A1, (issueT L1 h r t).1), (B1, L1)] w7) (h1 : L1.length ≤ 30) (h2 : L2.length ≤ 30) (h3 : L3.length ≤ 30) (hn3 : 0 ≤ n3 ∧ n3 < 10)
    (hX : Block w7 gX 28 #[.slice A1 (issueT L1 h r t).1.length a1, .int .i64 (issueT L1 h r t).2.1, .int .i64 (issueT L1 h r t).2.2])
    (hY : Block w7 gY 28 #[.slice A2 (revokeT L2 no2).1.length a2, .int .i64 (revokeT L2 no2).2.1, .int .i64 (revokeT L2 no2).2.2]) :
    At9 w7 L1 (issueT L1 h r t).1 L2 (revokeT L2 no2).1 L3 B1 A1 B2 A2 B3 b1 a1 b2 a2 b3 h r t (issueT L1 h r t).2.1 (issueT L1 h r t).2.2 no2 (revokeT L2 no2).2.1 (revokeT L2 no2).2.2 n3 now3 who kind gX gY (showT L3 n3 now3) (mayB who kind) (toksOkB L1) where
  X := hX
  Y := hY
  sIssue W hW := (sIssue_any L1 B1 b1 h r t W ((hS.has 4 rfl).on hW) (by omega)).mono fun e w' ⟨A, c, he, ho, hb⟩ => ⟨A, c, he, Lies.own ho, hb⟩
  same1 W A c hW hl := lwTokensOut_same _ A1 A a1 c _ _ W ((hS.has 3 rfl).on hW) hl (by have := issue_len2 L1 h r t h1; omega) issue_right
  sRevoke W hW := (sRevoke_any L2 B2 b2 no2 W ((hS.has 2 rfl).on hW) (by omega)).mono fun e w' ⟨A, c, he, ho, hb⟩ => ⟨A, c, he, Lies.own ho, hb⟩
  same2 W A c hW hl := lwTokensOut_same _ A2 A a2 c _ _ W ((hS.has 1 rfl).on hW) hl (by have := revoke_len2 L2 no2 h2; omega) revoke_right
  iShow W hW := iShows_any L3 B3 b3 n3 now3 W ((hS.has 0 rfl).on hW) (by omega) (wf_ten hn3)
  sShow W hW := sShows_any L3 B3 b3 n3 now3 W ((hS.has 0 rfl).on hW) (by omega)
  iMay W hW := calls_same (iRoleMay_any who kind W (hS.2.1.on hW))
  sMay W hW := calls_same (sRoleMay_any who kind W)
  iRight W hW := iTokensRight_any L1 B1 b1 W ((hS.has 4 rfl).on hW) (by omega)
  sRight W hW := sTokensRight_any L1 B1 b1 W ((hS.has 4 rfl).on hW) (by omega)

theorem at11_of {w w7 : World} {A A' : Option Addr} {l l' : List UInt8} {L1 L2 L3 : List TK} {B1 A1 B2 A2 B3 : Option Addr} {a1 a2 : Nat} {h r t no2 kind : Int}
    (hS : TSt w A l A' l' [(B3, L3), (A2, (revokeT L2 no2).1), (B2, L2), (A1, (issueT L1 h r t).1), (B1, L1)] w7) (h1 : L1.length ≤ 30) (h2 : L2.length ≤ 30) (hn2 : 0 ≤ no2 ∧ no2 < 10) :
    At11 w7 (issueT L1 h r t).1 (revokeT L2 no2).1 A1 A2 a1 a2 h r t (issueT L1 h r t).2.1 (issueT L1 h r t).2.2 no2 (revokeT L2 no2).2.2 kind (mayB 1 kind) (mayB 2 kind) (mayB 3 kind) where
  may1 W hW := calls_same (iRoleMay_any 1 kind W (hS.2.1.on hW))
  may2 W hW := calls_same (iRoleMay_any 2 kind W (hS.2.1.on hW))
  may3 W hW := calls_same (iRoleMay_any 3 kind W (hS.2.1.on hW))
  code := issue_code L1 h r t
  mono := may_mono kind
  gone hc W hW := by
    have := iShows_any _ A2 a2 no2 0 W ((hS.has 1 rfl).on hW) (by have := revoke_len2 L2 no2 h2; omega) (wf_ten hn2)
    rwa [revoke_shows hc] at this
  till hc := IntWalk.i64_in _ (by have := issue_bounds hc; omega)
  there hc W hW := by
    have := iShows_any _ A1 a1 (issueT L1 h r t).2.1 t W ((hS.has 3 rfl).on hW) (by have := issue_len2 L1 h r t h1; omega) (wf_small (issue_bounds hc).2)
    rwa [(issue_shows hc).1] at this
  past hc W hW := by
    have := iShows_any _ A1 a1 (issueT L1 h r t).2.1 (t + 1) W ((hS.has 3 rfl).on hW) (by have := issue_len2 L1 h r t h1; omega) (wf_small (issue_bounds hc).2)
    rwa [(issue_shows hc).2] at this

set_option maxHeartbeats 8000000 in
theorem fnToken_walk (A : Option Addr) (l : List UInt8) (c : Nat) (A' : Option Addr) (l' : List UInt8) (c' : Nat) (w : World) (hl : Lies w w.heap.size 1 A l.length (bytesV l)) (hl' : Lies w w.heap.size 1 A' l'.length (bytesV l')) (hm : l.length ≤ maxLen) (hm' : l'.length ≤ maxLen) (hlaid : laidMetH Tryd.prog Rows.fnTokenRow.laid w) :
    Calls Tryd.prog 4 #[.slice A l.length c, .slice A' l'.length c'] w fun e w' => Holds e w w' := by
  have hM : MayT w := may_of_laid hlaid
  clear hlaid
  by_cases hbig : (1048576 : Int) < (l.length : Int)
  · unfold maxLen at hm hm'
    go_enter Tryd.func4, Tryd.ntmps4
    go_wp2_with fail
    go_ret
    exact ⟨rfl, Below.refl _ _⟩
  by_cases hbig' : (1048576 : Int) < (l'.length : Int)
  · unfold maxLen at hm hm'
    go_enter Tryd.func4, Tryd.ntmps4
    go_wp2_with fail
    go_ret
    exact ⟨rfl, Below.refl _ _⟩
  have T0 : TSt w A l A' l' [] w := ⟨Below.refl _ _, hM, hl, hl', fun _ h => by cases h⟩
  have HDI : Hid (∀ W, Lies W W.heap.size 1 A l.length (bytesV l) → Calls Tryd.prog 8 #[.slice A l.length c] W fun e w' => ∃ (L : List TK) (B : Option Addr) (cB : Nat) (h r t : Int), e = .returned (.tuple #[.slice B L.length cB, .int .i64 h, .int .i64 r, .int .i64 t]) ∧ TokHere W B cB L w' ∧ Below W.heap.size W w') := fun W h => drawIssue_any A l c W h hm
  have HDR : Hid (∀ W, Lies W W.heap.size 1 A' l'.length (bytesV l') → Calls Tryd.prog 10 #[.slice A' l'.length c'] W fun e w' => ∃ (L : List TK) (B : Option Addr) (cB : Nat) (no : Int), e = .returned (.tuple #[.slice B L.length cB, .int .i64 no]) ∧ (0 ≤ no ∧ no < 10) ∧ TokHere W B cB L w' ∧ Below W.heap.size W w') := fun W h => drawRevoke_any A' l' c' W h hm'
  have HDS : Hid (∀ W, Lies W W.heap.size 1 A' l'.length (bytesV l') → Calls Tryd.prog 12 #[.slice A' l'.length c'] W fun e w' => ∃ (L : List TK) (B : Option Addr) (cB : Nat) (no now : Int), e = .returned (.tuple #[.slice B L.length cB, .int .i64 no, .int .i64 now]) ∧ (0 ≤ no ∧ no < 10) ∧ TokHere W B cB L w' ∧ Below W.heap.size W w') := fun W h => drawShows_any A' l' c' W h hm'
  have HDM : Hid (∀ W, Lies W W.heap.size 1 A l.length (bytesV l) → Calls Tryd.prog 13 #[.slice A l.length c] W fun e w' => ∃ (r k : Int), e = .returned (.tuple #[.int .i64 r, .int .i64 k]) ∧ (0 ≤ r ∧ r < 5) ∧ (0 ≤ k ∧ k < 12) ∧ Below W.heap.size W w') := fun W h => drawRoleMay_any A l c W h hm
  have HII : Hid (∀ (L : List TK) (B : Option Addr) (cB : Nat) (h r t : Int) (W : World), Lies W W.heap.size 4 B L.length (toksC L) → L.length ≤ 30 → Calls Tryd.prog 9 #[.slice B L.length cB, .int .i64 h, .int .i64 r, .int .i64 t] W (ToksMade (issueT L h r t) W)) := fun L B cB h r t W h1 h2 => iIssue_any L B cB h r t W h1 (by omega)
  have HIR : Hid (∀ (L : List TK) (B : Option Addr) (cB : Nat) (no : Int) (W : World), Lies W W.heap.size 4 B L.length (toksC L) → L.length ≤ 30 → (0 ≤ no ∧ no < 10) → Calls Tryd.prog 11 #[.slice B L.length cB, .int .i64 no] W (ToksMade (revokeT L no) W)) := fun L B cB no W h1 h2 h3 => iRevoke_any L B cB no W h1 (by omega) (wf_ten h3)
  clear hM hl hl'
  unfold maxLen at hm hm'
  go_enter Tryd.func4, Tryd.ntmps4
  go_wp2_with fail
  refine (HDI.out _ T0.2.2.1).mono ?_
  rintro e w1 ⟨L1, B1, b1, h, r, t, rfl, ⟨hL1, hR1⟩, hb1⟩
  have T1 := (T0.on hb1).add (Lies.own hR1)
  clear T0 hR1 hb1
  go_wp2_with fail
  refine (HII.out _ _ _ _ _ _ _ (T1.has 0 rfl) hL1).mono ?_
  rintro e w2 ⟨A1, a1, rfl, hR2, hb2⟩
  have T2 := ((T1.on hb2).add (Lies.own hR2)).alloc (.cells #[.slice A1 (issueT L1 h r t).1.length a1, .int .i64 (issueT L1 h r t).2.1, .int .i64 (issueT L1 h r t).2.2] 28)
  have X2 := Block.new w2 #[.slice A1 (issueT L1 h r t).1.length a1, .int .i64 (issueT L1 h r t).2.1, .int .i64 (issueT L1 h r t).2.2] 28
  clear T1 hR2 hb2
  go_wp2_with fail
  refine (HDR.out _ T2.2.2.2.1).mono ?_
  rintro e w3 ⟨L2, B2, b2, no2, rfl, hno2, ⟨hL2, hR3⟩, hb3⟩
  have T3 := (T2.on hb3).add (Lies.own hR3)
  have X3 := X2.on hb3
  clear T2 X2 hR3 hb3
  go_wp2_with fail
  refine (HIR.out _ _ _ _ _ (T3.has 0 rfl) hL2 hno2).mono ?_
  rintro e w4 ⟨A2, a2, rfl, hR4, hb4⟩
  have T4 := ((T3.on hb4).add (Lies.own hR4)).alloc (.cells #[.slice A2 (revokeT L2 no2).1.length a2, .int .i64 (revokeT L2 no2).2.1, .int .i64 (revokeT L2 no2).2.2] 28)
  have X4 := (X3.on hb4).alloc (.cells #[.slice A2 (revokeT L2 no2).1.length a2, .int .i64 (revokeT L2 no2).2.1, .int .i64 (revokeT L2 no2).2.2] 28)
  have Y4 := Block.new w4 #[.slice A2 (revokeT L2 no2).1.length a2, .int .i64 (revokeT L2 no2).2.1, .int .i64 (revokeT L2 no2).2.2] 28
  clear T3 X3 hR4 hb4
  go_wp2_with fail
  refine (HDS.out _ T4.2.2.2.1).mono ?_
  rintro e w5 ⟨L3, B3, b3, n3, now3, rfl, hn3, ⟨hL3, hR5⟩, hb5⟩
  have T5 := (T4.on hb5).add (Lies.own hR5)
  have X5 := X4.on hb5
  have Y5 := Y4.on hb5
  clear T4 X4 Y4 hR5 hb5
  go_wp2_with fail
  refine (HDM.out _ T5.2.2.1).mono ?_
  rintro e w7 ⟨who, kind, rfl, hwho, hkind, hb7⟩
  have T7 := T5.on hb7
  have F9 := Lib.hid (at9_of (b1 := b1) (b2 := b2) (b3 := b3) (now3 := now3) (who := who) (kind := kind) T7 hL1 hL2 hL3 hn3 (X5.on hb7) (Y5.on hb7))
  have F11 := Lib.hid (at11_of (a1 := a1) (a2 := a2) (kind := kind) T7 hL1 hL2 hno2)
  have HW := T7.1
  clear T5 X5 Y5 hb7 HDI HDR HDS HDM HII HIR T7 hL1 hL2 hL3 hno2 hn3 hwho hkind
  generalize w2.heap.size = gX at *
  generalize w4.heap.size = gY at *
  generalize showT L3 n3 now3 = S3 at *
  generalize mayB who kind = R at *
  generalize mayB 1 kind = m1 at *
  generalize mayB 2 kind = m2 at *
  generalize mayB 3 kind = m3 at *
  generalize toksOkB L1 = OK1 at *
  generalize (issueT L1 h r t).1 = O1 at *
  generalize (issueT L1 h r t).2.1 = no1 at *
  generalize (issueT L1 h r t).2.2 = cd1 at *
  generalize (revokeT L2 no2).1 = O2 at *
  generalize (revokeT L2 no2).2.1 = n2 at *
  generalize (revokeT L2 no2).2.2 = cd2 at *
  have hX := F9.out.X.cell
  have hY := F9.out.Y.cell
  have x0 : w7.cell? ⟨gX, 0, none⟩ = some (.slice A1 O1.length a1) := hX 0
  have x1 : w7.cell? ⟨gX, 1, none⟩ = some (.int .i64 no1) := hX 1
  have x2 : w7.cell? ⟨gX, 2, none⟩ = some (.int .i64 cd1) := hX 2
  have y0 : w7.cell? ⟨gY, 0, none⟩ = some (.slice A2 O2.length a2) := hY 0
  have y1 : w7.cell? ⟨gY, 1, none⟩ = some (.int .i64 n2) := hY 1
  have y2 : w7.cell? ⟨gY, 2, none⟩ = some (.int .i64 cd2) := hY 2
  have hgX := F9.out.X.lt
  have hgY := F9.out.Y.lt
  have K1 := Lib.hid F9.out.sIssue
  have K2 := Lib.hid F9.out.same1
  have K3 := Lib.hid F9.out.sRevoke
  have K4 := Lib.hid F9.out.same2
  have K5 := Lib.hid F9.out.iShow
  have K6 := Lib.hid F9.out.sShow
  have K7 := Lib.hid F9.out.iMay
  have K8 := Lib.hid F9.out.sMay
  have K9 := Lib.hid F9.out.iRight
  have K10 := Lib.hid F9.out.sRight
  have hB7 : Below w7.heap.size w7 w7.drew := (Below.refl _ w7).drew
  clear hX hY F9
  go_upto_region 9 with fail
  go_cut [99] (fun v W => v = .bool false ∧ Below w7.heap.size w7 W)
  case first =>
    clear F11 HW
    go_region_held3 (fun W => W.cell? ⟨gX, 0, none⟩ = some (.slice A1 O1.length a1) ∧ W.cell? ⟨gX, 1, none⟩ = some (.int .i64 no1) ∧ W.cell? ⟨gX, 2, none⟩ = some (.int .i64 cd1) ∧ W.cell? ⟨gY, 0, none⟩ = some (.slice A2 O2.length a2) ∧ W.cell? ⟨gY, 1, none⟩ = some (.int .i64 n2) ∧ W.cell? ⟨gY, 2, none⟩ = some (.int .i64 cd2) ∧ Below w7.heap.size w7 W ∧ w7.heap.size ≤ W.heap.size)
      (first | (go_keep; done) | (go_split_ands; exact ⟨kc hb (by assumption) (by omega), kc hb (by assumption) (by omega), kc hb (by assumption) (by omega), kc hb (by assumption) (by omega), kc hb (by assumption) (by omega), kc hb (by assumption) (by omega), bstep hb (by assumption) (by omega), zstep hb (by assumption)⟩))
      (first
        | (go_at_call 15; refine (K1.out _ (by go_split_ands; assumption)).mono ?_; rintro e w' ⟨Ai, ci, rfl, hLi, hb⟩)
        | (go_at_call 14; (first | (with_reducible refine (K2.out _ _ _ (by go_split_ands; assumption) hLi).mono ?_) | (with_reducible refine (K4.out _ _ _ (by go_split_ands; assumption) hLr).mono ?_)); rintro e w' ⟨rfl, hb⟩)
        | (go_at_call 16; refine (K3.out _ (by go_split_ands; assumption)).mono ?_; rintro e w' ⟨Ar, cr, rfl, hLr, hb⟩)
        | (go_at_call 17; refine (K5.out _ (by go_split_ands; assumption)).mono ?_; rintro e w' ⟨rfl, hb⟩)
        | (go_at_call 18; refine (K6.out _ (by go_split_ands; assumption)).mono ?_; rintro e w' ⟨rfl, hb⟩)
        | (go_at_call 7; refine (K7.out _ (by go_split_ands; assumption)).mono ?_; rintro e w' ⟨rfl, hb⟩)
        | (go_at_call 6; refine (K8.out _ (by go_split_ands; assumption)).mono ?_; rintro e w' ⟨rfl, hb⟩)
        | (go_at_call 19; refine (K9.out _ (by go_split_ands; assumption)).mono ?_; rintro e w' ⟨rfl, hb⟩)
        | (go_at_call 20; refine (K10.out _ (by go_split_ands; assumption)).mono ?_; rintro e w' ⟨rfl, hb⟩))
    all_goals
      rename_i hHeld
      obtain ⟨-, -, -, -, -, -, hBn, -⟩ := hHeld
      go_wp2_with fail
      go_meet
      exact ⟨rfl, hBn⟩
  case rest =>
    obtain ⟨rfl, hB9⟩ := hcut
    clear K1 K2 K3 K4 K5 K6 K7 K8 K9 K10 hB7
    have hmono := F11.out.mono
    have N1 := Lib.hid (out7 F11.out.may1)
    have N2 := Lib.hid (out7 F11.out.may2)
    have N3 := Lib.hid (out7 F11.out.may3)
    go_upto_region 11 with fail
    go_cut [115] (fun v W => v = .bool false ∧ Below w7.heap.size w7 W)
    case first =>
      clear F11 HW x0 x1 x2 y0 y1 y2
      cases m1
      · cases m2
        · go_wp2_with (first | (go_at_call 7; (first | (with_reducible refine (N1.out _ (by assumption)).mono ?_) | (with_reducible refine (N2.out _ (by assumption)).mono ?_) | (with_reducible refine (N3.out _ (by assumption)).mono ?_)); rintro e w' ⟨rfl, hbN⟩))
          go_meet
          exact ⟨rfl, by assumption⟩
        · obtain rfl := hmono.2 rfl
          clear hmono
          go_wp2_with (first | (go_at_call 7; (first | (with_reducible refine (N1.out _ (by assumption)).mono ?_) | (with_reducible refine (N2.out _ (by assumption)).mono ?_) | (with_reducible refine (N3.out _ (by assumption)).mono ?_)); rintro e w' ⟨rfl, hbN⟩))
          go_meet
          exact ⟨rfl, by assumption⟩
      · obtain rfl := hmono.1 rfl
        obtain rfl := hmono.2 rfl
        clear hmono
        go_wp2_with (first | (go_at_call 7; (first | (with_reducible refine (N1.out _ (by assumption)).mono ?_) | (with_reducible refine (N2.out _ (by assumption)).mono ?_) | (with_reducible refine (N3.out _ (by assumption)).mono ?_)); rintro e w' ⟨rfl, hbN⟩))
        go_meet
        exact ⟨rfl, by assumption⟩
    case rest =>
      obtain ⟨rfl, hB11⟩ := hcut
      clear N1 N2 N3 hmono hB9
      go_upto_region 13 with fail
      go_cut [126] (fun v W => v = .bool false ∧ Below w7.heap.size w7 W)
      case first =>
        have q0 := kc hB11 y0 hgY
        have q2 := kc hB11 y2 hgY
        by_cases hc : cd2 = 0
        · have N1 := Lib.hid (out7 (F11.out.gone hc))
          clear F11 HW x0 x1 x2 y0 y1 y2
          subst hc
          go_wp2_with (first | (go_at_call 17; (with_reducible refine (N1.out _ (by assumption)).mono ?_); rintro e w' ⟨rfl, hbN⟩))
          go_meet
          exact ⟨rfl, by assumption⟩
        · clear F11 HW x0 x1 x2 y0 y1 y2
          go_wp2_with fail
          go_meet
          exact ⟨rfl, by assumption⟩
      case rest =>
        obtain ⟨rfl, hB13⟩ := hcut
        clear hB11
        have q0 := kc hB13 x0 hgX
        have q1 := kc hB13 x1 hgX
        have q2 := kc hB13 x2 hgX
        have hz := hB13.size
        have hB13d := hB13.drew
        by_cases hc : cd1 = 0
        · have N1 := Lib.hid (F11.out.there hc)
          have N2 := Lib.hid (F11.out.past hc)
          have hwt := F11.out.till hc
          clear F11 x0 x1 x2 y0 y1 y2
          subst hc
          go_wp2_with fail
          go_region_held3 (fun W => W.cell? ⟨gX, 0, none⟩ = some (.slice A1 O1.length a1) ∧ W.cell? ⟨gX, 1, none⟩ = some (.int .i64 no1) ∧ W.cell? ⟨gX, 2, none⟩ = some (.int .i64 0) ∧ Below w7.heap.size w7 W ∧ w7.heap.size ≤ W.heap.size)
            (first | (go_keep; done) | (go_split_ands; exact ⟨kc hb (by assumption) (by omega), kc hb (by assumption) (by omega), kc hb (by assumption) (by omega), bstep hb (by assumption) (by omega), zstep hb (by assumption)⟩))
            (first
              | (go_at_call 17; (first | (with_reducible refine (N1.out _ (by go_split_ands; assumption)).mono ?_) | (with_reducible refine (N2.out _ (by go_split_ands; assumption)).mono ?_)); rintro e w' ⟨rfl, hb⟩))
          all_goals
            rename_i hHeld
            obtain ⟨-, -, -, hBn, -⟩ := hHeld
            have HF := Lib.hid (HW.trans (hBn.mono HW.size))
            go_wp2_with fail
            go_ret
            exact ⟨rfl, HF.out⟩
        · have hcode := F11.out.code
          clear F11 x0 x1 y0 y1 y2 x2
          rcases hcode with h0 | h0 | h0 | h0
          · exact absurd h0 hc
          · subst h0
            clear hc
            have HF := Lib.hid (HW.trans (hB13.mono HW.size))
            have HFd := Lib.hid (HW.trans (hB13d.mono HW.size))
            go_wp2_with fail
            go_region
            all_goals
              go_wp2_with fail
              go_ret
              first | exact ⟨rfl, HF.out⟩ | exact ⟨rfl, HFd.out⟩
          · subst h0
            clear hc
            have HF := Lib.hid (HW.trans (hB13.mono HW.size))
            have HFd := Lib.hid (HW.trans (hB13d.mono HW.size))
            go_wp2_with fail
            go_region
            all_goals
              go_wp2_with fail
              go_ret
              first | exact ⟨rfl, HF.out⟩ | exact ⟨rfl, HFd.out⟩
          · subst h0
            clear hc
            have HF := Lib.hid (HW.trans (hB13.mono HW.size))
            have HFd := Lib.hid (HW.trans (hB13d.mono HW.size))
            go_wp2_with fail
            go_region
            all_goals
              go_wp2_with fail
              go_ret
              first | exact ⟨rfl, HF.out⟩ | exact ⟨rfl, HFd.out⟩
end Go.Proofs.YtjgcanhaelabaaaDoor
