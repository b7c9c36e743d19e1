/-
  impl.holdsRight: the walk. A region that draws its order, walked once in a class of worlds: those that left all that lay as it lay. Over any program. spec.l03Holds, l03House; impl.isHouse, guestsRight: the walks. PnrRight: the walks.
-/
import Derived.Test.YtihlilihipcfaaaGreatDoorM2
import Derived.Test.YtihlilihipcfaaaGreatDoorM1
import Derived.BigQuiet
namespace Go.Proofs.YtihlilihipcfaaaGreatDoor
open Go.ChangeShapes Go.WideShapes Go.ChangeAt Go.RowKit Go.ChangeMaps
set_option maxRecDepth 10000
set_option linter.unusedSimpArgs false
set_option linter.unusedVariables false
attribute [local go_sem] Oper.semAt_some

/-- May the hold at place i stand there? -/
def okAt (l : List HD) (i : Nat) : Bool := wordB (hAt l i).f && (seatB (hAt l i).r (hAt l i).c && (decide (i = 0) || lessB (hAt l (i - 1)) (hAt l i)))
def holdsOkB (l : List HD) : Bool := decide (l.length ≤ 4) && (List.range l.length).all (okAt l)

/-- Have all that came stood right? -/
def allOk (l : List HD) (pre : List (Fin l.length)) : Prop := ∀ y ∈ pre, okAt l y.1 = true
/-- The last that came did not. -/
def lastBad (l : List HD) (pre : List (Fin l.length)) : Prop := ∃ ini y, pre = ini ++ [y] ∧ okAt l y.1 = false

def RightI (l : List HD) (A : Option Addr) (cap : Nat) (w : World) (pre : List (Fin l.length)) (W : World) : Prop :=
  (allOk l pre ∧ (Block W w.heap.size 38 #[.slice A l.length cap] ∧ Block W (w.heap.size + 1) 4 #[.bool false])) ∧ Below w.heap.size w W
def RightIx (l : List HD) (w : World) (c : Code) (pre : List (Fin l.length)) (W : World) : Prop :=
  ((c = .ret ∧ lastBad l pre) ∧ Block W (w.heap.size + 1) 4 #[.bool false]) ∧ Below w.heap.size w W
def RightAx (l : List HD) (A : Option Addr) (cap : Nat) (w : World) (x : Fin l.length) (a' : Act) (W : World) : Prop :=
  ∃ Bx, w.heap.size + 1 < Bx ∧ Block W Bx 51 #[.string (hAt l x.1).f, .int .i64 (hAt l x.1).r, .int .i64 (hAt l x.1).c] ∧ a' = { tmps := #[.slice A l.length cap, .pointer (some ⟨w.heap.size, 0, none⟩), .pointer (some ⟨w.heap.size + 1, 0, none⟩), .int .i64 (x.1 : Int), .pointer (some ⟨Bx, 0, none⟩), .slice A l.length cap, .int .i64 l.length, .bool false, .slice A l.length cap, .func (.func 110) #[] #[.pointer (some ⟨w.heap.size + 1 + 1, 0, none⟩)], .int .i64 (x.1 : Int), holdV (hAt l x.1).f (hAt l x.1).r (hAt l x.1).c, undef, undef, undef, undef, undef, undef, undef, undef, undef, undef, undef, undef, undef, undef, undef, undef, undef, undef, undef, undef, undef, undef], defers := [] }

theorem holdsOk_yes {l : List HD} {ys : List (Fin l.length)} (h4 : l.length ≤ 4) (hS : FirstK l.length ys) (hok : allOk l ys) : holdsOkB l = true := by
  rw [holdsOkB, decide_eq_true h4, Bool.true_and, List.all_eq_true]
  intro i hi
  rw [← hS] at hi
  obtain ⟨y, hy, rfl⟩ := List.mem_map.1 hi
  exact hok y hy
theorem holdsOk_no {l : List HD} {pre : List (Fin l.length)} (h : lastBad l pre) : holdsOkB l = false := by
  obtain ⟨ini, y, -, hy⟩ := h
  rw [holdsOkB, Bool.and_eq_false_iff]
  refine .inr (List.all_eq_false.2 ⟨y.1, List.mem_range.2 y.2, ?_⟩)
  simp [hy]

set_option maxRecDepth 100000 in
set_option maxHeartbeats 2000000 in
theorem iHoldsRight_any (l : List HD) (A : Option Addr) (cap : Nat) (w : World) (hl : Lies w w.heap.size 3 A l.length (holdsC l)) (hm : l.length ≤ 1099511627) (hf : ∀ x ∈ l, x.f.size ≤ maxLen) :
    Calls Tryz.prog 87 #[.slice A l.length cap] w fun e w' => e = .returned (.bool (holdsOkB l)) ∧ Below w.heap.size w w' := by
  by_cases h4 : 4 < l.length
  · have HR : Hid (holdsOkB l = false) := by rw [Hid, holdsOkB, decide_eq_false (by omega)]; rfl
    clear hl hf
    go_enter Tryz.func87, Tryz.ntmps87
    go_wp2
    refine bodyPost_ret (v := .bool false) (by simp [results, Tryz.results87, go_sem]) rfl ?_
    exact ⟨ret_bool HR.out.symm, by go_grown⟩
  refine (callsIn_wide (n := 6)).1 ?_
  refine callsIn_of_wp_marks Tryz.func87 rfl trivial ?_ rfl
  simp only [Tryz.ntmps87, List.size_toArray, List.length_cons, List.length_nil, Nat.reduceAdd, Nat.reduceSub, Array.replicate_succ, Array.replicate_zero, List.push_toArray, List.append_toArray, List.nil_append, List.cons_append]
  have hfe : Fence.wide.fn 70 := trivial
  · have h4' : decide ((4 : Int) < (l.length : Int)) = false := by simp; omega
    gi_wp2_with (gi_at_call 70; refine (each_in Fence.wide 5 hfe rfl _ _ _ _).mono ?_; rintro e w' ⟨rfl, rfl⟩)
    have bL := ((Block.new w #[.slice A l.length cap] 38).alloc (.cells #[.bool false] 4)).alloc (.cells #[.slice A l.length cap] 38)
    have bR := (Block.new (w.alloc (.cells #[.slice A l.length cap] 38)) #[.bool false] 4).alloc (.cells #[.slice A l.length cap] 38)
    have bC := Block.new ((w.alloc (.cells #[.slice A l.length cap] 38)).alloc (.cells #[.bool false] 4)) #[.slice A l.length cap] 38
    have hB0 : Below w.heap.size w (((w.alloc (.cells #[.slice A l.length cap] 38)).alloc (.cells #[.bool false] 4)).alloc (.cells #[.slice A l.length cap] 38)) := (((Below.refl _ w).alloc (Nat.le_refl _) _).alloc (by simp) _).alloc (by simp; omega) _
    simp only [World.size_alloc] at bR bC
    have hsz : (((w.alloc (.cells #[.slice A l.length cap] 38)).alloc (.cells #[.bool false] 4)).alloc (.cells #[.slice A l.length cap] 38)).heap.size = w.heap.size + 3 := by simp
    obtain ⟨W0, hW0⟩ : ∃ W0, ((w.alloc (.cells #[.slice A l.length cap] 38)).alloc (.cells #[.bool false] 4)).alloc (.cells #[.slice A l.length cap] 38) = W0 := ⟨_, rfl⟩
    rw [hW0] at bL bR bC hB0 hsz ⊢
    clear hW0
    refine wpIn_rangeFunc_ownH rfl (by omega) (gf := 110) (lb := #[.pointer (some ⟨w.heap.size + 1 + 1, 0, none⟩)]) rfl trivial (enters_of Tryz.func110 (by kernel_rfl) rfl)
      (each_stops Fence.wide 5 trivial rfl (by omega) (w.heap.size + 1 + 1) w.heap.size cap A l hm W0 (by omega) (by omega) (bC.cell 0) (hl.below hB0)) belowK_t (belowK_b (by omega)) (Below.refl _ _) (fun _ => rfl)
      (RightI l A cap w) (RightIx l w)
      (OwnFrom.and (OwnFrom.and (ownFrom_pure _ _) (OwnFrom.and (Own.from (block_own _ _ _) _) (Own.from (block_own _ _ _) _))) (ownFrom_below (Nat.le_refl _) (by omega)))
      (fun c => OwnFrom.and (OwnFrom.and (ownFrom_pure _ _) (Own.from (block_own _ _ _) _)) (ownFrom_below (Nat.le_refl _) (by omega)))
      ⟨⟨(by intro y hy; cases hy), bL, bR⟩, hB0⟩
      (RightAx l A cap w)
      (fun x a' _ X Y row hs hg hr => by obtain ⟨Bx, h1, h2, h3⟩ := hs; exact ⟨Bx, h1, (block_own (β := Unit) Bx _ (fun _ => _)) () X Y row h2 hg (fun r e => (hr r e).2), h3⟩)
      ?assign ?body ?done ?stop
    case assign =>
      rintro lp pre x W K ⟨⟨hp, bL1, bR1⟩, hB1⟩ hK
      dsimp only [encP]
      gi_wp2
      exact hK _ _ ((KeepsOthers.alloc _ _).from _) ((Below.refl _ W).alloc hB1.size _) ⟨⟨hp, bL1.alloc _, bR1.alloc _⟩, hB1.alloc hB1.size _⟩ ⟨W.heap.size, bR1.lt, Block.new W _ _, rfl⟩
    case body =>
      rintro lp pre x a' W hlp ⟨r, hr⟩ ⟨⟨hok, bL1, bR1⟩, hB1⟩ ⟨Bx, hBx, bX, rfl⟩ hlt
      obtain ⟨i, hi⟩ := x
      have hx := at_hAt hi
      have hxs := hf _ (List.mem_of_getElem? hx)
      have hOK : Hid (okAt l i = (wordB (hAt l i).f && (seatB (hAt l i).r (hAt l i).c && (decide (i = 0) || lessB (hAt l (i - 1)) (hAt l i))))) := rfl
      have hIx : Hid (∀ W' : World, okAt l i = false → Block W' (w.heap.size + 1) 4 #[.bool false] → Below w.heap.size w W' → RightIx l w .ret (pre ++ [⟨i, hi⟩]) W') := fun W' h1 h2 h3 => ⟨⟨⟨rfl, pre, ⟨i, hi⟩, rfl, h1⟩, h2⟩, h3⟩
      have hI : Hid (∀ W' : World, okAt l i = true → Block W' w.heap.size 38 #[.slice A l.length cap] → Block W' (w.heap.size + 1) 4 #[.bool false] → Below w.heap.size w W' → RightI l A cap w (pre ++ [⟨i, hi⟩]) W') := fun W' h1 h2 h3 h4 => ⟨⟨(fun y hy => by
        rcases List.mem_append.1 hy with h | h
        · exact hok y h
        · rw [List.mem_singleton.1 h]; exact h1), h2, h3⟩, h4⟩
      dsimp only at *
      have hx' := hx
      generalize hAt l i = X at *
      clear hx hlt hok
      have HW : Hid (∀ W : World, Calls Tryz.prog 115 #[.string X.f] W fun e w' => e = .returned (.bool (wordB X.f)) ∧ W = w') := fun W => iWord_any X.f W hxs
      have HSR : Hid (∀ W : World, Calls Tryz.prog 111 #[seatV X.r X.c] W fun e w' => e = .returned (.bool (seatB X.r X.c)) ∧ Below W.heap.size W w') := fun W => iSeatRight_any X.r X.c W
      have cL := bL1.cell 0
      have cR := bR1.cell 0
      have fR := bR1.free 0
      have x0 := bX.cell 0
      have x1 := bX.cell 1
      have x2 := bX.cell 2
      have hB1d := hB1.size
      cases hbw : wordB X.f
      · rw [hbw] at HW
        have HF : Hid (okAt l i = false) := by rw [Hid, hOK.out, hbw]; rfl
        clear hOK HSR hI hbw
        gi_wp2_with fail
        refine ⟨trivial, (CallsIn.inRound lp (callsIn_wide.2 (HW.out _))).mono ?_⟩
        rintro e w1 ⟨rfl, rfl⟩
        gi_wp2_with fail
        refine ⟨trivial, ?_⟩
        gi_wp2_with fail
        exact ⟨(KeepsOthers.setCell _ _ _).from _, hIx.out _ HF.out (bR1.set_ 0 _) (hB1.setCell (p := ⟨w.heap.size + 1, 0, none⟩) (by simp) _)⟩
      · rw [hbw] at HW
        cases hbs : seatB X.r X.c
        · rw [hbs] at HSR
          have HF : Hid (okAt l i = false) := by rw [Hid, hOK.out, hbw, hbs]; rfl
          clear hOK hI hbw hbs
          gi_wp2_with fail
          refine ⟨trivial, (CallsIn.inRound lp (callsIn_wide.2 (HW.out _))).mono ?_⟩
          rintro e w1 ⟨rfl, rfl⟩
          gi_wp2_with fail
          refine ⟨trivial, (CallsIn.inRound lp (callsIn_wide.2 (HSR.out _))).mono ?_⟩
          rintro e w1 ⟨rfl, hb1⟩
          have bR2 := bR1.on hb1
          have cR2 := bR2.cell 0
          have fR2 := bR2.free 0
          gi_wp2_with fail
          exact ⟨(keeps_of_below hb1 _).trans ((KeepsOthers.setCell _ _ _).from _), hIx.out _ HF.out (bR2.set_ 0 _) ((hB1.trans (hb1.mono hB1.size)).setCell (p := ⟨w.heap.size + 1, 0, none⟩) (by simp) _)⟩
        · rw [hbs] at HSR
          by_cases hi0 : i = 0
          · have HF : Hid (okAt l i = true) := by rw [Hid, hOK.out, hbw, hbs, decide_eq_true hi0]; rfl
            subst hi0
            clear hOK hIx hbw hbs
            gi_wp2_with fail
            refine ⟨trivial, (CallsIn.inRound lp (callsIn_wide.2 (HW.out _))).mono ?_⟩
            rintro e w1 ⟨rfl, rfl⟩
            gi_wp2_with fail
            refine ⟨trivial, (CallsIn.inRound lp (callsIn_wide.2 (HSR.out _))).mono ?_⟩
            rintro e w1 ⟨rfl, hb1⟩
            have bR2 := bR1.on hb1
            have bL2 := bL1.on hb1
            have hmx : Tryz.prog.follows .mixedOrders = true := by kernel_rfl
            gi_wp2_with fail
            gi_region_with_o (refine ⟨trivial, ?_⟩)
            all_goals gi_wp2
            all_goals exact ⟨(keeps_of_below hb1 _).trans ((KeepsOthers.drew _).from _), (hb1.mono hB1d).drew, hI.out _ HF.out bL2.drew bR2.drew (hB1.trans (hb1.mono hB1d)).drew⟩
          · have hi1 : i - 1 < l.length := by omega
            have hd0 : (0 : Int) < (i : Int) := by omega
            have hyl := at_hAt hi1
            have HL : Hid (∀ W : World, Calls Tryz.prog 34 #[holdV (hAt l (i - 1)).f (hAt l (i - 1)).r (hAt l (i - 1)).c, holdV X.f X.r X.c] W fun e w' => e = .returned (.bool (lessB (hAt l (i - 1)) X)) ∧ Below W.heap.size W w') := fun W => iHoldLess_any _ X W
            have HF : Hid (okAt l i = lessB (hAt l (i - 1)) X) := by rw [Hid, hOK.out, hbw, hbs, decide_eq_false hi0]; rfl
            clear hOK hbw hbs hi0
            gi_wp2_with fail
            refine ⟨trivial, (CallsIn.inRound lp (callsIn_wide.2 (HW.out _))).mono ?_⟩
            rintro e w1 ⟨rfl, rfl⟩
            gi_wp2_with fail
            refine ⟨trivial, (CallsIn.inRound lp (callsIn_wide.2 (HSR.out _))).mono ?_⟩
            rintro e w1 ⟨rfl, hb1⟩
            have bR2 := bR1.on hb1
            have bL2 := bL1.on hb1
            have bX2 := bX.on hb1
            have hB2 := hB1.trans (hb1.mono hB1d)
            have hKp := hb1.mono hB1d
            have hKf := keeps_of_below hb1 W0.heap.size
            obtain ⟨b, off, y, rfl, hlb, hy, c0, c1, c2⟩ := (hl.below hB2).hold hi1
            rw [hAt_of hy] at HL HF
            have y0 := bX2.cell 0
            have y1 := bX2.cell 1
            have y2 := bX2.cell 2
            have yL := bL2.cell 0
            have hmx : Tryz.prog.follows .mixedOrders = true := by kernel_rfl
            clear hb1 cL cR fR x0 x1 x2 hyl hy hx'
            gi_wp2_with fail
            have hw1 : IntKind.i64.wrap ((i : Int) - 1) = (i : Int) - 1 := IntWalk.i64_in _ (by omega)
            have hw2 : (0 : Int) ≤ (i : Int) - 1 := by omega
            have hw4 : (i : Int) - 1 < (l.length : Int) := by omega
            have hw3 : ((i : Int) - 1).toNat = i - 1 := by omega
            generalize lessB y X = bl at *
            cases bl
            · gi_region_with_o (first | (refine ⟨trivial, (CallsIn.inRound lp (callsIn_wide.2 (HL.out _))).mono ?_⟩; rintro e w2 ⟨rfl, hb2⟩) | (refine ⟨trivial, ?_⟩))
              all_goals
                have bR3 := bR2.drew.on hb2
                have cR3 := bR3.cell 0
                have fR3 := bR3.free 0
                gi_wp2
                exact ⟨(hKf.trans (((KeepsOthers.drew _).from _).trans (keeps_of_below hb2 _))).trans ((KeepsOthers.setCell _ _ _).from _), hIx.out _ HF.out (bR3.set_ 0 _) ((hB2.drew.trans (hb2.mono hB2.size)).setCell (p := ⟨w.heap.size + 1, 0, none⟩) (by simp) _)⟩
            · gi_region_with_o (first | (refine ⟨trivial, (CallsIn.inRound lp (callsIn_wide.2 (HL.out _))).mono ?_⟩; rintro e w2 ⟨rfl, hb2⟩) | (refine ⟨trivial, ?_⟩))
              all_goals
                gi_wp2
                exact ⟨hKf.trans (((KeepsOthers.drew _).from _).trans (keeps_of_below hb2 _)), hKp.drew.trans (hb2.mono hB2.size), hI.out _ HF.out (bL2.drew.on hb2) (bR2.drew.on hb2) (hB2.drew.trans (hb2.mono hB2.size))⟩
    case done =>
      rintro D ys W hD hS ⟨⟨hok, bL1, bR1⟩, hB1⟩ hK
      have HR : Hid (holdsOkB l = true) := holdsOk_yes (by omega) hS hok
      have cR := bR1.cell 0
      have fR := bR1.free 0
      clear hok bL1 bL bR bC hl hf hS
      gi_wp2
      have hK' := (KeepsOthers.setCell W ⟨w.heap.size + 1, 0, none⟩ (.bool true)).same D _ hK rfl
      refine ⟨by simp, .inl ⟨_, _, rfl, run_takeDeferred hK', ?_⟩⟩
      have hc5 := cell_kept (show (W.setCell ⟨w.heap.size + 1, 0, none⟩ (.bool true)).cell? ⟨w.heap.size + 1, 0, none⟩ = some (.bool true) from (bR1.set_ 0 _).cell 0) (grownBy_putObj' _ D (.deferred none)) (fun r e => by cases e; exact ⟨_, hK', rfl⟩)
      refine ⟨.bool true, ?_, ret_bool HR.out.symm, (hB1.setCell (p := ⟨w.heap.size + 1, 0, none⟩) (by simp) _).trans (belowK_b (w := w) (Nat.le_refl _) _ D _ _ (by omega) hK' rfl rfl)⟩
      simp [results, Tryz.f87, go_sem, hc5]
    case stop =>
      rintro D c pre W hD ⟨k, hk, hF⟩ ⟨⟨⟨rfl, hbad⟩, bR1⟩, hB1⟩ hK
      have HR : Hid (holdsOkB l = false) := holdsOk_no hbad
      clear bL bR bC hl hf
      gi_wp2
      refine ⟨by simp, .inl ⟨_, _, rfl, run_takeDeferred hK, ?_⟩⟩
      have hc5 := cell_kept (show W.cell? ⟨w.heap.size + 1, 0, none⟩ = some (.bool false) from bR1.cell 0) (grownBy_putObj' _ D (.deferred none)) (fun r e => by cases e; exact ⟨_, hK, rfl⟩)
      refine ⟨.bool false, ?_, ret_bool HR.out.symm, hB1.trans (belowK_b (w := w) (Nat.le_refl _) W D _ _ (by omega) hK rfl rfl)⟩
      simp [results, Tryz.f87, go_sem, hc5]
end Go.Proofs.YtihlilihipcfaaaGreatDoor
namespace Go.Proofs.YtihlilihipcfaaaGreatDoor
open Go.ChangeShapes Go.WideShapes Go.ChangeAt Go.RowKit Go.ChangeMaps
set_option maxRecDepth 10000
set_option linter.unusedVariables false

/-- A world in which all that lay in w0 lies as it lay. -/
structure Cls (w0 : World) where
  W : World
  h : Below w0.heap.size w0 W

instance (w0 : World) : Inhabited (Cls w0) := ⟨⟨w0, Below.refl _ _⟩⟩

theorem wp_region_cls {P : Program} {id : Nat} {Q : Exit → Act → World → Prop} {a : Act} {w : World} {l : List Oper} (hm : P.follows .mixedOrders = true) (hB : Region.lexB .any l.toArray = true)
    (h : wpQuiet P l.toArray (fun w' => ∃ p : Cls w, w' = p.W) (fun a' => ∀ w', (∃ p : Cls w, w' = p.W) → Q .normal a' w') l a) : (Code.region id l.toArray true).wp P Q a w :=
  wp_region_quiet (C := fun w' => ∃ p : Cls w, w' = p.W) hm hB ⟨⟨w.drew, (Below.refl _ w).drew⟩, rfl⟩ (by simpa using h)

theorem Cls.call {w0 : World} {P : Program} {f : FuncId} {args : Array Value} {v : Value} {p : Cls w0} (h : Calls P f args p.W fun e w' => e = .returned v ∧ Below p.W.heap.size p.W w') :
    Calls P f args p.W fun e w'' => e = .returned v ∧ ∃ p' : Cls w0, w'' = p'.W :=
  h.mono fun _ w' ⟨he, hb⟩ => ⟨he, ⟨w', p.h.trans (hb.mono p.h.size)⟩, rfl⟩
theorem Cls.same {w0 : World} {P : Program} {f : FuncId} {args : Array Value} {v : Value} {p : Cls w0} (h : Calls P f args p.W fun e w' => e = .returned v ∧ p.W = w') :
    Calls P f args p.W fun e w'' => e = .returned v ∧ ∃ p' : Cls w0, w'' = p'.W :=
  h.mono fun _ w' ⟨he, hb⟩ => ⟨he, p, hb.symm⟩
theorem Cls.cell {w0 : World} {b i : Nat} {v : Value} (h : w0.cell? ⟨b, i, none⟩ = some v) (p : Cls w0) : p.W.cell? ⟨b, i, none⟩ = some v :=
  kc p.h h (World.block_lt_of_cell? w0 ⟨b, i, none⟩ h)
end Go.Proofs.YtihlilihipcfaaaGreatDoor
namespace Go.Proofs.YtihlilihipcfaaaGreatDoor
open Go.ChangeShapes Go.WideShapes Go.ChangeAt Go.RowKit Go.ChangeMaps
set_option maxRecDepth 10000
set_option linter.unusedSimpArgs false
set_option linter.unusedVariables false

def houseB (n : Int) : Bool := decide (1 ≤ n ∧ n ≤ 4)
set_option maxHeartbeats 400000 in
theorem isHouse_any (n : Int) (w : World) : Calls Tryz.prog 84 #[.int .i64 n] w fun e w' => e = .returned (.bool (houseB n)) ∧ w = w' := by
  go_enter Tryz.func84, Tryz.ntmps84
  go_wp2
  all_goals
    go_ret
    refine ⟨ret_bool ?_, rfl⟩
    rw [Bool.eq_iff_iff]
    simp [houseB]
    try omega
set_option maxHeartbeats 400000 in
theorem l03House_any (n : Int) (w : World) : Calls Tryz.prog 58 #[.int .i64 n] w fun e w' => e = .returned (.bool (houseB n)) ∧ w = w' := by
  have HI : Hid (inB n 1 4 = houseB n) := by
    rw [Hid, Bool.eq_iff_iff]
    simp [houseB, inB]
  go_enter Tryz.func58, Tryz.ntmps58
  go_wp2_with (go_at_call 56; refine (l02Is_any _ _ _ _).mono ?_; rintro e w' ⟨rfl, rfl⟩)
  go_ret
  exact ⟨ret_bool HI.out, rfl⟩

def namesOkB (l : List ByteArray) : Bool := decide (l.length ≤ 4) && l.all wordB
theorem names_no {l : List ByteArray} {k : Nat} {s : ByteArray} (h : l[k]? = some s) (hs : wordB s = false) : l.all wordB = false :=
  List.all_eq_false.2 ⟨s, List.mem_of_getElem? h, by simp [hs]⟩
theorem all_take_succ {l : List ByteArray} {k : Nat} {s : ByteArray} (ha : (l.take k).all wordB = true) (h : l[k]? = some s) (hs : wordB s = true) : (l.take (k + 1)).all wordB = true := by
  rw [List.take_add_one, h, List.all_append, ha]
  simp [hs]

set_option maxHeartbeats 1000000 in
theorem guestsRight_any (l : List ByteArray) (A : Option Addr) (cap : Nat) (w : World) (hl : Lies w w.heap.size 1 A l.length (strsC l)) (hm : l.length ≤ 1099511627) (hf : ∀ x ∈ l, x.size ≤ maxLen) :
    Calls Tryz.prog 86 #[.slice A l.length cap] w fun e w' => e = .returned (.bool (namesOkB l)) ∧ w = w' := by
  by_cases h4 : 4 < l.length
  · have HR : Hid (namesOkB l = false) := by rw [Hid, namesOkB, decide_eq_false (by omega)]; rfl
    clear hl hf
    go_enter Tryz.func86, Tryz.ntmps86
    go_wp2
    go_ret
    exact ⟨ret_bool HR.out.symm, rfl⟩
  have HR : Hid (namesOkB l = l.all wordB) := by rw [Hid, namesOkB, decide_eq_true (by omega)]; rfl
  have h4' : decide ((4 : Int) < (l.length : Int)) = false := by simp; omega
  have HF := Lib.hid hf
  clear hf
  generalize namesOkB l = R at *
  go_enter Tryz.func86, Tryz.ntmps86
  go_wp2
  go_loop [10] (fun i => ∃ k : Nat, k ≤ l.length ∧ i = .int .i64 k ∧ Hid ((l.take k).all wordB = true)) (fun i => l.length - (intOf i).toNat)
  case atStart => exact ⟨0, Nat.zero_le _, rfl, rfl⟩
  case round =>
    obtain ⟨k, hk, rfl, HA⟩ := hrel
    by_cases hlt : k < l.length
    · obtain ⟨b, off, s, rfl, hlb, hx, c0⟩ := hl.str hlt
      have hs := HF.out s (List.mem_of_getElem? hx)
      have HW : Hid (∀ W : World, Calls Tryz.prog 115 #[.string s] W fun e w' => e = .returned (.bool (wordB s)) ∧ W = w') := fun W => iWord_any s W hs
      cases hb : wordB s
      · rw [hb] at HW
        have HN := Lib.hid (names_no hx hb)
        clear hx hb hl
        go_wp2_with fail
        refine (HW.out _).mono ?_
        rintro e w1 ⟨rfl, rfl⟩
        go_wp2_with fail
        go_ret
        exact ⟨ret_bool (by rw [HR.out, HN.out]), rfl⟩
      · rw [hb] at HW
        have HN := Lib.hid (all_take_succ HA.out hx hb)
        clear hx hb hl
        go_wp2_with fail
        refine (HW.out _).mono ?_
        rintro e w1 ⟨rfl, rfl⟩
        go_wp2_with fail
        go_round
        case rel => exact ⟨k + 1, by omega, by go_num, HN⟩
        case measure => simp [intOf]; omega
    · obtain rfl : k = l.length := by omega
      have HE : Hid (l.all wordB = true) := by have := HA.out; rwa [List.take_length] at this
      clear hl
      go_wp2
      go_ret
      exact ⟨ret_bool (by rw [HR.out, HE.out]), rfl⟩

/-- The first k holds stand right. -/
def okTo (l : List HD) (k : Nat) : Prop := ∀ i, i < k → okAt l i = true
theorem okTo_succ {l : List HD} {k : Nat} (h : okTo l k) (hk : okAt l k = true) : okTo l (k + 1) := fun i hi => by
  rcases Nat.lt_or_ge i k with h1 | h1
  · exact h i h1
  · have : i = k := by omega
    rw [this]; exact hk
theorem holdsOk_at {l : List HD} {k : Nat} (hk : k < l.length) (h : okAt l k = false) : holdsOkB l = false := by
  rw [holdsOkB, Bool.and_eq_false_iff]
  exact .inr (List.all_eq_false.2 ⟨k, List.mem_range.2 hk, by simp [h]⟩)
theorem holdsOk_len {l : List HD} (h : okTo l l.length) : holdsOkB l = decide (l.length ≤ 4) := by
  have : (List.range l.length).all (okAt l) = true := List.all_eq_true.2 fun i hi => h i (List.mem_range.1 hi)
  rw [holdsOkB, this, Bool.and_true]

set_option maxHeartbeats 4000000 in
theorem l03Holds_any (l : List HD) (A : Option Addr) (cap : Nat) (w : World) (hl : Lies w w.heap.size 3 A l.length (holdsC l)) (hm : l.length ≤ 1099511627) (hf : ∀ x ∈ l, x.f.size ≤ maxLen) :
    Calls Tryz.prog 88 #[.slice A l.length cap] w fun e w' => e = .returned (.bool (holdsOkB l)) ∧ Below w.heap.size w w' := by
  have HF := Lib.hid hf
  clear hf
  go_enter Tryz.func88, Tryz.ntmps88
  go_wp2
  go_loopw [3] (fun i wr => ∃ k : Nat, k ≤ l.length ∧ i = .int .i64 k ∧ Hid (okTo l k) ∧ Below w.heap.size w wr) (fun i _ => l.length - (intOf i).toNat)
  case atStart => exact ⟨0, Nat.zero_le _, rfl, fun i hi => absurd hi (Nat.not_lt_zero _), Below.refl _ _⟩
  case round =>
    obtain ⟨k, hk, rfl, HA, hB⟩ := hrel
    by_cases hlt : k < l.length
    · have HN : Hid (okAt l k = false → holdsOkB l = false) := fun h => holdsOk_at hlt h
      have HY : Hid (okAt l k = true → okTo l (k + 1)) := fun h => okTo_succ HA.out h
      have hx0 := at_hAt hlt
      have hOK : Hid (okAt l k = (wordB (hAt l k).f && (seatB (hAt l k).r (hAt l k).c && (decide (k = 0) || lessB (hAt l (k - 1)) (hAt l k))))) := rfl
      obtain ⟨b, off, x, rfl, hlb, hx, c0, c1, c2⟩ := (hl.below hB).hold hlt
      have hxs := HF.out x (List.mem_of_getElem? hx)
      rw [hAt_of hx] at hOK
      have hy : 0 < k → w.cell? ⟨b, off + (k - 1) * 3, none⟩ = w.cell? ⟨b, off + (k - 1) * 3, none⟩ := fun _ => rfl
      have hprev : 0 < k → ∃ y : HD, hAt l (k - 1) = y ∧ wr.cell? ⟨b, off + (k - 1) * 3, none⟩ = some (.string y.f) ∧ wr.cell? ⟨b, off + (k - 1) * 3 + 1, none⟩ = some (.int .i64 y.r) ∧ wr.cell? ⟨b, off + (k - 1) * 3 + 2, none⟩ = some (.int .i64 y.c) := fun h0 => by
        obtain ⟨b', off', y, he, _, hy, d0, d1, d2⟩ := (hl.below hB).hold (show k - 1 < l.length by omega)
        cases he
        exact ⟨y, hAt_of hy, d0, d1, d2⟩
      have HW : Hid (∀ W : World, Calls Tryz.prog 59 #[.string x.f] W fun e w' => e = .returned (.bool (wordB x.f)) ∧ W = w') := fun W => sWord_any x.f W hxs
      have HSR : Hid (∀ W : World, Calls Tryz.prog 60 #[seatV x.r x.c] W fun e w' => e = .returned (.bool (seatB x.r x.c)) ∧ Below W.heap.size W w') := fun W => sSeatRight_any x.r x.c W
      clear hx hx0 hy hl
      have hz := hB.size
      have e0 := Cls.cell c0
      have e1 := Cls.cell c1
      have e2 := Cls.cell c2
      cases hbw : wordB x.f
      · rw [hbw] at HW
        have HO : Hid (holdsOkB l = false) := HN.out (by rw [hOK.out, hbw]; rfl)
        have HWq : Hid (∀ p : Cls wr, Calls Tryz.prog 59 #[.string x.f] p.W fun e w'' => e = .returned (.bool false) ∧ ∃ p' : Cls wr, w'' = p'.W) := fun p => Cls.same (HW.out p.W)
        clear hOK hbw HSR hprev HN HY c1 c2 e1 e2
        go_wp2_with fail
        refine wp_region_cls (by kernel_rfl) (by kernel_rfl) ?_
        repeat (go_big_quiet_step (first | (go_at_call 59; exact HWq.out _)))
        refine wpQuiet_nil ?_
        rintro _ ⟨⟨W, hW⟩, rfl⟩
        have hBW := hB.trans (hW.mono hz)
        go_wp2_with fail
        go_ret
        exact ⟨ret_bool HO.out.symm, hBW⟩
      · rw [hbw] at HW
        have HWq : Hid (∀ p : Cls wr, Calls Tryz.prog 59 #[.string x.f] p.W fun e w'' => e = .returned (.bool true) ∧ ∃ p' : Cls wr, w'' = p'.W) := fun p => Cls.same (HW.out p.W)
        cases hbs : seatB x.r x.c
        · rw [hbs] at HSR
          have HO : Hid (holdsOkB l = false) := HN.out (by rw [hOK.out, hbw, hbs]; rfl)
          have HSq : Hid (∀ p : Cls wr, Calls Tryz.prog 60 #[seatV x.r x.c] p.W fun e w'' => e = .returned (.bool false) ∧ ∃ p' : Cls wr, w'' = p'.W) := fun p => Cls.call (HSR.out p.W)
          clear hOK hbw hbs hprev HN HY
          go_wp2_with fail
          refine wp_region_cls (by kernel_rfl) (by kernel_rfl) ?_
          repeat (go_big_quiet_step (first | (go_at_call 59; exact HWq.out _) | (go_at_call 60; exact HSq.out _)))
          refine wpQuiet_nil ?_
          rintro _ ⟨⟨W, hW⟩, rfl⟩
          have hBW := hB.trans (hW.mono hz)
          go_wp2_with fail
          go_ret
          exact ⟨ret_bool HO.out.symm, hBW⟩
        · rw [hbs] at HSR
          have HSq : Hid (∀ p : Cls wr, Calls Tryz.prog 60 #[seatV x.r x.c] p.W fun e w'' => e = .returned (.bool true) ∧ ∃ p' : Cls wr, w'' = p'.W) := fun p => Cls.call (HSR.out p.W)
          by_cases hk0 : k = 0
          · have HO := Lib.hid (HY.out (by rw [hOK.out, hbw, hbs, decide_eq_true hk0]; rfl))
            subst hk0
            simp only [Nat.zero_mul, Nat.add_zero, Nat.zero_add] at e0 e1 e2
            clear hOK hbw hbs hprev HN HY
            go_wp2_with fail
            refine wp_region_cls (by kernel_rfl) (by kernel_rfl) ?_
            repeat (go_big_quiet_step (first | (go_at_call 59; exact HWq.out _) | (go_at_call 60; exact HSq.out _)))
            refine wpQuiet_nil ?_
            rintro _ ⟨⟨W, hW⟩, rfl⟩
            have hBW := hB.trans (hW.mono hz)
            go_wp2_with fail
            go_roundw
            case rel => exact ⟨0 + 1, by omega, by go_num, HO, hBW⟩
            case measure => simp [intOf]; omega
          · obtain ⟨y, hy, d0, d1, d2⟩ := hprev (by omega)
            rw [hy] at hOK
            have f0 := Cls.cell d0
            have f1 := Cls.cell d1
            have f2 := Cls.cell d2
            have hk1 : decide (0 < k) = true := decide_eq_true (by omega)
            have hk2 : decide ((0 : Int) < (k : Int)) = true := decide_eq_true (by omega)
            have hw1 : IntKind.i64.wrap ((k : Int) - 1) = (k : Int) - 1 := IntWalk.i64_in _ (by omega)
            have hw2 : (0 : Int) ≤ (k : Int) - 1 := by omega
            have hw4 : (k : Int) - 1 < (l.length : Int) := by omega
            have hw3 : ((k : Int) - 1).toNat = k - 1 := by omega
            cases hbl : lessB y x
            · have HO : Hid (holdsOkB l = false) := HN.out (by rw [hOK.out, hbw, hbs, hbl, decide_eq_false hk0]; rfl)
              have HLq : Hid (∀ p : Cls wr, Calls Tryz.prog 35 #[holdV y.f y.r y.c, holdV x.f x.r x.c] p.W fun e w'' => e = .returned (.bool false) ∧ ∃ p' : Cls wr, w'' = p'.W) := fun p => Cls.call (hbl ▸ sHoldLess_any y x p.W)
              clear hOK hbw hbs hprev hy hk0 hbl HN HY
              go_wp2_with fail
              refine wp_region_cls (by kernel_rfl) (by kernel_rfl) ?_
              repeat (go_big_quiet_step (first | (go_at_call 59; exact HWq.out _) | (go_at_call 60; exact HSq.out _) | (go_at_call 35; exact HLq.out _)))
              refine wpQuiet_nil ?_
              rintro _ ⟨⟨W, hW⟩, rfl⟩
              have hBW := hB.trans (hW.mono hz)
              go_wp2_with fail
              go_ret
              exact ⟨ret_bool HO.out.symm, hBW⟩
            · have HO := Lib.hid (HY.out (by rw [hOK.out, hbw, hbs, hbl]; simp))
              have HLq : Hid (∀ p : Cls wr, Calls Tryz.prog 35 #[holdV y.f y.r y.c, holdV x.f x.r x.c] p.W fun e w'' => e = .returned (.bool true) ∧ ∃ p' : Cls wr, w'' = p'.W) := fun p => Cls.call (hbl ▸ sHoldLess_any y x p.W)
              clear hOK hbw hbs hprev hy hk0 hbl HN HY
              go_wp2_with fail
              refine wp_region_cls (by kernel_rfl) (by kernel_rfl) ?_
              repeat (go_big_quiet_step (first | (go_at_call 59; exact HWq.out _) | (go_at_call 60; exact HSq.out _) | (go_at_call 35; exact HLq.out _)))
              refine wpQuiet_nil ?_
              rintro _ ⟨⟨W, hW⟩, rfl⟩
              have hBW := hB.trans (hW.mono hz)
              clear hw1 hw3
              go_wp2_with fail
              go_roundw
              case rel => exact ⟨k + 1, by omega, by go_num, HO, hBW⟩
              case measure => simp [intOf]; omega
    · obtain rfl : k = l.length := by omega
      have HE := Lib.hid (holdsOk_len HA.out)
      clear hl
      by_cases h4 : l.length ≤ 4
      · have HE2 : Hid (holdsOkB l = true) := by rw [Hid, HE.out, decide_eq_true h4]
        go_wp2
        go_ret
        exact ⟨ret_bool (by rw [HE2.out]; simp; omega), hB⟩
      · have HE2 : Hid (holdsOkB l = false) := by rw [Hid, HE.out, decide_eq_false h4]
        go_wp2
        go_ret
        exact ⟨ret_bool (by rw [HE2.out]; simp; omega), hB⟩
end Go.Proofs.YtihlilihipcfaaaGreatDoor
namespace Go.Proofs.YtihlilihipcfaaaGreatDoor
open Go.ChangeShapes Go.WideShapes Go.ChangeAt Go.RowKit Go.ChangeMaps
set_option maxRecDepth 10000
set_option linter.unusedSimpArgs false
set_option linter.unusedVariables false

def offerB (f o : Int) : Bool := decide (f = 0) || (houseB f && !decide (f = o))
def lastB (b : Bool) (n : Nat) (f : Int) : Bool := b || (decide (n = 0) && decide (f = 0))
/-- Is a booking right? -/
def rightB (p : PD) : Bool := (houseB p.home && (houseB p.owner && inB p.loc 1 9)) && ((namesOkB p.names && holdsOkB p.holds) && (offerB p.offer p.owner && lastB p.live p.holds.length p.offer))

set_option maxHeartbeats 400000 in
theorem isLoc_any (n : Int) (w : World) : Calls Tryz.prog 85 #[.int .i64 n] w fun e w' => e = .returned (.bool (inB n 1 9)) ∧ w = w' := by
  go_enter Tryz.func85, Tryz.ntmps85
  go_wp2
  all_goals
    go_ret
    refine ⟨ret_bool ?_, rfl⟩
    rw [Bool.eq_iff_iff]
    simp [inB]
    try omega
set_option maxHeartbeats 4000000 in
theorem iPnrRight_any (p : PD) (A1 : Option Addr) (c1 : Nat) (A2 : Option Addr) (c2 : Nat) (w : World) (hl : PLies w w.heap.size p A1 A2) (hf : PFit p) (hn : p.names.length ≤ 1099511627) (hh : p.holds.length ≤ 1099511627) :
    Calls Tryz.prog 32 #[pdV p A1 c1 A2 c2] w fun e w' => e = .returned (.bool (rightB p)) ∧ Below w.heap.size w w' := by
  obtain ⟨h, l, o, ns, hs, b, f⟩ := p
  obtain ⟨hl1, hl2⟩ := hl
  obtain ⟨-, fn1, -, fh1⟩ := hf
  dsimp only [pdV] at *
  have HG : Hid (∀ W : World, Below w.heap.size w W → Calls Tryz.prog 86 #[.slice A1 ns.length c1] W fun e w' => e = .returned (.bool (namesOkB ns)) ∧ W = w') := fun W hW => guestsRight_any ns A1 c1 W (hl1.on hW) hn fn1
  have HO : Hid (∀ W : World, Below w.heap.size w W → Calls Tryz.prog 87 #[.slice A2 hs.length c2] W fun e w' => e = .returned (.bool (holdsOkB hs)) ∧ Below W.heap.size W w') := fun W hW => iHoldsRight_any hs A2 c2 W (hl2.on hW) hh fh1
  have HD : Hid (rightB ⟨h, l, o, ns, hs, b, f⟩ = ((houseB h && (houseB o && inB l 1 9)) && ((namesOkB ns && holdsOkB hs) && (offerB f o && lastB b hs.length f)))) := rfl
  clear hl1 hl2 fn1 fh1 hn
  generalize rightB ⟨h, l, o, ns, hs, b, f⟩ = R at *
  generalize namesOkB ns = xn at *
  generalize holdsOkB hs = xh at *
  cases k1 : houseB h
  · skip
    have HR : Hid (R = false) := by rw [Hid, HD.out]; rw [k1]; rfl
    clear HD HG HO
    go_enter Tryz.func32, Tryz.ntmps32
    go_wp2_with (first | (go_at_call 84; refine (isHouse_any _ _).mono ?_; rintro e w' ⟨rfl, rfl⟩) | (go_at_call 85; refine (isLoc_any _ _).mono ?_; rintro e w' ⟨rfl, rfl⟩))
    go_ret
    exact ⟨ret_bool HR.out.symm, by go_grown⟩
  cases k23 : inB l 1 9
  · skip
    have HR : Hid (R = false) := by rw [Hid, HD.out]; rw [k23]; simp
    clear HD HG HO
    go_enter Tryz.func32, Tryz.ntmps32
    go_wp2_with (first | (go_at_call 84; refine (isHouse_any _ _).mono ?_; rintro e w' ⟨rfl, rfl⟩) | (go_at_call 85; refine (isLoc_any _ _).mono ?_; rintro e w' ⟨rfl, rfl⟩))
    go_ret
    exact ⟨ret_bool HR.out.symm, by go_grown⟩
  cases k4 : houseB o
  · skip
    have HR : Hid (R = false) := by rw [Hid, HD.out]; rw [k4]; simp
    clear HD HG HO
    go_enter Tryz.func32, Tryz.ntmps32
    go_wp2_with (first | (go_at_call 84; refine (isHouse_any _ _).mono ?_; rintro e w' ⟨rfl, rfl⟩) | (go_at_call 85; refine (isLoc_any _ _).mono ?_; rintro e w' ⟨rfl, rfl⟩))
    go_ret
    exact ⟨ret_bool HR.out.symm, by go_grown⟩
  rw [k1, k4, k23] at HD
  have HD2 : Hid (R = ((xn && xh) && (offerB f o && lastB b hs.length f))) := HD
  clear HD
  by_cases k5 : f = 0
  · subst k5
    cases b
    · by_cases k6 : 0 < hs.length
      · skip
        have HR : Hid (R = false) := by rw [Hid, HD2.out]; rw [lastB, decide_eq_false (show ¬ hs.length = 0 by omega)]; simp
        clear HD2 HG HO
        have k7 : (0 : Int) < (hs.length : Int) := by omega
        go_enter Tryz.func32, Tryz.ntmps32
        go_wp2_with (first | (go_at_call 84; refine (isHouse_any _ _).mono ?_; rintro e w' ⟨rfl, rfl⟩) | (go_at_call 85; refine (isLoc_any _ _).mono ?_; rintro e w' ⟨rfl, rfl⟩))
        go_ret
        exact ⟨ret_bool HR.out.symm, by go_grown⟩
      · have k7 : hs.length = 0 := by omega
        have k8 : ¬ (0 : Int) < (hs.length : Int) := by omega
        have HR : Hid (R = (xn && xh)) := by rw [Hid, HD2.out]; simp [offerB, lastB, k7]
        clear HD2
        replace k7 := Lib.hid k7
        cases xn
        · go_enter Tryz.func32, Tryz.ntmps32
          go_wp2_with (first | (go_at_call 84; refine (isHouse_any _ _).mono ?_; rintro e w' ⟨rfl, rfl⟩) | (go_at_call 85; refine (isLoc_any _ _).mono ?_; rintro e w' ⟨rfl, rfl⟩))
          refine (HG.out _ (by go_grown)).mono ?_
          rintro e w1 ⟨rfl, rfl⟩
          go_wp2_with fail
          go_ret
          exact ⟨ret_bool HR.out.symm, by go_grown⟩
        · go_enter Tryz.func32, Tryz.ntmps32
          go_wp2_with (first | (go_at_call 84; refine (isHouse_any _ _).mono ?_; rintro e w' ⟨rfl, rfl⟩) | (go_at_call 85; refine (isLoc_any _ _).mono ?_; rintro e w' ⟨rfl, rfl⟩))
          refine (HG.out _ (by go_grown)).mono ?_
          rintro e w1 ⟨rfl, rfl⟩
          go_wp2_with fail
          refine (HO.out _ (by go_grown)).mono ?_
          rintro e w2 ⟨rfl, hb2⟩
          go_wp2_with fail
          go_ret
          exact ⟨ret_bool HR.out.symm, boxed hb2⟩
    · skip
      have HR : Hid (R = (xn && xh)) := by rw [Hid, HD2.out]; simp [offerB, lastB]
      clear HD2
      cases xn
      · go_enter Tryz.func32, Tryz.ntmps32
        go_wp2_with (first | (go_at_call 84; refine (isHouse_any _ _).mono ?_; rintro e w' ⟨rfl, rfl⟩) | (go_at_call 85; refine (isLoc_any _ _).mono ?_; rintro e w' ⟨rfl, rfl⟩))
        refine (HG.out _ (by go_grown)).mono ?_
        rintro e w1 ⟨rfl, rfl⟩
        go_wp2_with fail
        go_ret
        exact ⟨ret_bool HR.out.symm, by go_grown⟩
      · go_enter Tryz.func32, Tryz.ntmps32
        go_wp2_with (first | (go_at_call 84; refine (isHouse_any _ _).mono ?_; rintro e w' ⟨rfl, rfl⟩) | (go_at_call 85; refine (isLoc_any _ _).mono ?_; rintro e w' ⟨rfl, rfl⟩))
        refine (HG.out _ (by go_grown)).mono ?_
        rintro e w1 ⟨rfl, rfl⟩
        go_wp2_with fail
        refine (HO.out _ (by go_grown)).mono ?_
        rintro e w2 ⟨rfl, hb2⟩
        go_wp2_with fail
        go_ret
        exact ⟨ret_bool HR.out.symm, boxed hb2⟩
  · have e1 : (f == 0) = false := beq_eq_false_iff_ne.2 k5
    have e2 : (f != 0) = true := bne_iff_ne.2 k5
    have K5 := Lib.hid k5
    cases k6 : houseB f
    · skip
      have HR : Hid (R = false) := by rw [Hid, HD2.out]; simp [offerB, k6, K5.out]
      clear HD2 HG HO
      clear k5
      go_enter Tryz.func32, Tryz.ntmps32
      go_wp2_with (first | (go_at_call 84; refine (isHouse_any _ _).mono ?_; rintro e w' ⟨rfl, rfl⟩) | (go_at_call 85; refine (isLoc_any _ _).mono ?_; rintro e w' ⟨rfl, rfl⟩))
      go_ret
      exact ⟨ret_bool HR.out.symm, by go_grown⟩
    · by_cases k7 : f = o
      · subst k7
        have HR : Hid (R = false) := by rw [Hid, HD2.out]; simp [offerB, K5.out]
        clear HD2 HG HO
        clear k5
        go_enter Tryz.func32, Tryz.ntmps32
        go_wp2_with (first | (go_at_call 84; refine (isHouse_any _ _).mono ?_; rintro e w' ⟨rfl, rfl⟩) | (go_at_call 85; refine (isLoc_any _ _).mono ?_; rintro e w' ⟨rfl, rfl⟩))
        go_ret
        exact ⟨ret_bool HR.out.symm, by go_grown⟩
      · have e3 : (f == o) = false := beq_eq_false_iff_ne.2 k7
        have e4 : (f != o) = true := bne_iff_ne.2 k7
        have K7 := Lib.hid k7
        clear k7 k5
        cases b
        · by_cases k8 : 0 < hs.length
          · have k9 : (0 : Int) < (hs.length : Int) := by omega
            have HR : Hid (R = false) := by rw [Hid, HD2.out]; simp [lastB, K5.out]
            clear HD2 HG HO
            go_enter Tryz.func32, Tryz.ntmps32
            go_wp2_with (first | (go_at_call 84; refine (isHouse_any _ _).mono ?_; rintro e w' ⟨rfl, rfl⟩) | (go_at_call 85; refine (isLoc_any _ _).mono ?_; rintro e w' ⟨rfl, rfl⟩))
            go_ret
            exact ⟨ret_bool HR.out.symm, by go_grown⟩
          · have k9 : ¬ (0 : Int) < (hs.length : Int) := by omega
            have HR : Hid (R = false) := by rw [Hid, HD2.out]; simp [lastB, K5.out]
            clear HD2 HG HO
            go_enter Tryz.func32, Tryz.ntmps32
            go_wp2_with (first | (go_at_call 84; refine (isHouse_any _ _).mono ?_; rintro e w' ⟨rfl, rfl⟩) | (go_at_call 85; refine (isLoc_any _ _).mono ?_; rintro e w' ⟨rfl, rfl⟩))
            go_ret
            exact ⟨ret_bool HR.out.symm, by go_grown⟩
        · skip
          have HR : Hid (R = (xn && xh)) := by rw [Hid, HD2.out]; simp [offerB, lastB, k6, K7.out]
          clear HD2
          cases xn
          · go_enter Tryz.func32, Tryz.ntmps32
            go_wp2_with (first | (go_at_call 84; refine (isHouse_any _ _).mono ?_; rintro e w' ⟨rfl, rfl⟩) | (go_at_call 85; refine (isLoc_any _ _).mono ?_; rintro e w' ⟨rfl, rfl⟩))
            refine (HG.out _ (by go_grown)).mono ?_
            rintro e w1 ⟨rfl, rfl⟩
            go_wp2_with fail
            go_ret
            exact ⟨ret_bool HR.out.symm, by go_grown⟩
          · go_enter Tryz.func32, Tryz.ntmps32
            go_wp2_with (first | (go_at_call 84; refine (isHouse_any _ _).mono ?_; rintro e w' ⟨rfl, rfl⟩) | (go_at_call 85; refine (isLoc_any _ _).mono ?_; rintro e w' ⟨rfl, rfl⟩))
            refine (HG.out _ (by go_grown)).mono ?_
            rintro e w1 ⟨rfl, rfl⟩
            go_wp2_with fail
            refine (HO.out _ (by go_grown)).mono ?_
            rintro e w2 ⟨rfl, hb2⟩
            go_wp2_with fail
            go_ret
            exact ⟨ret_bool HR.out.symm, boxed hb2⟩
end Go.Proofs.YtihlilihipcfaaaGreatDoor
