/-
  impl.holdsRight: the walk.
-/
import Derived.Test.YtpncnkihfijmaaaGreatDoorEachHoldZ
import Derived.Test.YtpncnkihfijmaaaGreatDoorM1
namespace Go.Proofs.YtpncnkihfijmaaaGreatDoor
open Go.ChangeShapes Go.WideShapes Go.ChangeAt Go.RowKit Go.ChangeMaps
set_option maxRecDepth 10000
set_option linter.unusedSimpArgs false
set_option linter.unusedVariables false
attribute [local go_sem] Oper.semAt_some

/-- May the hold at place i stand there? -/
def okAt (l : List HD) (i : Nat) : Bool := wordB (hAt l i).f && (seatB (hAt l i).r (hAt l i).c && (decide (i = 0) || lessB (hAt l (i - 1)) (hAt l i)))
def holdsOkB (l : List HD) : Bool := decide (l.length ≤ 4) && (List.range l.length).all (okAt l)

/-- Have all that came stood right? -/
def allOk (l : List HD) (pre : List (Fin l.length)) : Prop := ∀ y ∈ pre, okAt l y.1 = true
/-- The last that came did not. -/
def lastBad (l : List HD) (pre : List (Fin l.length)) : Prop := ∃ ini y, pre = ini ++ [y] ∧ okAt l y.1 = false

def RightI (l : List HD) (A : Option Addr) (cap : Nat) (w : World) (pre : List (Fin l.length)) (W : World) : Prop :=
  (allOk l pre ∧ (Block W w.heap.size 38 #[.slice A l.length cap] ∧ Block W (w.heap.size + 1) 4 #[.bool false])) ∧ Below w.heap.size w W
def RightIx (l : List HD) (w : World) (c : Code) (pre : List (Fin l.length)) (W : World) : Prop :=
  ((c = .ret ∧ lastBad l pre) ∧ Block W (w.heap.size + 1) 4 #[.bool false]) ∧ Below w.heap.size w W
def RightAx (l : List HD) (A : Option Addr) (cap : Nat) (w : World) (x : Fin l.length) (a' : Act) (W : World) : Prop :=
  ∃ Bx, w.heap.size + 1 < Bx ∧ Block W Bx 49 #[.string (hAt l x.1).f, .int .i64 (hAt l x.1).r, .int .i64 (hAt l x.1).c] ∧ a' = { tmps := #[.slice A l.length cap, .pointer (some ⟨w.heap.size, 0, none⟩), .pointer (some ⟨w.heap.size + 1, 0, none⟩), .int .i64 (x.1 : Int), .pointer (some ⟨Bx, 0, none⟩), .slice A l.length cap, .int .i64 l.length, .bool false, .slice A l.length cap, .func (.func 104) #[] #[.pointer (some ⟨w.heap.size + 1 + 1, 0, none⟩)], .int .i64 (x.1 : Int), holdV (hAt l x.1).f (hAt l x.1).r (hAt l x.1).c, undef, undef, undef, undef, undef, undef, undef, undef, undef, undef, undef, undef, undef, undef, undef, undef, undef, undef, undef, undef, undef, undef], defers := [] }

theorem holdsOk_yes {l : List HD} {ys : List (Fin l.length)} (h4 : l.length ≤ 4) (hS : FirstK l.length ys) (hok : allOk l ys) : holdsOkB l = true := by
  rw [holdsOkB, decide_eq_true h4, Bool.true_and, List.all_eq_true]
  intro i hi
  rw [← hS] at hi
  obtain ⟨y, hy, rfl⟩ := List.mem_map.1 hi
  exact hok y hy
theorem holdsOk_no {l : List HD} {pre : List (Fin l.length)} (h : lastBad l pre) : holdsOkB l = false := by
  obtain ⟨ini, y, -, hy⟩ := h
  rw [holdsOkB, Bool.and_eq_false_iff]
  refine .inr (List.all_eq_false.2 ⟨y.1, List.mem_range.2 y.2, ?_⟩)
  simp [hy]

set_option maxRecDepth 100000 in
set_option maxHeartbeats 2000000 in
theorem iHoldsRight_any (l : List HD) (A : Option Addr) (cap : Nat) (w : World) (hl : Lies w w.heap.size 3 A l.length (holdsC l)) (hm : l.length ≤ 1099511627) (hf : ∀ x ∈ l, x.f.size ≤ maxLen) :
    Calls Tryz.prog 86 #[.slice A l.length cap] w fun e w' => e = .returned (.bool (holdsOkB l)) ∧ Below w.heap.size w w' := by
  by_cases h4 : 4 < l.length
  · have HR : Hid (holdsOkB l = false) := by rw [Hid, holdsOkB, decide_eq_false (by omega)]; rfl
    clear hl hf
    go_enter Tryz.func86, Tryz.ntmps86
    go_wp2
    refine bodyPost_ret (v := .bool false) (by simp [results, Tryz.results86, go_sem]) rfl ?_
    exact ⟨ret_bool HR.out.symm, by go_grown⟩
  refine (callsIn_wide (n := 6)).1 ?_
  refine callsIn_of_wp_marks Tryz.func86 rfl trivial ?_ rfl
  simp only [Tryz.ntmps86, List.size_toArray, List.length_cons, List.length_nil, Nat.reduceAdd, Nat.reduceSub, Array.replicate_succ, Array.replicate_zero, List.push_toArray, List.append_toArray, List.nil_append, List.cons_append]
  have hfe : Fence.wide.fn 66 := trivial
  · have h4' : decide ((4 : Int) < (l.length : Int)) = false := by simp; omega
    gi_wp2_with (gi_at_call 66; refine (each_in Fence.wide 5 hfe rfl _ _ _ _).mono ?_; rintro e w' ⟨rfl, rfl⟩)
    have bL := ((Block.new w #[.slice A l.length cap] 38).alloc (.cells #[.bool false] 4)).alloc (.cells #[.slice A l.length cap] 38)
    have bR := (Block.new (w.alloc (.cells #[.slice A l.length cap] 38)) #[.bool false] 4).alloc (.cells #[.slice A l.length cap] 38)
    have bC := Block.new ((w.alloc (.cells #[.slice A l.length cap] 38)).alloc (.cells #[.bool false] 4)) #[.slice A l.length cap] 38
    have hB0 : Below w.heap.size w (((w.alloc (.cells #[.slice A l.length cap] 38)).alloc (.cells #[.bool false] 4)).alloc (.cells #[.slice A l.length cap] 38)) := (((Below.refl _ w).alloc (Nat.le_refl _) _).alloc (by simp) _).alloc (by simp; omega) _
    simp only [World.size_alloc] at bR bC
    have hsz : (((w.alloc (.cells #[.slice A l.length cap] 38)).alloc (.cells #[.bool false] 4)).alloc (.cells #[.slice A l.length cap] 38)).heap.size = w.heap.size + 3 := by simp
    obtain ⟨W0, hW0⟩ : ∃ W0, ((w.alloc (.cells #[.slice A l.length cap] 38)).alloc (.cells #[.bool false] 4)).alloc (.cells #[.slice A l.length cap] 38) = W0 := ⟨_, rfl⟩
    rw [hW0] at bL bR bC hB0 hsz ⊢
    clear hW0
    refine wpIn_rangeFunc_ownH rfl (by omega) (gf := 104) (lb := #[.pointer (some ⟨w.heap.size + 1 + 1, 0, none⟩)]) rfl trivial (enters_of Tryz.func104 (by kernel_rfl) rfl)
      (each_stops Fence.wide 5 trivial rfl (by omega) (w.heap.size + 1 + 1) w.heap.size cap A l hm W0 (by omega) (by omega) (bC.cell 0) (hl.below hB0)) belowK_t (belowK_b (by omega)) (Below.refl _ _) (fun _ => rfl)
      (RightI l A cap w) (RightIx l w)
      (OwnFrom.and (OwnFrom.and (ownFrom_pure _ _) (OwnFrom.and (Own.from (block_own _ _ _) _) (Own.from (block_own _ _ _) _))) (ownFrom_below (Nat.le_refl _) (by omega)))
      (fun c => OwnFrom.and (OwnFrom.and (ownFrom_pure _ _) (Own.from (block_own _ _ _) _)) (ownFrom_below (Nat.le_refl _) (by omega)))
      ⟨⟨(by intro y hy; cases hy), bL, bR⟩, hB0⟩
      (RightAx l A cap w)
      (fun x a' _ X Y row hs hg hr => by obtain ⟨Bx, h1, h2, h3⟩ := hs; exact ⟨Bx, h1, (block_own (β := Unit) Bx _ (fun _ => _)) () X Y row h2 hg (fun r e => (hr r e).2), h3⟩)
      ?assign ?body ?done ?stop
    case assign =>
      rintro lp pre x W K ⟨⟨hp, bL1, bR1⟩, hB1⟩ hK
      dsimp only [encP]
      gi_wp2
      exact hK _ _ ((KeepsOthers.alloc _ _).from _) ((Below.refl _ W).alloc hB1.size _) ⟨⟨hp, bL1.alloc _, bR1.alloc _⟩, hB1.alloc hB1.size _⟩ ⟨W.heap.size, bR1.lt, Block.new W _ _, rfl⟩
    case body =>
      rintro lp pre x a' W hlp ⟨r, hr⟩ ⟨⟨hok, bL1, bR1⟩, hB1⟩ ⟨Bx, hBx, bX, rfl⟩ hlt
      obtain ⟨i, hi⟩ := x
      have hx := at_hAt hi
      have hxs := hf _ (List.mem_of_getElem? hx)
      have hOK : Hid (okAt l i = (wordB (hAt l i).f && (seatB (hAt l i).r (hAt l i).c && (decide (i = 0) || lessB (hAt l (i - 1)) (hAt l i))))) := rfl
      have hIx : Hid (∀ W' : World, okAt l i = false → Block W' (w.heap.size + 1) 4 #[.bool false] → Below w.heap.size w W' → RightIx l w .ret (pre ++ [⟨i, hi⟩]) W') := fun W' h1 h2 h3 => ⟨⟨⟨rfl, pre, ⟨i, hi⟩, rfl, h1⟩, h2⟩, h3⟩
      have hI : Hid (∀ W' : World, okAt l i = true → Block W' w.heap.size 38 #[.slice A l.length cap] → Block W' (w.heap.size + 1) 4 #[.bool false] → Below w.heap.size w W' → RightI l A cap w (pre ++ [⟨i, hi⟩]) W') := fun W' h1 h2 h3 h4 => ⟨⟨(fun y hy => by
        rcases List.mem_append.1 hy with h | h
        · exact hok y h
        · rw [List.mem_singleton.1 h]; exact h1), h2, h3⟩, h4⟩
      dsimp only at *
      have hx' := hx
      generalize hAt l i = X at *
      clear hx hlt hok
      have HW : Hid (∀ W : World, Calls Tryz.prog 112 #[.string X.f] W fun e w' => e = .returned (.bool (wordB X.f)) ∧ W = w') := fun W => iWord_any X.f W hxs
      have HSR : Hid (∀ W : World, Calls Tryz.prog 105 #[seatV X.r X.c] W fun e w' => e = .returned (.bool (seatB X.r X.c)) ∧ Below W.heap.size W w') := fun W => iSeatRight_any X.r X.c W
      have cL := bL1.cell 0
      have cR := bR1.cell 0
      have fR := bR1.free 0
      have x0 := bX.cell 0
      have x1 := bX.cell 1
      have x2 := bX.cell 2
      have hB1d := hB1.size
      cases hbw : wordB X.f
      · rw [hbw] at HW
        have HF : Hid (okAt l i = false) := by rw [Hid, hOK.out, hbw]; rfl
        clear hOK HSR hI hbw
        gi_wp2_with fail
        refine ⟨trivial, (CallsIn.inRound lp (callsIn_wide.2 (HW.out _))).mono ?_⟩
        rintro e w1 ⟨rfl, rfl⟩
        gi_wp2_with fail
        refine ⟨trivial, ?_⟩
        gi_wp2_with fail
        exact ⟨(KeepsOthers.setCell _ _ _).from _, hIx.out _ HF.out (bR1.set_ 0 _) (hB1.setCell (p := ⟨w.heap.size + 1, 0, none⟩) (by simp) _)⟩
      · rw [hbw] at HW
        cases hbs : seatB X.r X.c
        · rw [hbs] at HSR
          have HF : Hid (okAt l i = false) := by rw [Hid, hOK.out, hbw, hbs]; rfl
          clear hOK hI hbw hbs
          gi_wp2_with fail
          refine ⟨trivial, (CallsIn.inRound lp (callsIn_wide.2 (HW.out _))).mono ?_⟩
          rintro e w1 ⟨rfl, rfl⟩
          gi_wp2_with fail
          refine ⟨trivial, (CallsIn.inRound lp (callsIn_wide.2 (HSR.out _))).mono ?_⟩
          rintro e w1 ⟨rfl, hb1⟩
          have bR2 := bR1.on hb1
          have cR2 := bR2.cell 0
          have fR2 := bR2.free 0
          gi_wp2_with fail
          exact ⟨(keeps_of_below hb1 _).trans ((KeepsOthers.setCell _ _ _).from _), hIx.out _ HF.out (bR2.set_ 0 _) ((hB1.trans (hb1.mono hB1.size)).setCell (p := ⟨w.heap.size + 1, 0, none⟩) (by simp) _)⟩
        · rw [hbs] at HSR
          by_cases hi0 : i = 0
          · have HF : Hid (okAt l i = true) := by rw [Hid, hOK.out, hbw, hbs, decide_eq_true hi0]; rfl
            subst hi0
            clear hOK hIx hbw hbs
            gi_wp2_with fail
            refine ⟨trivial, (CallsIn.inRound lp (callsIn_wide.2 (HW.out _))).mono ?_⟩
            rintro e w1 ⟨rfl, rfl⟩
            gi_wp2_with fail
            refine ⟨trivial, (CallsIn.inRound lp (callsIn_wide.2 (HSR.out _))).mono ?_⟩
            rintro e w1 ⟨rfl, hb1⟩
            have bR2 := bR1.on hb1
            have bL2 := bL1.on hb1
            have hmx : Tryz.prog.follows .mixedOrders = true := by kernel_rfl
            gi_wp2_with fail
            gi_region_with_o (refine ⟨trivial, ?_⟩)
            all_goals gi_wp2
            all_goals exact ⟨(keeps_of_below hb1 _).trans ((KeepsOthers.drew _).from _), (hb1.mono hB1d).drew, hI.out _ HF.out bL2.drew bR2.drew (hB1.trans (hb1.mono hB1d)).drew⟩
          · have hi1 : i - 1 < l.length := by omega
            have hd0 : (0 : Int) < (i : Int) := by omega
            have hyl := at_hAt hi1
            have HL : Hid (∀ W : World, Calls Tryz.prog 31 #[holdV (hAt l (i - 1)).f (hAt l (i - 1)).r (hAt l (i - 1)).c, holdV X.f X.r X.c] W fun e w' => e = .returned (.bool (lessB (hAt l (i - 1)) X)) ∧ Below W.heap.size W w') := fun W => iHoldLess_any _ X W
            have HF : Hid (okAt l i = lessB (hAt l (i - 1)) X) := by rw [Hid, hOK.out, hbw, hbs, decide_eq_false hi0]; rfl
            clear hOK hbw hbs hi0
            gi_wp2_with fail
            refine ⟨trivial, (CallsIn.inRound lp (callsIn_wide.2 (HW.out _))).mono ?_⟩
            rintro e w1 ⟨rfl, rfl⟩
            gi_wp2_with fail
            refine ⟨trivial, (CallsIn.inRound lp (callsIn_wide.2 (HSR.out _))).mono ?_⟩
            rintro e w1 ⟨rfl, hb1⟩
            have bR2 := bR1.on hb1
            have bL2 := bL1.on hb1
            have bX2 := bX.on hb1
            have hB2 := hB1.trans (hb1.mono hB1d)
            have hKp := hb1.mono hB1d
            have hKf := keeps_of_below hb1 W0.heap.size
            obtain ⟨b, off, y, rfl, hlb, hy, c0, c1, c2⟩ := (hl.below hB2).hold hi1
            rw [hAt_of hy] at HL HF
            have y0 := bX2.cell 0
            have y1 := bX2.cell 1
            have y2 := bX2.cell 2
            have yL := bL2.cell 0
            have hmx : Tryz.prog.follows .mixedOrders = true := by kernel_rfl
            clear hb1 cL cR fR x0 x1 x2 hyl hy hx'
            gi_wp2_with fail
            have hw1 : IntKind.i64.wrap ((i : Int) - 1) = (i : Int) - 1 := IntWalk.i64_in _ (by omega)
            have hw2 : (0 : Int) ≤ (i : Int) - 1 := by omega
            have hw4 : (i : Int) - 1 < (l.length : Int) := by omega
            have hw3 : ((i : Int) - 1).toNat = i - 1 := by omega
            generalize lessB y X = bl at *
            cases bl
            · gi_region_with_o (first | (refine ⟨trivial, (CallsIn.inRound lp (callsIn_wide.2 (HL.out _))).mono ?_⟩; rintro e w2 ⟨rfl, hb2⟩) | (refine ⟨trivial, ?_⟩))
              all_goals
                have bR3 := bR2.drew.on hb2
                have cR3 := bR3.cell 0
                have fR3 := bR3.free 0
                gi_wp2
                exact ⟨(hKf.trans (((KeepsOthers.drew _).from _).trans (keeps_of_below hb2 _))).trans ((KeepsOthers.setCell _ _ _).from _), hIx.out _ HF.out (bR3.set_ 0 _) ((hB2.drew.trans (hb2.mono hB2.size)).setCell (p := ⟨w.heap.size + 1, 0, none⟩) (by simp) _)⟩
            · gi_region_with_o (first | (refine ⟨trivial, (CallsIn.inRound lp (callsIn_wide.2 (HL.out _))).mono ?_⟩; rintro e w2 ⟨rfl, hb2⟩) | (refine ⟨trivial, ?_⟩))
              all_goals
                gi_wp2
                exact ⟨hKf.trans (((KeepsOthers.drew _).from _).trans (keeps_of_below hb2 _)), hKp.drew.trans (hb2.mono hB2.size), hI.out _ HF.out (bL2.drew.on hb2) (bR2.drew.on hb2) (hB2.drew.trans (hb2.mono hB2.size))⟩
    case done =>
      rintro D ys W hD hS ⟨⟨hok, bL1, bR1⟩, hB1⟩ hK
      have HR : Hid (holdsOkB l = true) := holdsOk_yes (by omega) hS hok
      have cR := bR1.cell 0
      have fR := bR1.free 0
      clear hok bL1 bL bR bC hl hf hS
      gi_wp2
      have hK' := (KeepsOthers.setCell W ⟨w.heap.size + 1, 0, none⟩ (.bool true)).same D _ hK rfl
      refine ⟨by simp, .inl ⟨_, _, rfl, run_takeDeferred hK', ?_⟩⟩
      have hc5 := cell_kept (show (W.setCell ⟨w.heap.size + 1, 0, none⟩ (.bool true)).cell? ⟨w.heap.size + 1, 0, none⟩ = some (.bool true) from (bR1.set_ 0 _).cell 0) (grownBy_putObj' _ D (.deferred none)) (fun r e => by cases e; exact ⟨_, hK', rfl⟩)
      refine ⟨.bool true, ?_, ret_bool HR.out.symm, (hB1.setCell (p := ⟨w.heap.size + 1, 0, none⟩) (by simp) _).trans (belowK_b (w := w) (Nat.le_refl _) _ D _ _ (by omega) hK' rfl rfl)⟩
      simp [results, Tryz.f86, go_sem, hc5]
    case stop =>
      rintro D c pre W hD ⟨k, hk, hF⟩ ⟨⟨⟨rfl, hbad⟩, bR1⟩, hB1⟩ hK
      have HR : Hid (holdsOkB l = false) := holdsOk_no hbad
      clear bL bR bC hl hf
      gi_wp2
      refine ⟨by simp, .inl ⟨_, _, rfl, run_takeDeferred hK, ?_⟩⟩
      have hc5 := cell_kept (show W.cell? ⟨w.heap.size + 1, 0, none⟩ = some (.bool false) from bR1.cell 0) (grownBy_putObj' _ D (.deferred none)) (fun r e => by cases e; exact ⟨_, hK, rfl⟩)
      refine ⟨.bool false, ?_, ret_bool HR.out.symm, hB1.trans (belowK_b (w := w) (Nat.le_refl _) W D _ _ (by omega) hK rfl rfl)⟩
      simp [results, Tryz.f86, go_sem, hc5]
end Go.Proofs.YtpncnkihfijmaaaGreatDoor
