/-
  FnExactHoldPut: the walk and the row: at every list of holds and every hold impl answers as spec, in memory of its own, and below the old heap nothing has turned.
-/
import Derived.Test.YtagbcfkdieinpaaOpenHold
import Derived.Test.YtagbcfkdieinpaaHoldPutI
import Derived.Test.YtagbcfkdieinpaaHoldEq
import Derived.Test.YtagbcfkdieinpaaMarkHolds
import Derived.Test.YtagbcfkdieinpaaBoxes
import Derived.Test.YtagbcfkdieinpaaLift
import Derived.Deep.RegionWith
import Derived.Deep.DeepCutAuto
namespace Go.Proofs.Ytagbcfkdieinpaa
open Go.ChangeShapes Go.WideShapes Go.ChangeAt Go.RowKit Go.ChangeMaps
set_option linter.unusedSimpArgs false
set_option linter.unusedVariables false

theorem size_le_tot {l : List HD} {y : HD} (h : y ∈ l) : y.f.size ≤ tot l := by
  obtain ⟨i, hi, rfl⟩ := List.getElem_of_mem h
  have h1 := tot_take_succ (List.getElem?_eq_getElem hi)
  have h2 := tot_take_le l (i + 1)
  omega

/-- The world as the law's walk knows it: what lay lies; its box holds the hold. -/
def OneH (w : World) (x : HD) (W : World) : Prop := Below w.heap.size w W ∧ Box W w.heap.size 25 #[.string x.f, .int .i64 x.r, .int .i64 x.c]
theorem OneH.drew {w W : World} {x : HD} (h : OneH w x W) : OneH w x W.drew := ⟨h.1.drew, h.2⟩
theorem OneH.on {w W W' : World} {x : HD} (h : OneH w x W) (hb : Below W.heap.size W W') : OneH w x W' := ⟨h.1.trans (hb.mono h.1.size), h.2.on hb⟩
theorem OneH.grown {w W W' : World} {x : HD} {row : Option Nat} (h : OneH w x W) (hg : W.grownBy W' row) (hr : ∀ g, row = some g → w.heap.size < g) : OneH w x W' :=
  ⟨h.1.grown hg h.1.size (fun g e => Nat.le_of_lt (hr g e)), (hg.block w.heap.size h.2.lt (fun e => by have := hr _ e.symm; omega)).trans h.2⟩

/-- Two rows of one's own beside it. -/
def LawS (w : World) (x : HD) (v6 : Value) (n6 : Nat) (xs6 : List Value) (b8 : Nat) (v8 : Value) (n8 : Nat) (xs8 : List Value) (W : World) : Prop :=
  OneH w x W ∧ W.ownsRow w.heap.size 30 3 v6 n6 xs6 ∧ W.ownsRow b8 30 3 v8 n8 xs8
section
variable {w W W' : World} {x : HD} {v6 : Value} {n6 : Nat} {xs6 : List Value} {b8 : Nat} {v8 : Value} {n8 : Nat} {xs8 : List Value}
theorem LawS.drew (h : LawS w x v6 n6 xs6 b8 v8 n8 xs8 W) : LawS w x v6 n6 xs6 b8 v8 n8 xs8 W.drew := ⟨h.1.drew, h.2.1, h.2.2⟩
theorem LawS.on (h : LawS w x v6 n6 xs6 b8 v8 n8 xs8 W) (hb : Below W.heap.size W W') : LawS w x v6 n6 xs6 b8 v8 n8 xs8 W' := ⟨h.1.on hb, ownsRow_below h.2.1 hb, ownsRow_below h.2.2 hb⟩
end

set_option maxHeartbeats 4000000 in
theorem holdPut_walk (l : List HD) (A : Option Addr) (cap : Nat) (x : HD) (w : World) (hm : l.length ≤ maxLen) (hf : ∀ y ∈ l, y.f.size ≤ maxLen) (hl : Lies w w.heap.size 3 A l.length (holdsC l)) (hxf : x.f.size ≤ maxLen) :
    Calls Try.prog 4 #[.slice A l.length cap, holdV x.f x.r x.c] w fun e w' => Holds e w w' := by
  have HZL : Hid (∀ W : World, Below w.heap.size w W → Calls Try.prog 11 #[.slice A l.length cap, .int .i64 1048576] W fun e w' => e = .returned (.int .i64 (leftI 1048576 l)) ∧ Below W.heap.size W w') :=
    fun W hW => szHoldS_any l A cap 1048576 W (hl.on hW) hm hf (by omega) (by omega)
  have HZX : ¬ (1048576 : Int) < (l.length + tot l : Nat) → Hid (∀ W : World, Calls Try.prog 7 #[holdV x.f x.r x.c, .int .i64 (1048576 - (l.length + tot l : Nat))] W fun e w' => e = .returned (.int .i64 (if (1048576 - (l.length + tot l : Nat) : Int) < x.f.size then -1 else 1048576 - (l.length + tot l : Nat) - x.f.size)) ∧ Below W.heap.size W w') :=
    fun h W => szHold_any x.f x.r x.c _ W hxf (by omega) (by omega)
  unfold leftI at HZL
  have HTL : ¬ (1048576 : Int) < (l.length + tot l : Nat) → Hid (∀ W : World, Below w.heap.size w W → Calls Try.prog 13 #[.slice A l.length cap] W fun e w' => e = .returned (.slice (some ⟨W.heap.size, 0, none⟩) l.length l.length) ∧
      w'.ownsRow W.heap.size 30 3 (.slice (some ⟨W.heap.size, 0, none⟩) l.length l.length) l.length (holdsC l) ∧ Below W.heap.size W w') := fun h W hW => toHoldS_any l A cap W (hl.on hW) (by omega)
  have HTX : Hid (∀ W : World, Calls Try.prog 9 #[holdV x.f x.r x.c] W fun e w' => e = .returned (holdV x.f x.r x.c) ∧ Below W.heap.size W w') := fun W => toHold_any x.f x.r x.c W
  have HS : ¬ (1048576 : Int) < (l.length + tot l : Nat) → Hid (∀ (W : World) (B : Option Addr) (c : Nat), Lies W W.heap.size 3 B l.length (holdsC l) → l.length ≤ c → Calls Try.prog 12 #[.slice B l.length c, holdV x.f x.r x.c] W (HoldsMade (putL l x) W)) :=
    fun h W B c h1 h2 => sHoldPut_any l x B c W h1 h2 (by omega)
  have HI : ¬ (1048576 : Int) < (l.length + tot l : Nat) → ¬ (1048576 : Int) < x.f.size → Hid (∀ (W : World) (B : Option Addr) (c : Nat), Lies W W.heap.size 3 B l.length (holdsC l) → Calls Try.prog 14 #[.slice B l.length c, holdV x.f x.r x.c] W (HoldsMade (putL l x) W)) :=
    fun h h' W B c h1 => iHoldPut_any l x B c W h1 (by omega) (fun y hy => by have := size_le_tot hy; omega) (by omega)
  have HEL : ¬ (1048576 : Int) < (l.length + tot l : Nat) → Hid (∀ (W : World) (B B' : Option Addr) (c c' : Nat), Lies W W.heap.size 3 B l.length (holdsC l) → Lies W W.heap.size 3 B' l.length (holdsC l) → Calls Try.prog 15 #[.slice B l.length c, .slice B' l.length c'] W fun e w' => e = .returned (.bool true) ∧ Below W.heap.size W w') :=
    fun h W B B' c c' h1 h2 => eqHoldS_same l B B' l.length c c' W rfl h1 h2 (by omega)
  have hPn : (putL l x).length ≤ 401 := putL_le l x
  have HEP : Hid (∀ (W : World) (B B' : Option Addr) (c c' : Nat), Lies W W.heap.size 3 B (putL l x).length (holdsC (putL l x)) → Lies W W.heap.size 3 B' (putL l x).length (holdsC (putL l x)) → Calls Try.prog 15 #[.slice B (putL l x).length c, .slice B' (putL l x).length c'] W fun e w' => e = .returned (.bool true) ∧ Below W.heap.size W w') :=
    fun W B B' c c' h1 h2 => eqHoldS_same (putL l x) B B' _ c c' W rfl h1 h2 (by omega)
  have HMK : Hid (∀ (W : World) (base n c : Nat) (B : Option Addr) (xs : List Value), W.ownsRow base 30 3 (.slice B n c) n xs → base ≤ W.heap.size → n ≤ 1099511627 → Calls Try.prog 16 #[.slice B n c, .int .i64 1] W fun e w' => e = .returned (.int .i64 ((1 + 3 * n : Nat) : Int)) ∧ w'.ownsRow base 30 3 (.slice B n c) n (holdsC (marksL 1 n)) ∧ W.grownBy w' (Value.slice B n c).ownBlock) :=
    fun W base n c B xs h1 h2 h3 => markHoldS_any base 1 n c B xs W h1 h2 (by omega) (by omega) h3
  have HHD : Hid (∀ (W : World) (n c : Nat) (B : Option Addr), Lies W W.heap.size 3 B n (holdsC (marksL 1 n)) → n ≤ 1099511627 → Calls Try.prog 17 #[.slice B n c, .int .i64 1] W fun e w' => e = .returned (.int .i64 ((1 + 3 * n : Nat) : Int)) ∧ Below W.heap.size W w') :=
    fun W n c B h1 h3 => heldHoldS_any 1 n c B W h1 (by omega) (by omega) h3
  clear hl hf
  generalize putL l x = P at *
  generalize tot l = T0 at *
  obtain ⟨xf, xr, xc⟩ := x
  unfold maxLen at hm hxf
  dsimp only at *
  by_cases hX : (1048576 : Int) < (l.length + T0 : Nat)
  · rw [if_pos hX] at HZL
    clear HZX HTL HTX HS HI HEL HEP HMK HHD
    go_enter Try.func4, Try.ntmps4
    go_wp2_with fail
    refine (HZL.out _ (by go_grown)).mono ?_
    rintro e w1 ⟨rfl, hb1⟩
    go_wp2_with fail
    go_ret
    exact ⟨rfl, boxed hb1⟩
  rw [if_neg hX] at HZL
  replace HZX := HZX hX
  replace HTL := HTL hX
  replace HS := HS hX
  replace HI := HI hX
  replace HEL := HEL hX
  by_cases hY : (1048576 - (l.length + T0 : Nat) : Int) < xf.size
  · rw [if_pos hY] at HZX
    clear HTL HTX HS HI HEL HEP HMK HHD
    go_enter Try.func4, Try.ntmps4
    go_wp2_with fail
    refine (HZL.out _ (by go_grown)).mono ?_
    rintro e w1 ⟨rfl, hb1⟩
    have T1 : OneH w ⟨xf, xr, xc⟩ w1 := ⟨boxed hb1, (Box.new w _ _).on hb1⟩
    have q1 := T1.2.cells
    clear hb1
    go_wp2_with fail
    refine (HZX.out _).mono ?_
    rintro e w2 ⟨rfl, hb2⟩
    go_wp2_with fail
    go_ret
    exact ⟨rfl, (T1.on hb2).1⟩
  rw [if_neg hY] at HZX
  replace HI := HI (by omega)
  go_enter Try.func4, Try.ntmps4
  go_wp2_with fail
  refine (HZL.out _ (by go_grown)).mono ?_
  rintro e w1 ⟨rfl, hb1⟩
  have T1 : OneH w ⟨xf, xr, xc⟩ w1 := ⟨boxed hb1, (Box.new w _ _).on hb1⟩
  have q1 := T1.2.cells
  clear hb1
  go_wp2_with fail
  refine (HZX.out _).mono ?_
  rintro e w2 ⟨rfl, hb2⟩
  have T2 := T1.on hb2
  clear q1 T1 hb2
  have hn1 : ¬ ((1048576 : Int) - (l.length + T0 : Nat) - xf.size < 0) := by omega
  go_upto_region 8 with fail
  go_cut [6] (fun v W => ∃ B c, v = .slice B P.length c ∧ W.ownsRow w.heap.size 30 3 (.slice B P.length c) P.length (holdsC P) ∧ OneH w ⟨xf, xr, xc⟩ W)
  case first =>
    have q2 := T2.2.cells
    go_region_with (first
      | (go_at_call 13; (with_reducible refine (HTL.out _ ?_).mono ?_); (first | exact T2.1 | exact T2.drew.1 | exact TB.1); rintro e wA ⟨rfl, hoA, hbA⟩; (first | (have TA := TB.on hbA) | (have TA := T2.on hbA) | (have TA := T2.drew.on hbA)); have qA := TA.2.cells; have hlA := Lies.own hoA; have TZ := TA)
      | (go_at_call 9; (with_reducible refine (HTX.out _).mono ?_); rintro e wB ⟨rfl, hbB⟩; (first | (have TB := TA.on hbB; have hlB := hlA.on hbB) | (have TB := T2.on hbB) | (have TB := T2.drew.on hbB)); have qB := TB.2.cells; have TY := TB)
      | (go_at_call 12; (first | refine (HS.out _ _ _ hlB (Nat.le_refl _)).mono ?_ | refine (HS.out _ _ _ hlA (Nat.le_refl _)).mono ?_); rintro e wC ⟨AC, cC, rfl, hoC, hbC⟩; (first | (have TC := TB.on hbC; have zC := TB.1.size) | (have TC := TA.on hbC; have zC := TA.1.size))))
    all_goals
      go_wp2_with fail
      go_meet
      exact ⟨AC, cC, rfl, ownsRow_base hoC zC, TC⟩
  case rest =>
    obtain ⟨B6, c6, rfl, R6, T3⟩ := hcut
    clear T2
    have q3 := T3.2.cells
    clear hn1
    go_wp2_with fail
    refine (HTL.out _ T3.1).mono ?_
    rintro e w4 ⟨rfl, R7, hb4⟩
    have T4 := T3.on hb4
    have R6b := ownsRow_below R6 hb4
    have H6 := Lib.hid (fun (g : Nat) (hg : (Value.slice B6 P.length c6).ownBlock = some g) => (R6.lt g hg).2)
    have h37 := T3.2.lt
    have q4 := T4.2.cells
    clear T3 q3 hb4 R6
    go_wp2_with fail
    refine (HTX.out _).mono ?_
    rintro e w5 ⟨rfl, hb5⟩
    have T5 := T4.on hb5
    have R6c := ownsRow_below R6b hb5
    have R7c := ownsRow_below R7 hb5
    have h57 := (R7c.lt _ rfl).2
    clear T4 q4 hb5 R6b R7
    go_wp2_with fail
    refine (HI.out _ _ _ (Lies.own R7c)).mono ?_
    rintro e w6 ⟨B8, c8, rfl, R8, hb6⟩
    have T6 := T5.on hb6
    have hz6 : w5.heap.size ≤ w6.heap.size := hb6.size
    have R6d := ownsRow_below R6c hb6
    have R7d := ownsRow_below R7c hb6
    clear T5 hb6 R6c R7c
    go_wp2_with fail
    refine (HEP.out _ _ _ _ _ (Lies.own R8) (Lies.own R6d)).mono ?_
    rintro e w7 ⟨rfl, hb7⟩
    have T7 := T6.on hb7
    have hz7 : w5.heap.size ≤ w7.heap.size := Nat.le_trans hz6 hb7.size
    have R6e := ownsRow_below R6d hb7
    have R7e := ownsRow_below R7d hb7
    have R8e := ownsRow_below R8 hb7
    clear T6 hb7 R6d R7d R8
    go_wp2_with fail
    refine (HTL.out _ T7.1).mono ?_
    rintro e w8 ⟨rfl, R9, hb8⟩
    have T8 := T7.on hb8
    have hz8' : w5.heap.size ≤ w8.heap.size := Nat.le_trans hz7 hb8.size
    have R6f := ownsRow_below R6e hb8
    have R7f := ownsRow_below R7e hb8
    have R8f := ownsRow_below R8e hb8
    clear T7 hb8 R6e R7e R8e
    go_wp2_with fail
    refine (HEL.out _ _ _ _ _ (Lies.own R7f) (Lies.own R9)).mono ?_
    rintro e w9 ⟨rfl, hb9⟩
    have T9 := T8.on hb9
    have hz9 : w5.heap.size ≤ w9.heap.size := Nat.le_trans hz8' hb9.size
    have R6g := ownsRow_below R6f hb9
    have R7g := ownsRow_below R7f hb9
    have R8g := ownsRow_below R8f hb9
    clear T8 hb9 R6f R7f R8f R9
    go_wp2_with fail
    refine (HMK.out _ _ _ _ _ _ R7g (Nat.le_of_lt (R7g.lt _ rfl).2) (by omega)).mono ?_
    rintro e w10 ⟨rfl, -, hg10⟩
    have hz10 : w5.heap.size ≤ w10.heap.size := Nat.le_trans hz9 hg10.size
    have TA := T9.grown hg10 (fun g e => by cases e; exact h37)
    have R6h := own_grown R6g hg10 (fun g hg e => by cases e; exact Nat.lt_irrefl _ (H6.out _ hg))
    have R8h := own_grown R8g hg10 (fun g hg e => by cases e; exact absurd (R8g.lt _ hg).1 (Nat.not_le_of_lt h57))
    clear T9 R6g R7g R8g hg10
    have hp1 : ¬ (((1 + 3 * l.length : Nat) : Int) < 0) := by omega
    have hp2 : ¬ ((1 : Int) + 3 * (l.length : Int) < 0) := by omega
    go_wp2_with fail
    refine (HEP.out _ _ _ _ _ (Lies.own R8h) (Lies.own R6h)).mono ?_
    rintro e w11 ⟨rfl, hb11⟩
    have TB := TA.on hb11
    have hz11 : w5.heap.size ≤ w11.heap.size := Nat.le_trans hz10 hb11.size
    have R6i := ownsRow_below R6h hb11
    have R8i := ownsRow_below R8h hb11
    clear TA hb11 R6h R8h hp1 hp2
    have hb8 : ∀ g, (Value.slice B8 P.length c8).ownBlock = some g → w5.heap.size ≤ g := fun g hg => (R8i.lt g hg).1
    have hz8 : w5.heap.size ≤ w11.heap.size := hz11
    go_wp2_with fail
    refine (HMK.out _ _ _ _ _ _ R8i hz8 (by omega)).mono ?_
    rintro e w12 ⟨rfl, R8j, hg12⟩
    have TC := TB.grown hg12 (fun g e => by have := hb8 g e; omega)
    have R6j := own_grown R6i hg12 (fun g hg e => by have h1 := hb8 g e; have h2 := H6.out g hg; omega)
    clear TB R6i R8i hg12
    go_wp2_with fail
    refine (HHD.out _ _ _ _ (Lies.own R8j) (by omega)).mono ?_
    rintro e w13 ⟨rfl, hb13⟩
    have S13 : LawS w ⟨xf, xr, xc⟩ (.slice B6 P.length c6) P.length (holdsC P) w5.heap.size (.slice B8 P.length c8) P.length (holdsC (marksL 1 P.length)) w13 := ⟨TC.on hb13, ownsRow_below R6j hb13, ownsRow_below R8j hb13⟩
    clear TC hb13 R6j R8j
    have hp1 : ¬ (((1 + 3 * P.length : Nat) : Int) < 0) := by omega
    have hp2 : ¬ ((1 : Int) + 3 * (P.length : Int) < 0) := by omega
    go_upto_region 27 with fail
    go_cut [12] (fun v W => ∃ B c, v = .slice B P.length c ∧ Lies W W.heap.size 3 B P.length (holdsC P) ∧ LawS w ⟨xf, xr, xc⟩ (.slice B6 P.length c6) P.length (holdsC P) w5.heap.size (.slice B8 P.length c8) P.length (holdsC (marksL 1 P.length)) W)
    case first =>
      have q2 := S13.1.2.cells
      go_region_with (first
        | (go_at_call 13; (with_reducible refine (HTL.out _ ?_).mono ?_); (first | exact S13.1.1 | exact S13.drew.1.1 | exact TB.1.1); rintro e wA ⟨rfl, hoA, hbA⟩; (first | (have TA := TB.on hbA) | (have TA := S13.on hbA) | (have TA := S13.drew.on hbA)); have qA := TA.1.2.cells; have hlA := Lies.own hoA; have TZ := TA)
        | (go_at_call 9; (with_reducible refine (HTX.out _).mono ?_); rintro e wB ⟨rfl, hbB⟩; (first | (have TB := TA.on hbB; have hlB := hlA.on hbB) | (have TB := S13.on hbB) | (have TB := S13.drew.on hbB)); have qB := TB.1.2.cells; have TY := TB)
        | (go_at_call 14; (first | refine (HI.out _ _ _ hlB).mono ?_ | refine (HI.out _ _ _ hlA).mono ?_); rintro e wC ⟨AC, cC, rfl, hoC, hbC⟩; (first | have TC := TB.on hbC | have TC := TA.on hbC)))
      all_goals
        go_wp2_with fail
        go_meet
        exact ⟨AC, cC, rfl, Lies.own hoC, TC⟩
    case rest =>
      obtain ⟨BE, cE, rfl, hlE, SE⟩ := hcut
      clear S13
      go_wp2_with fail
      refine (HEP.out _ _ _ _ _ hlE (Lies.own SE.2.1)).mono ?_
      rintro e w15 ⟨rfl, hb15⟩
      have SF := SE.on hb15
      clear SE hlE hb15
      go_wp2_with fail
      refine (HHD.out _ _ _ _ (Lies.own SF.2.2) (by omega)).mono ?_
      rintro e w16 ⟨rfl, hb16⟩
      have SG := SF.on hb16
      clear SF hb16
      go_wp2_with fail
      go_ret
      exact ⟨rfl, SG.1.1⟩

set_option maxRecDepth 100000 in
theorem fnExactHoldPut_lifted (os : Os) (started : os.Started) (H : Type) (enc : TypeId × Value → H) :
    ReturnsInHanded {} Try.checked os 4 .any (Rows.fnExactHoldPutSpec.pre6 enc Try.prog Try.f4 Rows.fnExactHoldPutRow.domain false) (Rows.fnExactHoldPutSpec.post enc Try.prog Try.f4 false true false false) := by
  refine law_lifted started (by kernel_rfl) Try.func4 rfl rfl Try.underlying4 (by rw [Try.params4]; exact List.forall_mem_cons.2 ⟨⟨by kernel_rfl, of_decide_eq_true (by kernel_rfl)⟩, List.forall_mem_cons.2 ⟨⟨by kernel_rfl, of_decide_eq_true (by kernel_rfl)⟩, fun _ h => by cases h⟩⟩) (fun ds hd => ?_)
    (ChangeSpec.witness6 (enc := enc) (C := Try.checked) false ⟨#[], #[.slice none 0 0, .agg #[.string ⟨#[]⟩, .int .i64 0, .int .i64 0]], []⟩ 8 (by kernel_rfl) (by kernel_rfl) (by kernel_rfl) (by kernel_rfl)) ?_
  · match ds, hd with
    | [_, _], _ => rfl
  · intro W base args ds p hval hA hlt _
    rw [Try.params4] at hA hval
    obtain ⟨v0, vs0, d0, ds0, p0, q0, hargs, rfl, rfl, h0, r0⟩ := trodAll_cons hA
    obtain ⟨v1, vs1, d1, ds1, p1, q1, rfl, rfl, rfl, h1, r1⟩ := trodAll_cons r0
    obtain ⟨rfl, rfl, rfl⟩ := trodAll_nil r1
    obtain rfl : args = #[v0, v1] := by cases args; simp_all
    obtain ⟨a0l, a0a, a0c, rfl, m0, f0, l0⟩ := open_holds_arg (hval 0 33 v0 rfl rfl) h0
    obtain ⟨a1h, rfl, -, w1⟩ := open_hold (hval 1 25 v1 rfl rfl) h1
    exact holdPut_walk a0l a0a a0c a1h W m0 f0 l0 w1

theorem fnExactHoldPut_holds : Rows.FnExactHoldPutSaid :=
  OpenClaim.holds_of_wide 4 Try.f4 rfl rfl rfl rfl rfl rfl rfl ⟨rfl, rfl, rfl, rfl, rfl⟩ rfl rfl rfl rfl rfl (by kernel_rfl) Try.func4 (by kernel_rfl)
    (of_decide_eq_true (by kernel_rfl)) (by unfold Func.isWrapper; first | (rw [if_pos (by decide +kernel)]; kernel_rfl) | (rw [if_neg (by decide +kernel)]; exact ⟨rfl, rfl⟩))
    (fun os started H enc _ => fnExactHoldPut_lifted os started H enc)
end Go.Proofs.Ytagbcfkdieinpaa
