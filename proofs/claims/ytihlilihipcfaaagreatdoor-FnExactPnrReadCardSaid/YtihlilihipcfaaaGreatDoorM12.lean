/-
  impl.PnrRead answers 'readP', in memory of its own. spec.PnrRead answers 'readP', in memory of its own. markText: a letter, and a number in digits; the marks of a list of holds. Lists of holds: the laws' marks are written, and found again.
-/
import Derived.Test.YtihlilihipcfaaaGreatDoorM10
import Derived.Test.YtihlilihipcfaaaGreatDoorTextIZ
import Derived.Test.YtihlilihipcfaaaGreatDoorM7
import Derived.Test.YtihlilihipcfaaaGreatDoorM9
import Derived.Test.YtihlilihipcfaaaGreatDoorM6
import Derived.Test.YtihlilihipcfaaaGreatDoorM4
import Derived.Test.YtihlilihipcfaaaGreatDoorM2
namespace Go.Proofs.YtihlilihipcfaaaGreatDoor
open Go.ChangeShapes Go.WideShapes Go.ChangeAt Go.RowKit Go.ChangeMaps
set_option maxRecDepth 10000
set_option linter.unusedSimpArgs false
set_option linter.unusedVariables false

abbrev outPV (p : PD) (A1 : Option Addr) (c1 : Nat) (A2 : Option Addr) (c2 : Nat) (code : Int) : Value :=
  .agg #[.int .i64 p.home, .int .i64 p.loc, .int .i64 p.owner, .slice A1 p.names.length c1, .slice A2 p.holds.length c2, .bool p.live, .int .i64 p.offer, .int .i64 code]
abbrev zeroO : Array Value := #[.int .i64 0, .int .i64 0, .int .i64 0, .slice none 0 0, .slice none 0 0, .bool false, .int .i64 0, .int .i64 0]
/-- What PnrRead gives: a booking whose lists are rows of one's own, and a code. -/
def OutMade (p : PD) (code : Int) (w : World) (e : Ending) (w' : World) : Prop :=
  (∃ A1 c1 A2 c2, e = .returned (outPV p A1 c1 A2 c2 code) ∧ w'.ownsRow w.heap.size 9 1 (.slice A1 p.names.length c1) p.names.length (strsC p.names) ∧
    w'.ownsRow w.heap.size 51 3 (.slice A2 p.holds.length c2) p.holds.length (holdsC p.holds)) ∧ Below w.heap.size w w'
theorem outMade_none {code : Int} {w w' : World} (hb : Below w.heap.size w w') : OutMade ⟨0, 0, 0, [], [], false, 0⟩ code w (.returned (outPV ⟨0, 0, 0, [], [], false, 0⟩ none 0 none 0 code)) w' :=
  ⟨⟨none, 0, none, 0, rfl, ⟨rfl, .inl ⟨rfl, rfl⟩⟩, ⟨rfl, .inl ⟨rfl, rfl⟩⟩⟩, hb⟩

theorem below_set_own {w W : World} (h : Below w.heap.size w W) (i : Nat) (v : Value) : Below w.heap.size w (W.setCell ⟨w.heap.size, i, none⟩ v) := h.setCell (Nat.le_refl _) _
theorem pnrOf_any (ws : List ByteArray) (A : Option Addr) (w : World) (hl : Lies w w.heap.size 1 A ws.length (strsC ws)) (hs : ∀ x ∈ ws, x.size ≤ 8000) (hn : ws.length ≤ 100000) (hE : Env w) :
    Calls Tryz.prog 62 #[.slice A ws.length ws.length] w (OfGot ws w) := by
  by_cases h4 : ws.length < 4
  · exact pnrOf_few ws A ws.length w h4
  · match ws, h4, hl, hs, hn with
    | a :: b :: c :: d :: r, _, hl, hs, hn =>
      obtain ⟨bn, off, rfl, -, -⟩ := hl.2 (by simp)
      exact pnrOf_many a b c d r bn off _ _ w (by simp) (Nat.le_refl _) hn hl hs hE
    | [], h, _, _, _ => exact absurd (by simp) h
    | [_], h, _, _, _ => exact absurd (by simp) h
    | [_, _], h, _, _, _ => exact absurd (by simp) h
    | [_, _, _], h, _, _, _ => exact absurd (by simp) h
theorem FitN.fit {p : PD} {N : Nat} (h : FitN p N) (hN : N ≤ 100000) : PFit p := by
  obtain ⟨h1, h2, h3, h4⟩ := h
  unfold PFit maxLen
  exact ⟨by omega, fun x hx => Nat.le_trans (h3 x hx) (by omega), by omega, fun x hx => Nat.le_trans (h4 x hx) (by omega)⟩

set_option maxHeartbeats 4000000 in
theorem iPnrRead_any (s : ByteArray) (w : World) (hE : Env w) : Calls Tryz.prog 17 #[.string s] w (OutMade (readP s).1 (readP s).2 w) := by
  by_cases hs : 8000 < s.size
  · rw [readP_long hs]
    go_enter Tryz.func17, Tryz.ntmps17
    go_wp2_with (go_at_call 41; refine (tooLong_any _ _).mono ?_; rintro e w1 ⟨rfl, rfl⟩)
    refine bodyPost_ret (v := outPV ⟨0, 0, 0, [], [], false, 0⟩ none 0 none 0 2) (by simp [results, Tryz.results17, go_sem]) rfl ?_
    exact outMade_none (by go_grown)
  · have hs8 : s.size ≤ 8000 := by omega
    have hm := cutB_many 32 s
    have HSp : Hid (∀ W, Env W → Calls Tryz.prog 63 #[.string s, .string ⟨#[32]⟩] W (Splits (cutB 32 s) W)) := fun W hW => split_any s 32 W (by omega) hW.2
    have HOf : Hid (∀ W A, Env W → Lies W W.heap.size 1 A (cutB 32 s).length (strsC (cutB 32 s)) → Calls Tryz.prog 62 #[.slice A (cutB 32 s).length (cutB 32 s).length] W (OfGot (cutB 32 s) W)) :=
      fun W A hW hl => pnrOf_any _ A W hl (fun x hx => Nat.le_trans (cutB_sizes 32 s x hx) hs8) (by omega) hW
    have HRd : Hid (∀ p, FitN p (cutB 32 s).length → (∀ q, rightB q = true → cutB 32 s = wordsP q → p = q) → PFit p ∧ p.names.length ≤ 100000 ∧ p.holds.length ≤ 100000 ∧ readP s = if rightB p = true ∧ textT p = s then (p, 0) else (⟨0, 0, 0, [], [], false, 0⟩, 3)) :=
      fun p hf hq => ⟨hf.fit (by omega), Nat.le_trans hf.1 (by omega), Nat.le_trans hf.2.1 (by omega), readP_of hs8 (fun q hr ht => hq q hr (by rw [← ht]; exact cut_text hr))⟩
    generalize cutB 32 s = ws at *
    have hsI : ¬ (8000 : Int) < (s.size : Int) := by omega
    have HEE := Lib.hid hE
    generalize readP s = R at *
    clear hs hm hE
    unfold Splits at HSp
    go_enter Tryz.func17, Tryz.ntmps17
    go_wp2_with (go_at_call 41; refine (tooLong_any _ _).mono ?_; rintro e w1 ⟨rfl, rfl⟩)
    refine (HSp.out _ (HEE.out.on ((Below.refl _ _).alloc (Nat.le_refl _) _))).mono ?_
    rintro e w1 ⟨⟨A, rfl, hl1⟩, hb1⟩
    have Z1 : Block w1 w.heap.size 42 zeroO := (Block.new w _ _).on hb1
    have hB1 : Below w.heap.size w w1 := boxed hb1
    clear hb1
    go_wp2_with fail
    refine (HOf.out _ _ (HEE.out.on hB1) hl1).mono ?_
    rintro e w2 ⟨⟨p, A1, c1, A2, c2, rfl, hr1, hr2, hfit, hq⟩, hb2⟩
    obtain ⟨hPF, hp1, hp2, hRd⟩ := HRd.out p hfit hq
    have Z2 := Z1.on hb2
    have hB2 : Below w.heap.size w w2 := hB1.trans (hb2.mono hB1.size)
    have hz1 := Z1.lt
    have P2 : PSt (w1.heap.size + 1) w2.heap.size p A1 c1 A2 c2 (w2.alloc (.cells (pdCs p A1 c1 A2 c2) 40)) := ⟨Block.new w2 _ _, hr1.alloc _, hr2.alloc _⟩
    have Z3 := Z2.alloc (.cells (pdCs p A1 c1 A2 c2) 40)
    have hB3 := hB2.alloc hB2.size (.cells (pdCs p A1 c1 A2 c2) 40)
    have HP : Hid (∀ W A1 c1 A2 c2, PLies W W.heap.size p A1 A2 → Calls Tryz.prog 32 #[pdV p A1 c1 A2 c2] W fun e w' => e = .returned (.bool (rightB p)) ∧ Below W.heap.size W w') := fun W A1 c1 A2 c2 hl => iPnrRight_any p A1 c1 A2 c2 W hl hPF (by omega) (by omega)
    have HT : Hid (∀ W A1 c1 A2 c2, PLies W W.heap.size p A1 A2 → Calls Tryz.prog 22 #[pdV p A1 c1 A2 c2] W fun e w' => e = .returned (.string (textT p)) ∧ Below W.heap.size W w') := fun W A1 c1 A2 c2 hl => iPnrText_any p A1 c1 A2 c2 W hl hPF (by omega) (by omega)
    have HRd2 := Lib.hid hRd
    clear HSp HOf HRd HEE hl1 hB1 Z1 hr1 hr2 hfit hq hb2 Z2 hB2 hPF hp1 hp2 hRd
    have hzw : w.heap.size < w1.heap.size := hz1
    cases hr : rightB p
    · have HR : Hid (R = (⟨0, 0, 0, [], [], false, 0⟩, 3)) := by rw [Hid, HRd2.out, hr, if_neg (by simp)]
      rw [hr] at HP
      clear HRd2 HT hr
      obtain ⟨ph, pl, po, ns, hs, pb, pf⟩ := p
      dsimp only [pdV, pdCs] at *
      go_wp2_with fail
      refine (HP.out _ _ _ _ _ P2.lies).mono ?_
      rintro e w3 ⟨rfl, hb3⟩
      have Z4 := Z3.on hb3
      have z4 := Z4.cell
      have f4 := Z4.free
      have HB4 := Lib.hid (hB3.trans (hb3.mono hB3.size))
      clear hb3 Z3 hB3 P2 HP
      go_wp2_with fail
      refine bodyPost_ret (v := outPV ⟨0, 0, 0, [], [], false, 0⟩ none 0 none 0 3) (by simp [results, Tryz.results17, go_sem, z4, f4]) rfl ?_
      rw [HR.out]
      refine outMade_none ?_
      iterate 8 (refine below_set_own ?_ _ _)
      exact HB4.out
    · rw [hr] at HP
      by_cases ht : textT p = s
      · have HR : Hid (R = (p, 0)) := by rw [Hid, HRd2.out, if_pos ⟨hr, ht⟩]
        rw [ht] at HT
        clear HRd2 hr ht
        obtain ⟨ph, pl, po, ns, hs, pb, pf⟩ := p
        dsimp only [pdV, pdCs] at *
        go_wp2_with fail
        refine (HP.out _ _ _ _ _ P2.lies).mono ?_
        rintro e w3 ⟨rfl, hb3⟩
        have P3 := P2.on hb3
        have q3 := P3.blk.cell
        have Z4 := Z3.on hb3
        have hB4 := hB3.trans (hb3.mono hB3.size)
        clear hb3 Z3 hB3 P2 HP
        go_wp2_with fail
        refine (HT.out _ _ _ _ _ P3.lies).mono ?_
        rintro e w4 ⟨rfl, hb4⟩
        have P5 := P3.on hb4
        have q5 := P5.blk.cell
        have Z5 := Z4.on hb4
        have z5 := Z5.cell
        have f5 := Z5.free
        have HB5 := Lib.hid (hB4.trans (hb4.mono hB4.size))
        have HP5 := Lib.hid P5
        clear hb4 Z4 hB4 P3 HT q3 P5
        go_wp2_with fail
        refine bodyPost_ret (v := outPV ⟨ph, pl, po, ns, hs, pb, pf⟩ A1 c1 A2 c2 0) (by simp [results, Tryz.results17, go_sem, z5, f5]) rfl ?_
        rw [HR.out]
        refine ⟨⟨A1, c1, A2, c2, rfl, ?_, ?_⟩, ?_⟩
        · refine ownsRow_base (base := w1.heap.size + 1) ?_ (by omega)
          iterate 8 (refine ownsRow_setCell_below ?_ (by dsimp only; omega) _)
          exact HP5.out.ns
        · refine ownsRow_base (base := w1.heap.size + 1) ?_ (by omega)
          iterate 8 (refine ownsRow_setCell_below ?_ (by dsimp only; omega) _)
          exact HP5.out.hs
        · iterate 8 (refine below_set_own ?_ _ _)
          exact HB5.out
      · have HR : Hid (R = (⟨0, 0, 0, [], [], false, 0⟩, 3)) := by rw [Hid, HRd2.out, if_neg (fun h => ht h.2)]
        have hne := str_ne ht
        clear HRd2 hr ht
        generalize textT p = T at *
        obtain ⟨ph, pl, po, ns, hs, pb, pf⟩ := p
        dsimp only [pdV, pdCs] at *
        go_wp2_with fail
        refine (HP.out _ _ _ _ _ P2.lies).mono ?_
        rintro e w3 ⟨rfl, hb3⟩
        have P3 := P2.on hb3
        have q3 := P3.blk.cell
        have Z4 := Z3.on hb3
        have hB4 := hB3.trans (hb3.mono hB3.size)
        clear hb3 Z3 hB3 P2 HP
        go_wp2_with fail
        refine (HT.out _ _ _ _ _ P3.lies).mono ?_
        rintro e w4 ⟨rfl, hb4⟩
        have Z5 := Z4.on hb4
        have z5 := Z5.cell
        have f5 := Z5.free
        have HB5 := Lib.hid (hB4.trans (hb4.mono hB4.size))
        clear hb4 Z4 hB4 P3 HT q3
        go_wp2_with fail
        refine bodyPost_ret (v := outPV ⟨0, 0, 0, [], [], false, 0⟩ none 0 none 0 3) (by simp [results, Tryz.results17, go_sem, z5, f5]) rfl ?_
        rw [HR.out]
        refine outMade_none ?_
        iterate 8 (refine below_set_own ?_ _ _)
        exact HB5.out
end Go.Proofs.YtihlilihipcfaaaGreatDoor
namespace Go.Proofs.YtihlilihipcfaaaGreatDoor
open Go.ChangeShapes Go.WideShapes Go.ChangeAt Go.RowKit Go.ChangeMaps
set_option maxRecDepth 10000
set_option linter.unusedSimpArgs false
set_option linter.unusedVariables false

theorem readP_parse {s : ByteArray} (h : s.size ≤ 8000) {p : PD} (hp : parseS (cutB 32 s) = p) : readP s = if rightB p = true ∧ textT p = s then (p, 0) else (⟨0, 0, 0, [], [], false, 0⟩, 3) := by
  subst hp
  rw [readP, if_neg (by omega)]
theorem parseS_few {ws : List ByteArray} (h : ws.length < 4) : parseS ws = ⟨0, 0, 0, [], [], false, 0⟩ := by
  match ws, h with
  | [], _ => rfl
  | [_], _ => rfl
  | [_, _], _ => rfl
  | [_, _, _], _ => rfl
  | _ :: _ :: _ :: _ :: _, h => simp at h; omega

section
variable {w W W' : World} {g : Nat} {p : PD} {A1 A2 : Option Addr} {c1 c2 : Nat}
theorem FSt.home (h : FSt g w p A1 c1 A2 c2 W) (n : Int) : FSt g w { p with home := n } A1 c1 A2 c2 (W.setCell ⟨g, 0, none⟩ (.int .i64 n)) := ⟨h.st.home n, h.below.setCell (Nat.le_refl g) _⟩
theorem FSt.loc (h : FSt g w p A1 c1 A2 c2 W) (n : Int) : FSt g w { p with loc := n } A1 c1 A2 c2 (W.setCell ⟨g, 1, none⟩ (.int .i64 n)) := ⟨h.st.loc n, h.below.setCell (Nat.le_refl g) _⟩
theorem FSt.owner (h : FSt g w p A1 c1 A2 c2 W) (n : Int) : FSt g w { p with owner := n } A1 c1 A2 c2 (W.setCell ⟨g, 2, none⟩ (.int .i64 n)) := ⟨h.st.owner n, h.below.setCell (Nat.le_refl g) _⟩
theorem FSt.live (h : FSt g w p A1 c1 A2 c2 W) (n : Bool) : FSt g w { p with live := n } A1 c1 A2 c2 (W.setCell ⟨g, 5, none⟩ (.bool n)) := ⟨h.st.live n, h.below.setCell (Nat.le_refl g) _⟩
theorem FSt.fill (h : FSt g w p A1 c1 A2 c2 W) {p' : PD} (hf : FillGot g W p' W') : FillGot g w p' W' := by
  obtain ⟨B1, d1, B2, d2, hs, hb⟩ := hf
  exact ⟨B1, d1, B2, d2, hs, h.below.trans hb⟩
end

/-- l01Split, with room. -/
def SplGot2 (ws : List ByteArray) (w : World) (e : Ending) (w' : World) : Prop := (∃ A c, e = .returned (.slice A ws.length c) ∧ ws.length ≤ c ∧ Lies w' w'.heap.size 1 A ws.length (strsC ws)) ∧ Below w.heap.size w w'
theorem sSplit2_any (t : ByteArray) (b : UInt8) (w : World) (ht : t.size ≤ 1048576) : Calls Tryz.prog 36 #[.string t, .int .u8 (b.toNat : Int)] w (SplGot2 (cutB b t) w) := by
  refine (l01Split_any t (b.toNat : Int) w ht).mono ?_
  rw [splitT_cut]
  rintro e w' ⟨A, c, rfl, hr, hb⟩
  obtain ⟨A', c', he, h1, -⟩ := own_form hr
  injection he with _ _ he
  subst he
  exact ⟨⟨A, c, rfl, h1, Lies.own hr⟩, hb⟩

/-- l01Split, a row of one's own. -/
def SplGot3 (ws : List ByteArray) (w : World) (e : Ending) (w' : World) : Prop := (∃ A c, e = .returned (.slice A ws.length c) ∧ w'.ownsRow w.heap.size 9 1 (.slice A ws.length c) ws.length (strsC ws)) ∧ Below w.heap.size w w'
theorem sSplit3_any (t : ByteArray) (b : UInt8) (w : World) (ht : t.size ≤ 1048576) : Calls Tryz.prog 36 #[.string t, .int .u8 (b.toNat : Int)] w (SplGot3 (cutB b t) w) := by
  refine (l01Split_any t (b.toNat : Int) w ht).mono ?_
  rw [splitT_cut]
  rintro e w' ⟨A, c, rfl, hr, hb⟩
  exact ⟨⟨A, c, rfl, hr⟩, hb⟩
theorem cutB_ne (b : UInt8) (s : ByteArray) : ∃ x r, cutB b s = x :: r := by
  cases h : cutB b s with
  | nil =>
    have := congrArg List.length h
    have h2 := cutL_ne b s.data.toList
    simp [cutB] at this
    exact absurd this h2
  | cons x r => exact ⟨x, r, rfl⟩
def locOf (kr : List ByteArray) : Int := match kr with
  | [l] => numI l.data.toList
  | _ => 0
theorem parseS_many {a b c d k0 : ByteArray} {r kr : List ByteArray} (h : cutB 46 a = k0 :: kr) : parseS (a :: b :: c :: d :: r) = fillS ⟨numI k0.data.toList, locOf kr, numI c.data.toList, [], [], decide (d = lvA), 0⟩ r := by
  dsimp only [parseS]
  rw [h]
  match kr with
  | [] => rfl
  | [_] => rfl
  | _ :: _ :: _ => rfl
/-- The booking is laid, as the words say. -/
def ReadRel (w1 : World) (ws : List ByteArray) (W : World) : Prop := FitN (parseS ws) 100000 ∧ FillGot w1.heap.size w1 (parseS ws) W

set_option maxHeartbeats 8000000 in
theorem sPnrRead_any (s : ByteArray) (w : World) (hm : s.size ≤ 1048576) : Calls Tryz.prog 16 #[.string s] w (OutMade (readP s).1 (readP s).2 w) := by
  by_cases hs : 8000 < s.size
  · rw [readP_long hs]
    have hsI : (8000 : Int) < (s.size : Int) := by omega
    go_enter Tryz.func16, Tryz.ntmps16
    go_wp2_with fail
    refine bodyPost_ret (v := outPV ⟨0, 0, 0, [], [], false, 0⟩ none 0 none 0 2) (by simp [results, Tryz.results16, go_sem]) rfl ?_
    exact outMade_none (by go_grown)
  · have hs8 : s.size ≤ 8000 := by omega
    have hmany := cutB_many 32 s
    have HSp : Hid (∀ W, Calls Tryz.prog 36 #[.string s, .int .u8 32] W (SplGot2 (cutB 32 s) W)) := fun W => sSplit2_any s 32 W (by omega)
    have HWs : Hid (∀ x ∈ cutB 32 s, x.size ≤ 8000) := fun x hx => Nat.le_trans (cutB_sizes 32 s x hx) hs8
    have HEnd : Hid (readP s = if rightB (parseS (cutB 32 s)) = true ∧ textT (parseS (cutB 32 s)) = s then (parseS (cutB 32 s), 0) else (⟨0, 0, 0, [], [], false, 0⟩, 3)) := readP_parse hs8 rfl
    have hsI : ¬ (8000 : Int) < (s.size : Int) := by omega
    have hmany2 : (cutB 32 s).length ≤ 8001 := by omega
    unfold SplGot2 at HSp
    generalize readP s = R at *
    generalize cutB 32 s = ws at *
    clear hmany
    go_enter Tryz.func16, Tryz.ntmps16
    go_wp2_with fail
    refine (HSp.out _).mono ?_
    rintro e w1 ⟨⟨A, c, rfl, hcap, hl1⟩, hb1⟩
    have Z1 : Block w1 w.heap.size 42 zeroO := (Block.new w _ _).on hb1
    have hB1 : Below w.heap.size w w1 := boxed hb1
    have T0 : FSt w1.heap.size w1 ⟨0, 0, 0, [], [], false, 0⟩ none 0 none 0 (w1.alloc (.cells zeroP 40)) := ⟨⟨Block.new w1 _ _, ⟨rfl, .inl ⟨rfl, rfl⟩⟩, ⟨rfl, .inl ⟨rfl, rfl⟩⟩⟩, (Below.refl _ w1).alloc (Nat.le_refl _) _⟩
    have HZ1 := Lib.hid Z1
    have HB1 := Lib.hid hB1
    have HT0 := Lib.hid T0
    clear hb1 HSp Z1 hB1 T0
    go_upto_if 15 with fail
    go_cut [] from 5 (fun W => ReadRel w1 ws W)
    case first =>
      by_cases h4 : ws.length < 4
      · have h4I : (ws.length : Int) < 4 := by omega
        have HR : Hid (ReadRel w1 ws (w1.alloc (.cells zeroP 40))) := ⟨by rw [parseS_few h4]; exact (FitN.none_ _ _ _ _ _).mono (Nat.zero_le _), by rw [parseS_few h4]; exact ⟨none, 0, none, 0, HT0.out⟩⟩
        clear hl1 h4
        go_wp2_with fail
        go_meet
        exact HR.out
      · match ws, h4, hl1, hcap, HWs, hmany2 with
        | [], h, _, _, _, _ => exact absurd (by simp) h
        | [_], h, _, _, _, _ => exact absurd (by simp) h
        | [_, _], h, _, _, _, _ => exact absurd (by simp) h
        | [_, _, _], h, _, _, _, _ => exact absurd (by simp) h
        | a :: b :: c' :: d :: r, _, hl1, hcap, HWs, hmany2 =>
          obtain ⟨bn, off, rfl, hbn, hcell⟩ := hl1.2 (by simp)
          have ca := hcell 0 _ rfl
          have cc := hcell 2 _ rfl
          have cd := hcell 3 _ rfl
          rw [Nat.add_zero] at ca
          obtain ⟨A4, hsl4, hl4⟩ := slice_from w1 w1.heap.size (some ⟨bn, off, none⟩) (a :: b :: c' :: d :: r) c 4 hl1 (by simp) (by simp) hcap
          have hsl : ∀ W : World, (Instr.slice 37 (.slice (some ⟨bn, off, none⟩) (a :: b :: c' :: d :: r).length c) (some (.int .i64 4)) none none).run Tryz.prog W = .ok (.slice A4 r.length (c - 4)) W := hsl4
          have hl4' : Lies w1 w1.heap.size 1 A4 r.length (strsC r) := hl4
          have hsa := HWs.out a (by simp)
          have hsc := HWs.out c' (by simp)
          have hsr : ∀ x ∈ r, x.size ≤ 8000 := fun x hx => HWs.out x (by simp [hx])
          have hrl : r.length ≤ 8001 := by simp at hmany2; omega
          obtain ⟨k0, kr, hk⟩ := cutB_ne 46 a
          have hk0 : ∀ x ∈ k0 :: kr, x.size ≤ 8000 := fun x hx => Nat.le_trans (cutB_sizes 46 a x (by rw [hk]; exact hx)) hsa
          have HSa : Hid (∀ W, Calls Tryz.prog 36 #[.string a, .int .u8 46] W (SplGot3 (k0 :: kr) W)) := fun W => by
            have := sSplit3_any a 46 W (by omega)
            rw [hk] at this
            exact this
          have HNum : Hid (∀ (x : ByteArray) (W : World), x.size ≤ 8000 → Calls Tryz.prog 39 #[.string x] W fun e w' => e = .returned (.int .i64 (numI x.data.toList)) ∧ W = w') := fun x W hx => l02Num_any x W (by unfold maxLen; omega)
          have HFl : Hid (∀ (W : World) (p : PD), FSt w1.heap.size w1 p none 0 none 0 W → FitN p 0 → Calls Tryz.prog 61 #[.pointer (some ⟨w1.heap.size, 0, none⟩), .slice A4 r.length (c - 4)] W (FillEnd w1.heap.size W (fillS p r) r.length)) :=
            fun W p hT hf => l03Fill_any r A4 (c - 4) w1.heap.size p none 0 none 0 W (hl4'.below hT.below) hsr (by omega) hf hT.st
          have HEq : Hid (∀ W, FillGot w1.heap.size w1 (fillS ⟨numI k0.data.toList, locOf kr, numI c'.data.toList, [], [], decide (d = lvA), 0⟩ r) W → FitN (fillS ⟨numI k0.data.toList, locOf kr, numI c'.data.toList, [], [], decide (d = lvA), 0⟩ r) r.length → ReadRel w1 (a :: b :: c' :: d :: r) W) := fun W h1 h2 => by
            unfold ReadRel
            rw [parseS_many hk]
            exact ⟨h2.mono (by omega), h1⟩
          have hlv : (d.toList == [108, 105, 118, 101]) = decide (d = lvA) := by
            have e : lvA.toList = [108, 105, 118, 101] := by rw [ByteArray.toList_eq]
            rw [← e]
            by_cases h : d = lvA
            · subst h
              rw [decide_eq_true rfl]
              exact beq_iff_eq.2 rfl
            · rw [decide_eq_false h]
              exact str_ne h
          have HN1 := Lib.hid (fun W => HNum.out k0 W (hk0 k0 (by simp)))
          have HN3 := Lib.hid (fun W => HNum.out c' W hsc)
          have hn4 : (4 : Int) ≤ ((a :: b :: c' :: d :: r).length : Int) := by simp; omega
          generalize hLn : (a :: b :: c' :: d :: r).length = LN at *
          have hLn2 : (2 : Int) < (LN : Int) := by omega
          have hLn3 : (3 : Int) < (LN : Int) := by omega
          have hLn0 : (0 : Int) < (LN : Int) := by omega
          have hwn : w1.heap.size ≠ bn := by omega
          clear hcell hl1 hsl4 hl4 hl4' hsa hsc hsr hLn hcap hmany2 HWs
          have hkr : (∃ l, kr = [l]) ∨ (kr.length ≠ 1 ∧ locOf kr = 0) := by
            match kr with
            | [l] => exact .inl ⟨l, rfl⟩
            | [] => exact .inr ⟨by simp, rfl⟩
            | _ :: _ :: _ => exact .inr ⟨by simp, rfl⟩
          unfold SplGot3 at HSa
          generalize numI k0.data.toList = n1 at *
          generalize numI c'.data.toList = n3 at *
          generalize decide (d = lvA) = lv at *
          rcases hkr with ⟨l, rfl⟩ | ⟨hkl, hl0⟩
          · have HN2 := Lib.hid (fun W => HNum.out l W (hk0 l (by simp)))
            have hloc : locOf [l] = numI l.data.toList := rfl
            rw [hloc] at HEq
            generalize numI l.data.toList = n2 at *
            clear hk0 hk hloc HNum
            go_wp2_with fail
            refine (HSa.out _).mono ?_
            rintro e w2 ⟨⟨A5, c5, rfl, hr5⟩, hb2⟩
            have T2 := HT0.out.on hb2
            obtain ⟨b5, c6, he5, hb5, -, -, hb5lt, hc5⟩ := row_at hr5 (by simp)
            injection he5 with he5 _ he6
            subst he5 he6
            have ck0 := hc5 0 _ rfl
            have hb5n : w1.heap.size < b5 := by simp at hb5; omega
            have hw5 : w1.heap.size ≠ b5 := by omega
            replace cc := kc T2.below cc hbn
            replace cd := kc T2.below cd hbn
            have q2 := T2.st.blk.cell
            have f2 := T2.st.blk.free
            have ck1 := hc5 1 _ rfl
            clear hr5 hb2 hc5 ca
            go_wp2_with fail
            refine (HN1.out _).mono ?_
            rintro e w3 ⟨rfl, rfl⟩
            go_wp2_with fail
            refine (HN2.out _).mono ?_
            rintro e w3 ⟨rfl, rfl⟩
            go_wp2_with fail
            refine (HN3.out _).mono ?_
            rintro e w3 ⟨rfl, rfl⟩
            have HT5 := Lib.hid ((((T2.home n1).loc n2).owner n3).live lv)
            clear T2
            go_wp2_with fail
            refine (HFl.out _ _ HT5.out (FitN.none_ _ _ _ _ _)).mono ?_
            rintro e w4 ⟨rfl, hfE, hfG⟩
            have HR := Lib.hid (HEq.out _ (HT5.out.fill hfG) hfE)
            clear hfE hfG
            go_wp2_with fail
            go_meet
            exact HR.out
          · have hkI : (((k0 :: kr).length : Int) == 2) = false := by rw [beq_eq_false_iff_ne]; simp; omega
            rw [hl0] at HEq
            clear hk0 hk hl0 HNum hkl
            have hkp : 0 < (k0 :: kr).length := by simp
            go_wp2_with fail
            refine (HSa.out _).mono ?_
            rintro e w2 ⟨⟨A5, c5, rfl, hr5⟩, hb2⟩
            have T2 := HT0.out.on hb2
            obtain ⟨b5, c6, he5, hb5, -, -, hb5lt, hc5⟩ := row_at hr5 (by simp)
            injection he5 with he5 _ he6
            subst he5 he6
            have ck0 := hc5 0 _ rfl
            have hb5n : w1.heap.size < b5 := by simp at hb5; omega
            have hw5 : w1.heap.size ≠ b5 := by omega
            replace cc := kc T2.below cc hbn
            replace cd := kc T2.below cd hbn
            have q2 := T2.st.blk.cell
            have f2 := T2.st.blk.free
            clear hr5 hb2 hc5 ca
            generalize (k0 :: kr).length = K at *
            have hKI : (0 : Int) < (K : Int) := by omega
            go_wp2_with fail
            refine (HN1.out _).mono ?_
            rintro e w3 ⟨rfl, rfl⟩
            go_wp2_with fail
            refine (HN3.out _).mono ?_
            rintro e w3 ⟨rfl, rfl⟩
            have HT5 := Lib.hid (((T2.home n1).owner n3).live lv)
            clear T2
            go_wp2_with fail
            refine (HFl.out _ _ HT5.out (FitN.none_ _ _ _ _ _)).mono ?_
            rintro e w4 ⟨rfl, hfE, hfG⟩
            have HR := Lib.hid (HEq.out _ (HT5.out.fill hfG) hfE)
            clear hfE hfG
            go_wp2_with fail
            go_meet
            exact HR.out
    case rest =>
      obtain ⟨hfit, A1, c1, A2, c2, T⟩ := hcut
      have hPF := hfit.fit (Nat.le_refl _)
      obtain ⟨hp1, hp2, -, -⟩ := hfit
      generalize parseS ws = p at *
      have HT : Hid (∀ W A1 c1 A2 c2, PLies W W.heap.size p A1 A2 → Calls Tryz.prog 29 #[pdV p A1 c1 A2 c2] W fun e w' => e = .returned (.string (textT p)) ∧ Below W.heap.size W w') := fun W A1 c1 A2 c2 hl => sPnrText_any p A1 c1 A2 c2 W hl hPF (by omega) (by omega)
      have hzw : w.heap.size < w1.heap.size := HZ1.out.lt
      have Zc := HZ1.out.below T.below hzw
      have HBc := Lib.hid (HB1.out.trans (T.below.mono (Nat.le_of_lt hzw)))
      clear HT0 hl1 hcap HZ1 HB1 HWs hPF hp1 hp2 hmany2
      by_cases h0 : 0 < s.size
      · have hne0 : s.toList.isEmpty = false := not_empty h0
        have hEmp : rightB p = false → textT p ≠ s := fun hr ht => by
          rw [textT, if_neg (by rw [hr]; simp)] at ht
          subst ht
          simp [ByteArray.size] at h0
        by_cases ht : textT p = s
        · have hr : rightB p = true := by
            cases hr : rightB p
            · exact absurd ht (hEmp hr)
            · rfl
          have HR : Hid (R = (p, 0)) := by rw [Hid, HEnd.out, if_pos ⟨hr, ht⟩]
          rw [ht] at HT
          clear HEnd hr ht hEmp h0 hs8 hsI hm hs
          obtain ⟨ph, pl, po, ns, hs, pb, pf⟩ := p
          dsimp only [pdV, pdCs] at *
          have q1 := T.st.blk.cell
          go_wp2_with fail
          refine (HT.out _ _ _ _ _ T.st.lies).mono ?_
          rintro e w5 ⟨rfl, hb5⟩
          have T5 := T.on hb5
          have q5 := T5.st.blk.cell
          have Z5 := Zc.on hb5
          have z5 := Z5.cell
          have f5 := Z5.free
          have HB5 := Lib.hid (HBc.out.trans (hb5.mono HBc.out.size))
          have HP5 := Lib.hid T5.st
          clear hb5 Zc T T5 HT q1 HBc
          go_wp2_with fail
          refine bodyPost_ret (v := outPV ⟨ph, pl, po, ns, hs, pb, pf⟩ A1 c1 A2 c2 0) (by simp [results, Tryz.results16, go_sem, z5, f5]) rfl ?_
          rw [HR.out]
          refine ⟨⟨A1, c1, A2, c2, rfl, ?_, ?_⟩, ?_⟩
          · refine ownsRow_base (base := w1.heap.size + 1) ?_ (by omega)
            iterate 8 (refine ownsRow_setCell_below ?_ (by dsimp only; omega) _)
            exact HP5.out.ns
          · refine ownsRow_base (base := w1.heap.size + 1) ?_ (by omega)
            iterate 8 (refine ownsRow_setCell_below ?_ (by dsimp only; omega) _)
            exact HP5.out.hs
          · iterate 8 (refine below_set_own ?_ _ _)
            exact HB5.out
        · have HR : Hid (R = (⟨0, 0, 0, [], [], false, 0⟩, 3)) := by rw [Hid, HEnd.out, if_neg (fun h => ht h.2)]
          have hne := str_ne ht
          clear HEnd ht hEmp h0 hs8 hsI hm hs
          generalize textT p = TX at *
          obtain ⟨ph, pl, po, ns, hs, pb, pf⟩ := p
          dsimp only [pdV, pdCs] at *
          have q1 := T.st.blk.cell
          go_wp2_with fail
          refine (HT.out _ _ _ _ _ T.st.lies).mono ?_
          rintro e w5 ⟨rfl, hb5⟩
          have Z5 := Zc.on hb5
          have z5 := Z5.cell
          have f5 := Z5.free
          have HB5 := Lib.hid (HBc.out.trans (hb5.mono HBc.out.size))
          clear hb5 Zc T HT q1 HBc
          go_wp2_with fail
          refine bodyPost_ret (v := outPV ⟨0, 0, 0, [], [], false, 0⟩ none 0 none 0 3) (by simp [results, Tryz.results16, go_sem, z5, f5]) rfl ?_
          rw [HR.out]
          refine outMade_none ?_
          iterate 8 (refine below_set_own ?_ _ _)
          exact HB5.out
      · have he0 : s.toList.isEmpty = true := by
          have e : s.data.toList.length = s.size := by simp
          have e2 : s.data.toList = [] := List.eq_nil_of_length_eq_zero (by omega)
          rw [ByteArray.toList_eq, e2]
          rfl
        have HR : Hid (R = (⟨0, 0, 0, [], [], false, 0⟩, 3)) := by
          rw [Hid, HEnd.out, if_neg (fun h => ?_)]
          have := textT_pos h.1
          rw [h.2] at this
          exact h0 this
        have z5 := Zc.cell
        have f5 := Zc.free
        clear HEnd h0 hs8 hsI hm hs HT Zc T
        go_wp2_with fail
        refine bodyPost_ret (v := outPV ⟨0, 0, 0, [], [], false, 0⟩ none 0 none 0 3) (by simp [results, Tryz.results16, go_sem, z5, f5]) rfl ?_
        rw [HR.out]
        refine outMade_none ?_
        iterate 8 (refine below_set_own ?_ _ _)
        exact HBc.out
end Go.Proofs.YtihlilihipcfaaaGreatDoor
namespace Go.Proofs.YtihlilihipcfaaaGreatDoor
open Go.ChangeShapes Go.WideShapes Go.ChangeAt Go.RowKit Go.ChangeMaps
set_option maxRecDepth 10000
set_option linter.unusedSimpArgs false
set_option linter.unusedVariables false

/-- The mark of a number above 0. -/
def markS (k : Nat) : ByteArray := ⟨(109 :: decU k).toArray⟩

def MarkRel (R : List UInt8) (n : Nat) (w : World) (x v : Value) (wr : World) : Prop :=
  ∃ (u : Nat) (l : List UInt8), x = .int .i64 (u : Int) ∧ u ≤ n ∧ v = .string ⟨l.toArray⟩ ∧ Hid (decU u ++ l = R) ∧ l.length + u ≤ n ∧ Below w.heap.size w wr

set_option maxHeartbeats 1000000 in
theorem markText_any (n : Nat) (w : World) (h0 : 0 < n) (hn : n ≤ 1099511627776) : Calls Tryz.prog 128 #[.int .i64 n] w fun e w' => e = .returned (.string (markS n)) ∧ Below w.heap.size w w' := by
  have hD : Hid (markS n = ⟨(109 :: decU n).toArray⟩) := rfl
  generalize markS n = S at *
  have hDR : decU n ++ [] = decU n := List.append_nil _
  generalize hR : decU n = R at *
  rw [← hR] at hDR
  have HD : Hid (decU n ++ [] = R) := by rw [Hid, hDR, hR]
  clear hDR hR
  go_enter Tryz.func128, Tryz.ntmps128
  go_wp2
  go_loopw [0, 3] (fun x v wr => MarkRel R n w x v wr) (fun x _ _ => (intOf x).toNat)
  case atStart => exact ⟨n, [], rfl, Nat.le_refl _, rfl, HD, by simp, Below.refl _ _⟩
  case round =>
    obtain ⟨u, l, rfl, hu, rfl, hl, hln, hB⟩ := hrel
    by_cases hu0 : u = 0
    · subst hu0
      have ha := Lib.hid (bappend [109] ⟨l.toArray⟩)
      have hlR : Hid (l = R) := hl
      go_wp2
      go_ret
      refine ⟨?_, hB⟩
      rw [hD.out, ← hlR.out]
      exact congrArg (fun z => Ending.returned (.string z)) ha.out
    · have hs := Lib.hid (decU_step (u := u) (by omega) l)
      have hb : ((UInt8.ofNat (48 + u % 10)).toNat : Int) = 48 + (u : Int) % 10 := by rw [ofNat_toNat (by omega)]; omega
      generalize UInt8.ofNat (48 + u % 10) = b at *
      have HB := Lib.hid hb
      have ha := Lib.hid (bappend [b] ⟨l.toArray⟩)
      have hpos : 0 < u := by omega
      clear hb
      go_wp2_with (refine wpList_str_one Tryz.underlying31 Tryz.underlying5 Tryz.underlying9 b ?_ rfl ?_; rotate_left)
      · go_roundw
        case rel => exact ⟨u / 10, b :: l, by go_num, by omega, congrArg Value.string ha.out, by rw [← hl.out, hs.out]; rfl, by simp; omega, hB.alloc hB.size _⟩
        case measure => simp [intOf]; omega
      · exact HB.out.symm
end Go.Proofs.YtihlilihipcfaaaGreatDoor
namespace Go.Proofs.YtihlilihipcfaaaGreatDoor
open Go.ChangeShapes Go.WideShapes Go.ChangeAt Go.RowKit Go.ChangeMaps
set_option maxRecDepth 10000
set_option linter.unusedSimpArgs false
set_option linter.unusedVariables false

theorem grown_trans {a b c : World} {row : Option Nat} (h : a.grownBy b row) (k : b.grownBy c row) : a.grownBy c row :=
  ⟨k.os.trans h.os, k.tape.trans h.tape, k.output.trans h.output, Nat.le_trans h.size k.size, fun i hi hr => (k.block i (Nat.lt_of_lt_of_le hi h.size) hr).trans (h.block i hi hr)⟩

/-- The marks of m holds, the first of which bears k. -/
def marksL (k : Nat) : Nat → List HD
  | 0 => []
  | m + 1 => marksL k m ++ [⟨markS (k + 3 * m), ((k + 3 * m + 1 : Nat) : Int), ((k + 3 * m + 2 : Nat) : Int)⟩]
theorem marksL_length (k m : Nat) : (marksL k m).length = m := by
  induction m with
  | zero => rfl
  | succ m ih => simp [marksL, ih]
theorem marksL_at (k : Nat) : ∀ (n m : Nat), m < n → (marksL k n)[m]? = some ⟨markS (k + 3 * m), ((k + 3 * m + 1 : Nat) : Int), ((k + 3 * m + 2 : Nat) : Int)⟩
  | 0, m, h => by omega
  | n + 1, m, h => by
    have hl := marksL_length k n
    by_cases he : m = n
    · subst he
      rw [marksL, List.getElem?_append_right (by omega), hl, Nat.sub_self]
      rfl
    · rw [marksL, List.getElem?_append_left (by omega)]
      exact marksL_at k n m (by omega)
theorem marksC_succ (k m : Nat) : holdsC (marksL k (m + 1)) = holdsC (marksL k m) ++ [.string (markS (k + 3 * m)), .int .i64 ((k + 3 * m + 1 : Nat) : Int), .int .i64 ((k + 3 * m + 2 : Nat) : Int)] := by
  rw [marksL, holdsC_append]; rfl

def MarkHRel (base k n cap : Nat) (A : Option Addr) (w : World) (x i : Value) (wr : World) : Prop :=
  ∃ (m q : Nat) (rest : List Value), m ≤ n ∧ i = .int .i64 m ∧ x = .int .i64 (q : Int) ∧ q = k + 3 * m ∧ rest.length = (n - m) * 3 ∧
    wr.ownsRow base 51 3 (.slice A n cap) n (holdsC (marksL k m) ++ rest) ∧ w.grownBy wr (Value.slice A n cap).ownBlock

set_option maxHeartbeats 2000000 in
theorem markHoldS_any (base k n cap : Nat) (A : Option Addr) (xs : List Value) (w : World) (hown : w.ownsRow base 51 3 (.slice A n cap) n xs) (hbase : base ≤ w.heap.size) (hk : 0 < k) (hk2 : k ≤ 1099511627) (hn : n ≤ 1099511627) :
    Calls Tryz.prog 107 #[.slice A n cap, .int .i64 k] w fun e w' => e = .returned (.int .i64 ((k + 3 * n : Nat) : Int)) ∧ w'.ownsRow base 51 3 (.slice A n cap) n (holdsC (marksL k n)) ∧ w.grownBy w' (Value.slice A n cap).ownBlock := by
  have HK : Hid (∀ q : Nat, q = k + 3 * n → Value.int .i64 (q : Int) = .int .i64 ((k + 3 * n : Nat) : Int)) := fun q h => by rw [h]
  generalize ((k + 3 * n : Nat) : Int) = R at *
  go_enter Tryz.func107, Tryz.ntmps107
  go_wp2
  go_loopw [1, 5] (fun x i wr => MarkHRel base k n cap A w x i wr) (fun _ i _ => n - (intOf i).toNat)
  case atStart => exact ⟨0, k, xs, Nat.zero_le _, rfl, rfl, rfl, by simpa using hown.1, by simpa [marksL, holdsC] using hown, World.grownBy.refl _ _⟩
  case round =>
    obtain ⟨m, q, rest, hm, rfl, rfl, hq, hrl, hown, hg⟩ := hrel
    have HQ := Lib.hid hq
    by_cases hlt : m < n
    · obtain ⟨g, cap', hv, hbg, _, _, hglt, _⟩ := row_at hown (by omega)
      injection hv with hv _ hv2
      subst hv
      clear hv2
      have hq1 : q ≤ 10995116270 := by omega
      have hq0 : 0 < q := by omega
      have HM : Hid (∀ W : World, Calls Tryz.prog 128 #[.int .i64 q] W fun e w' => e = .returned (.string (markS q)) ∧ Below W.heap.size W w') := fun W => markText_any q W hq0 (by omega)
      have HS : Hid (holdsC (marksL k (m + 1)) = holdsC (marksL k m) ++ [.string (markS q), .int .i64 ((q : Int) + 1), .int .i64 ((q : Int) + 1 + 1)]) := by
        rw [Hid, marksC_succ, HQ.out]
        simp [Int.add_assoc]
      have hTL : (holdsC (marksL k m)).length = m * 3 := by rw [holdsC_length, marksL_length]
      have H3 := Lib.hid (set_three (holdsC (marksL k m)) rest (m * 3) hTL (by omega) (.string (markS q)) (.int .i64 ((q : Int) + 1)) (.int .i64 ((q : Int) + 1 + 1)))
      have HL := Lib.hid hown.1
      generalize holdsC (marksL k m) = X at *
      generalize markS q = S at *
      clear hTL hq
      go_wp2_with fail
      refine (HM.out _).mono ?_
      rintro e w2 ⟨rfl, hb2⟩
      have hown2 := ownsRow_below hown hb2
      have f0 := hown2.frozenAt (m * 3)
      have f1 := hown2.frozenAt (m * 3 + 1)
      have f2 := hown2.frozenAt (m * 3 + 2)
      have hlen := HL.out
      obtain ⟨u0, d0⟩ : ∃ u, w2.cell? ⟨g, m * 3, none⟩ = some u := ⟨_, (hown2.cellAt (m * 3) (by omega)).trans (List.getElem?_eq_getElem (by omega))⟩
      obtain ⟨u1, d1⟩ : ∃ u, w2.cell? ⟨g, m * 3 + 1, none⟩ = some u := ⟨_, (hown2.cellAt (m * 3 + 1) (by omega)).trans (List.getElem?_eq_getElem (by omega))⟩
      obtain ⟨u2, d2⟩ : ∃ u, w2.cell? ⟨g, m * 3 + 2, none⟩ = some u := ⟨_, (hown2.cellAt (m * 3 + 2) (by omega)).trans (List.getElem?_eq_getElem (by omega))⟩
      have s1 := hown2.stored (m * 3) (.string S)
      have s2 := s1.1.stored (m * 3 + 1) (.int .i64 ((q : Int) + 1))
      have s3 := s2.1.stored (m * 3 + 2) (.int .i64 ((q : Int) + 1 + 1))
      have hown3 := s3.1
      rw [H3.out] at hown3
      have HO := Lib.hid hown3
      have hg3 := Lib.hid (grown_trans (grown_trans hg (grown_of_below hb2 _)) (grown_trans s1.2 (grown_trans s2.2 s3.2)))
      clear hown hown2 hown3 hlen hb2 hg s1 s2 s3
      go_wp2_with fail
      go_roundw
      case rel => exact ⟨m + 1, q + 3, rest.drop 3, by omega, by go_num, by go_num, by have := HQ.out; omega, by simp; omega, by rw [HS.out]; exact HO.out, hg3.out⟩
      case measure => simp [intOf]; omega
    · obtain rfl : m = n := by omega
      obtain rfl : rest = [] := List.eq_nil_of_length_eq_zero (by omega)
      rw [List.append_nil] at hown
      have HV := Lib.hid (HK.out q hq)
      clear hq
      go_wp2
      go_ret
      exact ⟨congrArg Ending.returned HV.out, hown, hg⟩

set_option maxHeartbeats 2000000 in
theorem heldHoldS_any (k n cap : Nat) (A : Option Addr) (w : World) (hl : Lies w w.heap.size 3 A n (holdsC (marksL k n))) (hk : 0 < k) (hk2 : k ≤ 1099511627) (hn : n ≤ 1099511627) :
    Calls Tryz.prog 109 #[.slice A n cap, .int .i64 k] w fun e w' => e = .returned (.int .i64 ((k + 3 * n : Nat) : Int)) ∧ Below w.heap.size w w' := by
  have HK : Hid (∀ q : Nat, q = k + 3 * n → Value.int .i64 (q : Int) = .int .i64 ((k + 3 * n : Nat) : Int)) := fun q h => by rw [h]
  generalize ((k + 3 * n : Nat) : Int) = R at *
  go_enter Tryz.func109, Tryz.ntmps109
  go_wp2
  go_loopw [1, 5] (fun x i wr => ∃ (m q : Nat), m ≤ n ∧ i = .int .i64 m ∧ x = .int .i64 (q : Int) ∧ Hid (q = k + 3 * m) ∧ Below w.heap.size w wr) (fun _ i _ => n - (intOf i).toNat)
  case atStart => exact ⟨0, k, Nat.zero_le _, rfl, rfl, rfl, Below.refl _ _⟩
  case round =>
    obtain ⟨m, q, hm, rfl, rfl, HQ, hB⟩ := hrel
    have hq := HQ.out
    by_cases hlt : m < n
    · obtain ⟨b, off, x, rfl, hlb, hx, c0, c1, c2⟩ := (hl.below hB).hold hlt
      obtain rfl := Option.some.inj (hx.symm.trans (marksL_at k n m hlt))
      have hq1 : q ≤ 10995116270 := by omega
      have hq0 : 0 < q := by omega
      have HM : Hid (∀ W : World, Calls Tryz.prog 128 #[.int .i64 q] W fun e w' => e = .returned (.string (markS q)) ∧ Below W.heap.size W w') := fun W => markText_any q W hq0 (by omega)
      have e1 : ((k + 3 * m + 1 : Nat) : Int) = (q : Int) + 1 := by omega
      have e2 : ((k + 3 * m + 2 : Nat) : Int) = (q : Int) + 1 + 1 := by omega
      dsimp only at c0 c1 c2
      rw [e1] at c1
      rw [e2] at c2
      rw [← hq] at c0
      generalize markS q = S at *
      have hz := hB.size
      have hBd := hB.drew
      clear hx hl hq e1 e2
      go_wp2_with fail
      go_region_held3 (fun W => W.cell? ⟨b, off + m * 3, none⟩ = some (.string S) ∧ W.cell? ⟨b, off + m * 3 + 1, none⟩ = some (.int .i64 ((q : Int) + 1)) ∧ W.cell? ⟨b, off + m * 3 + 2, none⟩ = some (.int .i64 ((q : Int) + 1 + 1)) ∧ Below w.heap.size w W ∧ w.heap.size ≤ W.heap.size)
        (first | (go_keep; done) | (go_split_ands; exact ⟨kc hb (by assumption) (by omega), kc hb (by assumption) (by omega), kc hb (by assumption) (by omega), bstep hb (by assumption) (by omega), zstep hb (by assumption)⟩))
        (first | (go_at_call 128; refine (HM.out _).mono ?_; rintro e w' ⟨rfl, hb⟩))
      clear c0 c1 c2 hB hz hBd
      rename_i hHeld
      obtain ⟨c0, c1, c2, hB, hz⟩ := hHeld
      go_wp2_with fail
      go_roundw
      case rel => exact ⟨m + 1, q + 3, by omega, by go_num, by go_num, by have := HQ.out; show _ = _; omega, hB⟩
      case measure => simp [intOf]; omega
    · obtain rfl : m = n := by omega
      have HV := Lib.hid (HK.out q hq)
      clear hq hl
      go_wp2
      go_ret
      exact ⟨congrArg Ending.returned HV.out, hB⟩
end Go.Proofs.YtihlilihipcfaaaGreatDoor
