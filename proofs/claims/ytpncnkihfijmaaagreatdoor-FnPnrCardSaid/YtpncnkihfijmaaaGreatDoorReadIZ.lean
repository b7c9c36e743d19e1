/-
  impl.PnrRead answers 'readP', in memory of its own.
-/
import Derived.Test.YtpncnkihfijmaaaGreatDoorPnrOfZ
import Derived.Test.YtpncnkihfijmaaaGreatDoorTextIZ
import Derived.Test.YtpncnkihfijmaaaGreatDoorM3
namespace Go.Proofs.YtpncnkihfijmaaaGreatDoor
open Go.ChangeShapes Go.WideShapes Go.ChangeAt Go.RowKit Go.ChangeMaps
set_option maxRecDepth 10000
set_option linter.unusedSimpArgs false
set_option linter.unusedVariables false

abbrev outPV (p : PD) (A1 : Option Addr) (c1 : Nat) (A2 : Option Addr) (c2 : Nat) (code : Int) : Value :=
  .agg #[.int .i64 p.home, .int .i64 p.loc, .int .i64 p.owner, .slice A1 p.names.length c1, .slice A2 p.holds.length c2, .bool p.live, .int .i64 p.offer, .int .i64 code]
abbrev zeroO : Array Value := #[.int .i64 0, .int .i64 0, .int .i64 0, .slice none 0 0, .slice none 0 0, .bool false, .int .i64 0, .int .i64 0]
/-- What PnrRead gives: a booking whose lists are rows of one's own, and a code. -/
def OutMade (p : PD) (code : Int) (w : World) (e : Ending) (w' : World) : Prop :=
  (∃ A1 c1 A2 c2, e = .returned (outPV p A1 c1 A2 c2 code) ∧ w'.ownsRow w.heap.size 9 1 (.slice A1 p.names.length c1) p.names.length (strsC p.names) ∧
    w'.ownsRow w.heap.size 49 3 (.slice A2 p.holds.length c2) p.holds.length (holdsC p.holds)) ∧ Below w.heap.size w w'
theorem outMade_none {code : Int} {w w' : World} (hb : Below w.heap.size w w') : OutMade ⟨0, 0, 0, [], [], false, 0⟩ code w (.returned (outPV ⟨0, 0, 0, [], [], false, 0⟩ none 0 none 0 code)) w' :=
  ⟨⟨none, 0, none, 0, rfl, ⟨rfl, .inl ⟨rfl, rfl⟩⟩, ⟨rfl, .inl ⟨rfl, rfl⟩⟩⟩, hb⟩

theorem below_set_own {w W : World} (h : Below w.heap.size w W) (i : Nat) (v : Value) : Below w.heap.size w (W.setCell ⟨w.heap.size, i, none⟩ v) := h.setCell (Nat.le_refl _) _
theorem pnrOf_any (ws : List ByteArray) (A : Option Addr) (w : World) (hl : Lies w w.heap.size 1 A ws.length (strsC ws)) (hs : ∀ x ∈ ws, x.size ≤ 8000) (hn : ws.length ≤ 100000) (hE : Env w) :
    Calls Tryz.prog 70 #[.slice A ws.length ws.length] w (OfGot ws w) := by
  by_cases h4 : ws.length < 4
  · exact pnrOf_few ws A ws.length w h4
  · match ws, h4, hl, hs, hn with
    | a :: b :: c :: d :: r, _, hl, hs, hn =>
      obtain ⟨bn, off, rfl, -, -⟩ := hl.2 (by simp)
      exact pnrOf_many a b c d r bn off _ _ w (by simp) (Nat.le_refl _) hn hl hs hE
    | [], h, _, _, _ => exact absurd (by simp) h
    | [_], h, _, _, _ => exact absurd (by simp) h
    | [_, _], h, _, _, _ => exact absurd (by simp) h
    | [_, _, _], h, _, _, _ => exact absurd (by simp) h
theorem FitN.fit {p : PD} {N : Nat} (h : FitN p N) (hN : N ≤ 100000) : PFit p := by
  obtain ⟨h1, h2, h3, h4⟩ := h
  unfold PFit maxLen
  exact ⟨by omega, fun x hx => Nat.le_trans (h3 x hx) (by omega), by omega, fun x hx => Nat.le_trans (h4 x hx) (by omega)⟩

set_option maxHeartbeats 4000000 in
theorem iPnrRead_any (s : ByteArray) (w : World) (hE : Env w) : Calls Tryz.prog 19 #[.string s] w (OutMade (readP s).1 (readP s).2 w) := by
  by_cases hs : 8000 < s.size
  · rw [readP_long hs]
    go_enter Tryz.func19, Tryz.ntmps19
    go_wp2_with (go_at_call 43; refine (tooLong_any _ _).mono ?_; rintro e w1 ⟨rfl, rfl⟩)
    refine bodyPost_ret (v := outPV ⟨0, 0, 0, [], [], false, 0⟩ none 0 none 0 2) (by simp [results, Tryz.results19, go_sem]) rfl ?_
    exact outMade_none (by go_grown)
  · have hs8 : s.size ≤ 8000 := by omega
    have hm := cutB_many 32 s
    have HSp : Hid (∀ W, Env W → Calls Tryz.prog 71 #[.string s, .string ⟨#[32]⟩] W (Splits (cutB 32 s) W)) := fun W hW => split_any s 32 W (by omega) hW.2
    have HOf : Hid (∀ W A, Env W → Lies W W.heap.size 1 A (cutB 32 s).length (strsC (cutB 32 s)) → Calls Tryz.prog 70 #[.slice A (cutB 32 s).length (cutB 32 s).length] W (OfGot (cutB 32 s) W)) :=
      fun W A hW hl => pnrOf_any _ A W hl (fun x hx => Nat.le_trans (cutB_sizes 32 s x hx) hs8) (by omega) hW
    have HRd : Hid (∀ p, FitN p (cutB 32 s).length → (∀ q, rightB q = true → cutB 32 s = wordsP q → p = q) → PFit p ∧ p.names.length ≤ 100000 ∧ p.holds.length ≤ 100000 ∧ readP s = if rightB p = true ∧ textT p = s then (p, 0) else (⟨0, 0, 0, [], [], false, 0⟩, 3)) :=
      fun p hf hq => ⟨hf.fit (by omega), Nat.le_trans hf.1 (by omega), Nat.le_trans hf.2.1 (by omega), readP_of hs8 (fun q hr ht => hq q hr (by rw [← ht]; exact cut_text hr))⟩
    generalize cutB 32 s = ws at *
    have hsI : ¬ (8000 : Int) < (s.size : Int) := by omega
    have HEE := Lib.hid hE
    generalize readP s = R at *
    clear hs hm hE
    unfold Splits at HSp
    go_enter Tryz.func19, Tryz.ntmps19
    go_wp2_with (go_at_call 43; refine (tooLong_any _ _).mono ?_; rintro e w1 ⟨rfl, rfl⟩)
    refine (HSp.out _ (HEE.out.on ((Below.refl _ _).alloc (Nat.le_refl _) _))).mono ?_
    rintro e w1 ⟨⟨A, rfl, hl1⟩, hb1⟩
    have Z1 : Block w1 w.heap.size 44 zeroO := (Block.new w _ _).on hb1
    have hB1 : Below w.heap.size w w1 := boxed hb1
    clear hb1
    go_wp2_with fail
    refine (HOf.out _ _ (HEE.out.on hB1) hl1).mono ?_
    rintro e w2 ⟨⟨p, A1, c1, A2, c2, rfl, hr1, hr2, hfit, hq⟩, hb2⟩
    obtain ⟨hPF, hp1, hp2, hRd⟩ := HRd.out p hfit hq
    have Z2 := Z1.on hb2
    have hB2 : Below w.heap.size w w2 := hB1.trans (hb2.mono hB1.size)
    have hz1 := Z1.lt
    have P2 : PSt (w1.heap.size + 1) w2.heap.size p A1 c1 A2 c2 (w2.alloc (.cells (pdCs p A1 c1 A2 c2) 40)) := ⟨Block.new w2 _ _, hr1.alloc _, hr2.alloc _⟩
    have Z3 := Z2.alloc (.cells (pdCs p A1 c1 A2 c2) 40)
    have hB3 := hB2.alloc hB2.size (.cells (pdCs p A1 c1 A2 c2) 40)
    have HP : Hid (∀ W A1 c1 A2 c2, PLies W W.heap.size p A1 A2 → Calls Tryz.prog 29 #[pdV p A1 c1 A2 c2] W fun e w' => e = .returned (.bool (rightB p)) ∧ Below W.heap.size W w') := fun W A1 c1 A2 c2 hl => iPnrRight_any p A1 c1 A2 c2 W hl hPF (by omega) (by omega)
    have HT : Hid (∀ W A1 c1 A2 c2, PLies W W.heap.size p A1 A2 → Calls Tryz.prog 17 #[pdV p A1 c1 A2 c2] W fun e w' => e = .returned (.string (textT p)) ∧ Below W.heap.size W w') := fun W A1 c1 A2 c2 hl => iPnrText_any p A1 c1 A2 c2 W hl hPF (by omega) (by omega)
    have HRd2 := Lib.hid hRd
    clear HSp HOf HRd HEE hl1 hB1 Z1 hr1 hr2 hfit hq hb2 Z2 hB2 hPF hp1 hp2 hRd
    have hzw : w.heap.size < w1.heap.size := hz1
    cases hr : rightB p
    · have HR : Hid (R = (⟨0, 0, 0, [], [], false, 0⟩, 3)) := by rw [Hid, HRd2.out, hr, if_neg (by simp)]
      rw [hr] at HP
      clear HRd2 HT hr
      obtain ⟨ph, pl, po, ns, hs, pb, pf⟩ := p
      dsimp only [pdV, pdCs] at *
      go_wp2_with fail
      refine (HP.out _ _ _ _ _ P2.lies).mono ?_
      rintro e w3 ⟨rfl, hb3⟩
      have Z4 := Z3.on hb3
      have z4 := Z4.cell
      have f4 := Z4.free
      have HB4 := Lib.hid (hB3.trans (hb3.mono hB3.size))
      clear hb3 Z3 hB3 P2 HP
      go_wp2_with fail
      refine bodyPost_ret (v := outPV ⟨0, 0, 0, [], [], false, 0⟩ none 0 none 0 3) (by simp [results, Tryz.results19, go_sem, z4, f4]) rfl ?_
      rw [HR.out]
      refine outMade_none ?_
      iterate 8 (refine below_set_own ?_ _ _)
      exact HB4.out
    · rw [hr] at HP
      by_cases ht : textT p = s
      · have HR : Hid (R = (p, 0)) := by rw [Hid, HRd2.out, if_pos ⟨hr, ht⟩]
        rw [ht] at HT
        clear HRd2 hr ht
        obtain ⟨ph, pl, po, ns, hs, pb, pf⟩ := p
        dsimp only [pdV, pdCs] at *
        go_wp2_with fail
        refine (HP.out _ _ _ _ _ P2.lies).mono ?_
        rintro e w3 ⟨rfl, hb3⟩
        have P3 := P2.on hb3
        have q3 := P3.blk.cell
        have Z4 := Z3.on hb3
        have hB4 := hB3.trans (hb3.mono hB3.size)
        clear hb3 Z3 hB3 P2 HP
        go_wp2_with fail
        refine (HT.out _ _ _ _ _ P3.lies).mono ?_
        rintro e w4 ⟨rfl, hb4⟩
        have P5 := P3.on hb4
        have q5 := P5.blk.cell
        have Z5 := Z4.on hb4
        have z5 := Z5.cell
        have f5 := Z5.free
        have HB5 := Lib.hid (hB4.trans (hb4.mono hB4.size))
        have HP5 := Lib.hid P5
        clear hb4 Z4 hB4 P3 HT q3 P5
        go_wp2_with fail
        refine bodyPost_ret (v := outPV ⟨ph, pl, po, ns, hs, pb, pf⟩ A1 c1 A2 c2 0) (by simp [results, Tryz.results19, go_sem, z5, f5]) rfl ?_
        rw [HR.out]
        refine ⟨⟨A1, c1, A2, c2, rfl, ?_, ?_⟩, ?_⟩
        · refine ownsRow_base (base := w1.heap.size + 1) ?_ (by omega)
          iterate 8 (refine ownsRow_setCell_below ?_ (by dsimp only; omega) _)
          exact HP5.out.ns
        · refine ownsRow_base (base := w1.heap.size + 1) ?_ (by omega)
          iterate 8 (refine ownsRow_setCell_below ?_ (by dsimp only; omega) _)
          exact HP5.out.hs
        · iterate 8 (refine below_set_own ?_ _ _)
          exact HB5.out
      · have HR : Hid (R = (⟨0, 0, 0, [], [], false, 0⟩, 3)) := by rw [Hid, HRd2.out, if_neg (fun h => ht h.2)]
        have hne := str_ne ht
        clear HRd2 hr ht
        generalize textT p = T at *
        obtain ⟨ph, pl, po, ns, hs, pb, pf⟩ := p
        dsimp only [pdV, pdCs] at *
        go_wp2_with fail
        refine (HP.out _ _ _ _ _ P2.lies).mono ?_
        rintro e w3 ⟨rfl, hb3⟩
        have P3 := P2.on hb3
        have q3 := P3.blk.cell
        have Z4 := Z3.on hb3
        have hB4 := hB3.trans (hb3.mono hB3.size)
        clear hb3 Z3 hB3 P2 HP
        go_wp2_with fail
        refine (HT.out _ _ _ _ _ P3.lies).mono ?_
        rintro e w4 ⟨rfl, hb4⟩
        have Z5 := Z4.on hb4
        have z5 := Z5.cell
        have f5 := Z5.free
        have HB5 := Lib.hid (hB4.trans (hb4.mono hB4.size))
        clear hb4 Z4 hB4 P3 HT q3
        go_wp2_with fail
        refine bodyPost_ret (v := outPV ⟨0, 0, 0, [], [], false, 0⟩ none 0 none 0 3) (by simp [results, Tryz.results19, go_sem, z5, f5]) rfl ?_
        rw [HR.out]
        refine outMade_none ?_
        iterate 8 (refine below_set_own ?_ _ _)
        exact HB5.out
end Go.Proofs.YtpncnkihfijmaaaGreatDoor
