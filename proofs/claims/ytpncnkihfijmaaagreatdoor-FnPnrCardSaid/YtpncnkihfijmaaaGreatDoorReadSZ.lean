/-
  spec.PnrRead answers 'readP', in memory of its own.
-/
import Derived.Test.YtpncnkihfijmaaaGreatDoorFillSZ
import Derived.Test.YtpncnkihfijmaaaGreatDoorTextSZ
import Derived.Test.YtpncnkihfijmaaaGreatDoorReadIZ
namespace Go.Proofs.YtpncnkihfijmaaaGreatDoor
open Go.ChangeShapes Go.WideShapes Go.ChangeAt Go.RowKit Go.ChangeMaps
set_option maxRecDepth 10000
set_option linter.unusedSimpArgs false
set_option linter.unusedVariables false

theorem readP_parse {s : ByteArray} (h : s.size ≤ 8000) {p : PD} (hp : parseS (cutB 32 s) = p) : readP s = if rightB p = true ∧ textT p = s then (p, 0) else (⟨0, 0, 0, [], [], false, 0⟩, 3) := by
  subst hp
  rw [readP, if_neg (by omega)]
theorem parseS_few {ws : List ByteArray} (h : ws.length < 4) : parseS ws = ⟨0, 0, 0, [], [], false, 0⟩ := by
  match ws, h with
  | [], _ => rfl
  | [_], _ => rfl
  | [_, _], _ => rfl
  | [_, _, _], _ => rfl
  | _ :: _ :: _ :: _ :: _, h => simp at h; omega

section
variable {w W W' : World} {g : Nat} {p : PD} {A1 A2 : Option Addr} {c1 c2 : Nat}
theorem FSt.home (h : FSt g w p A1 c1 A2 c2 W) (n : Int) : FSt g w { p with home := n } A1 c1 A2 c2 (W.setCell ⟨g, 0, none⟩ (.int .i64 n)) := ⟨h.st.home n, h.below.setCell (Nat.le_refl g) _⟩
theorem FSt.loc (h : FSt g w p A1 c1 A2 c2 W) (n : Int) : FSt g w { p with loc := n } A1 c1 A2 c2 (W.setCell ⟨g, 1, none⟩ (.int .i64 n)) := ⟨h.st.loc n, h.below.setCell (Nat.le_refl g) _⟩
theorem FSt.owner (h : FSt g w p A1 c1 A2 c2 W) (n : Int) : FSt g w { p with owner := n } A1 c1 A2 c2 (W.setCell ⟨g, 2, none⟩ (.int .i64 n)) := ⟨h.st.owner n, h.below.setCell (Nat.le_refl g) _⟩
theorem FSt.live (h : FSt g w p A1 c1 A2 c2 W) (n : Bool) : FSt g w { p with live := n } A1 c1 A2 c2 (W.setCell ⟨g, 5, none⟩ (.bool n)) := ⟨h.st.live n, h.below.setCell (Nat.le_refl g) _⟩
theorem FSt.fill (h : FSt g w p A1 c1 A2 c2 W) {p' : PD} (hf : FillGot g W p' W') : FillGot g w p' W' := by
  obtain ⟨B1, d1, B2, d2, hs, hb⟩ := hf
  exact ⟨B1, d1, B2, d2, hs, h.below.trans hb⟩
end

/-- l01Split, with room. -/
def SplGot2 (ws : List ByteArray) (w : World) (e : Ending) (w' : World) : Prop := (∃ A c, e = .returned (.slice A ws.length c) ∧ ws.length ≤ c ∧ Lies w' w'.heap.size 1 A ws.length (strsC ws)) ∧ Below w.heap.size w w'
theorem sSplit2_any (t : ByteArray) (b : UInt8) (w : World) (ht : t.size ≤ 1048576) : Calls Tryz.prog 38 #[.string t, .int .u8 (b.toNat : Int)] w (SplGot2 (cutB b t) w) := by
  refine (l01Split_any t (b.toNat : Int) w ht).mono ?_
  rw [splitT_cut]
  rintro e w' ⟨A, c, rfl, hr, hb⟩
  obtain ⟨A', c', he, h1, -⟩ := own_form hr
  injection he with _ _ he
  subst he
  exact ⟨⟨A, c, rfl, h1, Lies.own hr⟩, hb⟩

/-- l01Split, a row of one's own. -/
def SplGot3 (ws : List ByteArray) (w : World) (e : Ending) (w' : World) : Prop := (∃ A c, e = .returned (.slice A ws.length c) ∧ w'.ownsRow w.heap.size 9 1 (.slice A ws.length c) ws.length (strsC ws)) ∧ Below w.heap.size w w'
theorem sSplit3_any (t : ByteArray) (b : UInt8) (w : World) (ht : t.size ≤ 1048576) : Calls Tryz.prog 38 #[.string t, .int .u8 (b.toNat : Int)] w (SplGot3 (cutB b t) w) := by
  refine (l01Split_any t (b.toNat : Int) w ht).mono ?_
  rw [splitT_cut]
  rintro e w' ⟨A, c, rfl, hr, hb⟩
  exact ⟨⟨A, c, rfl, hr⟩, hb⟩
theorem cutB_ne (b : UInt8) (s : ByteArray) : ∃ x r, cutB b s = x :: r := by
  cases h : cutB b s with
  | nil =>
    have := congrArg List.length h
    have h2 := cutL_ne b s.data.toList
    simp [cutB] at this
    exact absurd this h2
  | cons x r => exact ⟨x, r, rfl⟩
def locOf (kr : List ByteArray) : Int := match kr with
  | [l] => numI l.data.toList
  | _ => 0
theorem parseS_many {a b c d k0 : ByteArray} {r kr : List ByteArray} (h : cutB 46 a = k0 :: kr) : parseS (a :: b :: c :: d :: r) = fillS ⟨numI k0.data.toList, locOf kr, numI c.data.toList, [], [], decide (d = lvA), 0⟩ r := by
  dsimp only [parseS]
  rw [h]
  match kr with
  | [] => rfl
  | [_] => rfl
  | _ :: _ :: _ => rfl
/-- The booking is laid, as the words say. -/
def ReadRel (w1 : World) (ws : List ByteArray) (W : World) : Prop := FitN (parseS ws) 100000 ∧ FillGot w1.heap.size w1 (parseS ws) W

set_option maxHeartbeats 8000000 in
theorem sPnrRead_any (s : ByteArray) (w : World) (hm : s.size ≤ 1048576) : Calls Tryz.prog 20 #[.string s] w (OutMade (readP s).1 (readP s).2 w) := by
  by_cases hs : 8000 < s.size
  · rw [readP_long hs]
    have hsI : (8000 : Int) < (s.size : Int) := by omega
    go_enter Tryz.func20, Tryz.ntmps20
    go_wp2_with fail
    refine bodyPost_ret (v := outPV ⟨0, 0, 0, [], [], false, 0⟩ none 0 none 0 2) (by simp [results, Tryz.results20, go_sem]) rfl ?_
    exact outMade_none (by go_grown)
  · have hs8 : s.size ≤ 8000 := by omega
    have hmany := cutB_many 32 s
    have HSp : Hid (∀ W, Calls Tryz.prog 38 #[.string s, .int .u8 32] W (SplGot2 (cutB 32 s) W)) := fun W => sSplit2_any s 32 W (by omega)
    have HWs : Hid (∀ x ∈ cutB 32 s, x.size ≤ 8000) := fun x hx => Nat.le_trans (cutB_sizes 32 s x hx) hs8
    have HEnd : Hid (readP s = if rightB (parseS (cutB 32 s)) = true ∧ textT (parseS (cutB 32 s)) = s then (parseS (cutB 32 s), 0) else (⟨0, 0, 0, [], [], false, 0⟩, 3)) := readP_parse hs8 rfl
    have hsI : ¬ (8000 : Int) < (s.size : Int) := by omega
    have hmany2 : (cutB 32 s).length ≤ 8001 := by omega
    unfold SplGot2 at HSp
    generalize readP s = R at *
    generalize cutB 32 s = ws at *
    clear hmany
    go_enter Tryz.func20, Tryz.ntmps20
    go_wp2_with fail
    refine (HSp.out _).mono ?_
    rintro e w1 ⟨⟨A, c, rfl, hcap, hl1⟩, hb1⟩
    have Z1 : Block w1 w.heap.size 44 zeroO := (Block.new w _ _).on hb1
    have hB1 : Below w.heap.size w w1 := boxed hb1
    have T0 : FSt w1.heap.size w1 ⟨0, 0, 0, [], [], false, 0⟩ none 0 none 0 (w1.alloc (.cells zeroP 40)) := ⟨⟨Block.new w1 _ _, ⟨rfl, .inl ⟨rfl, rfl⟩⟩, ⟨rfl, .inl ⟨rfl, rfl⟩⟩⟩, (Below.refl _ w1).alloc (Nat.le_refl _) _⟩
    have HZ1 := Lib.hid Z1
    have HB1 := Lib.hid hB1
    have HT0 := Lib.hid T0
    clear hb1 HSp Z1 hB1 T0
    go_upto_if 15 with fail
    go_cut [] from 5 (fun W => ReadRel w1 ws W)
    case first =>
      by_cases h4 : ws.length < 4
      · have h4I : (ws.length : Int) < 4 := by omega
        have HR : Hid (ReadRel w1 ws (w1.alloc (.cells zeroP 40))) := ⟨by rw [parseS_few h4]; exact (FitN.none_ _ _ _ _ _).mono (Nat.zero_le _), by rw [parseS_few h4]; exact ⟨none, 0, none, 0, HT0.out⟩⟩
        clear hl1 h4
        go_wp2_with fail
        go_meet
        exact HR.out
      · match ws, h4, hl1, hcap, HWs, hmany2 with
        | [], h, _, _, _, _ => exact absurd (by simp) h
        | [_], h, _, _, _, _ => exact absurd (by simp) h
        | [_, _], h, _, _, _, _ => exact absurd (by simp) h
        | [_, _, _], h, _, _, _, _ => exact absurd (by simp) h
        | a :: b :: c' :: d :: r, _, hl1, hcap, HWs, hmany2 =>
          obtain ⟨bn, off, rfl, hbn, hcell⟩ := hl1.2 (by simp)
          have ca := hcell 0 _ rfl
          have cc := hcell 2 _ rfl
          have cd := hcell 3 _ rfl
          rw [Nat.add_zero] at ca
          obtain ⟨A4, hsl4, hl4⟩ := slice_from w1 w1.heap.size (some ⟨bn, off, none⟩) (a :: b :: c' :: d :: r) c 4 hl1 (by simp) (by simp) hcap
          have hsl : ∀ W : World, (Instr.slice 37 (.slice (some ⟨bn, off, none⟩) (a :: b :: c' :: d :: r).length c) (some (.int .i64 4)) none none).run Tryz.prog W = .ok (.slice A4 r.length (c - 4)) W := hsl4
          have hl4' : Lies w1 w1.heap.size 1 A4 r.length (strsC r) := hl4
          have hsa := HWs.out a (by simp)
          have hsc := HWs.out c' (by simp)
          have hsr : ∀ x ∈ r, x.size ≤ 8000 := fun x hx => HWs.out x (by simp [hx])
          have hrl : r.length ≤ 8001 := by simp at hmany2; omega
          obtain ⟨k0, kr, hk⟩ := cutB_ne 46 a
          have hk0 : ∀ x ∈ k0 :: kr, x.size ≤ 8000 := fun x hx => Nat.le_trans (cutB_sizes 46 a x (by rw [hk]; exact hx)) hsa
          have HSa : Hid (∀ W, Calls Tryz.prog 38 #[.string a, .int .u8 46] W (SplGot3 (k0 :: kr) W)) := fun W => by
            have := sSplit3_any a 46 W (by omega)
            rw [hk] at this
            exact this
          have HNum : Hid (∀ (x : ByteArray) (W : World), x.size ≤ 8000 → Calls Tryz.prog 41 #[.string x] W fun e w' => e = .returned (.int .i64 (numI x.data.toList)) ∧ W = w') := fun x W hx => l02Num_any x W (by unfold maxLen; omega)
          have HFl : Hid (∀ (W : World) (p : PD), FSt w1.heap.size w1 p none 0 none 0 W → FitN p 0 → Calls Tryz.prog 72 #[.pointer (some ⟨w1.heap.size, 0, none⟩), .slice A4 r.length (c - 4)] W (FillEnd w1.heap.size W (fillS p r) r.length)) :=
            fun W p hT hf => l03Fill_any r A4 (c - 4) w1.heap.size p none 0 none 0 W (hl4'.below hT.below) hsr (by omega) hf hT.st
          have HEq : Hid (∀ W, FillGot w1.heap.size w1 (fillS ⟨numI k0.data.toList, locOf kr, numI c'.data.toList, [], [], decide (d = lvA), 0⟩ r) W → FitN (fillS ⟨numI k0.data.toList, locOf kr, numI c'.data.toList, [], [], decide (d = lvA), 0⟩ r) r.length → ReadRel w1 (a :: b :: c' :: d :: r) W) := fun W h1 h2 => by
            unfold ReadRel
            rw [parseS_many hk]
            exact ⟨h2.mono (by omega), h1⟩
          have hlv : (d.toList == [108, 105, 118, 101]) = decide (d = lvA) := by
            have e : lvA.toList = [108, 105, 118, 101] := by rw [ByteArray.toList_eq]
            rw [← e]
            by_cases h : d = lvA
            · subst h
              rw [decide_eq_true rfl]
              exact beq_iff_eq.2 rfl
            · rw [decide_eq_false h]
              exact str_ne h
          have HN1 := Lib.hid (fun W => HNum.out k0 W (hk0 k0 (by simp)))
          have HN3 := Lib.hid (fun W => HNum.out c' W hsc)
          have hn4 : (4 : Int) ≤ ((a :: b :: c' :: d :: r).length : Int) := by simp; omega
          generalize hLn : (a :: b :: c' :: d :: r).length = LN at *
          have hLn2 : (2 : Int) < (LN : Int) := by omega
          have hLn3 : (3 : Int) < (LN : Int) := by omega
          have hLn0 : (0 : Int) < (LN : Int) := by omega
          have hwn : w1.heap.size ≠ bn := by omega
          clear hcell hl1 hsl4 hl4 hl4' hsa hsc hsr hLn hcap hmany2 HWs
          have hkr : (∃ l, kr = [l]) ∨ (kr.length ≠ 1 ∧ locOf kr = 0) := by
            match kr with
            | [l] => exact .inl ⟨l, rfl⟩
            | [] => exact .inr ⟨by simp, rfl⟩
            | _ :: _ :: _ => exact .inr ⟨by simp, rfl⟩
          unfold SplGot3 at HSa
          generalize numI k0.data.toList = n1 at *
          generalize numI c'.data.toList = n3 at *
          generalize decide (d = lvA) = lv at *
          rcases hkr with ⟨l, rfl⟩ | ⟨hkl, hl0⟩
          · have HN2 := Lib.hid (fun W => HNum.out l W (hk0 l (by simp)))
            have hloc : locOf [l] = numI l.data.toList := rfl
            rw [hloc] at HEq
            generalize numI l.data.toList = n2 at *
            clear hk0 hk hloc HNum
            go_wp2_with fail
            refine (HSa.out _).mono ?_
            rintro e w2 ⟨⟨A5, c5, rfl, hr5⟩, hb2⟩
            have T2 := HT0.out.on hb2
            obtain ⟨b5, c6, he5, hb5, -, -, hb5lt, hc5⟩ := row_at hr5 (by simp)
            injection he5 with he5 _ he6
            subst he5 he6
            have ck0 := hc5 0 _ rfl
            have hb5n : w1.heap.size < b5 := by simp at hb5; omega
            have hw5 : w1.heap.size ≠ b5 := by omega
            replace cc := kc T2.below cc hbn
            replace cd := kc T2.below cd hbn
            have q2 := T2.st.blk.cell
            have f2 := T2.st.blk.free
            have ck1 := hc5 1 _ rfl
            clear hr5 hb2 hc5 ca
            go_wp2_with fail
            refine (HN1.out _).mono ?_
            rintro e w3 ⟨rfl, rfl⟩
            go_wp2_with fail
            refine (HN2.out _).mono ?_
            rintro e w3 ⟨rfl, rfl⟩
            go_wp2_with fail
            refine (HN3.out _).mono ?_
            rintro e w3 ⟨rfl, rfl⟩
            have HT5 := Lib.hid ((((T2.home n1).loc n2).owner n3).live lv)
            clear T2
            go_wp2_with fail
            refine (HFl.out _ _ HT5.out (FitN.none_ _ _ _ _ _)).mono ?_
            rintro e w4 ⟨rfl, hfE, hfG⟩
            have HR := Lib.hid (HEq.out _ (HT5.out.fill hfG) hfE)
            clear hfE hfG
            go_wp2_with fail
            go_meet
            exact HR.out
          · have hkI : (((k0 :: kr).length : Int) == 2) = false := by rw [beq_eq_false_iff_ne]; simp; omega
            rw [hl0] at HEq
            clear hk0 hk hl0 HNum hkl
            have hkp : 0 < (k0 :: kr).length := by simp
            go_wp2_with fail
            refine (HSa.out _).mono ?_
            rintro e w2 ⟨⟨A5, c5, rfl, hr5⟩, hb2⟩
            have T2 := HT0.out.on hb2
            obtain ⟨b5, c6, he5, hb5, -, -, hb5lt, hc5⟩ := row_at hr5 (by simp)
            injection he5 with he5 _ he6
            subst he5 he6
            have ck0 := hc5 0 _ rfl
            have hb5n : w1.heap.size < b5 := by simp at hb5; omega
            have hw5 : w1.heap.size ≠ b5 := by omega
            replace cc := kc T2.below cc hbn
            replace cd := kc T2.below cd hbn
            have q2 := T2.st.blk.cell
            have f2 := T2.st.blk.free
            clear hr5 hb2 hc5 ca
            generalize (k0 :: kr).length = K at *
            have hKI : (0 : Int) < (K : Int) := by omega
            go_wp2_with fail
            refine (HN1.out _).mono ?_
            rintro e w3 ⟨rfl, rfl⟩
            go_wp2_with fail
            refine (HN3.out _).mono ?_
            rintro e w3 ⟨rfl, rfl⟩
            have HT5 := Lib.hid (((T2.home n1).owner n3).live lv)
            clear T2
            go_wp2_with fail
            refine (HFl.out _ _ HT5.out (FitN.none_ _ _ _ _ _)).mono ?_
            rintro e w4 ⟨rfl, hfE, hfG⟩
            have HR := Lib.hid (HEq.out _ (HT5.out.fill hfG) hfE)
            clear hfE hfG
            go_wp2_with fail
            go_meet
            exact HR.out
    case rest =>
      obtain ⟨hfit, A1, c1, A2, c2, T⟩ := hcut
      have hPF := hfit.fit (Nat.le_refl _)
      obtain ⟨hp1, hp2, -, -⟩ := hfit
      generalize parseS ws = p at *
      have HT : Hid (∀ W A1 c1 A2 c2, PLies W W.heap.size p A1 A2 → Calls Tryz.prog 26 #[pdV p A1 c1 A2 c2] W fun e w' => e = .returned (.string (textT p)) ∧ Below W.heap.size W w') := fun W A1 c1 A2 c2 hl => sPnrText_any p A1 c1 A2 c2 W hl hPF (by omega) (by omega)
      have hzw : w.heap.size < w1.heap.size := HZ1.out.lt
      have Zc := HZ1.out.below T.below hzw
      have HBc := Lib.hid (HB1.out.trans (T.below.mono (Nat.le_of_lt hzw)))
      clear HT0 hl1 hcap HZ1 HB1 HWs hPF hp1 hp2 hmany2
      by_cases h0 : 0 < s.size
      · have hne0 : s.toList.isEmpty = false := not_empty h0
        have hEmp : rightB p = false → textT p ≠ s := fun hr ht => by
          rw [textT, if_neg (by rw [hr]; simp)] at ht
          subst ht
          simp [ByteArray.size] at h0
        by_cases ht : textT p = s
        · have hr : rightB p = true := by
            cases hr : rightB p
            · exact absurd ht (hEmp hr)
            · rfl
          have HR : Hid (R = (p, 0)) := by rw [Hid, HEnd.out, if_pos ⟨hr, ht⟩]
          rw [ht] at HT
          clear HEnd hr ht hEmp h0 hs8 hsI hm hs
          obtain ⟨ph, pl, po, ns, hs, pb, pf⟩ := p
          dsimp only [pdV, pdCs] at *
          have q1 := T.st.blk.cell
          go_wp2_with fail
          refine (HT.out _ _ _ _ _ T.st.lies).mono ?_
          rintro e w5 ⟨rfl, hb5⟩
          have T5 := T.on hb5
          have q5 := T5.st.blk.cell
          have Z5 := Zc.on hb5
          have z5 := Z5.cell
          have f5 := Z5.free
          have HB5 := Lib.hid (HBc.out.trans (hb5.mono HBc.out.size))
          have HP5 := Lib.hid T5.st
          clear hb5 Zc T T5 HT q1 HBc
          go_wp2_with fail
          refine bodyPost_ret (v := outPV ⟨ph, pl, po, ns, hs, pb, pf⟩ A1 c1 A2 c2 0) (by simp [results, Tryz.results20, go_sem, z5, f5]) rfl ?_
          rw [HR.out]
          refine ⟨⟨A1, c1, A2, c2, rfl, ?_, ?_⟩, ?_⟩
          · refine ownsRow_base (base := w1.heap.size + 1) ?_ (by omega)
            iterate 8 (refine ownsRow_setCell_below ?_ (by dsimp only; omega) _)
            exact HP5.out.ns
          · refine ownsRow_base (base := w1.heap.size + 1) ?_ (by omega)
            iterate 8 (refine ownsRow_setCell_below ?_ (by dsimp only; omega) _)
            exact HP5.out.hs
          · iterate 8 (refine below_set_own ?_ _ _)
            exact HB5.out
        · have HR : Hid (R = (⟨0, 0, 0, [], [], false, 0⟩, 3)) := by rw [Hid, HEnd.out, if_neg (fun h => ht h.2)]
          have hne := str_ne ht
          clear HEnd ht hEmp h0 hs8 hsI hm hs
          generalize textT p = TX at *
          obtain ⟨ph, pl, po, ns, hs, pb, pf⟩ := p
          dsimp only [pdV, pdCs] at *
          have q1 := T.st.blk.cell
          go_wp2_with fail
          refine (HT.out _ _ _ _ _ T.st.lies).mono ?_
          rintro e w5 ⟨rfl, hb5⟩
          have Z5 := Zc.on hb5
          have z5 := Z5.cell
          have f5 := Z5.free
          have HB5 := Lib.hid (HBc.out.trans (hb5.mono HBc.out.size))
          clear hb5 Zc T HT q1 HBc
          go_wp2_with fail
          refine bodyPost_ret (v := outPV ⟨0, 0, 0, [], [], false, 0⟩ none 0 none 0 3) (by simp [results, Tryz.results20, go_sem, z5, f5]) rfl ?_
          rw [HR.out]
          refine outMade_none ?_
          iterate 8 (refine below_set_own ?_ _ _)
          exact HB5.out
      · have he0 : s.toList.isEmpty = true := by
          have e : s.data.toList.length = s.size := by simp
          have e2 : s.data.toList = [] := List.eq_nil_of_length_eq_zero (by omega)
          rw [ByteArray.toList_eq, e2]
          rfl
        have HR : Hid (R = (⟨0, 0, 0, [], [], false, 0⟩, 3)) := by
          rw [Hid, HEnd.out, if_neg (fun h => ?_)]
          have := textT_pos h.1
          rw [h.2] at this
          exact h0 this
        have z5 := Zc.cell
        have f5 := Zc.free
        clear HEnd h0 hs8 hsI hm hs HT Zc T
        go_wp2_with fail
        refine bodyPost_ret (v := outPV ⟨0, 0, 0, [], [], false, 0⟩ none 0 none 0 3) (by simp [results, Tryz.results20, go_sem, z5, f5]) rfl ?_
        rw [HR.out]
        refine outMade_none ?_
        iterate 8 (refine below_set_own ?_ _ _)
        exact HBc.out
end Go.Proofs.YtpncnkihfijmaaaGreatDoor
