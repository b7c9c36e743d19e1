/-
  spec.l03Fill reads what 'fillS' says.
-/
import Derived.Test.YtpncnkihfijmaaaGreatDoorFillStZ
import Derived.Test.YtpncnkihfijmaaaGreatDoorM3
import Derived.Test.YtpncnkihfijmaaaGreatDoorSeatReadSZ
import Derived.Deep.RegionLaw
import Derived.Deep.DeepCutAuto
namespace Go.Proofs.YtpncnkihfijmaaaGreatDoor
open Go.ChangeShapes Go.WideShapes Go.ChangeAt Go.RowKit Go.ChangeMaps
set_option maxRecDepth 10000
set_option linter.unusedSimpArgs false
set_option linter.unusedVariables false

/-- l01Split, told by cutB. -/
def SplGot (ws : List ByteArray) (w : World) (e : Ending) (w' : World) : Prop := (∃ A c, e = .returned (.slice A ws.length c) ∧ Lies w' w'.heap.size 1 A ws.length (strsC ws)) ∧ Below w.heap.size w w'
theorem sSplit_any (t : ByteArray) (b : UInt8) (w : World) (ht : t.size ≤ 1048576) : Calls Tryz.prog 38 #[.string t, .int .u8 (b.toNat : Int)] w (SplGot (cutB b t) w) := by
  refine (l01Split_any t (b.toNat : Int) w ht).mono ?_
  rw [splitT_cut]
  rintro e w' ⟨A, c, rfl, hr, hb⟩
  exact ⟨⟨A, c, rfl, Lies.own hr⟩, hb⟩

/-- How far the words have been read. -/
def FillRel (g : Nat) (w : World) (ws : List ByteArray) (p : PD) (i : Value) (W : World) : Prop :=
  ∃ (k : Nat) (p' : PD), k ≤ ws.length ∧ i = .int .i64 k ∧ Hid (fillS p ws = fillS p' (ws.drop k)) ∧ FitN p' k ∧ FillGot g w p' W
def FillEnd (g : Nat) (w : World) (p : PD) (N : Nat) (e : Ending) (W : World) : Prop := e = .returned (.tuple #[]) ∧ FitN p N ∧ FillGot g w p W

theorem head_43 {x : ByteArray} (h : 0 < x.size) : x.data.toList.head? = some 43 ↔ (x[0].toNat : Int) = 43 := by
  rw [head_at h]
  constructor
  · intro h1
    have := Option.some.inj h1
    rw [this]
    rfl
  · intro h1
    congr 1
    apply UInt8.toNat_inj.1
    have : (43 : UInt8).toNat = 43 := rfl
    omega
theorem head_none {x : ByteArray} (h : ¬ 0 < x.size) : ¬ x.data.toList.head? = some 43 := by
  have e : x.data.toList = [] := List.eq_nil_of_length_eq_zero (by have : x.data.toList.length = x.size := by simp
                                                                   omega)
  rw [e]
  simp

set_option maxHeartbeats 8000000 in
theorem l03Fill_any (ws : List ByteArray) (A : Option Addr) (cap g : Nat) (p : PD) (A1 : Option Addr) (c1 : Nat) (A2 : Option Addr) (c2 : Nat) (w : World) (hl : Lies w g 1 A ws.length (strsC ws)) (hs : ∀ x ∈ ws, x.size ≤ 8000) (hn : ws.length ≤ 100000) (hf : FitN p 0)
    (h : PSt (g + 1) g p A1 c1 A2 c2 w) : Calls Tryz.prog 72 #[.pointer (some ⟨g, 0, none⟩), .slice A ws.length cap] w (FillEnd g w (fillS p ws) ws.length) := by
  have HL := Lib.hid hl
  have HS := Lib.hid hs
  have HR0 : FillRel g w ws p (.int .i64 0) w := ⟨0, p, Nat.zero_le _, rfl, rfl, hf, A1, c1, A2, c2, h, Below.refl _ _⟩
  clear hl hs hf h
  go_enter Tryz.func72, Tryz.ntmps72
  go_wp2_with fail
  go_loopw [4] (fun i W => FillRel g w ws p i W) (fun i _ => ws.length - (intOf i).toNat)
  case atStart => exact HR0
  case round =>
    clear HR0
    obtain ⟨k, P, hk, rfl, HEq, hfit, a1, d1, a2, d2, T⟩ := hrel
    by_cases hlt : k < ws.length
    · obtain ⟨bx, ox, x, rfl, hbx, hx, cx⟩ := (HL.out.below T.below).str hlt
      have hxs := HS.out x (List.mem_of_getElem? hx)
      have hdrop := drop_at hx
      have HSp := Lib.hid (fun W => sSplit_any x 58 W (by omega))
      unfold SplGot at HSp
      have h58 : ((58 : UInt8).toNat : Int) = 58 := rfl
      rw [h58] at HSp
      clear h58
      have hxt : (x.toList == [116, 111]) = decide (x = twA) := by
        have e : twA.toList = [116, 111] := by rw [ByteArray.toList_eq]
        rw [← e]
        by_cases h : x = twA
        · subst h
          rw [decide_eq_true rfl]
          exact beq_iff_eq.2 rfl
        · rw [decide_eq_false h]
          exact str_ne h
      by_cases hto : x = twA ∧ k + 1 < ws.length
      · obtain ⟨rfl, hk1⟩ := hto
        obtain ⟨by', oy, y, he, hby, hy, cy⟩ := (HL.out.below T.below).str hk1
        obtain ⟨rfl, rfl⟩ : by' = bx ∧ oy = ox := by
          injection he with he
          injection he with h1 h2
          exact ⟨h1.symm, h2.symm⟩
        have hys := HS.out y (List.mem_of_getElem? hy)
        have HEq2 : Hid (fillS p ws = fillS { P with offer := numI y.data.toList } (ws.drop (k + 2))) := by
          rw [Hid, HEq.out, hdrop, drop_at hy, fillS_to]
        have HNum : Hid (∀ W, Calls Tryz.prog 41 #[.string y] W fun e w' => e = .returned (.int .i64 (numI y.data.toList)) ∧ W = w') := fun W => l02Num_any y W (by unfold maxLen; omega)
        rw [decide_eq_true rfl] at hxt
        generalize numI y.data.toList = ny at *
        have hw1 : IntKind.i64.wrap ((k : Int) + 1) = (k : Int) + 1 := IntWalk.i64_in _ (by omega)
        have hk1' : (k : Int) + 1 < (ws.length : Int) := by omega
        clear hdrop hy he hx HEq
        have hgw := T.le
        go_wp2_with fail
        refine (HSp.out _).mono ?_
        rintro e w2 ⟨⟨A5, c5, rfl, -⟩, hb2⟩
        have T2 := T.on hb2
        replace cx := kc hb2 cx (by omega)
        replace cy := kc hb2 cy (by omega)
        have q2 := T2.st.blk.cell
        have f2 := T2.st.blk.free
        clear T hb2
        go_wp2_with fail
        refine (HNum.out _).mono ?_
        rintro e w3 ⟨rfl, rfl⟩
        have HT := Lib.hid (T2.offer ny)
        clear T2
        go_wp2_with fail
        go_roundw
        case rel => exact ⟨k + 2, _, by omega, by go_num, HEq2, (hfit.withOffer ny).mono (by omega), a1, d1, a2, d2, HT.out⟩
        case measure => simp [intOf]; omega
      · have hto' : x ≠ twA ∨ ws.drop (k + 1) = [] := by
          by_cases h : x = twA
          · exact .inr (List.drop_eq_nil_of_le (by have : ¬ k + 1 < ws.length := fun h2 => hto ⟨h, h2⟩
                                                   omega))
          · exact .inl h
        have HEq2 : Hid (fillS p ws = fillS (step1 P x) (ws.drop (k + 1))) := by rw [Hid, HEq.out, hdrop, fillS_cons _ _ _ hto']
        have hgw := T.le
        have hg4 : (decide (x = twA)) = false ∨ (decide (x = twA) = true ∧ ¬ (k : Int) + 1 < (ws.length : Int)) := by
          by_cases h : x = twA
          · exact .inr ⟨decide_eq_true h, fun h2 => hto ⟨h, by omega⟩⟩
          · exact .inl (decide_eq_false h)
        have hw1 : IntKind.i64.wrap ((k : Int) + 1) = (k : Int) + 1 := IntWalk.i64_in _ (by omega)
        clear hdrop HEq hto hto' hx
        by_cases hp : x.data.toList.head? = some 43
        · have hx0 : 0 < x.size := by
            refine Classical.byContradiction fun h => ?_
            exact head_none h hp
          have hx43 : (x[0].toNat : Int) = 43 := (head_43 hx0).1 hp
          have hix : ∀ W : World, (Instr.index 9 (.string x) (.int .i64 0)).run Tryz.prog W = .ok (.int .u8 43) W := fun W => by
            rw [run_index_string _ _ _ _ _ Tryz.underlying9, dif_pos ⟨by omega, by omega⟩]
            have h3 : ((0 : Int)).toNat = 0 := rfl
            simp only [h3]
            rw [hx43]
          have hxI : (0 : Int) < (x.size : Int) := by omega
          have HSN : Hid (step1 P x = { P with names := P.names ++ [x.extract 1 x.size] }) := step1_name hp
          have hns : (x.extract 1 x.size).size ≤ 8000 := by simp; omega
          have hsl : ∀ W : World, (Instr.slice 9 (.string x) (some (.int .i64 1)) none none).run Tryz.prog W = .ok (.string (x.extract 1 x.size)) W := fun W => by
            have h1 : (1 : Int) ≤ (x.size : Int) := by omega
            simp [Instr.slice, Instr.sliceBounds, Instr.sliceBound, asIntOf, run_underlying Tryz.underlying9, h1]
          have HFI : Hid (FitN { P with names := P.names ++ [x.extract 1 x.size] } (k + 1)) := hfit.addName hns
          obtain ⟨f1', f2', -, -⟩ := hfit
          clear hp hx43
          generalize x.extract 1 x.size = nm at *
          generalize decide (x = twA) = bt at *
          have HRest := Lib.hid HEq2.out
          rw [HSN.out] at HRest
          clear HSN HEq2
          obtain ⟨ph, pl, po, ns, hs, pb, pf⟩ := P
          dsimp only at *
          rcases hg4 with rfl | ⟨rfl, hk1⟩
          all_goals
            go_wp2_with fail
            refine (HSp.out _).mono ?_
            rintro e w2 ⟨⟨A5, c5, rfl, -⟩, hb2⟩
            have T2 := T.on hb2
            have cx2 := kc hb2 cx (by omega)
            have hg2 := T2.le
            clear T hb2 cx
            have q1 := T2.st.blk.cell
            have r1 : ∀ o, (w2.alloc o).cell? ⟨g, 3, none⟩ = some (.slice a1 ns.length d1) := fun o => (T2.alloc o).st.blk.cell 3
            go_wp2_with fail
            go_region_law (first
              | (refine step_app (c := 1) (n := ns.length) rfl _ _ 37 rfl Tryz.underlying37 info_str rfl (by decide) (by decide) (T2.alloc (.cells #[.string nm] 9)).drew.st.ns (by simp [Act.eval, Act.put]) (lies_block (Block.new w2 #[.string nm] 9).drew rfl) (by simp [Act.eval, Act.put]) (fun u hu => strsC_one [nm] u (by simpa [strsC] using hu)) (by omega) (by simp; omega) ?_; intro A3 c3 w3 hown3 hg3; have Y := (T2.alloc (.cells #[.string nm] 9)).drew.name hg3 hown3; have q3 := Y.1.cell; have f3 := Y.1.free; have T3 := Y.2))
            all_goals
              go_wp2_with fail
              go_roundw
              case rel => exact ⟨k + 1, _, by omega, by go_num, HRest, HFI.out, A3, c3, a2, d2, T3⟩
              case measure => simp [intOf]; omega
        · have hbt : (0 < x.size ∧ ∃ c0 : Int, c0 ≠ 43 ∧ ∀ W : World, (Instr.index 9 (.string x) (.int .i64 0)).run Tryz.prog W = .ok (.int .u8 c0) W) ∨ ¬ 0 < x.size := by
            by_cases hx0 : 0 < x.size
            · refine .inl ⟨hx0, _, fun h => hp ((head_43 hx0).2 h), fun W => ?_⟩
              rw [run_index_string _ _ _ _ _ Tryz.underlying9, dif_pos ⟨by omega, by omega⟩]
              rfl
            · exact .inr hx0
          by_cases hc2 : (cutB 58 x).length = 2
          · obtain ⟨ha, hb, hcut⟩ : ∃ a b, cutB 58 x = [a, b] := by
              match h : cutB 58 x with
              | [a, b] => exact ⟨a, b, rfl⟩
              | [] => rw [h] at hc2; simp at hc2
              | [_] => rw [h] at hc2; simp at hc2
              | _ :: _ :: _ :: _ => rw [h] at hc2; simp at hc2
            have HSN : Hid (step1 P x = { P with holds := P.holds ++ [⟨ha, (seatReadT hb).1, (seatReadT hb).2.1⟩] }) := step1_seat hp hcut
            have hsa : ha.size ≤ 8000 := Nat.le_trans (cutB_sizes 58 x ha (by rw [hcut]; simp)) hxs
            have hsb : hb.size ≤ 8000 := Nat.le_trans (cutB_sizes 58 x hb (by rw [hcut]; simp)) hxs
            have HSR : Hid (∀ W, Calls Tryz.prog 92 #[.string hb] W fun e w' => e = .returned (seatOutV (seatReadT hb)) ∧ Below W.heap.size W w') := fun W => sSeatRead_any hb W (by omega)
            have HFI : Hid (FitN { P with holds := P.holds ++ [⟨ha, (seatReadT hb).1, (seatReadT hb).2.1⟩] } (k + 1)) := hfit.addHold hsa
            obtain ⟨f1', f2', -, -⟩ := hfit
            rw [hcut] at HSp
            have HRest := Lib.hid HEq2.out
            rw [HSN.out] at HRest
            clear HSN HEq2 hp hc2 hcut hsa hsb
            generalize seatReadT hb = sv at *
            obtain ⟨sr, sc, se⟩ := sv
            generalize decide (x = twA) = bt at *
            obtain ⟨ph, pl, po, ns, hs, pb, pf⟩ := P
            dsimp only [seatOutV] at *
            have hfld : ∀ W : World, (Instr.field 119 (.agg #[.int .i64 sr, .int .i64 sc, .int .i64 se]) 0).run Tryz.prog W = .ok (.agg #[.int .i64 sr, .int .i64 sc]) W := fun W => by
              first | rfl | simp [go_sem, Sem.run, Instr.field, Tryz.underlying119]
            have HG : Hid ((0 < x.size ∧ ∃ c0 : Int, c0 ≠ 43 ∧ ∀ W : World, (Instr.index 9 (.string x) (.int .i64 0)).run Tryz.prog W = .ok (.int .u8 c0) W) ∨ ¬ 0 < x.size) := hbt
            have HG4 := Lib.hid hg4
            clear hbt hg4
            go_wp2_with fail
            refine (HSp.out _).mono ?_
            rintro e w2 ⟨⟨A5, c5, rfl, hl5⟩, hb2⟩
            have T2 := T.on hb2
            have cx2 := kc hb2 cx (by omega)
            have hg2 := T2.le
            have HL5 := Lib.hid hl5
            have HT2 := Lib.hid T2
            clear T hb2 cx T2 hl5
            go_upto_region 4 with fail
            go_cut [17] from 18 to 29 (fun v W => v = .bool false ∧ W = w2)
            case first =>
              rcases HG4.out with h | ⟨h, hk1⟩
              · subst h
                go_wp2_with fail
                go_meet
                exact ⟨rfl, rfl⟩
              · subst h
                go_wp2_with fail
                go_meet
                exact ⟨by rw [decide_eq_false (Int.not_lt.2 hk1)], rfl⟩
            case rest =>
              obtain ⟨rfl, rfl⟩ := hcut
              clear hxt HG4 bt
              go_upto_region 7 with fail
              go_cut [41] from 42 to 55 (fun v W => v = .bool false ∧ W = wc)
              case first =>
                rcases HG.out with ⟨hx0, c0, hc0, hix⟩ | hx0
                · have hxI : (0 : Int) < (x.size : Int) := by omega
                  have hcb : ((c0 : Int) == 43) = false := by rw [beq_eq_false_iff_ne]; exact hc0
                  go_wp2_with fail
                  go_meet
                  exact ⟨rfl, rfl⟩
                · have hxI : ¬ (0 : Int) < (x.size : Int) := by omega
                  go_wp2_with fail
                  go_meet
                  exact ⟨rfl, rfl⟩
              case rest =>
                obtain ⟨rfl, rfl⟩ := hcut
                clear HG cx2
                have T2 := HT2.out
                obtain ⟨b5, o5, rfl, hb5, hc5⟩ := HL5.out.2 (by simp)
                have ca := hc5 0 _ rfl
                have cb := hc5 1 _ rfl
                rw [Nat.add_zero] at ca
                have q1 := T2.st.blk.cell
                clear HT2 HL5 hc5
                go_wp2_with fail
                have r1 := T2.st.blk.cell
                have hz2 : wc.heap.size = wc.drew.heap.size := rfl
                go_region_law (first
                  | (refine step_app (c := 1) (n := hs.length) rfl _ _ 38 rfl Tryz.underlying38 info_hold rfl (by decide) (by decide) (TS.st.hs.alloc (.cells #[.string ha, .int .i64 sr, .int .i64 sc] 49)) (by simp [Act.eval, Act.put]) (lies_block (Block.new ws2 #[.string ha, .int .i64 sr, .int .i64 sc] 49) rfl) (by simp [Act.eval, Act.put]) (fun u hu => holdsC_one [⟨ha, sr, sc⟩] u (by simpa [holdsC, holdC] using hu)) (by omega) (by have := TS.le; simp; omega) ?_; intro A3 c3 w3 hown3 hg3; have Y := (TS.alloc (.cells #[.string ha, .int .i64 sr, .int .i64 sc] 49)).hold (x := ⟨ha, sr, sc⟩) hg3 hown3; have q3 := Y.1.cell; have f3 := Y.1.free; have T3 := Y.2)
                  | ((fail_if_success (have hq := TS)); go_simp; go_wp2_with (go_at_call 92; refine (HSR.out _).mono ?_; rintro e ws2 ⟨rfl, hbs⟩; have TS := T2.drew.on hbs; have qs := TS.st.blk.cell; have cs := kc hbs (show wc.drew.cell? _ = _ from ca) hb5; have rs : ∀ o, (ws2.alloc o).cell? ⟨g, 4, none⟩ = some (.slice a2 hs.length d2) := fun o => (TS.alloc o).st.blk.cell 4)))
                all_goals
                  go_wp2_with fail
                  go_roundw
                  case rel => exact ⟨k + 1, _, by omega, by go_num, HRest, HFI.out, a1, d1, A3, c3, T3⟩
                  case measure => simp [intOf]; omega
          · have HSN : Hid (step1 P x = P) := step1_none hp hc2
            have HFI : Hid (FitN P (k + 1)) := hfit.mono (by omega)
            have HRest := Lib.hid HEq2.out
            rw [HSN.out] at HRest
            have hne2 : ¬ ((cutB 58 x).length : Int) = 2 := by omega
            clear HSN HEq2 hp hc2 hfit
            generalize decide (x = twA) = bt at *
            generalize cutB 58 x = m5 at *
            have HG : Hid ((0 < x.size ∧ ∃ c0 : Int, c0 ≠ 43 ∧ ∀ W : World, (Instr.index 9 (.string x) (.int .i64 0)).run Tryz.prog W = .ok (.int .u8 c0) W) ∨ ¬ 0 < x.size) := hbt
            have HG4 := Lib.hid hg4
            have hbeq : ((m5.length : Int) == 2) = false := by rw [beq_eq_false_iff_ne]; exact hne2
            clear hbt hg4 hne2
            go_wp2_with fail
            refine (HSp.out _).mono ?_
            rintro e w2 ⟨⟨A5, c5, rfl, hl5⟩, hb2⟩
            have T2 := T.on hb2
            have cx2 := kc hb2 cx (by omega)
            have hg2 := T2.le
            have HL5 := Lib.hid hl5
            have HT2 := Lib.hid T2
            clear T hb2 cx T2 hl5
            go_upto_region 4 with fail
            go_cut [17] from 18 to 29 (fun v W => v = .bool false ∧ W = w2)
            case first =>
              rcases HG4.out with h | ⟨h, hk1⟩
              · subst h
                go_wp2_with fail
                go_meet
                exact ⟨rfl, rfl⟩
              · subst h
                go_wp2_with fail
                go_meet
                exact ⟨by rw [decide_eq_false (Int.not_lt.2 hk1)], rfl⟩
            case rest =>
              obtain ⟨rfl, rfl⟩ := hcut
              clear hxt HG4 bt
              go_upto_region 7 with fail
              go_cut [41] from 42 to 55 (fun v W => v = .bool false ∧ W = wc)
              case first =>
                rcases HG.out with ⟨hx0, c0, hc0, hix⟩ | hx0
                · have hxI : (0 : Int) < (x.size : Int) := by omega
                  have hcb : ((c0 : Int) == 43) = false := by rw [beq_eq_false_iff_ne]; exact hc0
                  go_wp2_with fail
                  go_meet
                  exact ⟨rfl, rfl⟩
                · have hxI : ¬ (0 : Int) < (x.size : Int) := by omega
                  go_wp2_with fail
                  go_meet
                  exact ⟨rfl, rfl⟩
              case rest =>
                obtain ⟨rfl, rfl⟩ := hcut
                clear HG cx2
                have HT3 := HT2
                clear HT2 HL5
                go_wp2_with fail
                go_roundw
                case rel => exact ⟨k + 1, _, by omega, by go_num, HRest, HFI.out, a1, d1, a2, d2, HT3.out⟩
                case measure => simp [intOf]; omega
    · obtain rfl : k = ws.length := by omega
      have HD : Hid (fillS p ws = P) := by rw [Hid, HEq.out, List.drop_length]; rfl
      have HFin : Hid (FillGot g w P wr ∧ FitN P ws.length) := ⟨⟨a1, d1, a2, d2, T⟩, hfit⟩
      clear T hfit HEq
      go_wp2_with fail
      refine bodyPost_ret (v := .tuple #[]) (by simp [results, Tryz.results72, go_sem]) rfl ?_
      rw [HD.out]
      exact ⟨rfl, HFin.out.2, HFin.out.1⟩
end Go.Proofs.YtpncnkihfijmaaaGreatDoor
