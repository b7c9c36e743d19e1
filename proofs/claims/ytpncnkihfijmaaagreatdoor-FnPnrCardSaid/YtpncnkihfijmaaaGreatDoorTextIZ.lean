/-
  impl.PnrText: the walk.
-/
import Derived.Test.YtpncnkihfijmaaaGreatDoorTextJZ
import Derived.Sort.CutIn
namespace Go.Proofs.YtpncnkihfijmaaaGreatDoor
open Go.ChangeShapes Go.WideShapes Go.ChangeAt Go.RowKit Go.ChangeMaps
set_option maxRecDepth 10000
set_option linter.unusedSimpArgs false
set_option linter.unusedVariables false
attribute [local go_sem] Oper.semAt_some

theorem ks {W : World} {p : Addr} {b i : Nat} {u v : Value} (h : W.cell? ⟨b, i, none⟩ = some v) (hne : b ≠ p.block) : (W.setCell p u).cell? ⟨b, i, none⟩ = some v :=
  (World.cell?_setCell_other W p _ u (fun e => hne (by cases e; rfl))).trans h

set_option maxRecDepth 100000 in
set_option maxHeartbeats 4000000 in
theorem iPnrText_any (p : PD) (A1 : Option Addr) (c1 : Nat) (A2 : Option Addr) (c2 : Nat) (w : World) (hl : PLies w w.heap.size p A1 A2) (hf : PFit p) (hn : p.names.length ≤ 1099511627) (hh : p.holds.length ≤ 1099511626) :
    Calls Tryz.prog 17 #[pdV p A1 c1 A2 c2] w fun e w' => e = .returned (.string (textT p)) ∧ Below w.heap.size w w' := by
  have HP : Hid (∀ W : World, Below w.heap.size w W → Calls Tryz.prog 29 #[pdV p A1 c1 A2 c2] W fun e w' => e = .returned (.bool (rightB p)) ∧ Below W.heap.size W w') := fun W hW => iPnrRight_any p A1 c1 A2 c2 W (hl.on hW) hf hn (by omega)
  cases hr : rightB p
  · rw [hr] at HP
    have HR : Hid (textT p = ⟨#[]⟩) := by rw [Hid, textT, if_neg (by rw [hr]; simp)]
    clear hl hr
    obtain ⟨h, l, o, ns, hs, b, f⟩ := p
    dsimp only [pdV] at *
    go_enter Tryz.func17, Tryz.ntmps17
    go_wp2_with fail
    refine (HP.out _ (by go_grown)).mono ?_
    rintro e w1 ⟨rfl, hb1⟩
    go_wp2_with fail
    go_ret
    exact ⟨by rw [HR.out]; rfl, boxed hb1⟩
  rw [hr] at HP
  obtain ⟨⟨hH, hO, hL⟩, ⟨hN1, hN2⟩, ⟨hD1, hD2⟩, hF⟩ := right_parts hr
  have HR : Hid (textT p = catB (partsH (partsN (parts1 p.offer (parts0 p.home p.loc p.owner p.live)) p.names) p.holds)) := by
    rw [Hid, textT, if_pos hr, cat_partsH, cat_partsN, cat_parts1, cat_parts0]
  have hsz : (textT p).size ≤ 1000 := by
    rw [textT, if_pos hr]
    have k1 := holdsT_size p.holds (p.names.foldl nameT (offT p.offer (liveT p.live (headT p.home p.loc p.owner)))) hD2
    have k2 := namesT_size p.names (offT p.offer (liveT p.live (headT p.home p.loc p.owner))) hN2
    have k3 := offT_size hF (liveT p.live (headT p.home p.loc p.owner))
    have k4 := liveT_size p.live (headT p.home p.loc p.owner)
    have k5 := headT_size hH hO hL
    omega
  obtain ⟨hl1, hl2⟩ := hl
  clear hf hr
  obtain ⟨h, l, o, ns, hs, b, f⟩ := p
  dsimp only [pdV] at *
  have HG : Hid (∀ k : Nat, ∀ W : World, Below w.heap.size w W → k < ns.length → ∃ b off s, A1 = some ⟨b, off, none⟩ ∧ b < w.heap.size ∧ ns[k]? = some s ∧ W.cell? ⟨b, off + k, none⟩ = some (.string s)) := fun k W hW hlt => by
    obtain ⟨b, off, s, e, hlb, hx, c0⟩ := (hl1.below hW).str hlt
    exact ⟨b, off, s, e, hlb, hx, c0⟩
  have HPL : Hid (∀ W : World, Calls Tryz.prog 64 #[.int .i64 h, .int .i64 l] W fun e w' => e = .returned (.string (placeT h l)) ∧ Below W.heap.size W w') := fun W => placeText_any h l (by omega) (by omega) (by omega) (by omega) W
  have HDo : Hid (∀ W : World, Calls Tryz.prog 49 #[.int .i64 o] W fun e w' => e = .returned (.string (dgT o)) ∧ W = w') := fun W => digits_any o (by omega) (by omega) W
  have HDf : Hid (∀ W : World, Calls Tryz.prog 49 #[.int .i64 f] W fun e w' => e = .returned (.string (dgT f)) ∧ W = w') := fun W => digits_any f (by omega) (by omega) W
  have HSW : Hid (∀ W : World, Calls Tryz.prog 65 #[.bool b] W fun e w' => e = .returned (.string (if b then lvA else gnA)) ∧ W = w') := fun W => stateWord_any b W
  have HP0 : Hid (parts0 h l o b = [placeT h l, ofA, dgT o, spA, if b then lvA else gnA]) := rfl
  have HP1 : Hid (f ≠ 0 → parts1 f (parts0 h l o b) = parts0 h l o b ++ [spA, twA, spA, dgT f]) := fun h => if_neg h
  have HP10 : Hid (f = 0 → parts1 f (parts0 h l o b) = parts0 h l o b) := fun h => if_pos h
  have hp0l : (parts0 h l o b).length = 5 := rfl
  generalize parts0 h l o b = P0 at *
  generalize parts1 f P0 = P1 at *
  generalize placeT h l = pl at *
  generalize dgT o = go at *
  generalize dgT f = gf at *
  generalize (if b then lvA else gnA) = sw at *
  refine (callsIn_wide (n := 6)).1 ?_
  refine callsIn_of_wp_marks Tryz.func17 rfl trivial ?_ rfl
  simp only [Tryz.ntmps17, List.size_toArray, List.length_cons, List.length_nil, Nat.reduceAdd, Nat.reduceSub, Array.replicate_succ, Array.replicate_zero, List.push_toArray, List.append_toArray, List.nil_append, List.cons_append]
  have hfe : Fence.wide.fn 66 := trivial
  have hfp : Fence.wide.fn 29 := trivial
  gi_wp2_with (first | (gi_at_call 29; refine (callsIn_wide.2 (HP.out _ (by go_grown))).mono ?_; rintro e w1 ⟨rfl, hb1⟩))
  have hB : Below w.heap.size w w1 := boxed hb1
  have X : Block w1 w.heap.size 40 (bkCs h l o ns.length A1 c1 hs.length A2 c2 b f) := (Block.new w _ _).on hb1
  have hz : w.heap.size < w1.heap.size := X.lt
  have hne := Nat.ne_of_lt hz
  have x0 := X.cell 0
  have x1 := X.cell 1
  have x2 := X.cell 2
  have x5 := X.cell 5
  clear hb1
  gi_wp2_with fail
  gi_cut [3] from 11 (fun v W => ∃ g, v = .pointer (some ⟨g, 0, none⟩) ∧ PBx (bkCs h l o ns.length A1 c1 hs.length A2 c2 b f) w g P0 W)
  case first =>
    refine wpIn_wide.2 ?_
    have HM : Hid (∀ W : World, Below w1.heap.size w1 W → Calls Tryz.prog 64 #[.int .i64 h, .int .i64 l] W fun e w' => e = .returned (.string pl) ∧ Below W.heap.size W w' ∧ Below w1.heap.size w1 w') := fun W hW => (HPL.out W).mono fun e w' ⟨h1, h2⟩ => ⟨h1, h2, hW.trans (h2.mono hW.size)⟩
    have HZ : Hid (∀ W, Below w1.heap.size w1 W → Below w.heap.size w W ∧ Block W w.heap.size 40 (bkCs h l o ns.length A1 c1 hs.length A2 c2 b f)) := fun W hW => ⟨hB.trans (hW.mono (Nat.le_of_lt hz)), X.on hW⟩
    have HQ : Hid (strsC P0 = [.string pl, .string ⟨#[32, 111, 102, 32]⟩, .string go, .string ⟨#[32]⟩, .string sw]) := by rw [Hid, HP0.out]; rfl
    have x0 : w1.cell? ⟨w.heap.size, 0, none⟩ = some (.int .i64 h) := x0
    have x1 : w1.cell? ⟨w.heap.size, 1, none⟩ = some (.int .i64 l) := x1
    have x2 : w1.cell? ⟨w.heap.size, 2, none⟩ = some (.int .i64 o) := x2
    have x5 : w1.cell? ⟨w.heap.size, 5, none⟩ = some (.bool b) := x5
    have hz' : w1.heap.size ≤ w1.heap.size := Nat.le_refl _
    have hbw := Below.refl w1.heap.size w1
    have HN5 : Hid (5 = P0.length) := hp0l.symm
    clear hB X HP0 HPL HP1 HP10 HDf HP HR hp0l hsz hl1 hl2 HG
    go_region_held3 (fun W => W.cell? ⟨w.heap.size, 0, none⟩ = some (.int .i64 h) ∧ W.cell? ⟨w.heap.size, 1, none⟩ = some (.int .i64 l) ∧ W.cell? ⟨w.heap.size, 2, none⟩ = some (.int .i64 o) ∧ W.cell? ⟨w.heap.size, 5, none⟩ = some (.bool b))
      (first
        | (go_keep; done)
        | ((with_reducible refine ⟨ka (ks (kc hbw x0 hz) hgA), ka (ks (kc hbw x1 hz) hgA), ka (ks (kc hbw x2 hz) hgA), ka (ks (kc hbw x5 hz) hgA)⟩); done)
        | ((with_reducible refine ⟨ka (ka (kc hbw x0 hz)), ka (ka (kc hbw x1 hz)), ka (ka (kc hbw x2 hz)), ka (ka (kc hbw x5 hz))⟩); done)
        | ((with_reducible refine ⟨kd (ka (ka (kc hbw x0 hz))), kd (ka (ka (kc hbw x1 hz))), kd (ka (ka (kc hbw x2 hz))), kd (ka (ka (kc hbw x5 hz)))⟩); done)
        | ((with_reducible refine ⟨kc hbw x0 hz, kc hbw x1 hz, kc hbw x2 hz, kc hbw x5 hz⟩); done)
        | ((with_reducible refine ⟨ka (kc hbw x0 hz), ka (kc hbw x1 hz), ka (kc hbw x2 hz), ka (kc hbw x5 hz)⟩); done)
        | ((with_reducible refine ⟨kd (ka (kc hbw x0 hz)), kd (ka (kc hbw x1 hz)), kd (ka (kc hbw x2 hz)), kd (ka (kc hbw x5 hz))⟩); done)
        | ((with_reducible refine ⟨kd (kc hbw x0 hz), kd (kc hbw x1 hz), kd (kc hbw x2 hz), kd (kc hbw x5 hz)⟩); done))
      (first | (go_at_call 49; (with_reducible refine (HDo.out _).mono ?_); rintro e w' ⟨rfl, rfl⟩) | (go_at_call 65; (with_reducible refine (HSW.out _).mono ?_); rintro e w' ⟨rfl, rfl⟩) | (go_at_call 64; (with_reducible refine (HM.out _ ?_).mono ?_); (first | with_reducible exact hbw | with_reducible exact hbw.drew | with_reducible exact Below.alloc hbw hz' _ | with_reducible exact Below.drew (Below.alloc hbw hz' _)); rintro e w' ⟨rfl, hb, hbw2⟩; (first | (have hA := (Block.new _ #[.slice none 0 0] 37).on hb; have hgA := Nat.ne_of_lt hz; have hgB : w.heap.size < _ := hz; have hgC := Nat.ne_of_lt hA.lt; have hgD := hA.lt; have qA := hA.cell; have fA := hA.free) | (have hA := (Block.new _ #[.slice none 0 0] 37).drew.on hb; have hgA := Nat.ne_of_lt hz; have hgB : w.heap.size < _ := hz; have hgC := Nat.ne_of_lt hA.lt; have hgD := hA.lt; have qA := hA.cell; have fA := hA.free) | skip); have hbw := hbw2))
    all_goals
      have hWW := HZ.out _ hbw
      gi_wp2_with fail
      gi_meet
      first
        | with_reducible exact ⟨_, rfl, PBx.makeA hWW.1 hWW.2 HQ.out.symm HN5.out (by omega)⟩
        | with_reducible exact ⟨_, rfl, PBx.makeB hWW.1 hWW.2 HQ.out.symm HN5.out (by omega)⟩
        | with_reducible exact ⟨_, rfl, PBx.makeC hWW.1 hWW.2 hA hgB HQ.out.symm HN5.out (by omega)⟩
  case rest =>
    obtain ⟨g, rfl, v0, hv, hrow, hbk, hB1, hg⟩ := hcut
    clear hB X hz hne x0 x1 x2 x5 HPL HDo HSW HP0 HP
    have x6 := hbk.cell 6
    have hv0 := hv.cell
    have hv1 := hv.frozen
    have hgl := Nat.ne_of_lt hv.lt
    have hp1l : P1.length ≤ 9 := by
      by_cases hf0 : f = 0
      · rw [HP10.out hf0]; omega
      · rw [HP1.out hf0, List.length_append, hp0l]; show 5 + 4 ≤ 9; omega
    have hp1g : 0 < P1.length := by
      by_cases hf0 : f = 0
      · rw [HP10.out hf0]; omega
      · rw [HP1.out hf0, List.length_append]; omega
    gi_upto_if 25 with fail
    gi_cut [] from 23 (fun W => PBx (bkCs h l o ns.length A1 c1 hs.length A2 c2 b f) w g P1 W)
    case first =>
      by_cases hf0 : f = 0
      · have hf0' : (f != 0) = false := by rw [hf0]; rfl
        have hPB : PBx (bkCs h l o ns.length A1 c1 hs.length A2 c2 b f) w g P1 wc := ⟨v0, hv, by rw [HP10.out hf0]; exact hrow, hbk, hB1, hg⟩
        replace hf0 := Lib.hid hf0
        gi_wp2_with fail
        gi_meet
        exact hPB
      · have hf0' : (f != 0) = true := bne_iff_ne.2 hf0
        have HQ := Lib.hid (HP1.out hf0)
        have hlen1 : P1.length = 9 := by rw [HQ.out, List.length_append, hp0l]; rfl
        clear HP1 HP10
        gi_wp2_with fail
        have hvd : Boxed (World.drew wc) g 37 v0 := hv
        have hrd : (World.drew wc).ownsRow w.heap.size 9 1 v0 P0.length (strsC P0) := hrow
        have hbd : Block (World.drew wc) w.heap.size 40 (bkCs h l o ns.length A1 c1 hs.length A2 c2 b f) := hbk
        have hBd : Below w.heap.size w (World.drew wc) := hB1.drew
        have hva : ∀ o, (wc.alloc o).cell? ⟨g, 0, none⟩ = some v0 := fun o => (hv.alloc o).cell
        have hva2 : ∀ o, (World.drew (wc.alloc o)).cell? ⟨g, 0, none⟩ = some v0 := fun o => (hv.alloc o).cell
        refine wpIn_wide.2 ?_
        refine wp_region_noPanic ?_
        go_region_law (first
          | (refine step_app (c := 4) rfl _ _ 37 rfl Tryz.underlying37 info_strT rfl (by decide) (by decide) (hrd.alloc (.cells #[.string ⟨#[32]⟩, .string ⟨#[116, 111]⟩, .string ⟨#[32]⟩, .string gf] 9)) (by simp [Act.eval, Act.put]) (lies_blockN (n := 4) (Block.new (World.drew wc) #[.string ⟨#[32]⟩, .string ⟨#[116, 111]⟩, .string ⟨#[32]⟩, .string gf] 9) rfl) (by simp [Act.eval, Act.put]) (fun u hu => strsC_one [spA, twA, spA, gf] u hu) (by omega) (by have := hBd.size; simp at this ⊢; omega) ?_; intro A3 c3 w3 hown3 hg3; have hg4 : ((World.drew wc).alloc (.cells #[.string ⟨#[32]⟩, .string ⟨#[116, 111]⟩, .string ⟨#[32]⟩, .string gf] 9)).grownBy w3 v0.ownBlock := hg3; have y3 := ((hvd.alloc (.cells #[.string ⟨#[32]⟩, .string ⟨#[116, 111]⟩, .string ⟨#[32]⟩, .string gf] 9)).kept hg4 (hvd.not_row (by decide) hrd)).cell; have z3 := ((hvd.alloc (.cells #[.string ⟨#[32]⟩, .string ⟨#[116, 111]⟩, .string ⟨#[32]⟩, .string gf] 9)).kept hg4 (hvd.not_row (by decide) hrd)).frozen)
          | ((fail_if_success (have hq := hdone)); go_simp; go_wp2_with (go_at_call 49; (with_reducible refine (HDf.out _).mono ?_); rintro e w' ⟨rfl, rfl⟩; have hdone := trivial)))
        all_goals
          refine NoPanic.normal ?_
          gi_wp2_with fail
          gi_meet
          have hown4 : w3.ownsRow w.heap.size 9 1 (.slice A3 9 c3) 9 (strsC P1) := by
            have := hown3
            rw [hp0l] at this
            rw [HQ.out, strsC_append]
            exact this
          exact PBx.app (tmp := (.cells #[.string ⟨#[32]⟩, .string ⟨#[116, 111]⟩, .string ⟨#[32]⟩, .string gf] 9)) hvd hrd hbd hBd hg hown4 hlen1.symm hg4
    case rest =>
      clear hv hrow hbk hB1 hg x6 hv0 hv1 hgl HP1 HP10 hp0l HDf
      obtain ⟨v1, hv, hrow, hbk, hB2, hg⟩ := hcut
      have x3 := hbk.cell 3
      gi_wp2_with fail
      gi_loopw [35] (fun i W => ∃ k : Nat, k ≤ ns.length ∧ i = .int .i64 k ∧ PBx (bkCs h l o ns.length A1 c1 hs.length A2 c2 b f) w g (partsN P1 (ns.take k)) W) (fun i _ => ns.length - (intOf i).toNat)
      case atStart => exact ⟨0, Nat.zero_le _, rfl, by rw [List.take_zero, partsN]; simpa using ⟨v1, hv, hrow, hbk, hB2, hg⟩⟩
      case round =>
        obtain ⟨k, hk, rfl, v2, hv', hrow', hbk', hB', hg'⟩ := hrel
        have hkl : (partsN P1 (ns.take k)).length ≤ 21 := by rw [partsN_len]; have : (ns.take k).length ≤ 4 := by simp; omega
                                                             omega
        by_cases hlt : k < ns.length
        · obtain ⟨bn, offn, s, rfl, hlb, hx, cs⟩ := HG.out k wr hB' hlt
          have HF := Lib.hid (partsN_succ (ps := P1) hx)
          have HPA : Hid (∀ (A3 : Option Addr) (c3 : Nat) (w3 : World), w3.ownsRow w.heap.size 9 1 (.slice A3 ((partsN P1 (ns.take k)).length + 3) c3) ((partsN P1 (ns.take k)).length + 3) (strsC (partsN P1 (ns.take k)) ++ [.string ⟨#[32]⟩, .string ⟨#[43]⟩, .string s]) → (wr.alloc (.cells #[.string ⟨#[32]⟩, .string ⟨#[43]⟩, .string s] 9)).grownBy w3 v2.ownBlock →
              w3.cell? ⟨g, 0, none⟩ = some v2 ∧ w3.frozen? ⟨g, 0, none⟩ = false ∧ PBx (bkCs h l o ns.length (some ⟨bn, offn, none⟩) c1 hs.length A2 c2 b f) w g (partsN P1 (ns.take (k + 1))) (w3.setCell ⟨g, 0, none⟩ (.slice A3 ((partsN P1 (ns.take k)).length + 3) c3))) := fun A3 c3 w3 h1 h2 => by
            have y3 := (hv'.alloc (.cells #[.string ⟨#[32]⟩, .string ⟨#[43]⟩, .string s] 9)).kept h2 (hv'.not_row (by decide) hrow')
            refine ⟨y3.cell, y3.frozen, ?_⟩
            rw [HF.out]
            exact PBx.app hv' hrow' hbk' hB' hg' (by rw [strsC_append]; exact h1) (by simp) h2
          have hrw := Lib.hid hrow'
          have q0 := hv'.cell
          have qn := Nat.ne_of_lt hv'.lt
          have hzw := hB'.size
          generalize (partsN P1 (ns.take k)).length = L at *
          clear hx hrow'
          gi_wp2_with (gi_at_builtin; refine wpListIn_append_blk rfl _ _ 37 rfl Tryz.underlying37 info_strT rfl (by decide) (by decide) (hrw.out.alloc (.cells #[.string ⟨#[32]⟩, .string ⟨#[43]⟩, .string s] 9)) rfl 3 (lies_blockN (n := 3) (Block.new wr #[.string ⟨#[32]⟩, .string ⟨#[43]⟩, .string s] 9) rfl) rfl (fun u hu => strsC_one [spA, plA, s] u hu) (by omega) (by simp; omega) ?_; intro A3 c3 w3 hown3 hg3; obtain ⟨y3, z3, hPB⟩ := HPA.out A3 c3 w3 hown3 hg3)
          go_roundw
          case rel => exact ⟨k + 1, by omega, by go_num, hPB⟩
          case measure => simp [intOf]; omega
        · obtain rfl : k = ns.length := by omega
          rw [List.take_length] at hrow' hkl
          have x4 := hbk'.cell 4
          have hBs := hB'.size
          clear hv hrow hbk hB2 x3
          gi_wp2_with (gi_at_call 66; refine (each_in Fence.wide 5 hfe rfl _ _ _ _).mono ?_; rintro e w' ⟨rfl, rfl⟩)
          have hBW : Below w.heap.size w (wr.alloc (.cells #[.slice A2 hs.length c2] 38)) := hB'.alloc hBs _
          have bC := (Block.new wr #[.slice A2 hs.length c2] 38).cell 0
          have hJ0 : TextJ (bkCs h l o ns.length A1 c1 hs.length A2 c2 b f) w g (partsN P1 ns) hs [] (wr.alloc (.cells #[.slice A2 hs.length c2] 38)) := PBx.tj (by rw [came, List.map_nil, partsH]; simpa using PBx.on (show PBx _ w g (partsN P1 ns) wr from ⟨v2, hv', hrow', hbk', hB', hg'⟩) ((Below.refl _ wr).alloc (Nat.le_refl _) _))
          have hsW : (wr.alloc (.cells #[.slice A2 hs.length c2] 38)).heap.size = wr.heap.size + 1 := by simp
          have hgw : g < wr.heap.size := hv'.lt
          have HJN : Hid (catB (partsH (partsN P1 ns) hs) = textT ⟨h, l, o, ns, hs, b, f⟩) := HR.out.symm
          have hbs : (catB (partsH (partsN P1 ns) hs)).size ≤ 1000 := by rw [HJN.out]; exact hsz
          obtain ⟨W0, hW0⟩ : ∃ W0, wr.alloc (.cells #[.slice A2 hs.length c2] 38) = W0 := ⟨_, rfl⟩
          rw [hW0] at hBW bC hJ0 hsW ⊢
          clear hW0 hv' hrow' hbk' hg' x4 HG
          have hp2g : 0 < (partsN P1 ns).length := by rw [partsN_len]; omega
          generalize partsN P1 ns = P2 at *
          refine wpIn_rangeFunc_ownH rfl (by omega) (gf := 104) (lb := #[.pointer (some ⟨wr.heap.size, 0, none⟩)]) rfl trivial (enters_of Tryz.func104 (by kernel_rfl) rfl)
            (each_stops Fence.wide 5 trivial rfl (by omega) wr.heap.size w.heap.size c2 A2 hs (by omega) W0 (by omega) (by omega) bC (hl2.below hBW)) belowK_t (belowK_b (by omega)) (Below.refl _ _) (fun _ => rfl)
            (TextJ (bkCs h l o ns.length A1 c1 hs.length A2 c2 b f) w g P2 hs) (fun _ _ _ => False)
            (OwnFrom.and (OwnFrom.and (Own.from (holdsRow_own w.heap.size g 37 9 1 (fun pre => (partsH P2 (came hs pre)).length) (fun pre => strsC (partsH P2 (came hs pre))) (fun _ _ => True)) _) (Own.from (block_own w.heap.size _ (fun _ => bkCs h l o ns.length A1 c1 hs.length A2 c2 b f)) _)) (ownFrom_below (Nat.le_refl _) (by omega)))
            (fun c => fun _ _ _ _ h => h.elim)
            hJ0
            (TextAx g w hs)
            (fun x a' _ X Y row hs hg hr => by obtain ⟨Bx, h1, h2, h3⟩ := hs; exact ⟨Bx, h1, (block_own (β := Unit) Bx _ (fun _ => _)) () X Y row h2 hg (fun r e => (hr r e).2), h3⟩)
            ?assign ?body ?done ?stop
          case assign =>
            rintro lp pre x W K hJ hK
            have hBj := hJ.2
            dsimp only [encP]
            gi_wp2
            exact hK _ _ ((KeepsOthers.alloc _ _).from _) ((Below.refl _ W).alloc hBj.size _) (PBx.tj (PBx.on (hJ.pb hg) ((Below.refl _ W).alloc (Nat.le_refl _) _))) ⟨W.heap.size, Nat.lt_of_lt_of_le hg (by obtain ⟨⟨⟨v, hv, -⟩, -⟩, -⟩ := hJ; exact Nat.le_of_lt hv.lt), Block.new W _ _, _, _, _, _, _, _, _, _, _, _, _, _, _, _, _, _, _, _, _, _, _, _, _, _, _, _, _, _, _, _, _, _, _, _, _, _, _, _, _, _, _, _, _, _, _, _, _, _, _, _, _, _, _, _, _, _, _, rfl⟩
          case body =>
            rintro lp pre x a' W hlp ⟨r, hr⟩ ⟨⟨⟨v, hv, hrow, -⟩, hbk⟩, hB1⟩ ⟨Bx, hBx, bX, u0, u1, u2, u4, u5, u6, u8, u9, u10, u11, u12, u13, u14, u15, u16, u17, u18, u19, u20, u21, u22, u23, u24, u25, u26, u27, u28, u29, u30, u31, u32, u33, u34, u35, u36, u37, u38, u39, u40, u41, u42, u43, u44, u45, u46, u47, u48, u49, u50, u51, u52, u53, u54, u55, u56, u57, u58, rfl⟩ hlt
            have hx := at_hAt x.2
            have hxs := hD2 _ (List.mem_of_getElem? hx)
            have hcl : (partsH P2 (came hs pre)).length ≤ 1000 := by
              rw [partsH_len]
              have : (came hs pre).length = pre.length := by simp [came]
              omega
            have HS : Hid (partsH P2 (came hs (pre ++ [x])) = partsH P2 (came hs pre) ++ [spA, (hAt hs x.1).f, colA, seatT (hAt hs x.1).r (hAt hs x.1).c]) := by
              rw [Hid, ← partsH_snoc]
              simp [came]
            have HC : Hid (∀ W : World, Calls Tryz.prog 67 #[seatV (hAt hs x.1).r (hAt hs x.1).c] W fun e w' => e = .returned (.string (seatT (hAt hs x.1).r (hAt hs x.1).c)) ∧ Below W.heap.size W w') := fun W => iSeatText_any _ _ W
            obtain ⟨i, hi⟩ := x
            dsimp only at *
            generalize hAt hs i = X at *
            generalize seatT X.r X.c = sx at *
            have HP : Hid (∀ w1, Below W.drew.heap.size W.drew w1 → w1.cell? ⟨g, 0, none⟩ = some v ∧ w1.cell? ⟨Bx, 0, none⟩ = some (.string X.f) ∧ (∀ o, (w1.alloc o).cell? ⟨g, 0, none⟩ = some v) ∧ ∃ A3 c3 w3,
                (Builtin.append_ #[37, 37] 37 #[v, .slice (some ⟨w1.heap.size, 0, none⟩) 4 4]).run Tryz.prog (w1.alloc (.cells #[.string ⟨#[32]⟩, .string X.f, .string ⟨#[58]⟩, .string sx] 9)) = .ok (.slice A3 ((partsH P2 (came hs pre)).length + 4) c3) w3 ∧
                w3.cell? ⟨g, 0, none⟩ = some v ∧ w3.frozen? ⟨g, 0, none⟩ = false ∧
                Hid (KeepsFrom W0.heap.size W (w3.setCell ⟨g, 0, none⟩ (.slice A3 ((partsH P2 (came hs pre)).length + 4) c3)) ∧ Below w.heap.size W (w3.setCell ⟨g, 0, none⟩ (.slice A3 ((partsH P2 (came hs pre)).length + 4) c3)) ∧
                  TextJ (bkCs h l o ns.length A1 c1 hs.length A2 c2 b f) w g P2 hs (pre ++ [⟨i, hi⟩]) (w3.setCell ⟨g, 0, none⟩ (.slice A3 ((partsH P2 (came hs pre)).length + 4) c3)))) := fun w1 hb1 => by
              have hz := hB1.size
              have hz1 : W.heap.size ≤ w1.heap.size := hb1.size
              have hv1 : Boxed w1 g 37 v := (show Boxed W.drew _ _ _ from hv).kept (row := none) (grown_of_below hb1 none) (by simp)
              have hx1 : Block w1 Bx 49 #[.string X.f, .int .i64 X.r, .int .i64 X.c] := (show Block W.drew _ _ _ from bX).on hb1
              have hbk1 : Block w1 w.heap.size 40 (bkCs h l o ns.length A1 c1 hs.length A2 c2 b f) := (show Block W.drew _ _ _ from hbk).on hb1
              have hr1 : w1.ownsRow w.heap.size 9 1 v (partsH P2 (came hs pre)).length (strsC (partsH P2 (came hs pre))) := ownsRow_below (w := W.drew) hrow hb1
              have hB1' : Below w.heap.size w w1 := hB1.trans (((Below.refl _ W).drew.trans hb1).mono hz)
              obtain ⟨v', w3, hrun, hown3, hg3⟩ := run_append_lies (P := Tryz.prog) (ty := 37) (c := 4) Tryz.underlying37 info_strT rfl (by decide) (by decide) (hr1.alloc (.cells #[.string ⟨#[32]⟩, .string X.f, .string ⟨#[58]⟩, .string sx] 9)) (lies_blockN (n := 4) (Block.new w1 #[.string ⟨#[32]⟩, .string X.f, .string ⟨#[58]⟩, .string sx] 9) rfl) (fun u hu => strsC_one [spA, X.f, colA, sx] u hu) (by omega) (by simp; omega)
              obtain ⟨A3, c3, rfl, -, -⟩ := own_form hown3
              obtain ⟨q1, q2, q3, q4, q5⟩ := Boxed.appended hv1 (by decide) hr1 (by omega) (Nat.le_of_lt hg) hown3 hg3
              have hD : Below w.heap.size W w1 := ((Below.refl _ W).drew.trans hb1).mono hz
              refine ⟨hv1.cell, hx1.cell 0, fun o => (hv1.alloc o).cell, A3, c3, w3, hrun, q1.cell, q1.frozen, ?_, hD.trans q5, ?_⟩
              · exact (((KeepsOthers.drew _).from _).trans (keeps_of_below hb1 _)).trans (q4.from _)
              · refine PBx.tj ?_
                rw [HS.out]
                exact PBx.app hv1 hr1 hbk1 hB1' hg (by rw [strsC_append]; exact hown3) (by simp) hg3
            have c0 := hv.cell
            have z0 := hv.frozen
            have x0 := bX.cell 0
            have x1 := bX.cell 1
            have x2 := bX.cell 2
            have hmx : Tryz.prog.follows .mixedOrders = true := by kernel_rfl
            generalize (partsH P2 (came hs pre)).length = L at *
            clear hx hxs hcl hlt bC hBW hJ0 hv hrow hbk hB1 bX hl2 hl1 hN2 hD2 hN1 hD1 HR HJN hsz hbs HS hgw hBs hB' hkl
            gi_wp2_with fail
            refine wpIn_region_any (by assumption) ?_
            try (change wpAnyIn _ _ _ _ _ _ _ _ _ (World.drew _))
            refine wpAnyIn_ready (rs := [0, 1, 3]) (by kernel_rfl) (by simp) ?_
            refine AllReadyIn.cons rfl (fun K hK => ?_) (AllReadyIn.cons rfl (fun K hK => ?_) (AllReadyIn.cons rfl (fun K hK => ?_) AllReadyIn.nil))
            · go_simp
              refine hK _ _ ?_
              clear hK K
              refine wpAnyIn_ready (rs := [1, 3]) (by kernel_rfl) (by simp) ?_
              refine AllReadyIn.cons rfl (fun K hK => ?_) (AllReadyIn.cons rfl (fun K hK => ?_) AllReadyIn.nil)
              · go_simp
                refine hK _ _ ?_
                clear hK K
                refine wpAnyIn_ready (rs := [2, 3]) (by kernel_rfl) (by simp) ?_
                refine AllReadyIn.cons rfl (fun K hK => ?_) (AllReadyIn.cons rfl (fun K hK => ?_) AllReadyIn.nil)
                · go_simp
                  refine hK _ _ ?_
                  clear hK K
                  refine wpAnyIn_ready (rs := [3]) (by kernel_rfl) (by simp) ?_
                  refine AllReadyIn.cons rfl (fun K hK => ?_) AllReadyIn.nil
                  · go_simp
                    refine hK _ _ ?_
                    clear hK K
                    refine wpAnyIn_ready (rs := [4]) (by kernel_rfl) (by simp) ?_
                    refine AllReadyIn.cons rfl (fun K hK => ?_) AllReadyIn.nil
                    · go_simp
                      refine hK _ _ ?_
                      clear hK K
                      refine wpAnyIn_ready (rs := [5]) (by kernel_rfl) (by simp) ?_
                      refine AllReadyIn.cons rfl (fun K hK => ?_) AllReadyIn.nil
                      · go_simp
                        gi_wp2_with (refine ⟨trivial, (CallsIn.inRound lp (callsIn_wide.2 (HC.out _))).mono ?_⟩; rintro e w1 ⟨rfl, hb1⟩; obtain ⟨k0, kb, ka, A3, c3, w3, hrun, m1, m2, hpost⟩ := HP.out _ hb1; clear HP)
                        refine wpAnyIn_ready (rs := [6]) (by kernel_rfl) (by simp) ?_
                        refine AllReadyIn.cons rfl (fun K hK => ?_) AllReadyIn.nil
                        · go_simp
                          refine hK _ _ ?_
                          clear hK K
                          refine wpAnyIn_ready (rs := [7]) (by kernel_rfl) (by simp) ?_
                          refine AllReadyIn.cons rfl (fun K hK => ?_) AllReadyIn.nil
                          · refine stepIn_append_run rfl _ _ 37 rfl _ _ (by simp [Act.eval, Act.put]) (by simp [Act.eval, Act.put]) hrun ?_
                            refine hK _ _ ?_
                            clear hK K
                            refine wpAnyIn_ready (rs := [8]) (by kernel_rfl) (by simp) ?_
                            refine AllReadyIn.cons rfl (fun K hK => ?_) AllReadyIn.nil
                            · go_simp
                              refine hK _ _ ?_
                              clear hK K
                              refine wpAnyIn_done (by kernel_rfl) ?_ _
                              gi_wp2
                              exact hpost.out
                · go_simp
                  refine hK _ _ ?_
                  clear hK K
                  refine wpAnyIn_ready (rs := [2, 4]) (by kernel_rfl) (by simp) ?_
                  refine AllReadyIn.cons rfl (fun K hK => ?_) (AllReadyIn.cons rfl (fun K hK => ?_) AllReadyIn.nil)
                  · go_simp
                    refine hK _ _ ?_
                    clear hK K
                    refine wpAnyIn_ready (rs := [4]) (by kernel_rfl) (by simp) ?_
                    refine AllReadyIn.cons rfl (fun K hK => ?_) AllReadyIn.nil
                    · go_simp
                      refine hK _ _ ?_
                      clear hK K
                      refine wpAnyIn_ready (rs := [5]) (by kernel_rfl) (by simp) ?_
                      refine AllReadyIn.cons rfl (fun K hK => ?_) AllReadyIn.nil
                      · go_simp
                        gi_wp2_with (refine ⟨trivial, (CallsIn.inRound lp (callsIn_wide.2 (HC.out _))).mono ?_⟩; rintro e w1 ⟨rfl, hb1⟩; obtain ⟨k0, kb, ka, A3, c3, w3, hrun, m1, m2, hpost⟩ := HP.out _ hb1; clear HP)
                        refine wpAnyIn_ready (rs := [6]) (by kernel_rfl) (by simp) ?_
                        refine AllReadyIn.cons rfl (fun K hK => ?_) AllReadyIn.nil
                        · go_simp
                          refine hK _ _ ?_
                          clear hK K
                          refine wpAnyIn_ready (rs := [7]) (by kernel_rfl) (by simp) ?_
                          refine AllReadyIn.cons rfl (fun K hK => ?_) AllReadyIn.nil
                          · refine stepIn_append_run rfl _ _ 37 rfl _ _ (by simp [Act.eval, Act.put]) (by simp [Act.eval, Act.put]) hrun ?_
                            refine hK _ _ ?_
                            clear hK K
                            refine wpAnyIn_ready (rs := [8]) (by kernel_rfl) (by simp) ?_
                            refine AllReadyIn.cons rfl (fun K hK => ?_) AllReadyIn.nil
                            · go_simp
                              refine hK _ _ ?_
                              clear hK K
                              refine wpAnyIn_done (by kernel_rfl) ?_ _
                              gi_wp2
                              exact hpost.out
                  · go_simp
                    refine hK _ _ ?_
                    clear hK K
                    refine wpAnyIn_ready (rs := [2, 5]) (by kernel_rfl) (by simp) ?_
                    refine AllReadyIn.cons rfl (fun K hK => ?_) (AllReadyIn.cons rfl (fun K hK => ?_) AllReadyIn.nil)
                    · go_simp
                      refine hK _ _ ?_
                      clear hK K
                      refine wpAnyIn_ready (rs := [5]) (by kernel_rfl) (by simp) ?_
                      refine AllReadyIn.cons rfl (fun K hK => ?_) AllReadyIn.nil
                      · go_simp
                        gi_wp2_with (refine ⟨trivial, (CallsIn.inRound lp (callsIn_wide.2 (HC.out _))).mono ?_⟩; rintro e w1 ⟨rfl, hb1⟩; obtain ⟨k0, kb, ka, A3, c3, w3, hrun, m1, m2, hpost⟩ := HP.out _ hb1; clear HP)
                        refine wpAnyIn_ready (rs := [6]) (by kernel_rfl) (by simp) ?_
                        refine AllReadyIn.cons rfl (fun K hK => ?_) AllReadyIn.nil
                        · go_simp
                          refine hK _ _ ?_
                          clear hK K
                          refine wpAnyIn_ready (rs := [7]) (by kernel_rfl) (by simp) ?_
                          refine AllReadyIn.cons rfl (fun K hK => ?_) AllReadyIn.nil
                          · refine stepIn_append_run rfl _ _ 37 rfl _ _ (by simp [Act.eval, Act.put]) (by simp [Act.eval, Act.put]) hrun ?_
                            refine hK _ _ ?_
                            clear hK K
                            refine wpAnyIn_ready (rs := [8]) (by kernel_rfl) (by simp) ?_
                            refine AllReadyIn.cons rfl (fun K hK => ?_) AllReadyIn.nil
                            · go_simp
                              refine hK _ _ ?_
                              clear hK K
                              refine wpAnyIn_done (by kernel_rfl) ?_ _
                              gi_wp2
                              exact hpost.out
                    · go_simp
                      gi_wp2_with (refine ⟨trivial, (CallsIn.inRound lp (callsIn_wide.2 (HC.out _))).mono ?_⟩; rintro e w1 ⟨rfl, hb1⟩; obtain ⟨k0, kb, ka, A3, c3, w3, hrun, m1, m2, hpost⟩ := HP.out _ hb1; clear HP)
                      refine wpAnyIn_ready (rs := [2]) (by kernel_rfl) (by simp) ?_
                      refine AllReadyIn.cons rfl (fun K hK => ?_) AllReadyIn.nil
                      · go_simp
                        refine hK _ _ ?_
                        clear hK K
                        refine wpAnyIn_ready (rs := [6]) (by kernel_rfl) (by simp) ?_
                        refine AllReadyIn.cons rfl (fun K hK => ?_) AllReadyIn.nil
                        · go_simp
                          refine hK _ _ ?_
                          clear hK K
                          refine wpAnyIn_ready (rs := [7]) (by kernel_rfl) (by simp) ?_
                          refine AllReadyIn.cons rfl (fun K hK => ?_) AllReadyIn.nil
                          · refine stepIn_append_run rfl _ _ 37 rfl _ _ (by simp [Act.eval, Act.put]) (by simp [Act.eval, Act.put]) hrun ?_
                            refine hK _ _ ?_
                            clear hK K
                            refine wpAnyIn_ready (rs := [8]) (by kernel_rfl) (by simp) ?_
                            refine AllReadyIn.cons rfl (fun K hK => ?_) AllReadyIn.nil
                            · go_simp
                              refine hK _ _ ?_
                              clear hK K
                              refine wpAnyIn_done (by kernel_rfl) ?_ _
                              gi_wp2
                              exact hpost.out
              · go_simp
                refine hK _ _ ?_
                clear hK K
                refine wpAnyIn_ready (rs := [1, 4]) (by kernel_rfl) (by simp) ?_
                refine AllReadyIn.cons rfl (fun K hK => ?_) (AllReadyIn.cons rfl (fun K hK => ?_) AllReadyIn.nil)
                · go_simp
                  refine hK _ _ ?_
                  clear hK K
                  refine wpAnyIn_ready (rs := [2, 4]) (by kernel_rfl) (by simp) ?_
                  refine AllReadyIn.cons rfl (fun K hK => ?_) (AllReadyIn.cons rfl (fun K hK => ?_) AllReadyIn.nil)
                  · go_simp
                    refine hK _ _ ?_
                    clear hK K
                    refine wpAnyIn_ready (rs := [4]) (by kernel_rfl) (by simp) ?_
                    refine AllReadyIn.cons rfl (fun K hK => ?_) AllReadyIn.nil
                    · go_simp
                      refine hK _ _ ?_
                      clear hK K
                      refine wpAnyIn_ready (rs := [5]) (by kernel_rfl) (by simp) ?_
                      refine AllReadyIn.cons rfl (fun K hK => ?_) AllReadyIn.nil
                      · go_simp
                        gi_wp2_with (refine ⟨trivial, (CallsIn.inRound lp (callsIn_wide.2 (HC.out _))).mono ?_⟩; rintro e w1 ⟨rfl, hb1⟩; obtain ⟨k0, kb, ka, A3, c3, w3, hrun, m1, m2, hpost⟩ := HP.out _ hb1; clear HP)
                        refine wpAnyIn_ready (rs := [6]) (by kernel_rfl) (by simp) ?_
                        refine AllReadyIn.cons rfl (fun K hK => ?_) AllReadyIn.nil
                        · go_simp
                          refine hK _ _ ?_
                          clear hK K
                          refine wpAnyIn_ready (rs := [7]) (by kernel_rfl) (by simp) ?_
                          refine AllReadyIn.cons rfl (fun K hK => ?_) AllReadyIn.nil
                          · refine stepIn_append_run rfl _ _ 37 rfl _ _ (by simp [Act.eval, Act.put]) (by simp [Act.eval, Act.put]) hrun ?_
                            refine hK _ _ ?_
                            clear hK K
                            refine wpAnyIn_ready (rs := [8]) (by kernel_rfl) (by simp) ?_
                            refine AllReadyIn.cons rfl (fun K hK => ?_) AllReadyIn.nil
                            · go_simp
                              refine hK _ _ ?_
                              clear hK K
                              refine wpAnyIn_done (by kernel_rfl) ?_ _
                              gi_wp2
                              exact hpost.out
                  · go_simp
                    refine hK _ _ ?_
                    clear hK K
                    refine wpAnyIn_ready (rs := [2, 5]) (by kernel_rfl) (by simp) ?_
                    refine AllReadyIn.cons rfl (fun K hK => ?_) (AllReadyIn.cons rfl (fun K hK => ?_) AllReadyIn.nil)
                    · go_simp
                      refine hK _ _ ?_
                      clear hK K
                      refine wpAnyIn_ready (rs := [5]) (by kernel_rfl) (by simp) ?_
                      refine AllReadyIn.cons rfl (fun K hK => ?_) AllReadyIn.nil
                      · go_simp
                        gi_wp2_with (refine ⟨trivial, (CallsIn.inRound lp (callsIn_wide.2 (HC.out _))).mono ?_⟩; rintro e w1 ⟨rfl, hb1⟩; obtain ⟨k0, kb, ka, A3, c3, w3, hrun, m1, m2, hpost⟩ := HP.out _ hb1; clear HP)
                        refine wpAnyIn_ready (rs := [6]) (by kernel_rfl) (by simp) ?_
                        refine AllReadyIn.cons rfl (fun K hK => ?_) AllReadyIn.nil
                        · go_simp
                          refine hK _ _ ?_
                          clear hK K
                          refine wpAnyIn_ready (rs := [7]) (by kernel_rfl) (by simp) ?_
                          refine AllReadyIn.cons rfl (fun K hK => ?_) AllReadyIn.nil
                          · refine stepIn_append_run rfl _ _ 37 rfl _ _ (by simp [Act.eval, Act.put]) (by simp [Act.eval, Act.put]) hrun ?_
                            refine hK _ _ ?_
                            clear hK K
                            refine wpAnyIn_ready (rs := [8]) (by kernel_rfl) (by simp) ?_
                            refine AllReadyIn.cons rfl (fun K hK => ?_) AllReadyIn.nil
                            · go_simp
                              refine hK _ _ ?_
                              clear hK K
                              refine wpAnyIn_done (by kernel_rfl) ?_ _
                              gi_wp2
                              exact hpost.out
                    · go_simp
                      gi_wp2_with (refine ⟨trivial, (CallsIn.inRound lp (callsIn_wide.2 (HC.out _))).mono ?_⟩; rintro e w1 ⟨rfl, hb1⟩; obtain ⟨k0, kb, ka, A3, c3, w3, hrun, m1, m2, hpost⟩ := HP.out _ hb1; clear HP)
                      refine wpAnyIn_ready (rs := [2]) (by kernel_rfl) (by simp) ?_
                      refine AllReadyIn.cons rfl (fun K hK => ?_) AllReadyIn.nil
                      · go_simp
                        refine hK _ _ ?_
                        clear hK K
                        refine wpAnyIn_ready (rs := [6]) (by kernel_rfl) (by simp) ?_
                        refine AllReadyIn.cons rfl (fun K hK => ?_) AllReadyIn.nil
                        · go_simp
                          refine hK _ _ ?_
                          clear hK K
                          refine wpAnyIn_ready (rs := [7]) (by kernel_rfl) (by simp) ?_
                          refine AllReadyIn.cons rfl (fun K hK => ?_) AllReadyIn.nil
                          · refine stepIn_append_run rfl _ _ 37 rfl _ _ (by simp [Act.eval, Act.put]) (by simp [Act.eval, Act.put]) hrun ?_
                            refine hK _ _ ?_
                            clear hK K
                            refine wpAnyIn_ready (rs := [8]) (by kernel_rfl) (by simp) ?_
                            refine AllReadyIn.cons rfl (fun K hK => ?_) AllReadyIn.nil
                            · go_simp
                              refine hK _ _ ?_
                              clear hK K
                              refine wpAnyIn_done (by kernel_rfl) ?_ _
                              gi_wp2
                              exact hpost.out
                · go_simp
                  refine hK _ _ ?_
                  clear hK K
                  refine wpAnyIn_ready (rs := [1, 5]) (by kernel_rfl) (by simp) ?_
                  refine AllReadyIn.cons rfl (fun K hK => ?_) (AllReadyIn.cons rfl (fun K hK => ?_) AllReadyIn.nil)
                  · go_simp
                    refine hK _ _ ?_
                    clear hK K
                    refine wpAnyIn_ready (rs := [2, 5]) (by kernel_rfl) (by simp) ?_
                    refine AllReadyIn.cons rfl (fun K hK => ?_) (AllReadyIn.cons rfl (fun K hK => ?_) AllReadyIn.nil)
                    · go_simp
                      refine hK _ _ ?_
                      clear hK K
                      refine wpAnyIn_ready (rs := [5]) (by kernel_rfl) (by simp) ?_
                      refine AllReadyIn.cons rfl (fun K hK => ?_) AllReadyIn.nil
                      · go_simp
                        gi_wp2_with (refine ⟨trivial, (CallsIn.inRound lp (callsIn_wide.2 (HC.out _))).mono ?_⟩; rintro e w1 ⟨rfl, hb1⟩; obtain ⟨k0, kb, ka, A3, c3, w3, hrun, m1, m2, hpost⟩ := HP.out _ hb1; clear HP)
                        refine wpAnyIn_ready (rs := [6]) (by kernel_rfl) (by simp) ?_
                        refine AllReadyIn.cons rfl (fun K hK => ?_) AllReadyIn.nil
                        · go_simp
                          refine hK _ _ ?_
                          clear hK K
                          refine wpAnyIn_ready (rs := [7]) (by kernel_rfl) (by simp) ?_
                          refine AllReadyIn.cons rfl (fun K hK => ?_) AllReadyIn.nil
                          · refine stepIn_append_run rfl _ _ 37 rfl _ _ (by simp [Act.eval, Act.put]) (by simp [Act.eval, Act.put]) hrun ?_
                            refine hK _ _ ?_
                            clear hK K
                            refine wpAnyIn_ready (rs := [8]) (by kernel_rfl) (by simp) ?_
                            refine AllReadyIn.cons rfl (fun K hK => ?_) AllReadyIn.nil
                            · go_simp
                              refine hK _ _ ?_
                              clear hK K
                              refine wpAnyIn_done (by kernel_rfl) ?_ _
                              gi_wp2
                              exact hpost.out
                    · go_simp
                      gi_wp2_with (refine ⟨trivial, (CallsIn.inRound lp (callsIn_wide.2 (HC.out _))).mono ?_⟩; rintro e w1 ⟨rfl, hb1⟩; obtain ⟨k0, kb, ka, A3, c3, w3, hrun, m1, m2, hpost⟩ := HP.out _ hb1; clear HP)
                      refine wpAnyIn_ready (rs := [2]) (by kernel_rfl) (by simp) ?_
                      refine AllReadyIn.cons rfl (fun K hK => ?_) AllReadyIn.nil
                      · go_simp
                        refine hK _ _ ?_
                        clear hK K
                        refine wpAnyIn_ready (rs := [6]) (by kernel_rfl) (by simp) ?_
                        refine AllReadyIn.cons rfl (fun K hK => ?_) AllReadyIn.nil
                        · go_simp
                          refine hK _ _ ?_
                          clear hK K
                          refine wpAnyIn_ready (rs := [7]) (by kernel_rfl) (by simp) ?_
                          refine AllReadyIn.cons rfl (fun K hK => ?_) AllReadyIn.nil
                          · refine stepIn_append_run rfl _ _ 37 rfl _ _ (by simp [Act.eval, Act.put]) (by simp [Act.eval, Act.put]) hrun ?_
                            refine hK _ _ ?_
                            clear hK K
                            refine wpAnyIn_ready (rs := [8]) (by kernel_rfl) (by simp) ?_
                            refine AllReadyIn.cons rfl (fun K hK => ?_) AllReadyIn.nil
                            · go_simp
                              refine hK _ _ ?_
                              clear hK K
                              refine wpAnyIn_done (by kernel_rfl) ?_ _
                              gi_wp2
                              exact hpost.out
                  · go_simp
                    gi_wp2_with (refine ⟨trivial, (CallsIn.inRound lp (callsIn_wide.2 (HC.out _))).mono ?_⟩; rintro e w1 ⟨rfl, hb1⟩; obtain ⟨k0, kb, ka, A3, c3, w3, hrun, m1, m2, hpost⟩ := HP.out _ hb1; clear HP)
                    refine wpAnyIn_ready (rs := [1]) (by kernel_rfl) (by simp) ?_
                    refine AllReadyIn.cons rfl (fun K hK => ?_) AllReadyIn.nil
                    · go_simp
                      refine hK _ _ ?_
                      clear hK K
                      refine wpAnyIn_ready (rs := [2]) (by kernel_rfl) (by simp) ?_
                      refine AllReadyIn.cons rfl (fun K hK => ?_) AllReadyIn.nil
                      · go_simp
                        refine hK _ _ ?_
                        clear hK K
                        refine wpAnyIn_ready (rs := [6]) (by kernel_rfl) (by simp) ?_
                        refine AllReadyIn.cons rfl (fun K hK => ?_) AllReadyIn.nil
                        · go_simp
                          refine hK _ _ ?_
                          clear hK K
                          refine wpAnyIn_ready (rs := [7]) (by kernel_rfl) (by simp) ?_
                          refine AllReadyIn.cons rfl (fun K hK => ?_) AllReadyIn.nil
                          · refine stepIn_append_run rfl _ _ 37 rfl _ _ (by simp [Act.eval, Act.put]) (by simp [Act.eval, Act.put]) hrun ?_
                            refine hK _ _ ?_
                            clear hK K
                            refine wpAnyIn_ready (rs := [8]) (by kernel_rfl) (by simp) ?_
                            refine AllReadyIn.cons rfl (fun K hK => ?_) AllReadyIn.nil
                            · go_simp
                              refine hK _ _ ?_
                              clear hK K
                              refine wpAnyIn_done (by kernel_rfl) ?_ _
                              gi_wp2
                              exact hpost.out
            · go_simp
              refine hK _ _ ?_
              clear hK K
              refine wpAnyIn_ready (rs := [0, 2, 3]) (by kernel_rfl) (by simp) ?_
              refine AllReadyIn.cons rfl (fun K hK => ?_) (AllReadyIn.cons rfl (fun K hK => ?_) (AllReadyIn.cons rfl (fun K hK => ?_) AllReadyIn.nil))
              · go_simp
                refine hK _ _ ?_
                clear hK K
                refine wpAnyIn_ready (rs := [2, 3]) (by kernel_rfl) (by simp) ?_
                refine AllReadyIn.cons rfl (fun K hK => ?_) (AllReadyIn.cons rfl (fun K hK => ?_) AllReadyIn.nil)
                · go_simp
                  refine hK _ _ ?_
                  clear hK K
                  refine wpAnyIn_ready (rs := [3]) (by kernel_rfl) (by simp) ?_
                  refine AllReadyIn.cons rfl (fun K hK => ?_) AllReadyIn.nil
                  · go_simp
                    refine hK _ _ ?_
                    clear hK K
                    refine wpAnyIn_ready (rs := [4]) (by kernel_rfl) (by simp) ?_
                    refine AllReadyIn.cons rfl (fun K hK => ?_) AllReadyIn.nil
                    · go_simp
                      refine hK _ _ ?_
                      clear hK K
                      refine wpAnyIn_ready (rs := [5]) (by kernel_rfl) (by simp) ?_
                      refine AllReadyIn.cons rfl (fun K hK => ?_) AllReadyIn.nil
                      · go_simp
                        gi_wp2_with (refine ⟨trivial, (CallsIn.inRound lp (callsIn_wide.2 (HC.out _))).mono ?_⟩; rintro e w1 ⟨rfl, hb1⟩; obtain ⟨k0, kb, ka, A3, c3, w3, hrun, m1, m2, hpost⟩ := HP.out _ hb1; clear HP)
                        refine wpAnyIn_ready (rs := [6]) (by kernel_rfl) (by simp) ?_
                        refine AllReadyIn.cons rfl (fun K hK => ?_) AllReadyIn.nil
                        · go_simp
                          refine hK _ _ ?_
                          clear hK K
                          refine wpAnyIn_ready (rs := [7]) (by kernel_rfl) (by simp) ?_
                          refine AllReadyIn.cons rfl (fun K hK => ?_) AllReadyIn.nil
                          · refine stepIn_append_run rfl _ _ 37 rfl _ _ (by simp [Act.eval, Act.put]) (by simp [Act.eval, Act.put]) hrun ?_
                            refine hK _ _ ?_
                            clear hK K
                            refine wpAnyIn_ready (rs := [8]) (by kernel_rfl) (by simp) ?_
                            refine AllReadyIn.cons rfl (fun K hK => ?_) AllReadyIn.nil
                            · go_simp
                              refine hK _ _ ?_
                              clear hK K
                              refine wpAnyIn_done (by kernel_rfl) ?_ _
                              gi_wp2
                              exact hpost.out
                · go_simp
                  refine hK _ _ ?_
                  clear hK K
                  refine wpAnyIn_ready (rs := [2, 4]) (by kernel_rfl) (by simp) ?_
                  refine AllReadyIn.cons rfl (fun K hK => ?_) (AllReadyIn.cons rfl (fun K hK => ?_) AllReadyIn.nil)
                  · go_simp
                    refine hK _ _ ?_
                    clear hK K
                    refine wpAnyIn_ready (rs := [4]) (by kernel_rfl) (by simp) ?_
                    refine AllReadyIn.cons rfl (fun K hK => ?_) AllReadyIn.nil
                    · go_simp
                      refine hK _ _ ?_
                      clear hK K
                      refine wpAnyIn_ready (rs := [5]) (by kernel_rfl) (by simp) ?_
                      refine AllReadyIn.cons rfl (fun K hK => ?_) AllReadyIn.nil
                      · go_simp
                        gi_wp2_with (refine ⟨trivial, (CallsIn.inRound lp (callsIn_wide.2 (HC.out _))).mono ?_⟩; rintro e w1 ⟨rfl, hb1⟩; obtain ⟨k0, kb, ka, A3, c3, w3, hrun, m1, m2, hpost⟩ := HP.out _ hb1; clear HP)
                        refine wpAnyIn_ready (rs := [6]) (by kernel_rfl) (by simp) ?_
                        refine AllReadyIn.cons rfl (fun K hK => ?_) AllReadyIn.nil
                        · go_simp
                          refine hK _ _ ?_
                          clear hK K
                          refine wpAnyIn_ready (rs := [7]) (by kernel_rfl) (by simp) ?_
                          refine AllReadyIn.cons rfl (fun K hK => ?_) AllReadyIn.nil
                          · refine stepIn_append_run rfl _ _ 37 rfl _ _ (by simp [Act.eval, Act.put]) (by simp [Act.eval, Act.put]) hrun ?_
                            refine hK _ _ ?_
                            clear hK K
                            refine wpAnyIn_ready (rs := [8]) (by kernel_rfl) (by simp) ?_
                            refine AllReadyIn.cons rfl (fun K hK => ?_) AllReadyIn.nil
                            · go_simp
                              refine hK _ _ ?_
                              clear hK K
                              refine wpAnyIn_done (by kernel_rfl) ?_ _
                              gi_wp2
                              exact hpost.out
                  · go_simp
                    refine hK _ _ ?_
                    clear hK K
                    refine wpAnyIn_ready (rs := [2, 5]) (by kernel_rfl) (by simp) ?_
                    refine AllReadyIn.cons rfl (fun K hK => ?_) (AllReadyIn.cons rfl (fun K hK => ?_) AllReadyIn.nil)
                    · go_simp
                      refine hK _ _ ?_
                      clear hK K
                      refine wpAnyIn_ready (rs := [5]) (by kernel_rfl) (by simp) ?_
                      refine AllReadyIn.cons rfl (fun K hK => ?_) AllReadyIn.nil
                      · go_simp
                        gi_wp2_with (refine ⟨trivial, (CallsIn.inRound lp (callsIn_wide.2 (HC.out _))).mono ?_⟩; rintro e w1 ⟨rfl, hb1⟩; obtain ⟨k0, kb, ka, A3, c3, w3, hrun, m1, m2, hpost⟩ := HP.out _ hb1; clear HP)
                        refine wpAnyIn_ready (rs := [6]) (by kernel_rfl) (by simp) ?_
                        refine AllReadyIn.cons rfl (fun K hK => ?_) AllReadyIn.nil
                        · go_simp
                          refine hK _ _ ?_
                          clear hK K
                          refine wpAnyIn_ready (rs := [7]) (by kernel_rfl) (by simp) ?_
                          refine AllReadyIn.cons rfl (fun K hK => ?_) AllReadyIn.nil
                          · refine stepIn_append_run rfl _ _ 37 rfl _ _ (by simp [Act.eval, Act.put]) (by simp [Act.eval, Act.put]) hrun ?_
                            refine hK _ _ ?_
                            clear hK K
                            refine wpAnyIn_ready (rs := [8]) (by kernel_rfl) (by simp) ?_
                            refine AllReadyIn.cons rfl (fun K hK => ?_) AllReadyIn.nil
                            · go_simp
                              refine hK _ _ ?_
                              clear hK K
                              refine wpAnyIn_done (by kernel_rfl) ?_ _
                              gi_wp2
                              exact hpost.out
                    · go_simp
                      gi_wp2_with (refine ⟨trivial, (CallsIn.inRound lp (callsIn_wide.2 (HC.out _))).mono ?_⟩; rintro e w1 ⟨rfl, hb1⟩; obtain ⟨k0, kb, ka, A3, c3, w3, hrun, m1, m2, hpost⟩ := HP.out _ hb1; clear HP)
                      refine wpAnyIn_ready (rs := [2]) (by kernel_rfl) (by simp) ?_
                      refine AllReadyIn.cons rfl (fun K hK => ?_) AllReadyIn.nil
                      · go_simp
                        refine hK _ _ ?_
                        clear hK K
                        refine wpAnyIn_ready (rs := [6]) (by kernel_rfl) (by simp) ?_
                        refine AllReadyIn.cons rfl (fun K hK => ?_) AllReadyIn.nil
                        · go_simp
                          refine hK _ _ ?_
                          clear hK K
                          refine wpAnyIn_ready (rs := [7]) (by kernel_rfl) (by simp) ?_
                          refine AllReadyIn.cons rfl (fun K hK => ?_) AllReadyIn.nil
                          · refine stepIn_append_run rfl _ _ 37 rfl _ _ (by simp [Act.eval, Act.put]) (by simp [Act.eval, Act.put]) hrun ?_
                            refine hK _ _ ?_
                            clear hK K
                            refine wpAnyIn_ready (rs := [8]) (by kernel_rfl) (by simp) ?_
                            refine AllReadyIn.cons rfl (fun K hK => ?_) AllReadyIn.nil
                            · go_simp
                              refine hK _ _ ?_
                              clear hK K
                              refine wpAnyIn_done (by kernel_rfl) ?_ _
                              gi_wp2
                              exact hpost.out
              · go_simp
                refine hK _ _ ?_
                clear hK K
                refine wpAnyIn_ready (rs := [0, 3]) (by kernel_rfl) (by simp) ?_
                refine AllReadyIn.cons rfl (fun K hK => ?_) (AllReadyIn.cons rfl (fun K hK => ?_) AllReadyIn.nil)
                · go_simp
                  refine hK _ _ ?_
                  clear hK K
                  refine wpAnyIn_ready (rs := [3]) (by kernel_rfl) (by simp) ?_
                  refine AllReadyIn.cons rfl (fun K hK => ?_) AllReadyIn.nil
                  · go_simp
                    refine hK _ _ ?_
                    clear hK K
                    refine wpAnyIn_ready (rs := [4]) (by kernel_rfl) (by simp) ?_
                    refine AllReadyIn.cons rfl (fun K hK => ?_) AllReadyIn.nil
                    · go_simp
                      refine hK _ _ ?_
                      clear hK K
                      refine wpAnyIn_ready (rs := [5]) (by kernel_rfl) (by simp) ?_
                      refine AllReadyIn.cons rfl (fun K hK => ?_) AllReadyIn.nil
                      · go_simp
                        gi_wp2_with (refine ⟨trivial, (CallsIn.inRound lp (callsIn_wide.2 (HC.out _))).mono ?_⟩; rintro e w1 ⟨rfl, hb1⟩; obtain ⟨k0, kb, ka, A3, c3, w3, hrun, m1, m2, hpost⟩ := HP.out _ hb1; clear HP)
                        refine wpAnyIn_ready (rs := [6]) (by kernel_rfl) (by simp) ?_
                        refine AllReadyIn.cons rfl (fun K hK => ?_) AllReadyIn.nil
                        · go_simp
                          refine hK _ _ ?_
                          clear hK K
                          refine wpAnyIn_ready (rs := [7]) (by kernel_rfl) (by simp) ?_
                          refine AllReadyIn.cons rfl (fun K hK => ?_) AllReadyIn.nil
                          · refine stepIn_append_run rfl _ _ 37 rfl _ _ (by simp [Act.eval, Act.put]) (by simp [Act.eval, Act.put]) hrun ?_
                            refine hK _ _ ?_
                            clear hK K
                            refine wpAnyIn_ready (rs := [8]) (by kernel_rfl) (by simp) ?_
                            refine AllReadyIn.cons rfl (fun K hK => ?_) AllReadyIn.nil
                            · go_simp
                              refine hK _ _ ?_
                              clear hK K
                              refine wpAnyIn_done (by kernel_rfl) ?_ _
                              gi_wp2
                              exact hpost.out
                · go_simp
                  refine hK _ _ ?_
                  clear hK K
                  refine wpAnyIn_ready (rs := [0, 4]) (by kernel_rfl) (by simp) ?_
                  refine AllReadyIn.cons rfl (fun K hK => ?_) (AllReadyIn.cons rfl (fun K hK => ?_) AllReadyIn.nil)
                  · go_simp
                    refine hK _ _ ?_
                    clear hK K
                    refine wpAnyIn_ready (rs := [4]) (by kernel_rfl) (by simp) ?_
                    refine AllReadyIn.cons rfl (fun K hK => ?_) AllReadyIn.nil
                    · go_simp
                      refine hK _ _ ?_
                      clear hK K
                      refine wpAnyIn_ready (rs := [5]) (by kernel_rfl) (by simp) ?_
                      refine AllReadyIn.cons rfl (fun K hK => ?_) AllReadyIn.nil
                      · go_simp
                        gi_wp2_with (refine ⟨trivial, (CallsIn.inRound lp (callsIn_wide.2 (HC.out _))).mono ?_⟩; rintro e w1 ⟨rfl, hb1⟩; obtain ⟨k0, kb, ka, A3, c3, w3, hrun, m1, m2, hpost⟩ := HP.out _ hb1; clear HP)
                        refine wpAnyIn_ready (rs := [6]) (by kernel_rfl) (by simp) ?_
                        refine AllReadyIn.cons rfl (fun K hK => ?_) AllReadyIn.nil
                        · go_simp
                          refine hK _ _ ?_
                          clear hK K
                          refine wpAnyIn_ready (rs := [7]) (by kernel_rfl) (by simp) ?_
                          refine AllReadyIn.cons rfl (fun K hK => ?_) AllReadyIn.nil
                          · refine stepIn_append_run rfl _ _ 37 rfl _ _ (by simp [Act.eval, Act.put]) (by simp [Act.eval, Act.put]) hrun ?_
                            refine hK _ _ ?_
                            clear hK K
                            refine wpAnyIn_ready (rs := [8]) (by kernel_rfl) (by simp) ?_
                            refine AllReadyIn.cons rfl (fun K hK => ?_) AllReadyIn.nil
                            · go_simp
                              refine hK _ _ ?_
                              clear hK K
                              refine wpAnyIn_done (by kernel_rfl) ?_ _
                              gi_wp2
                              exact hpost.out
                  · go_simp
                    refine hK _ _ ?_
                    clear hK K
                    refine wpAnyIn_ready (rs := [0, 5]) (by kernel_rfl) (by simp) ?_
                    refine AllReadyIn.cons rfl (fun K hK => ?_) (AllReadyIn.cons rfl (fun K hK => ?_) AllReadyIn.nil)
                    · go_simp
                      refine hK _ _ ?_
                      clear hK K
                      refine wpAnyIn_ready (rs := [5]) (by kernel_rfl) (by simp) ?_
                      refine AllReadyIn.cons rfl (fun K hK => ?_) AllReadyIn.nil
                      · go_simp
                        gi_wp2_with (refine ⟨trivial, (CallsIn.inRound lp (callsIn_wide.2 (HC.out _))).mono ?_⟩; rintro e w1 ⟨rfl, hb1⟩; obtain ⟨k0, kb, ka, A3, c3, w3, hrun, m1, m2, hpost⟩ := HP.out _ hb1; clear HP)
                        refine wpAnyIn_ready (rs := [6]) (by kernel_rfl) (by simp) ?_
                        refine AllReadyIn.cons rfl (fun K hK => ?_) AllReadyIn.nil
                        · go_simp
                          refine hK _ _ ?_
                          clear hK K
                          refine wpAnyIn_ready (rs := [7]) (by kernel_rfl) (by simp) ?_
                          refine AllReadyIn.cons rfl (fun K hK => ?_) AllReadyIn.nil
                          · refine stepIn_append_run rfl _ _ 37 rfl _ _ (by simp [Act.eval, Act.put]) (by simp [Act.eval, Act.put]) hrun ?_
                            refine hK _ _ ?_
                            clear hK K
                            refine wpAnyIn_ready (rs := [8]) (by kernel_rfl) (by simp) ?_
                            refine AllReadyIn.cons rfl (fun K hK => ?_) AllReadyIn.nil
                            · go_simp
                              refine hK _ _ ?_
                              clear hK K
                              refine wpAnyIn_done (by kernel_rfl) ?_ _
                              gi_wp2
                              exact hpost.out
                    · go_simp
                      gi_wp2_with (refine ⟨trivial, (CallsIn.inRound lp (callsIn_wide.2 (HC.out _))).mono ?_⟩; rintro e w1 ⟨rfl, hb1⟩; obtain ⟨k0, kb, ka, A3, c3, w3, hrun, m1, m2, hpost⟩ := HP.out _ hb1; clear HP)
                      refine wpAnyIn_ready (rs := [0, 6]) (by kernel_rfl) (by simp) ?_
                      refine AllReadyIn.cons rfl (fun K hK => ?_) (AllReadyIn.cons rfl (fun K hK => ?_) AllReadyIn.nil)
                      · go_simp
                        refine hK _ _ ?_
                        clear hK K
                        refine wpAnyIn_ready (rs := [6]) (by kernel_rfl) (by simp) ?_
                        refine AllReadyIn.cons rfl (fun K hK => ?_) AllReadyIn.nil
                        · go_simp
                          refine hK _ _ ?_
                          clear hK K
                          refine wpAnyIn_ready (rs := [7]) (by kernel_rfl) (by simp) ?_
                          refine AllReadyIn.cons rfl (fun K hK => ?_) AllReadyIn.nil
                          · refine stepIn_append_run rfl _ _ 37 rfl _ _ (by simp [Act.eval, Act.put]) (by simp [Act.eval, Act.put]) hrun ?_
                            refine hK _ _ ?_
                            clear hK K
                            refine wpAnyIn_ready (rs := [8]) (by kernel_rfl) (by simp) ?_
                            refine AllReadyIn.cons rfl (fun K hK => ?_) AllReadyIn.nil
                            · go_simp
                              refine hK _ _ ?_
                              clear hK K
                              refine wpAnyIn_done (by kernel_rfl) ?_ _
                              gi_wp2
                              exact hpost.out
                      · go_simp
                        refine hK _ _ ?_
                        clear hK K
                        refine wpAnyIn_ready (rs := [0]) (by kernel_rfl) (by simp) ?_
                        refine AllReadyIn.cons rfl (fun K hK => ?_) AllReadyIn.nil
                        · go_simp
                          refine hK _ _ ?_
                          clear hK K
                          refine wpAnyIn_ready (rs := [7]) (by kernel_rfl) (by simp) ?_
                          refine AllReadyIn.cons rfl (fun K hK => ?_) AllReadyIn.nil
                          · refine stepIn_append_run rfl _ _ 37 rfl _ _ (by simp [Act.eval, Act.put]) (by simp [Act.eval, Act.put]) hrun ?_
                            refine hK _ _ ?_
                            clear hK K
                            refine wpAnyIn_ready (rs := [8]) (by kernel_rfl) (by simp) ?_
                            refine AllReadyIn.cons rfl (fun K hK => ?_) AllReadyIn.nil
                            · go_simp
                              refine hK _ _ ?_
                              clear hK K
                              refine wpAnyIn_done (by kernel_rfl) ?_ _
                              gi_wp2
                              exact hpost.out
              · go_simp
                refine hK _ _ ?_
                clear hK K
                refine wpAnyIn_ready (rs := [0, 2, 4]) (by kernel_rfl) (by simp) ?_
                refine AllReadyIn.cons rfl (fun K hK => ?_) (AllReadyIn.cons rfl (fun K hK => ?_) (AllReadyIn.cons rfl (fun K hK => ?_) AllReadyIn.nil))
                · go_simp
                  refine hK _ _ ?_
                  clear hK K
                  refine wpAnyIn_ready (rs := [2, 4]) (by kernel_rfl) (by simp) ?_
                  refine AllReadyIn.cons rfl (fun K hK => ?_) (AllReadyIn.cons rfl (fun K hK => ?_) AllReadyIn.nil)
                  · go_simp
                    refine hK _ _ ?_
                    clear hK K
                    refine wpAnyIn_ready (rs := [4]) (by kernel_rfl) (by simp) ?_
                    refine AllReadyIn.cons rfl (fun K hK => ?_) AllReadyIn.nil
                    · go_simp
                      refine hK _ _ ?_
                      clear hK K
                      refine wpAnyIn_ready (rs := [5]) (by kernel_rfl) (by simp) ?_
                      refine AllReadyIn.cons rfl (fun K hK => ?_) AllReadyIn.nil
                      · go_simp
                        gi_wp2_with (refine ⟨trivial, (CallsIn.inRound lp (callsIn_wide.2 (HC.out _))).mono ?_⟩; rintro e w1 ⟨rfl, hb1⟩; obtain ⟨k0, kb, ka, A3, c3, w3, hrun, m1, m2, hpost⟩ := HP.out _ hb1; clear HP)
                        refine wpAnyIn_ready (rs := [6]) (by kernel_rfl) (by simp) ?_
                        refine AllReadyIn.cons rfl (fun K hK => ?_) AllReadyIn.nil
                        · go_simp
                          refine hK _ _ ?_
                          clear hK K
                          refine wpAnyIn_ready (rs := [7]) (by kernel_rfl) (by simp) ?_
                          refine AllReadyIn.cons rfl (fun K hK => ?_) AllReadyIn.nil
                          · refine stepIn_append_run rfl _ _ 37 rfl _ _ (by simp [Act.eval, Act.put]) (by simp [Act.eval, Act.put]) hrun ?_
                            refine hK _ _ ?_
                            clear hK K
                            refine wpAnyIn_ready (rs := [8]) (by kernel_rfl) (by simp) ?_
                            refine AllReadyIn.cons rfl (fun K hK => ?_) AllReadyIn.nil
                            · go_simp
                              refine hK _ _ ?_
                              clear hK K
                              refine wpAnyIn_done (by kernel_rfl) ?_ _
                              gi_wp2
                              exact hpost.out
                  · go_simp
                    refine hK _ _ ?_
                    clear hK K
                    refine wpAnyIn_ready (rs := [2, 5]) (by kernel_rfl) (by simp) ?_
                    refine AllReadyIn.cons rfl (fun K hK => ?_) (AllReadyIn.cons rfl (fun K hK => ?_) AllReadyIn.nil)
                    · go_simp
                      refine hK _ _ ?_
                      clear hK K
                      refine wpAnyIn_ready (rs := [5]) (by kernel_rfl) (by simp) ?_
                      refine AllReadyIn.cons rfl (fun K hK => ?_) AllReadyIn.nil
                      · go_simp
                        gi_wp2_with (refine ⟨trivial, (CallsIn.inRound lp (callsIn_wide.2 (HC.out _))).mono ?_⟩; rintro e w1 ⟨rfl, hb1⟩; obtain ⟨k0, kb, ka, A3, c3, w3, hrun, m1, m2, hpost⟩ := HP.out _ hb1; clear HP)
                        refine wpAnyIn_ready (rs := [6]) (by kernel_rfl) (by simp) ?_
                        refine AllReadyIn.cons rfl (fun K hK => ?_) AllReadyIn.nil
                        · go_simp
                          refine hK _ _ ?_
                          clear hK K
                          refine wpAnyIn_ready (rs := [7]) (by kernel_rfl) (by simp) ?_
                          refine AllReadyIn.cons rfl (fun K hK => ?_) AllReadyIn.nil
                          · refine stepIn_append_run rfl _ _ 37 rfl _ _ (by simp [Act.eval, Act.put]) (by simp [Act.eval, Act.put]) hrun ?_
                            refine hK _ _ ?_
                            clear hK K
                            refine wpAnyIn_ready (rs := [8]) (by kernel_rfl) (by simp) ?_
                            refine AllReadyIn.cons rfl (fun K hK => ?_) AllReadyIn.nil
                            · go_simp
                              refine hK _ _ ?_
                              clear hK K
                              refine wpAnyIn_done (by kernel_rfl) ?_ _
                              gi_wp2
                              exact hpost.out
                    · go_simp
                      gi_wp2_with (refine ⟨trivial, (CallsIn.inRound lp (callsIn_wide.2 (HC.out _))).mono ?_⟩; rintro e w1 ⟨rfl, hb1⟩; obtain ⟨k0, kb, ka, A3, c3, w3, hrun, m1, m2, hpost⟩ := HP.out _ hb1; clear HP)
                      refine wpAnyIn_ready (rs := [2]) (by kernel_rfl) (by simp) ?_
                      refine AllReadyIn.cons rfl (fun K hK => ?_) AllReadyIn.nil
                      · go_simp
                        refine hK _ _ ?_
                        clear hK K
                        refine wpAnyIn_ready (rs := [6]) (by kernel_rfl) (by simp) ?_
                        refine AllReadyIn.cons rfl (fun K hK => ?_) AllReadyIn.nil
                        · go_simp
                          refine hK _ _ ?_
                          clear hK K
                          refine wpAnyIn_ready (rs := [7]) (by kernel_rfl) (by simp) ?_
                          refine AllReadyIn.cons rfl (fun K hK => ?_) AllReadyIn.nil
                          · refine stepIn_append_run rfl _ _ 37 rfl _ _ (by simp [Act.eval, Act.put]) (by simp [Act.eval, Act.put]) hrun ?_
                            refine hK _ _ ?_
                            clear hK K
                            refine wpAnyIn_ready (rs := [8]) (by kernel_rfl) (by simp) ?_
                            refine AllReadyIn.cons rfl (fun K hK => ?_) AllReadyIn.nil
                            · go_simp
                              refine hK _ _ ?_
                              clear hK K
                              refine wpAnyIn_done (by kernel_rfl) ?_ _
                              gi_wp2
                              exact hpost.out
                · go_simp
                  refine hK _ _ ?_
                  clear hK K
                  refine wpAnyIn_ready (rs := [0, 4]) (by kernel_rfl) (by simp) ?_
                  refine AllReadyIn.cons rfl (fun K hK => ?_) (AllReadyIn.cons rfl (fun K hK => ?_) AllReadyIn.nil)
                  · go_simp
                    refine hK _ _ ?_
                    clear hK K
                    refine wpAnyIn_ready (rs := [4]) (by kernel_rfl) (by simp) ?_
                    refine AllReadyIn.cons rfl (fun K hK => ?_) AllReadyIn.nil
                    · go_simp
                      refine hK _ _ ?_
                      clear hK K
                      refine wpAnyIn_ready (rs := [5]) (by kernel_rfl) (by simp) ?_
                      refine AllReadyIn.cons rfl (fun K hK => ?_) AllReadyIn.nil
                      · go_simp
                        gi_wp2_with (refine ⟨trivial, (CallsIn.inRound lp (callsIn_wide.2 (HC.out _))).mono ?_⟩; rintro e w1 ⟨rfl, hb1⟩; obtain ⟨k0, kb, ka, A3, c3, w3, hrun, m1, m2, hpost⟩ := HP.out _ hb1; clear HP)
                        refine wpAnyIn_ready (rs := [6]) (by kernel_rfl) (by simp) ?_
                        refine AllReadyIn.cons rfl (fun K hK => ?_) AllReadyIn.nil
                        · go_simp
                          refine hK _ _ ?_
                          clear hK K
                          refine wpAnyIn_ready (rs := [7]) (by kernel_rfl) (by simp) ?_
                          refine AllReadyIn.cons rfl (fun K hK => ?_) AllReadyIn.nil
                          · refine stepIn_append_run rfl _ _ 37 rfl _ _ (by simp [Act.eval, Act.put]) (by simp [Act.eval, Act.put]) hrun ?_
                            refine hK _ _ ?_
                            clear hK K
                            refine wpAnyIn_ready (rs := [8]) (by kernel_rfl) (by simp) ?_
                            refine AllReadyIn.cons rfl (fun K hK => ?_) AllReadyIn.nil
                            · go_simp
                              refine hK _ _ ?_
                              clear hK K
                              refine wpAnyIn_done (by kernel_rfl) ?_ _
                              gi_wp2
                              exact hpost.out
                  · go_simp
                    refine hK _ _ ?_
                    clear hK K
                    refine wpAnyIn_ready (rs := [0, 5]) (by kernel_rfl) (by simp) ?_
                    refine AllReadyIn.cons rfl (fun K hK => ?_) (AllReadyIn.cons rfl (fun K hK => ?_) AllReadyIn.nil)
                    · go_simp
                      refine hK _ _ ?_
                      clear hK K
                      refine wpAnyIn_ready (rs := [5]) (by kernel_rfl) (by simp) ?_
                      refine AllReadyIn.cons rfl (fun K hK => ?_) AllReadyIn.nil
                      · go_simp
                        gi_wp2_with (refine ⟨trivial, (CallsIn.inRound lp (callsIn_wide.2 (HC.out _))).mono ?_⟩; rintro e w1 ⟨rfl, hb1⟩; obtain ⟨k0, kb, ka, A3, c3, w3, hrun, m1, m2, hpost⟩ := HP.out _ hb1; clear HP)
                        refine wpAnyIn_ready (rs := [6]) (by kernel_rfl) (by simp) ?_
                        refine AllReadyIn.cons rfl (fun K hK => ?_) AllReadyIn.nil
                        · go_simp
                          refine hK _ _ ?_
                          clear hK K
                          refine wpAnyIn_ready (rs := [7]) (by kernel_rfl) (by simp) ?_
                          refine AllReadyIn.cons rfl (fun K hK => ?_) AllReadyIn.nil
                          · refine stepIn_append_run rfl _ _ 37 rfl _ _ (by simp [Act.eval, Act.put]) (by simp [Act.eval, Act.put]) hrun ?_
                            refine hK _ _ ?_
                            clear hK K
                            refine wpAnyIn_ready (rs := [8]) (by kernel_rfl) (by simp) ?_
                            refine AllReadyIn.cons rfl (fun K hK => ?_) AllReadyIn.nil
                            · go_simp
                              refine hK _ _ ?_
                              clear hK K
                              refine wpAnyIn_done (by kernel_rfl) ?_ _
                              gi_wp2
                              exact hpost.out
                    · go_simp
                      gi_wp2_with (refine ⟨trivial, (CallsIn.inRound lp (callsIn_wide.2 (HC.out _))).mono ?_⟩; rintro e w1 ⟨rfl, hb1⟩; obtain ⟨k0, kb, ka, A3, c3, w3, hrun, m1, m2, hpost⟩ := HP.out _ hb1; clear HP)
                      refine wpAnyIn_ready (rs := [0, 6]) (by kernel_rfl) (by simp) ?_
                      refine AllReadyIn.cons rfl (fun K hK => ?_) (AllReadyIn.cons rfl (fun K hK => ?_) AllReadyIn.nil)
                      · go_simp
                        refine hK _ _ ?_
                        clear hK K
                        refine wpAnyIn_ready (rs := [6]) (by kernel_rfl) (by simp) ?_
                        refine AllReadyIn.cons rfl (fun K hK => ?_) AllReadyIn.nil
                        · go_simp
                          refine hK _ _ ?_
                          clear hK K
                          refine wpAnyIn_ready (rs := [7]) (by kernel_rfl) (by simp) ?_
                          refine AllReadyIn.cons rfl (fun K hK => ?_) AllReadyIn.nil
                          · refine stepIn_append_run rfl _ _ 37 rfl _ _ (by simp [Act.eval, Act.put]) (by simp [Act.eval, Act.put]) hrun ?_
                            refine hK _ _ ?_
                            clear hK K
                            refine wpAnyIn_ready (rs := [8]) (by kernel_rfl) (by simp) ?_
                            refine AllReadyIn.cons rfl (fun K hK => ?_) AllReadyIn.nil
                            · go_simp
                              refine hK _ _ ?_
                              clear hK K
                              refine wpAnyIn_done (by kernel_rfl) ?_ _
                              gi_wp2
                              exact hpost.out
                      · go_simp
                        refine hK _ _ ?_
                        clear hK K
                        refine wpAnyIn_ready (rs := [0]) (by kernel_rfl) (by simp) ?_
                        refine AllReadyIn.cons rfl (fun K hK => ?_) AllReadyIn.nil
                        · go_simp
                          refine hK _ _ ?_
                          clear hK K
                          refine wpAnyIn_ready (rs := [7]) (by kernel_rfl) (by simp) ?_
                          refine AllReadyIn.cons rfl (fun K hK => ?_) AllReadyIn.nil
                          · refine stepIn_append_run rfl _ _ 37 rfl _ _ (by simp [Act.eval, Act.put]) (by simp [Act.eval, Act.put]) hrun ?_
                            refine hK _ _ ?_
                            clear hK K
                            refine wpAnyIn_ready (rs := [8]) (by kernel_rfl) (by simp) ?_
                            refine AllReadyIn.cons rfl (fun K hK => ?_) AllReadyIn.nil
                            · go_simp
                              refine hK _ _ ?_
                              clear hK K
                              refine wpAnyIn_done (by kernel_rfl) ?_ _
                              gi_wp2
                              exact hpost.out
                · go_simp
                  refine hK _ _ ?_
                  clear hK K
                  refine wpAnyIn_ready (rs := [0, 2, 5]) (by kernel_rfl) (by simp) ?_
                  refine AllReadyIn.cons rfl (fun K hK => ?_) (AllReadyIn.cons rfl (fun K hK => ?_) (AllReadyIn.cons rfl (fun K hK => ?_) AllReadyIn.nil))
                  · go_simp
                    refine hK _ _ ?_
                    clear hK K
                    refine wpAnyIn_ready (rs := [2, 5]) (by kernel_rfl) (by simp) ?_
                    refine AllReadyIn.cons rfl (fun K hK => ?_) (AllReadyIn.cons rfl (fun K hK => ?_) AllReadyIn.nil)
                    · go_simp
                      refine hK _ _ ?_
                      clear hK K
                      refine wpAnyIn_ready (rs := [5]) (by kernel_rfl) (by simp) ?_
                      refine AllReadyIn.cons rfl (fun K hK => ?_) AllReadyIn.nil
                      · go_simp
                        gi_wp2_with (refine ⟨trivial, (CallsIn.inRound lp (callsIn_wide.2 (HC.out _))).mono ?_⟩; rintro e w1 ⟨rfl, hb1⟩; obtain ⟨k0, kb, ka, A3, c3, w3, hrun, m1, m2, hpost⟩ := HP.out _ hb1; clear HP)
                        refine wpAnyIn_ready (rs := [6]) (by kernel_rfl) (by simp) ?_
                        refine AllReadyIn.cons rfl (fun K hK => ?_) AllReadyIn.nil
                        · go_simp
                          refine hK _ _ ?_
                          clear hK K
                          refine wpAnyIn_ready (rs := [7]) (by kernel_rfl) (by simp) ?_
                          refine AllReadyIn.cons rfl (fun K hK => ?_) AllReadyIn.nil
                          · refine stepIn_append_run rfl _ _ 37 rfl _ _ (by simp [Act.eval, Act.put]) (by simp [Act.eval, Act.put]) hrun ?_
                            refine hK _ _ ?_
                            clear hK K
                            refine wpAnyIn_ready (rs := [8]) (by kernel_rfl) (by simp) ?_
                            refine AllReadyIn.cons rfl (fun K hK => ?_) AllReadyIn.nil
                            · go_simp
                              refine hK _ _ ?_
                              clear hK K
                              refine wpAnyIn_done (by kernel_rfl) ?_ _
                              gi_wp2
                              exact hpost.out
                    · go_simp
                      gi_wp2_with (refine ⟨trivial, (CallsIn.inRound lp (callsIn_wide.2 (HC.out _))).mono ?_⟩; rintro e w1 ⟨rfl, hb1⟩; obtain ⟨k0, kb, ka, A3, c3, w3, hrun, m1, m2, hpost⟩ := HP.out _ hb1; clear HP)
                      refine wpAnyIn_ready (rs := [2]) (by kernel_rfl) (by simp) ?_
                      refine AllReadyIn.cons rfl (fun K hK => ?_) AllReadyIn.nil
                      · go_simp
                        refine hK _ _ ?_
                        clear hK K
                        refine wpAnyIn_ready (rs := [6]) (by kernel_rfl) (by simp) ?_
                        refine AllReadyIn.cons rfl (fun K hK => ?_) AllReadyIn.nil
                        · go_simp
                          refine hK _ _ ?_
                          clear hK K
                          refine wpAnyIn_ready (rs := [7]) (by kernel_rfl) (by simp) ?_
                          refine AllReadyIn.cons rfl (fun K hK => ?_) AllReadyIn.nil
                          · refine stepIn_append_run rfl _ _ 37 rfl _ _ (by simp [Act.eval, Act.put]) (by simp [Act.eval, Act.put]) hrun ?_
                            refine hK _ _ ?_
                            clear hK K
                            refine wpAnyIn_ready (rs := [8]) (by kernel_rfl) (by simp) ?_
                            refine AllReadyIn.cons rfl (fun K hK => ?_) AllReadyIn.nil
                            · go_simp
                              refine hK _ _ ?_
                              clear hK K
                              refine wpAnyIn_done (by kernel_rfl) ?_ _
                              gi_wp2
                              exact hpost.out
                  · go_simp
                    refine hK _ _ ?_
                    clear hK K
                    refine wpAnyIn_ready (rs := [0, 5]) (by kernel_rfl) (by simp) ?_
                    refine AllReadyIn.cons rfl (fun K hK => ?_) (AllReadyIn.cons rfl (fun K hK => ?_) AllReadyIn.nil)
                    · go_simp
                      refine hK _ _ ?_
                      clear hK K
                      refine wpAnyIn_ready (rs := [5]) (by kernel_rfl) (by simp) ?_
                      refine AllReadyIn.cons rfl (fun K hK => ?_) AllReadyIn.nil
                      · go_simp
                        gi_wp2_with (refine ⟨trivial, (CallsIn.inRound lp (callsIn_wide.2 (HC.out _))).mono ?_⟩; rintro e w1 ⟨rfl, hb1⟩; obtain ⟨k0, kb, ka, A3, c3, w3, hrun, m1, m2, hpost⟩ := HP.out _ hb1; clear HP)
                        refine wpAnyIn_ready (rs := [6]) (by kernel_rfl) (by simp) ?_
                        refine AllReadyIn.cons rfl (fun K hK => ?_) AllReadyIn.nil
                        · go_simp
                          refine hK _ _ ?_
                          clear hK K
                          refine wpAnyIn_ready (rs := [7]) (by kernel_rfl) (by simp) ?_
                          refine AllReadyIn.cons rfl (fun K hK => ?_) AllReadyIn.nil
                          · refine stepIn_append_run rfl _ _ 37 rfl _ _ (by simp [Act.eval, Act.put]) (by simp [Act.eval, Act.put]) hrun ?_
                            refine hK _ _ ?_
                            clear hK K
                            refine wpAnyIn_ready (rs := [8]) (by kernel_rfl) (by simp) ?_
                            refine AllReadyIn.cons rfl (fun K hK => ?_) AllReadyIn.nil
                            · go_simp
                              refine hK _ _ ?_
                              clear hK K
                              refine wpAnyIn_done (by kernel_rfl) ?_ _
                              gi_wp2
                              exact hpost.out
                    · go_simp
                      gi_wp2_with (refine ⟨trivial, (CallsIn.inRound lp (callsIn_wide.2 (HC.out _))).mono ?_⟩; rintro e w1 ⟨rfl, hb1⟩; obtain ⟨k0, kb, ka, A3, c3, w3, hrun, m1, m2, hpost⟩ := HP.out _ hb1; clear HP)
                      refine wpAnyIn_ready (rs := [0, 6]) (by kernel_rfl) (by simp) ?_
                      refine AllReadyIn.cons rfl (fun K hK => ?_) (AllReadyIn.cons rfl (fun K hK => ?_) AllReadyIn.nil)
                      · go_simp
                        refine hK _ _ ?_
                        clear hK K
                        refine wpAnyIn_ready (rs := [6]) (by kernel_rfl) (by simp) ?_
                        refine AllReadyIn.cons rfl (fun K hK => ?_) AllReadyIn.nil
                        · go_simp
                          refine hK _ _ ?_
                          clear hK K
                          refine wpAnyIn_ready (rs := [7]) (by kernel_rfl) (by simp) ?_
                          refine AllReadyIn.cons rfl (fun K hK => ?_) AllReadyIn.nil
                          · refine stepIn_append_run rfl _ _ 37 rfl _ _ (by simp [Act.eval, Act.put]) (by simp [Act.eval, Act.put]) hrun ?_
                            refine hK _ _ ?_
                            clear hK K
                            refine wpAnyIn_ready (rs := [8]) (by kernel_rfl) (by simp) ?_
                            refine AllReadyIn.cons rfl (fun K hK => ?_) AllReadyIn.nil
                            · go_simp
                              refine hK _ _ ?_
                              clear hK K
                              refine wpAnyIn_done (by kernel_rfl) ?_ _
                              gi_wp2
                              exact hpost.out
                      · go_simp
                        refine hK _ _ ?_
                        clear hK K
                        refine wpAnyIn_ready (rs := [0]) (by kernel_rfl) (by simp) ?_
                        refine AllReadyIn.cons rfl (fun K hK => ?_) AllReadyIn.nil
                        · go_simp
                          refine hK _ _ ?_
                          clear hK K
                          refine wpAnyIn_ready (rs := [7]) (by kernel_rfl) (by simp) ?_
                          refine AllReadyIn.cons rfl (fun K hK => ?_) AllReadyIn.nil
                          · refine stepIn_append_run rfl _ _ 37 rfl _ _ (by simp [Act.eval, Act.put]) (by simp [Act.eval, Act.put]) hrun ?_
                            refine hK _ _ ?_
                            clear hK K
                            refine wpAnyIn_ready (rs := [8]) (by kernel_rfl) (by simp) ?_
                            refine AllReadyIn.cons rfl (fun K hK => ?_) AllReadyIn.nil
                            · go_simp
                              refine hK _ _ ?_
                              clear hK K
                              refine wpAnyIn_done (by kernel_rfl) ?_ _
                              gi_wp2
                              exact hpost.out
                  · go_simp
                    gi_wp2_with (refine ⟨trivial, (CallsIn.inRound lp (callsIn_wide.2 (HC.out _))).mono ?_⟩; rintro e w1 ⟨rfl, hb1⟩; obtain ⟨k0, kb, ka, A3, c3, w3, hrun, m1, m2, hpost⟩ := HP.out _ hb1; clear HP)
                    refine wpAnyIn_ready (rs := [0, 2]) (by kernel_rfl) (by simp) ?_
                    refine AllReadyIn.cons rfl (fun K hK => ?_) (AllReadyIn.cons rfl (fun K hK => ?_) AllReadyIn.nil)
                    · go_simp
                      refine hK _ _ ?_
                      clear hK K
                      refine wpAnyIn_ready (rs := [2]) (by kernel_rfl) (by simp) ?_
                      refine AllReadyIn.cons rfl (fun K hK => ?_) AllReadyIn.nil
                      · go_simp
                        refine hK _ _ ?_
                        clear hK K
                        refine wpAnyIn_ready (rs := [6]) (by kernel_rfl) (by simp) ?_
                        refine AllReadyIn.cons rfl (fun K hK => ?_) AllReadyIn.nil
                        · go_simp
                          refine hK _ _ ?_
                          clear hK K
                          refine wpAnyIn_ready (rs := [7]) (by kernel_rfl) (by simp) ?_
                          refine AllReadyIn.cons rfl (fun K hK => ?_) AllReadyIn.nil
                          · refine stepIn_append_run rfl _ _ 37 rfl _ _ (by simp [Act.eval, Act.put]) (by simp [Act.eval, Act.put]) hrun ?_
                            refine hK _ _ ?_
                            clear hK K
                            refine wpAnyIn_ready (rs := [8]) (by kernel_rfl) (by simp) ?_
                            refine AllReadyIn.cons rfl (fun K hK => ?_) AllReadyIn.nil
                            · go_simp
                              refine hK _ _ ?_
                              clear hK K
                              refine wpAnyIn_done (by kernel_rfl) ?_ _
                              gi_wp2
                              exact hpost.out
                    · go_simp
                      refine hK _ _ ?_
                      clear hK K
                      refine wpAnyIn_ready (rs := [0, 6]) (by kernel_rfl) (by simp) ?_
                      refine AllReadyIn.cons rfl (fun K hK => ?_) (AllReadyIn.cons rfl (fun K hK => ?_) AllReadyIn.nil)
                      · go_simp
                        refine hK _ _ ?_
                        clear hK K
                        refine wpAnyIn_ready (rs := [6]) (by kernel_rfl) (by simp) ?_
                        refine AllReadyIn.cons rfl (fun K hK => ?_) AllReadyIn.nil
                        · go_simp
                          refine hK _ _ ?_
                          clear hK K
                          refine wpAnyIn_ready (rs := [7]) (by kernel_rfl) (by simp) ?_
                          refine AllReadyIn.cons rfl (fun K hK => ?_) AllReadyIn.nil
                          · refine stepIn_append_run rfl _ _ 37 rfl _ _ (by simp [Act.eval, Act.put]) (by simp [Act.eval, Act.put]) hrun ?_
                            refine hK _ _ ?_
                            clear hK K
                            refine wpAnyIn_ready (rs := [8]) (by kernel_rfl) (by simp) ?_
                            refine AllReadyIn.cons rfl (fun K hK => ?_) AllReadyIn.nil
                            · go_simp
                              refine hK _ _ ?_
                              clear hK K
                              refine wpAnyIn_done (by kernel_rfl) ?_ _
                              gi_wp2
                              exact hpost.out
                      · go_simp
                        refine hK _ _ ?_
                        clear hK K
                        refine wpAnyIn_ready (rs := [0]) (by kernel_rfl) (by simp) ?_
                        refine AllReadyIn.cons rfl (fun K hK => ?_) AllReadyIn.nil
                        · go_simp
                          refine hK _ _ ?_
                          clear hK K
                          refine wpAnyIn_ready (rs := [7]) (by kernel_rfl) (by simp) ?_
                          refine AllReadyIn.cons rfl (fun K hK => ?_) AllReadyIn.nil
                          · refine stepIn_append_run rfl _ _ 37 rfl _ _ (by simp [Act.eval, Act.put]) (by simp [Act.eval, Act.put]) hrun ?_
                            refine hK _ _ ?_
                            clear hK K
                            refine wpAnyIn_ready (rs := [8]) (by kernel_rfl) (by simp) ?_
                            refine AllReadyIn.cons rfl (fun K hK => ?_) AllReadyIn.nil
                            · go_simp
                              refine hK _ _ ?_
                              clear hK K
                              refine wpAnyIn_done (by kernel_rfl) ?_ _
                              gi_wp2
                              exact hpost.out
            · go_simp
              refine hK _ _ ?_
              clear hK K
              refine wpAnyIn_ready (rs := [0, 1, 4]) (by kernel_rfl) (by simp) ?_
              refine AllReadyIn.cons rfl (fun K hK => ?_) (AllReadyIn.cons rfl (fun K hK => ?_) (AllReadyIn.cons rfl (fun K hK => ?_) AllReadyIn.nil))
              · go_simp
                refine hK _ _ ?_
                clear hK K
                refine wpAnyIn_ready (rs := [1, 4]) (by kernel_rfl) (by simp) ?_
                refine AllReadyIn.cons rfl (fun K hK => ?_) (AllReadyIn.cons rfl (fun K hK => ?_) AllReadyIn.nil)
                · go_simp
                  refine hK _ _ ?_
                  clear hK K
                  refine wpAnyIn_ready (rs := [2, 4]) (by kernel_rfl) (by simp) ?_
                  refine AllReadyIn.cons rfl (fun K hK => ?_) (AllReadyIn.cons rfl (fun K hK => ?_) AllReadyIn.nil)
                  · go_simp
                    refine hK _ _ ?_
                    clear hK K
                    refine wpAnyIn_ready (rs := [4]) (by kernel_rfl) (by simp) ?_
                    refine AllReadyIn.cons rfl (fun K hK => ?_) AllReadyIn.nil
                    · go_simp
                      refine hK _ _ ?_
                      clear hK K
                      refine wpAnyIn_ready (rs := [5]) (by kernel_rfl) (by simp) ?_
                      refine AllReadyIn.cons rfl (fun K hK => ?_) AllReadyIn.nil
                      · go_simp
                        gi_wp2_with (refine ⟨trivial, (CallsIn.inRound lp (callsIn_wide.2 (HC.out _))).mono ?_⟩; rintro e w1 ⟨rfl, hb1⟩; obtain ⟨k0, kb, ka, A3, c3, w3, hrun, m1, m2, hpost⟩ := HP.out _ hb1; clear HP)
                        refine wpAnyIn_ready (rs := [6]) (by kernel_rfl) (by simp) ?_
                        refine AllReadyIn.cons rfl (fun K hK => ?_) AllReadyIn.nil
                        · go_simp
                          refine hK _ _ ?_
                          clear hK K
                          refine wpAnyIn_ready (rs := [7]) (by kernel_rfl) (by simp) ?_
                          refine AllReadyIn.cons rfl (fun K hK => ?_) AllReadyIn.nil
                          · refine stepIn_append_run rfl _ _ 37 rfl _ _ (by simp [Act.eval, Act.put]) (by simp [Act.eval, Act.put]) hrun ?_
                            refine hK _ _ ?_
                            clear hK K
                            refine wpAnyIn_ready (rs := [8]) (by kernel_rfl) (by simp) ?_
                            refine AllReadyIn.cons rfl (fun K hK => ?_) AllReadyIn.nil
                            · go_simp
                              refine hK _ _ ?_
                              clear hK K
                              refine wpAnyIn_done (by kernel_rfl) ?_ _
                              gi_wp2
                              exact hpost.out
                  · go_simp
                    refine hK _ _ ?_
                    clear hK K
                    refine wpAnyIn_ready (rs := [2, 5]) (by kernel_rfl) (by simp) ?_
                    refine AllReadyIn.cons rfl (fun K hK => ?_) (AllReadyIn.cons rfl (fun K hK => ?_) AllReadyIn.nil)
                    · go_simp
                      refine hK _ _ ?_
                      clear hK K
                      refine wpAnyIn_ready (rs := [5]) (by kernel_rfl) (by simp) ?_
                      refine AllReadyIn.cons rfl (fun K hK => ?_) AllReadyIn.nil
                      · go_simp
                        gi_wp2_with (refine ⟨trivial, (CallsIn.inRound lp (callsIn_wide.2 (HC.out _))).mono ?_⟩; rintro e w1 ⟨rfl, hb1⟩; obtain ⟨k0, kb, ka, A3, c3, w3, hrun, m1, m2, hpost⟩ := HP.out _ hb1; clear HP)
                        refine wpAnyIn_ready (rs := [6]) (by kernel_rfl) (by simp) ?_
                        refine AllReadyIn.cons rfl (fun K hK => ?_) AllReadyIn.nil
                        · go_simp
                          refine hK _ _ ?_
                          clear hK K
                          refine wpAnyIn_ready (rs := [7]) (by kernel_rfl) (by simp) ?_
                          refine AllReadyIn.cons rfl (fun K hK => ?_) AllReadyIn.nil
                          · refine stepIn_append_run rfl _ _ 37 rfl _ _ (by simp [Act.eval, Act.put]) (by simp [Act.eval, Act.put]) hrun ?_
                            refine hK _ _ ?_
                            clear hK K
                            refine wpAnyIn_ready (rs := [8]) (by kernel_rfl) (by simp) ?_
                            refine AllReadyIn.cons rfl (fun K hK => ?_) AllReadyIn.nil
                            · go_simp
                              refine hK _ _ ?_
                              clear hK K
                              refine wpAnyIn_done (by kernel_rfl) ?_ _
                              gi_wp2
                              exact hpost.out
                    · go_simp
                      gi_wp2_with (refine ⟨trivial, (CallsIn.inRound lp (callsIn_wide.2 (HC.out _))).mono ?_⟩; rintro e w1 ⟨rfl, hb1⟩; obtain ⟨k0, kb, ka, A3, c3, w3, hrun, m1, m2, hpost⟩ := HP.out _ hb1; clear HP)
                      refine wpAnyIn_ready (rs := [2]) (by kernel_rfl) (by simp) ?_
                      refine AllReadyIn.cons rfl (fun K hK => ?_) AllReadyIn.nil
                      · go_simp
                        refine hK _ _ ?_
                        clear hK K
                        refine wpAnyIn_ready (rs := [6]) (by kernel_rfl) (by simp) ?_
                        refine AllReadyIn.cons rfl (fun K hK => ?_) AllReadyIn.nil
                        · go_simp
                          refine hK _ _ ?_
                          clear hK K
                          refine wpAnyIn_ready (rs := [7]) (by kernel_rfl) (by simp) ?_
                          refine AllReadyIn.cons rfl (fun K hK => ?_) AllReadyIn.nil
                          · refine stepIn_append_run rfl _ _ 37 rfl _ _ (by simp [Act.eval, Act.put]) (by simp [Act.eval, Act.put]) hrun ?_
                            refine hK _ _ ?_
                            clear hK K
                            refine wpAnyIn_ready (rs := [8]) (by kernel_rfl) (by simp) ?_
                            refine AllReadyIn.cons rfl (fun K hK => ?_) AllReadyIn.nil
                            · go_simp
                              refine hK _ _ ?_
                              clear hK K
                              refine wpAnyIn_done (by kernel_rfl) ?_ _
                              gi_wp2
                              exact hpost.out
                · go_simp
                  refine hK _ _ ?_
                  clear hK K
                  refine wpAnyIn_ready (rs := [1, 5]) (by kernel_rfl) (by simp) ?_
                  refine AllReadyIn.cons rfl (fun K hK => ?_) (AllReadyIn.cons rfl (fun K hK => ?_) AllReadyIn.nil)
                  · go_simp
                    refine hK _ _ ?_
                    clear hK K
                    refine wpAnyIn_ready (rs := [2, 5]) (by kernel_rfl) (by simp) ?_
                    refine AllReadyIn.cons rfl (fun K hK => ?_) (AllReadyIn.cons rfl (fun K hK => ?_) AllReadyIn.nil)
                    · go_simp
                      refine hK _ _ ?_
                      clear hK K
                      refine wpAnyIn_ready (rs := [5]) (by kernel_rfl) (by simp) ?_
                      refine AllReadyIn.cons rfl (fun K hK => ?_) AllReadyIn.nil
                      · go_simp
                        gi_wp2_with (refine ⟨trivial, (CallsIn.inRound lp (callsIn_wide.2 (HC.out _))).mono ?_⟩; rintro e w1 ⟨rfl, hb1⟩; obtain ⟨k0, kb, ka, A3, c3, w3, hrun, m1, m2, hpost⟩ := HP.out _ hb1; clear HP)
                        refine wpAnyIn_ready (rs := [6]) (by kernel_rfl) (by simp) ?_
                        refine AllReadyIn.cons rfl (fun K hK => ?_) AllReadyIn.nil
                        · go_simp
                          refine hK _ _ ?_
                          clear hK K
                          refine wpAnyIn_ready (rs := [7]) (by kernel_rfl) (by simp) ?_
                          refine AllReadyIn.cons rfl (fun K hK => ?_) AllReadyIn.nil
                          · refine stepIn_append_run rfl _ _ 37 rfl _ _ (by simp [Act.eval, Act.put]) (by simp [Act.eval, Act.put]) hrun ?_
                            refine hK _ _ ?_
                            clear hK K
                            refine wpAnyIn_ready (rs := [8]) (by kernel_rfl) (by simp) ?_
                            refine AllReadyIn.cons rfl (fun K hK => ?_) AllReadyIn.nil
                            · go_simp
                              refine hK _ _ ?_
                              clear hK K
                              refine wpAnyIn_done (by kernel_rfl) ?_ _
                              gi_wp2
                              exact hpost.out
                    · go_simp
                      gi_wp2_with (refine ⟨trivial, (CallsIn.inRound lp (callsIn_wide.2 (HC.out _))).mono ?_⟩; rintro e w1 ⟨rfl, hb1⟩; obtain ⟨k0, kb, ka, A3, c3, w3, hrun, m1, m2, hpost⟩ := HP.out _ hb1; clear HP)
                      refine wpAnyIn_ready (rs := [2]) (by kernel_rfl) (by simp) ?_
                      refine AllReadyIn.cons rfl (fun K hK => ?_) AllReadyIn.nil
                      · go_simp
                        refine hK _ _ ?_
                        clear hK K
                        refine wpAnyIn_ready (rs := [6]) (by kernel_rfl) (by simp) ?_
                        refine AllReadyIn.cons rfl (fun K hK => ?_) AllReadyIn.nil
                        · go_simp
                          refine hK _ _ ?_
                          clear hK K
                          refine wpAnyIn_ready (rs := [7]) (by kernel_rfl) (by simp) ?_
                          refine AllReadyIn.cons rfl (fun K hK => ?_) AllReadyIn.nil
                          · refine stepIn_append_run rfl _ _ 37 rfl _ _ (by simp [Act.eval, Act.put]) (by simp [Act.eval, Act.put]) hrun ?_
                            refine hK _ _ ?_
                            clear hK K
                            refine wpAnyIn_ready (rs := [8]) (by kernel_rfl) (by simp) ?_
                            refine AllReadyIn.cons rfl (fun K hK => ?_) AllReadyIn.nil
                            · go_simp
                              refine hK _ _ ?_
                              clear hK K
                              refine wpAnyIn_done (by kernel_rfl) ?_ _
                              gi_wp2
                              exact hpost.out
                  · go_simp
                    gi_wp2_with (refine ⟨trivial, (CallsIn.inRound lp (callsIn_wide.2 (HC.out _))).mono ?_⟩; rintro e w1 ⟨rfl, hb1⟩; obtain ⟨k0, kb, ka, A3, c3, w3, hrun, m1, m2, hpost⟩ := HP.out _ hb1; clear HP)
                    refine wpAnyIn_ready (rs := [1]) (by kernel_rfl) (by simp) ?_
                    refine AllReadyIn.cons rfl (fun K hK => ?_) AllReadyIn.nil
                    · go_simp
                      refine hK _ _ ?_
                      clear hK K
                      refine wpAnyIn_ready (rs := [2]) (by kernel_rfl) (by simp) ?_
                      refine AllReadyIn.cons rfl (fun K hK => ?_) AllReadyIn.nil
                      · go_simp
                        refine hK _ _ ?_
                        clear hK K
                        refine wpAnyIn_ready (rs := [6]) (by kernel_rfl) (by simp) ?_
                        refine AllReadyIn.cons rfl (fun K hK => ?_) AllReadyIn.nil
                        · go_simp
                          refine hK _ _ ?_
                          clear hK K
                          refine wpAnyIn_ready (rs := [7]) (by kernel_rfl) (by simp) ?_
                          refine AllReadyIn.cons rfl (fun K hK => ?_) AllReadyIn.nil
                          · refine stepIn_append_run rfl _ _ 37 rfl _ _ (by simp [Act.eval, Act.put]) (by simp [Act.eval, Act.put]) hrun ?_
                            refine hK _ _ ?_
                            clear hK K
                            refine wpAnyIn_ready (rs := [8]) (by kernel_rfl) (by simp) ?_
                            refine AllReadyIn.cons rfl (fun K hK => ?_) AllReadyIn.nil
                            · go_simp
                              refine hK _ _ ?_
                              clear hK K
                              refine wpAnyIn_done (by kernel_rfl) ?_ _
                              gi_wp2
                              exact hpost.out
              · go_simp
                refine hK _ _ ?_
                clear hK K
                refine wpAnyIn_ready (rs := [0, 2, 4]) (by kernel_rfl) (by simp) ?_
                refine AllReadyIn.cons rfl (fun K hK => ?_) (AllReadyIn.cons rfl (fun K hK => ?_) (AllReadyIn.cons rfl (fun K hK => ?_) AllReadyIn.nil))
                · go_simp
                  refine hK _ _ ?_
                  clear hK K
                  refine wpAnyIn_ready (rs := [2, 4]) (by kernel_rfl) (by simp) ?_
                  refine AllReadyIn.cons rfl (fun K hK => ?_) (AllReadyIn.cons rfl (fun K hK => ?_) AllReadyIn.nil)
                  · go_simp
                    refine hK _ _ ?_
                    clear hK K
                    refine wpAnyIn_ready (rs := [4]) (by kernel_rfl) (by simp) ?_
                    refine AllReadyIn.cons rfl (fun K hK => ?_) AllReadyIn.nil
                    · go_simp
                      refine hK _ _ ?_
                      clear hK K
                      refine wpAnyIn_ready (rs := [5]) (by kernel_rfl) (by simp) ?_
                      refine AllReadyIn.cons rfl (fun K hK => ?_) AllReadyIn.nil
                      · go_simp
                        gi_wp2_with (refine ⟨trivial, (CallsIn.inRound lp (callsIn_wide.2 (HC.out _))).mono ?_⟩; rintro e w1 ⟨rfl, hb1⟩; obtain ⟨k0, kb, ka, A3, c3, w3, hrun, m1, m2, hpost⟩ := HP.out _ hb1; clear HP)
                        refine wpAnyIn_ready (rs := [6]) (by kernel_rfl) (by simp) ?_
                        refine AllReadyIn.cons rfl (fun K hK => ?_) AllReadyIn.nil
                        · go_simp
                          refine hK _ _ ?_
                          clear hK K
                          refine wpAnyIn_ready (rs := [7]) (by kernel_rfl) (by simp) ?_
                          refine AllReadyIn.cons rfl (fun K hK => ?_) AllReadyIn.nil
                          · refine stepIn_append_run rfl _ _ 37 rfl _ _ (by simp [Act.eval, Act.put]) (by simp [Act.eval, Act.put]) hrun ?_
                            refine hK _ _ ?_
                            clear hK K
                            refine wpAnyIn_ready (rs := [8]) (by kernel_rfl) (by simp) ?_
                            refine AllReadyIn.cons rfl (fun K hK => ?_) AllReadyIn.nil
                            · go_simp
                              refine hK _ _ ?_
                              clear hK K
                              refine wpAnyIn_done (by kernel_rfl) ?_ _
                              gi_wp2
                              exact hpost.out
                  · go_simp
                    refine hK _ _ ?_
                    clear hK K
                    refine wpAnyIn_ready (rs := [2, 5]) (by kernel_rfl) (by simp) ?_
                    refine AllReadyIn.cons rfl (fun K hK => ?_) (AllReadyIn.cons rfl (fun K hK => ?_) AllReadyIn.nil)
                    · go_simp
                      refine hK _ _ ?_
                      clear hK K
                      refine wpAnyIn_ready (rs := [5]) (by kernel_rfl) (by simp) ?_
                      refine AllReadyIn.cons rfl (fun K hK => ?_) AllReadyIn.nil
                      · go_simp
                        gi_wp2_with (refine ⟨trivial, (CallsIn.inRound lp (callsIn_wide.2 (HC.out _))).mono ?_⟩; rintro e w1 ⟨rfl, hb1⟩; obtain ⟨k0, kb, ka, A3, c3, w3, hrun, m1, m2, hpost⟩ := HP.out _ hb1; clear HP)
                        refine wpAnyIn_ready (rs := [6]) (by kernel_rfl) (by simp) ?_
                        refine AllReadyIn.cons rfl (fun K hK => ?_) AllReadyIn.nil
                        · go_simp
                          refine hK _ _ ?_
                          clear hK K
                          refine wpAnyIn_ready (rs := [7]) (by kernel_rfl) (by simp) ?_
                          refine AllReadyIn.cons rfl (fun K hK => ?_) AllReadyIn.nil
                          · refine stepIn_append_run rfl _ _ 37 rfl _ _ (by simp [Act.eval, Act.put]) (by simp [Act.eval, Act.put]) hrun ?_
                            refine hK _ _ ?_
                            clear hK K
                            refine wpAnyIn_ready (rs := [8]) (by kernel_rfl) (by simp) ?_
                            refine AllReadyIn.cons rfl (fun K hK => ?_) AllReadyIn.nil
                            · go_simp
                              refine hK _ _ ?_
                              clear hK K
                              refine wpAnyIn_done (by kernel_rfl) ?_ _
                              gi_wp2
                              exact hpost.out
                    · go_simp
                      gi_wp2_with (refine ⟨trivial, (CallsIn.inRound lp (callsIn_wide.2 (HC.out _))).mono ?_⟩; rintro e w1 ⟨rfl, hb1⟩; obtain ⟨k0, kb, ka, A3, c3, w3, hrun, m1, m2, hpost⟩ := HP.out _ hb1; clear HP)
                      refine wpAnyIn_ready (rs := [2]) (by kernel_rfl) (by simp) ?_
                      refine AllReadyIn.cons rfl (fun K hK => ?_) AllReadyIn.nil
                      · go_simp
                        refine hK _ _ ?_
                        clear hK K
                        refine wpAnyIn_ready (rs := [6]) (by kernel_rfl) (by simp) ?_
                        refine AllReadyIn.cons rfl (fun K hK => ?_) AllReadyIn.nil
                        · go_simp
                          refine hK _ _ ?_
                          clear hK K
                          refine wpAnyIn_ready (rs := [7]) (by kernel_rfl) (by simp) ?_
                          refine AllReadyIn.cons rfl (fun K hK => ?_) AllReadyIn.nil
                          · refine stepIn_append_run rfl _ _ 37 rfl _ _ (by simp [Act.eval, Act.put]) (by simp [Act.eval, Act.put]) hrun ?_
                            refine hK _ _ ?_
                            clear hK K
                            refine wpAnyIn_ready (rs := [8]) (by kernel_rfl) (by simp) ?_
                            refine AllReadyIn.cons rfl (fun K hK => ?_) AllReadyIn.nil
                            · go_simp
                              refine hK _ _ ?_
                              clear hK K
                              refine wpAnyIn_done (by kernel_rfl) ?_ _
                              gi_wp2
                              exact hpost.out
                · go_simp
                  refine hK _ _ ?_
                  clear hK K
                  refine wpAnyIn_ready (rs := [0, 4]) (by kernel_rfl) (by simp) ?_
                  refine AllReadyIn.cons rfl (fun K hK => ?_) (AllReadyIn.cons rfl (fun K hK => ?_) AllReadyIn.nil)
                  · go_simp
                    refine hK _ _ ?_
                    clear hK K
                    refine wpAnyIn_ready (rs := [4]) (by kernel_rfl) (by simp) ?_
                    refine AllReadyIn.cons rfl (fun K hK => ?_) AllReadyIn.nil
                    · go_simp
                      refine hK _ _ ?_
                      clear hK K
                      refine wpAnyIn_ready (rs := [5]) (by kernel_rfl) (by simp) ?_
                      refine AllReadyIn.cons rfl (fun K hK => ?_) AllReadyIn.nil
                      · go_simp
                        gi_wp2_with (refine ⟨trivial, (CallsIn.inRound lp (callsIn_wide.2 (HC.out _))).mono ?_⟩; rintro e w1 ⟨rfl, hb1⟩; obtain ⟨k0, kb, ka, A3, c3, w3, hrun, m1, m2, hpost⟩ := HP.out _ hb1; clear HP)
                        refine wpAnyIn_ready (rs := [6]) (by kernel_rfl) (by simp) ?_
                        refine AllReadyIn.cons rfl (fun K hK => ?_) AllReadyIn.nil
                        · go_simp
                          refine hK _ _ ?_
                          clear hK K
                          refine wpAnyIn_ready (rs := [7]) (by kernel_rfl) (by simp) ?_
                          refine AllReadyIn.cons rfl (fun K hK => ?_) AllReadyIn.nil
                          · refine stepIn_append_run rfl _ _ 37 rfl _ _ (by simp [Act.eval, Act.put]) (by simp [Act.eval, Act.put]) hrun ?_
                            refine hK _ _ ?_
                            clear hK K
                            refine wpAnyIn_ready (rs := [8]) (by kernel_rfl) (by simp) ?_
                            refine AllReadyIn.cons rfl (fun K hK => ?_) AllReadyIn.nil
                            · go_simp
                              refine hK _ _ ?_
                              clear hK K
                              refine wpAnyIn_done (by kernel_rfl) ?_ _
                              gi_wp2
                              exact hpost.out
                  · go_simp
                    refine hK _ _ ?_
                    clear hK K
                    refine wpAnyIn_ready (rs := [0, 5]) (by kernel_rfl) (by simp) ?_
                    refine AllReadyIn.cons rfl (fun K hK => ?_) (AllReadyIn.cons rfl (fun K hK => ?_) AllReadyIn.nil)
                    · go_simp
                      refine hK _ _ ?_
                      clear hK K
                      refine wpAnyIn_ready (rs := [5]) (by kernel_rfl) (by simp) ?_
                      refine AllReadyIn.cons rfl (fun K hK => ?_) AllReadyIn.nil
                      · go_simp
                        gi_wp2_with (refine ⟨trivial, (CallsIn.inRound lp (callsIn_wide.2 (HC.out _))).mono ?_⟩; rintro e w1 ⟨rfl, hb1⟩; obtain ⟨k0, kb, ka, A3, c3, w3, hrun, m1, m2, hpost⟩ := HP.out _ hb1; clear HP)
                        refine wpAnyIn_ready (rs := [6]) (by kernel_rfl) (by simp) ?_
                        refine AllReadyIn.cons rfl (fun K hK => ?_) AllReadyIn.nil
                        · go_simp
                          refine hK _ _ ?_
                          clear hK K
                          refine wpAnyIn_ready (rs := [7]) (by kernel_rfl) (by simp) ?_
                          refine AllReadyIn.cons rfl (fun K hK => ?_) AllReadyIn.nil
                          · refine stepIn_append_run rfl _ _ 37 rfl _ _ (by simp [Act.eval, Act.put]) (by simp [Act.eval, Act.put]) hrun ?_
                            refine hK _ _ ?_
                            clear hK K
                            refine wpAnyIn_ready (rs := [8]) (by kernel_rfl) (by simp) ?_
                            refine AllReadyIn.cons rfl (fun K hK => ?_) AllReadyIn.nil
                            · go_simp
                              refine hK _ _ ?_
                              clear hK K
                              refine wpAnyIn_done (by kernel_rfl) ?_ _
                              gi_wp2
                              exact hpost.out
                    · go_simp
                      gi_wp2_with (refine ⟨trivial, (CallsIn.inRound lp (callsIn_wide.2 (HC.out _))).mono ?_⟩; rintro e w1 ⟨rfl, hb1⟩; obtain ⟨k0, kb, ka, A3, c3, w3, hrun, m1, m2, hpost⟩ := HP.out _ hb1; clear HP)
                      refine wpAnyIn_ready (rs := [0, 6]) (by kernel_rfl) (by simp) ?_
                      refine AllReadyIn.cons rfl (fun K hK => ?_) (AllReadyIn.cons rfl (fun K hK => ?_) AllReadyIn.nil)
                      · go_simp
                        refine hK _ _ ?_
                        clear hK K
                        refine wpAnyIn_ready (rs := [6]) (by kernel_rfl) (by simp) ?_
                        refine AllReadyIn.cons rfl (fun K hK => ?_) AllReadyIn.nil
                        · go_simp
                          refine hK _ _ ?_
                          clear hK K
                          refine wpAnyIn_ready (rs := [7]) (by kernel_rfl) (by simp) ?_
                          refine AllReadyIn.cons rfl (fun K hK => ?_) AllReadyIn.nil
                          · refine stepIn_append_run rfl _ _ 37 rfl _ _ (by simp [Act.eval, Act.put]) (by simp [Act.eval, Act.put]) hrun ?_
                            refine hK _ _ ?_
                            clear hK K
                            refine wpAnyIn_ready (rs := [8]) (by kernel_rfl) (by simp) ?_
                            refine AllReadyIn.cons rfl (fun K hK => ?_) AllReadyIn.nil
                            · go_simp
                              refine hK _ _ ?_
                              clear hK K
                              refine wpAnyIn_done (by kernel_rfl) ?_ _
                              gi_wp2
                              exact hpost.out
                      · go_simp
                        refine hK _ _ ?_
                        clear hK K
                        refine wpAnyIn_ready (rs := [0]) (by kernel_rfl) (by simp) ?_
                        refine AllReadyIn.cons rfl (fun K hK => ?_) AllReadyIn.nil
                        · go_simp
                          refine hK _ _ ?_
                          clear hK K
                          refine wpAnyIn_ready (rs := [7]) (by kernel_rfl) (by simp) ?_
                          refine AllReadyIn.cons rfl (fun K hK => ?_) AllReadyIn.nil
                          · refine stepIn_append_run rfl _ _ 37 rfl _ _ (by simp [Act.eval, Act.put]) (by simp [Act.eval, Act.put]) hrun ?_
                            refine hK _ _ ?_
                            clear hK K
                            refine wpAnyIn_ready (rs := [8]) (by kernel_rfl) (by simp) ?_
                            refine AllReadyIn.cons rfl (fun K hK => ?_) AllReadyIn.nil
                            · go_simp
                              refine hK _ _ ?_
                              clear hK K
                              refine wpAnyIn_done (by kernel_rfl) ?_ _
                              gi_wp2
                              exact hpost.out
                · go_simp
                  refine hK _ _ ?_
                  clear hK K
                  refine wpAnyIn_ready (rs := [0, 2, 5]) (by kernel_rfl) (by simp) ?_
                  refine AllReadyIn.cons rfl (fun K hK => ?_) (AllReadyIn.cons rfl (fun K hK => ?_) (AllReadyIn.cons rfl (fun K hK => ?_) AllReadyIn.nil))
                  · go_simp
                    refine hK _ _ ?_
                    clear hK K
                    refine wpAnyIn_ready (rs := [2, 5]) (by kernel_rfl) (by simp) ?_
                    refine AllReadyIn.cons rfl (fun K hK => ?_) (AllReadyIn.cons rfl (fun K hK => ?_) AllReadyIn.nil)
                    · go_simp
                      refine hK _ _ ?_
                      clear hK K
                      refine wpAnyIn_ready (rs := [5]) (by kernel_rfl) (by simp) ?_
                      refine AllReadyIn.cons rfl (fun K hK => ?_) AllReadyIn.nil
                      · go_simp
                        gi_wp2_with (refine ⟨trivial, (CallsIn.inRound lp (callsIn_wide.2 (HC.out _))).mono ?_⟩; rintro e w1 ⟨rfl, hb1⟩; obtain ⟨k0, kb, ka, A3, c3, w3, hrun, m1, m2, hpost⟩ := HP.out _ hb1; clear HP)
                        refine wpAnyIn_ready (rs := [6]) (by kernel_rfl) (by simp) ?_
                        refine AllReadyIn.cons rfl (fun K hK => ?_) AllReadyIn.nil
                        · go_simp
                          refine hK _ _ ?_
                          clear hK K
                          refine wpAnyIn_ready (rs := [7]) (by kernel_rfl) (by simp) ?_
                          refine AllReadyIn.cons rfl (fun K hK => ?_) AllReadyIn.nil
                          · refine stepIn_append_run rfl _ _ 37 rfl _ _ (by simp [Act.eval, Act.put]) (by simp [Act.eval, Act.put]) hrun ?_
                            refine hK _ _ ?_
                            clear hK K
                            refine wpAnyIn_ready (rs := [8]) (by kernel_rfl) (by simp) ?_
                            refine AllReadyIn.cons rfl (fun K hK => ?_) AllReadyIn.nil
                            · go_simp
                              refine hK _ _ ?_
                              clear hK K
                              refine wpAnyIn_done (by kernel_rfl) ?_ _
                              gi_wp2
                              exact hpost.out
                    · go_simp
                      gi_wp2_with (refine ⟨trivial, (CallsIn.inRound lp (callsIn_wide.2 (HC.out _))).mono ?_⟩; rintro e w1 ⟨rfl, hb1⟩; obtain ⟨k0, kb, ka, A3, c3, w3, hrun, m1, m2, hpost⟩ := HP.out _ hb1; clear HP)
                      refine wpAnyIn_ready (rs := [2]) (by kernel_rfl) (by simp) ?_
                      refine AllReadyIn.cons rfl (fun K hK => ?_) AllReadyIn.nil
                      · go_simp
                        refine hK _ _ ?_
                        clear hK K
                        refine wpAnyIn_ready (rs := [6]) (by kernel_rfl) (by simp) ?_
                        refine AllReadyIn.cons rfl (fun K hK => ?_) AllReadyIn.nil
                        · go_simp
                          refine hK _ _ ?_
                          clear hK K
                          refine wpAnyIn_ready (rs := [7]) (by kernel_rfl) (by simp) ?_
                          refine AllReadyIn.cons rfl (fun K hK => ?_) AllReadyIn.nil
                          · refine stepIn_append_run rfl _ _ 37 rfl _ _ (by simp [Act.eval, Act.put]) (by simp [Act.eval, Act.put]) hrun ?_
                            refine hK _ _ ?_
                            clear hK K
                            refine wpAnyIn_ready (rs := [8]) (by kernel_rfl) (by simp) ?_
                            refine AllReadyIn.cons rfl (fun K hK => ?_) AllReadyIn.nil
                            · go_simp
                              refine hK _ _ ?_
                              clear hK K
                              refine wpAnyIn_done (by kernel_rfl) ?_ _
                              gi_wp2
                              exact hpost.out
                  · go_simp
                    refine hK _ _ ?_
                    clear hK K
                    refine wpAnyIn_ready (rs := [0, 5]) (by kernel_rfl) (by simp) ?_
                    refine AllReadyIn.cons rfl (fun K hK => ?_) (AllReadyIn.cons rfl (fun K hK => ?_) AllReadyIn.nil)
                    · go_simp
                      refine hK _ _ ?_
                      clear hK K
                      refine wpAnyIn_ready (rs := [5]) (by kernel_rfl) (by simp) ?_
                      refine AllReadyIn.cons rfl (fun K hK => ?_) AllReadyIn.nil
                      · go_simp
                        gi_wp2_with (refine ⟨trivial, (CallsIn.inRound lp (callsIn_wide.2 (HC.out _))).mono ?_⟩; rintro e w1 ⟨rfl, hb1⟩; obtain ⟨k0, kb, ka, A3, c3, w3, hrun, m1, m2, hpost⟩ := HP.out _ hb1; clear HP)
                        refine wpAnyIn_ready (rs := [6]) (by kernel_rfl) (by simp) ?_
                        refine AllReadyIn.cons rfl (fun K hK => ?_) AllReadyIn.nil
                        · go_simp
                          refine hK _ _ ?_
                          clear hK K
                          refine wpAnyIn_ready (rs := [7]) (by kernel_rfl) (by simp) ?_
                          refine AllReadyIn.cons rfl (fun K hK => ?_) AllReadyIn.nil
                          · refine stepIn_append_run rfl _ _ 37 rfl _ _ (by simp [Act.eval, Act.put]) (by simp [Act.eval, Act.put]) hrun ?_
                            refine hK _ _ ?_
                            clear hK K
                            refine wpAnyIn_ready (rs := [8]) (by kernel_rfl) (by simp) ?_
                            refine AllReadyIn.cons rfl (fun K hK => ?_) AllReadyIn.nil
                            · go_simp
                              refine hK _ _ ?_
                              clear hK K
                              refine wpAnyIn_done (by kernel_rfl) ?_ _
                              gi_wp2
                              exact hpost.out
                    · go_simp
                      gi_wp2_with (refine ⟨trivial, (CallsIn.inRound lp (callsIn_wide.2 (HC.out _))).mono ?_⟩; rintro e w1 ⟨rfl, hb1⟩; obtain ⟨k0, kb, ka, A3, c3, w3, hrun, m1, m2, hpost⟩ := HP.out _ hb1; clear HP)
                      refine wpAnyIn_ready (rs := [0, 6]) (by kernel_rfl) (by simp) ?_
                      refine AllReadyIn.cons rfl (fun K hK => ?_) (AllReadyIn.cons rfl (fun K hK => ?_) AllReadyIn.nil)
                      · go_simp
                        refine hK _ _ ?_
                        clear hK K
                        refine wpAnyIn_ready (rs := [6]) (by kernel_rfl) (by simp) ?_
                        refine AllReadyIn.cons rfl (fun K hK => ?_) AllReadyIn.nil
                        · go_simp
                          refine hK _ _ ?_
                          clear hK K
                          refine wpAnyIn_ready (rs := [7]) (by kernel_rfl) (by simp) ?_
                          refine AllReadyIn.cons rfl (fun K hK => ?_) AllReadyIn.nil
                          · refine stepIn_append_run rfl _ _ 37 rfl _ _ (by simp [Act.eval, Act.put]) (by simp [Act.eval, Act.put]) hrun ?_
                            refine hK _ _ ?_
                            clear hK K
                            refine wpAnyIn_ready (rs := [8]) (by kernel_rfl) (by simp) ?_
                            refine AllReadyIn.cons rfl (fun K hK => ?_) AllReadyIn.nil
                            · go_simp
                              refine hK _ _ ?_
                              clear hK K
                              refine wpAnyIn_done (by kernel_rfl) ?_ _
                              gi_wp2
                              exact hpost.out
                      · go_simp
                        refine hK _ _ ?_
                        clear hK K
                        refine wpAnyIn_ready (rs := [0]) (by kernel_rfl) (by simp) ?_
                        refine AllReadyIn.cons rfl (fun K hK => ?_) AllReadyIn.nil
                        · go_simp
                          refine hK _ _ ?_
                          clear hK K
                          refine wpAnyIn_ready (rs := [7]) (by kernel_rfl) (by simp) ?_
                          refine AllReadyIn.cons rfl (fun K hK => ?_) AllReadyIn.nil
                          · refine stepIn_append_run rfl _ _ 37 rfl _ _ (by simp [Act.eval, Act.put]) (by simp [Act.eval, Act.put]) hrun ?_
                            refine hK _ _ ?_
                            clear hK K
                            refine wpAnyIn_ready (rs := [8]) (by kernel_rfl) (by simp) ?_
                            refine AllReadyIn.cons rfl (fun K hK => ?_) AllReadyIn.nil
                            · go_simp
                              refine hK _ _ ?_
                              clear hK K
                              refine wpAnyIn_done (by kernel_rfl) ?_ _
                              gi_wp2
                              exact hpost.out
                  · go_simp
                    gi_wp2_with (refine ⟨trivial, (CallsIn.inRound lp (callsIn_wide.2 (HC.out _))).mono ?_⟩; rintro e w1 ⟨rfl, hb1⟩; obtain ⟨k0, kb, ka, A3, c3, w3, hrun, m1, m2, hpost⟩ := HP.out _ hb1; clear HP)
                    refine wpAnyIn_ready (rs := [0, 2]) (by kernel_rfl) (by simp) ?_
                    refine AllReadyIn.cons rfl (fun K hK => ?_) (AllReadyIn.cons rfl (fun K hK => ?_) AllReadyIn.nil)
                    · go_simp
                      refine hK _ _ ?_
                      clear hK K
                      refine wpAnyIn_ready (rs := [2]) (by kernel_rfl) (by simp) ?_
                      refine AllReadyIn.cons rfl (fun K hK => ?_) AllReadyIn.nil
                      · go_simp
                        refine hK _ _ ?_
                        clear hK K
                        refine wpAnyIn_ready (rs := [6]) (by kernel_rfl) (by simp) ?_
                        refine AllReadyIn.cons rfl (fun K hK => ?_) AllReadyIn.nil
                        · go_simp
                          refine hK _ _ ?_
                          clear hK K
                          refine wpAnyIn_ready (rs := [7]) (by kernel_rfl) (by simp) ?_
                          refine AllReadyIn.cons rfl (fun K hK => ?_) AllReadyIn.nil
                          · refine stepIn_append_run rfl _ _ 37 rfl _ _ (by simp [Act.eval, Act.put]) (by simp [Act.eval, Act.put]) hrun ?_
                            refine hK _ _ ?_
                            clear hK K
                            refine wpAnyIn_ready (rs := [8]) (by kernel_rfl) (by simp) ?_
                            refine AllReadyIn.cons rfl (fun K hK => ?_) AllReadyIn.nil
                            · go_simp
                              refine hK _ _ ?_
                              clear hK K
                              refine wpAnyIn_done (by kernel_rfl) ?_ _
                              gi_wp2
                              exact hpost.out
                    · go_simp
                      refine hK _ _ ?_
                      clear hK K
                      refine wpAnyIn_ready (rs := [0, 6]) (by kernel_rfl) (by simp) ?_
                      refine AllReadyIn.cons rfl (fun K hK => ?_) (AllReadyIn.cons rfl (fun K hK => ?_) AllReadyIn.nil)
                      · go_simp
                        refine hK _ _ ?_
                        clear hK K
                        refine wpAnyIn_ready (rs := [6]) (by kernel_rfl) (by simp) ?_
                        refine AllReadyIn.cons rfl (fun K hK => ?_) AllReadyIn.nil
                        · go_simp
                          refine hK _ _ ?_
                          clear hK K
                          refine wpAnyIn_ready (rs := [7]) (by kernel_rfl) (by simp) ?_
                          refine AllReadyIn.cons rfl (fun K hK => ?_) AllReadyIn.nil
                          · refine stepIn_append_run rfl _ _ 37 rfl _ _ (by simp [Act.eval, Act.put]) (by simp [Act.eval, Act.put]) hrun ?_
                            refine hK _ _ ?_
                            clear hK K
                            refine wpAnyIn_ready (rs := [8]) (by kernel_rfl) (by simp) ?_
                            refine AllReadyIn.cons rfl (fun K hK => ?_) AllReadyIn.nil
                            · go_simp
                              refine hK _ _ ?_
                              clear hK K
                              refine wpAnyIn_done (by kernel_rfl) ?_ _
                              gi_wp2
                              exact hpost.out
                      · go_simp
                        refine hK _ _ ?_
                        clear hK K
                        refine wpAnyIn_ready (rs := [0]) (by kernel_rfl) (by simp) ?_
                        refine AllReadyIn.cons rfl (fun K hK => ?_) AllReadyIn.nil
                        · go_simp
                          refine hK _ _ ?_
                          clear hK K
                          refine wpAnyIn_ready (rs := [7]) (by kernel_rfl) (by simp) ?_
                          refine AllReadyIn.cons rfl (fun K hK => ?_) AllReadyIn.nil
                          · refine stepIn_append_run rfl _ _ 37 rfl _ _ (by simp [Act.eval, Act.put]) (by simp [Act.eval, Act.put]) hrun ?_
                            refine hK _ _ ?_
                            clear hK K
                            refine wpAnyIn_ready (rs := [8]) (by kernel_rfl) (by simp) ?_
                            refine AllReadyIn.cons rfl (fun K hK => ?_) AllReadyIn.nil
                            · go_simp
                              refine hK _ _ ?_
                              clear hK K
                              refine wpAnyIn_done (by kernel_rfl) ?_ _
                              gi_wp2
                              exact hpost.out
              · go_simp
                refine hK _ _ ?_
                clear hK K
                refine wpAnyIn_ready (rs := [0, 1, 5]) (by kernel_rfl) (by simp) ?_
                refine AllReadyIn.cons rfl (fun K hK => ?_) (AllReadyIn.cons rfl (fun K hK => ?_) (AllReadyIn.cons rfl (fun K hK => ?_) AllReadyIn.nil))
                · go_simp
                  refine hK _ _ ?_
                  clear hK K
                  refine wpAnyIn_ready (rs := [1, 5]) (by kernel_rfl) (by simp) ?_
                  refine AllReadyIn.cons rfl (fun K hK => ?_) (AllReadyIn.cons rfl (fun K hK => ?_) AllReadyIn.nil)
                  · go_simp
                    refine hK _ _ ?_
                    clear hK K
                    refine wpAnyIn_ready (rs := [2, 5]) (by kernel_rfl) (by simp) ?_
                    refine AllReadyIn.cons rfl (fun K hK => ?_) (AllReadyIn.cons rfl (fun K hK => ?_) AllReadyIn.nil)
                    · go_simp
                      refine hK _ _ ?_
                      clear hK K
                      refine wpAnyIn_ready (rs := [5]) (by kernel_rfl) (by simp) ?_
                      refine AllReadyIn.cons rfl (fun K hK => ?_) AllReadyIn.nil
                      · go_simp
                        gi_wp2_with (refine ⟨trivial, (CallsIn.inRound lp (callsIn_wide.2 (HC.out _))).mono ?_⟩; rintro e w1 ⟨rfl, hb1⟩; obtain ⟨k0, kb, ka, A3, c3, w3, hrun, m1, m2, hpost⟩ := HP.out _ hb1; clear HP)
                        refine wpAnyIn_ready (rs := [6]) (by kernel_rfl) (by simp) ?_
                        refine AllReadyIn.cons rfl (fun K hK => ?_) AllReadyIn.nil
                        · go_simp
                          refine hK _ _ ?_
                          clear hK K
                          refine wpAnyIn_ready (rs := [7]) (by kernel_rfl) (by simp) ?_
                          refine AllReadyIn.cons rfl (fun K hK => ?_) AllReadyIn.nil
                          · refine stepIn_append_run rfl _ _ 37 rfl _ _ (by simp [Act.eval, Act.put]) (by simp [Act.eval, Act.put]) hrun ?_
                            refine hK _ _ ?_
                            clear hK K
                            refine wpAnyIn_ready (rs := [8]) (by kernel_rfl) (by simp) ?_
                            refine AllReadyIn.cons rfl (fun K hK => ?_) AllReadyIn.nil
                            · go_simp
                              refine hK _ _ ?_
                              clear hK K
                              refine wpAnyIn_done (by kernel_rfl) ?_ _
                              gi_wp2
                              exact hpost.out
                    · go_simp
                      gi_wp2_with (refine ⟨trivial, (CallsIn.inRound lp (callsIn_wide.2 (HC.out _))).mono ?_⟩; rintro e w1 ⟨rfl, hb1⟩; obtain ⟨k0, kb, ka, A3, c3, w3, hrun, m1, m2, hpost⟩ := HP.out _ hb1; clear HP)
                      refine wpAnyIn_ready (rs := [2]) (by kernel_rfl) (by simp) ?_
                      refine AllReadyIn.cons rfl (fun K hK => ?_) AllReadyIn.nil
                      · go_simp
                        refine hK _ _ ?_
                        clear hK K
                        refine wpAnyIn_ready (rs := [6]) (by kernel_rfl) (by simp) ?_
                        refine AllReadyIn.cons rfl (fun K hK => ?_) AllReadyIn.nil
                        · go_simp
                          refine hK _ _ ?_
                          clear hK K
                          refine wpAnyIn_ready (rs := [7]) (by kernel_rfl) (by simp) ?_
                          refine AllReadyIn.cons rfl (fun K hK => ?_) AllReadyIn.nil
                          · refine stepIn_append_run rfl _ _ 37 rfl _ _ (by simp [Act.eval, Act.put]) (by simp [Act.eval, Act.put]) hrun ?_
                            refine hK _ _ ?_
                            clear hK K
                            refine wpAnyIn_ready (rs := [8]) (by kernel_rfl) (by simp) ?_
                            refine AllReadyIn.cons rfl (fun K hK => ?_) AllReadyIn.nil
                            · go_simp
                              refine hK _ _ ?_
                              clear hK K
                              refine wpAnyIn_done (by kernel_rfl) ?_ _
                              gi_wp2
                              exact hpost.out
                  · go_simp
                    gi_wp2_with (refine ⟨trivial, (CallsIn.inRound lp (callsIn_wide.2 (HC.out _))).mono ?_⟩; rintro e w1 ⟨rfl, hb1⟩; obtain ⟨k0, kb, ka, A3, c3, w3, hrun, m1, m2, hpost⟩ := HP.out _ hb1; clear HP)
                    refine wpAnyIn_ready (rs := [1]) (by kernel_rfl) (by simp) ?_
                    refine AllReadyIn.cons rfl (fun K hK => ?_) AllReadyIn.nil
                    · go_simp
                      refine hK _ _ ?_
                      clear hK K
                      refine wpAnyIn_ready (rs := [2]) (by kernel_rfl) (by simp) ?_
                      refine AllReadyIn.cons rfl (fun K hK => ?_) AllReadyIn.nil
                      · go_simp
                        refine hK _ _ ?_
                        clear hK K
                        refine wpAnyIn_ready (rs := [6]) (by kernel_rfl) (by simp) ?_
                        refine AllReadyIn.cons rfl (fun K hK => ?_) AllReadyIn.nil
                        · go_simp
                          refine hK _ _ ?_
                          clear hK K
                          refine wpAnyIn_ready (rs := [7]) (by kernel_rfl) (by simp) ?_
                          refine AllReadyIn.cons rfl (fun K hK => ?_) AllReadyIn.nil
                          · refine stepIn_append_run rfl _ _ 37 rfl _ _ (by simp [Act.eval, Act.put]) (by simp [Act.eval, Act.put]) hrun ?_
                            refine hK _ _ ?_
                            clear hK K
                            refine wpAnyIn_ready (rs := [8]) (by kernel_rfl) (by simp) ?_
                            refine AllReadyIn.cons rfl (fun K hK => ?_) AllReadyIn.nil
                            · go_simp
                              refine hK _ _ ?_
                              clear hK K
                              refine wpAnyIn_done (by kernel_rfl) ?_ _
                              gi_wp2
                              exact hpost.out
                · go_simp
                  refine hK _ _ ?_
                  clear hK K
                  refine wpAnyIn_ready (rs := [0, 2, 5]) (by kernel_rfl) (by simp) ?_
                  refine AllReadyIn.cons rfl (fun K hK => ?_) (AllReadyIn.cons rfl (fun K hK => ?_) (AllReadyIn.cons rfl (fun K hK => ?_) AllReadyIn.nil))
                  · go_simp
                    refine hK _ _ ?_
                    clear hK K
                    refine wpAnyIn_ready (rs := [2, 5]) (by kernel_rfl) (by simp) ?_
                    refine AllReadyIn.cons rfl (fun K hK => ?_) (AllReadyIn.cons rfl (fun K hK => ?_) AllReadyIn.nil)
                    · go_simp
                      refine hK _ _ ?_
                      clear hK K
                      refine wpAnyIn_ready (rs := [5]) (by kernel_rfl) (by simp) ?_
                      refine AllReadyIn.cons rfl (fun K hK => ?_) AllReadyIn.nil
                      · go_simp
                        gi_wp2_with (refine ⟨trivial, (CallsIn.inRound lp (callsIn_wide.2 (HC.out _))).mono ?_⟩; rintro e w1 ⟨rfl, hb1⟩; obtain ⟨k0, kb, ka, A3, c3, w3, hrun, m1, m2, hpost⟩ := HP.out _ hb1; clear HP)
                        refine wpAnyIn_ready (rs := [6]) (by kernel_rfl) (by simp) ?_
                        refine AllReadyIn.cons rfl (fun K hK => ?_) AllReadyIn.nil
                        · go_simp
                          refine hK _ _ ?_
                          clear hK K
                          refine wpAnyIn_ready (rs := [7]) (by kernel_rfl) (by simp) ?_
                          refine AllReadyIn.cons rfl (fun K hK => ?_) AllReadyIn.nil
                          · refine stepIn_append_run rfl _ _ 37 rfl _ _ (by simp [Act.eval, Act.put]) (by simp [Act.eval, Act.put]) hrun ?_
                            refine hK _ _ ?_
                            clear hK K
                            refine wpAnyIn_ready (rs := [8]) (by kernel_rfl) (by simp) ?_
                            refine AllReadyIn.cons rfl (fun K hK => ?_) AllReadyIn.nil
                            · go_simp
                              refine hK _ _ ?_
                              clear hK K
                              refine wpAnyIn_done (by kernel_rfl) ?_ _
                              gi_wp2
                              exact hpost.out
                    · go_simp
                      gi_wp2_with (refine ⟨trivial, (CallsIn.inRound lp (callsIn_wide.2 (HC.out _))).mono ?_⟩; rintro e w1 ⟨rfl, hb1⟩; obtain ⟨k0, kb, ka, A3, c3, w3, hrun, m1, m2, hpost⟩ := HP.out _ hb1; clear HP)
                      refine wpAnyIn_ready (rs := [2]) (by kernel_rfl) (by simp) ?_
                      refine AllReadyIn.cons rfl (fun K hK => ?_) AllReadyIn.nil
                      · go_simp
                        refine hK _ _ ?_
                        clear hK K
                        refine wpAnyIn_ready (rs := [6]) (by kernel_rfl) (by simp) ?_
                        refine AllReadyIn.cons rfl (fun K hK => ?_) AllReadyIn.nil
                        · go_simp
                          refine hK _ _ ?_
                          clear hK K
                          refine wpAnyIn_ready (rs := [7]) (by kernel_rfl) (by simp) ?_
                          refine AllReadyIn.cons rfl (fun K hK => ?_) AllReadyIn.nil
                          · refine stepIn_append_run rfl _ _ 37 rfl _ _ (by simp [Act.eval, Act.put]) (by simp [Act.eval, Act.put]) hrun ?_
                            refine hK _ _ ?_
                            clear hK K
                            refine wpAnyIn_ready (rs := [8]) (by kernel_rfl) (by simp) ?_
                            refine AllReadyIn.cons rfl (fun K hK => ?_) AllReadyIn.nil
                            · go_simp
                              refine hK _ _ ?_
                              clear hK K
                              refine wpAnyIn_done (by kernel_rfl) ?_ _
                              gi_wp2
                              exact hpost.out
                  · go_simp
                    refine hK _ _ ?_
                    clear hK K
                    refine wpAnyIn_ready (rs := [0, 5]) (by kernel_rfl) (by simp) ?_
                    refine AllReadyIn.cons rfl (fun K hK => ?_) (AllReadyIn.cons rfl (fun K hK => ?_) AllReadyIn.nil)
                    · go_simp
                      refine hK _ _ ?_
                      clear hK K
                      refine wpAnyIn_ready (rs := [5]) (by kernel_rfl) (by simp) ?_
                      refine AllReadyIn.cons rfl (fun K hK => ?_) AllReadyIn.nil
                      · go_simp
                        gi_wp2_with (refine ⟨trivial, (CallsIn.inRound lp (callsIn_wide.2 (HC.out _))).mono ?_⟩; rintro e w1 ⟨rfl, hb1⟩; obtain ⟨k0, kb, ka, A3, c3, w3, hrun, m1, m2, hpost⟩ := HP.out _ hb1; clear HP)
                        refine wpAnyIn_ready (rs := [6]) (by kernel_rfl) (by simp) ?_
                        refine AllReadyIn.cons rfl (fun K hK => ?_) AllReadyIn.nil
                        · go_simp
                          refine hK _ _ ?_
                          clear hK K
                          refine wpAnyIn_ready (rs := [7]) (by kernel_rfl) (by simp) ?_
                          refine AllReadyIn.cons rfl (fun K hK => ?_) AllReadyIn.nil
                          · refine stepIn_append_run rfl _ _ 37 rfl _ _ (by simp [Act.eval, Act.put]) (by simp [Act.eval, Act.put]) hrun ?_
                            refine hK _ _ ?_
                            clear hK K
                            refine wpAnyIn_ready (rs := [8]) (by kernel_rfl) (by simp) ?_
                            refine AllReadyIn.cons rfl (fun K hK => ?_) AllReadyIn.nil
                            · go_simp
                              refine hK _ _ ?_
                              clear hK K
                              refine wpAnyIn_done (by kernel_rfl) ?_ _
                              gi_wp2
                              exact hpost.out
                    · go_simp
                      gi_wp2_with (refine ⟨trivial, (CallsIn.inRound lp (callsIn_wide.2 (HC.out _))).mono ?_⟩; rintro e w1 ⟨rfl, hb1⟩; obtain ⟨k0, kb, ka, A3, c3, w3, hrun, m1, m2, hpost⟩ := HP.out _ hb1; clear HP)
                      refine wpAnyIn_ready (rs := [0, 6]) (by kernel_rfl) (by simp) ?_
                      refine AllReadyIn.cons rfl (fun K hK => ?_) (AllReadyIn.cons rfl (fun K hK => ?_) AllReadyIn.nil)
                      · go_simp
                        refine hK _ _ ?_
                        clear hK K
                        refine wpAnyIn_ready (rs := [6]) (by kernel_rfl) (by simp) ?_
                        refine AllReadyIn.cons rfl (fun K hK => ?_) AllReadyIn.nil
                        · go_simp
                          refine hK _ _ ?_
                          clear hK K
                          refine wpAnyIn_ready (rs := [7]) (by kernel_rfl) (by simp) ?_
                          refine AllReadyIn.cons rfl (fun K hK => ?_) AllReadyIn.nil
                          · refine stepIn_append_run rfl _ _ 37 rfl _ _ (by simp [Act.eval, Act.put]) (by simp [Act.eval, Act.put]) hrun ?_
                            refine hK _ _ ?_
                            clear hK K
                            refine wpAnyIn_ready (rs := [8]) (by kernel_rfl) (by simp) ?_
                            refine AllReadyIn.cons rfl (fun K hK => ?_) AllReadyIn.nil
                            · go_simp
                              refine hK _ _ ?_
                              clear hK K
                              refine wpAnyIn_done (by kernel_rfl) ?_ _
                              gi_wp2
                              exact hpost.out
                      · go_simp
                        refine hK _ _ ?_
                        clear hK K
                        refine wpAnyIn_ready (rs := [0]) (by kernel_rfl) (by simp) ?_
                        refine AllReadyIn.cons rfl (fun K hK => ?_) AllReadyIn.nil
                        · go_simp
                          refine hK _ _ ?_
                          clear hK K
                          refine wpAnyIn_ready (rs := [7]) (by kernel_rfl) (by simp) ?_
                          refine AllReadyIn.cons rfl (fun K hK => ?_) AllReadyIn.nil
                          · refine stepIn_append_run rfl _ _ 37 rfl _ _ (by simp [Act.eval, Act.put]) (by simp [Act.eval, Act.put]) hrun ?_
                            refine hK _ _ ?_
                            clear hK K
                            refine wpAnyIn_ready (rs := [8]) (by kernel_rfl) (by simp) ?_
                            refine AllReadyIn.cons rfl (fun K hK => ?_) AllReadyIn.nil
                            · go_simp
                              refine hK _ _ ?_
                              clear hK K
                              refine wpAnyIn_done (by kernel_rfl) ?_ _
                              gi_wp2
                              exact hpost.out
                  · go_simp
                    gi_wp2_with (refine ⟨trivial, (CallsIn.inRound lp (callsIn_wide.2 (HC.out _))).mono ?_⟩; rintro e w1 ⟨rfl, hb1⟩; obtain ⟨k0, kb, ka, A3, c3, w3, hrun, m1, m2, hpost⟩ := HP.out _ hb1; clear HP)
                    refine wpAnyIn_ready (rs := [0, 2]) (by kernel_rfl) (by simp) ?_
                    refine AllReadyIn.cons rfl (fun K hK => ?_) (AllReadyIn.cons rfl (fun K hK => ?_) AllReadyIn.nil)
                    · go_simp
                      refine hK _ _ ?_
                      clear hK K
                      refine wpAnyIn_ready (rs := [2]) (by kernel_rfl) (by simp) ?_
                      refine AllReadyIn.cons rfl (fun K hK => ?_) AllReadyIn.nil
                      · go_simp
                        refine hK _ _ ?_
                        clear hK K
                        refine wpAnyIn_ready (rs := [6]) (by kernel_rfl) (by simp) ?_
                        refine AllReadyIn.cons rfl (fun K hK => ?_) AllReadyIn.nil
                        · go_simp
                          refine hK _ _ ?_
                          clear hK K
                          refine wpAnyIn_ready (rs := [7]) (by kernel_rfl) (by simp) ?_
                          refine AllReadyIn.cons rfl (fun K hK => ?_) AllReadyIn.nil
                          · refine stepIn_append_run rfl _ _ 37 rfl _ _ (by simp [Act.eval, Act.put]) (by simp [Act.eval, Act.put]) hrun ?_
                            refine hK _ _ ?_
                            clear hK K
                            refine wpAnyIn_ready (rs := [8]) (by kernel_rfl) (by simp) ?_
                            refine AllReadyIn.cons rfl (fun K hK => ?_) AllReadyIn.nil
                            · go_simp
                              refine hK _ _ ?_
                              clear hK K
                              refine wpAnyIn_done (by kernel_rfl) ?_ _
                              gi_wp2
                              exact hpost.out
                    · go_simp
                      refine hK _ _ ?_
                      clear hK K
                      refine wpAnyIn_ready (rs := [0, 6]) (by kernel_rfl) (by simp) ?_
                      refine AllReadyIn.cons rfl (fun K hK => ?_) (AllReadyIn.cons rfl (fun K hK => ?_) AllReadyIn.nil)
                      · go_simp
                        refine hK _ _ ?_
                        clear hK K
                        refine wpAnyIn_ready (rs := [6]) (by kernel_rfl) (by simp) ?_
                        refine AllReadyIn.cons rfl (fun K hK => ?_) AllReadyIn.nil
                        · go_simp
                          refine hK _ _ ?_
                          clear hK K
                          refine wpAnyIn_ready (rs := [7]) (by kernel_rfl) (by simp) ?_
                          refine AllReadyIn.cons rfl (fun K hK => ?_) AllReadyIn.nil
                          · refine stepIn_append_run rfl _ _ 37 rfl _ _ (by simp [Act.eval, Act.put]) (by simp [Act.eval, Act.put]) hrun ?_
                            refine hK _ _ ?_
                            clear hK K
                            refine wpAnyIn_ready (rs := [8]) (by kernel_rfl) (by simp) ?_
                            refine AllReadyIn.cons rfl (fun K hK => ?_) AllReadyIn.nil
                            · go_simp
                              refine hK _ _ ?_
                              clear hK K
                              refine wpAnyIn_done (by kernel_rfl) ?_ _
                              gi_wp2
                              exact hpost.out
                      · go_simp
                        refine hK _ _ ?_
                        clear hK K
                        refine wpAnyIn_ready (rs := [0]) (by kernel_rfl) (by simp) ?_
                        refine AllReadyIn.cons rfl (fun K hK => ?_) AllReadyIn.nil
                        · go_simp
                          refine hK _ _ ?_
                          clear hK K
                          refine wpAnyIn_ready (rs := [7]) (by kernel_rfl) (by simp) ?_
                          refine AllReadyIn.cons rfl (fun K hK => ?_) AllReadyIn.nil
                          · refine stepIn_append_run rfl _ _ 37 rfl _ _ (by simp [Act.eval, Act.put]) (by simp [Act.eval, Act.put]) hrun ?_
                            refine hK _ _ ?_
                            clear hK K
                            refine wpAnyIn_ready (rs := [8]) (by kernel_rfl) (by simp) ?_
                            refine AllReadyIn.cons rfl (fun K hK => ?_) AllReadyIn.nil
                            · go_simp
                              refine hK _ _ ?_
                              clear hK K
                              refine wpAnyIn_done (by kernel_rfl) ?_ _
                              gi_wp2
                              exact hpost.out
                · go_simp
                  gi_wp2_with (refine ⟨trivial, (CallsIn.inRound lp (callsIn_wide.2 (HC.out _))).mono ?_⟩; rintro e w1 ⟨rfl, hb1⟩; obtain ⟨k0, kb, ka, A3, c3, w3, hrun, m1, m2, hpost⟩ := HP.out _ hb1; clear HP)
                  refine wpAnyIn_ready (rs := [0, 1]) (by kernel_rfl) (by simp) ?_
                  refine AllReadyIn.cons rfl (fun K hK => ?_) (AllReadyIn.cons rfl (fun K hK => ?_) AllReadyIn.nil)
                  · go_simp
                    refine hK _ _ ?_
                    clear hK K
                    refine wpAnyIn_ready (rs := [1]) (by kernel_rfl) (by simp) ?_
                    refine AllReadyIn.cons rfl (fun K hK => ?_) AllReadyIn.nil
                    · go_simp
                      refine hK _ _ ?_
                      clear hK K
                      refine wpAnyIn_ready (rs := [2]) (by kernel_rfl) (by simp) ?_
                      refine AllReadyIn.cons rfl (fun K hK => ?_) AllReadyIn.nil
                      · go_simp
                        refine hK _ _ ?_
                        clear hK K
                        refine wpAnyIn_ready (rs := [6]) (by kernel_rfl) (by simp) ?_
                        refine AllReadyIn.cons rfl (fun K hK => ?_) AllReadyIn.nil
                        · go_simp
                          refine hK _ _ ?_
                          clear hK K
                          refine wpAnyIn_ready (rs := [7]) (by kernel_rfl) (by simp) ?_
                          refine AllReadyIn.cons rfl (fun K hK => ?_) AllReadyIn.nil
                          · refine stepIn_append_run rfl _ _ 37 rfl _ _ (by simp [Act.eval, Act.put]) (by simp [Act.eval, Act.put]) hrun ?_
                            refine hK _ _ ?_
                            clear hK K
                            refine wpAnyIn_ready (rs := [8]) (by kernel_rfl) (by simp) ?_
                            refine AllReadyIn.cons rfl (fun K hK => ?_) AllReadyIn.nil
                            · go_simp
                              refine hK _ _ ?_
                              clear hK K
                              refine wpAnyIn_done (by kernel_rfl) ?_ _
                              gi_wp2
                              exact hpost.out
                  · go_simp
                    refine hK _ _ ?_
                    clear hK K
                    refine wpAnyIn_ready (rs := [0, 2]) (by kernel_rfl) (by simp) ?_
                    refine AllReadyIn.cons rfl (fun K hK => ?_) (AllReadyIn.cons rfl (fun K hK => ?_) AllReadyIn.nil)
                    · go_simp
                      refine hK _ _ ?_
                      clear hK K
                      refine wpAnyIn_ready (rs := [2]) (by kernel_rfl) (by simp) ?_
                      refine AllReadyIn.cons rfl (fun K hK => ?_) AllReadyIn.nil
                      · go_simp
                        refine hK _ _ ?_
                        clear hK K
                        refine wpAnyIn_ready (rs := [6]) (by kernel_rfl) (by simp) ?_
                        refine AllReadyIn.cons rfl (fun K hK => ?_) AllReadyIn.nil
                        · go_simp
                          refine hK _ _ ?_
                          clear hK K
                          refine wpAnyIn_ready (rs := [7]) (by kernel_rfl) (by simp) ?_
                          refine AllReadyIn.cons rfl (fun K hK => ?_) AllReadyIn.nil
                          · refine stepIn_append_run rfl _ _ 37 rfl _ _ (by simp [Act.eval, Act.put]) (by simp [Act.eval, Act.put]) hrun ?_
                            refine hK _ _ ?_
                            clear hK K
                            refine wpAnyIn_ready (rs := [8]) (by kernel_rfl) (by simp) ?_
                            refine AllReadyIn.cons rfl (fun K hK => ?_) AllReadyIn.nil
                            · go_simp
                              refine hK _ _ ?_
                              clear hK K
                              refine wpAnyIn_done (by kernel_rfl) ?_ _
                              gi_wp2
                              exact hpost.out
                    · go_simp
                      refine hK _ _ ?_
                      clear hK K
                      refine wpAnyIn_ready (rs := [0, 6]) (by kernel_rfl) (by simp) ?_
                      refine AllReadyIn.cons rfl (fun K hK => ?_) (AllReadyIn.cons rfl (fun K hK => ?_) AllReadyIn.nil)
                      · go_simp
                        refine hK _ _ ?_
                        clear hK K
                        refine wpAnyIn_ready (rs := [6]) (by kernel_rfl) (by simp) ?_
                        refine AllReadyIn.cons rfl (fun K hK => ?_) AllReadyIn.nil
                        · go_simp
                          refine hK _ _ ?_
                          clear hK K
                          refine wpAnyIn_ready (rs := [7]) (by kernel_rfl) (by simp) ?_
                          refine AllReadyIn.cons rfl (fun K hK => ?_) AllReadyIn.nil
                          · refine stepIn_append_run rfl _ _ 37 rfl _ _ (by simp [Act.eval, Act.put]) (by simp [Act.eval, Act.put]) hrun ?_
                            refine hK _ _ ?_
                            clear hK K
                            refine wpAnyIn_ready (rs := [8]) (by kernel_rfl) (by simp) ?_
                            refine AllReadyIn.cons rfl (fun K hK => ?_) AllReadyIn.nil
                            · go_simp
                              refine hK _ _ ?_
                              clear hK K
                              refine wpAnyIn_done (by kernel_rfl) ?_ _
                              gi_wp2
                              exact hpost.out
                      · go_simp
                        refine hK _ _ ?_
                        clear hK K
                        refine wpAnyIn_ready (rs := [0]) (by kernel_rfl) (by simp) ?_
                        refine AllReadyIn.cons rfl (fun K hK => ?_) AllReadyIn.nil
                        · go_simp
                          refine hK _ _ ?_
                          clear hK K
                          refine wpAnyIn_ready (rs := [7]) (by kernel_rfl) (by simp) ?_
                          refine AllReadyIn.cons rfl (fun K hK => ?_) AllReadyIn.nil
                          · refine stepIn_append_run rfl _ _ 37 rfl _ _ (by simp [Act.eval, Act.put]) (by simp [Act.eval, Act.put]) hrun ?_
                            refine hK _ _ ?_
                            clear hK K
                            refine wpAnyIn_ready (rs := [8]) (by kernel_rfl) (by simp) ?_
                            refine AllReadyIn.cons rfl (fun K hK => ?_) AllReadyIn.nil
                            · go_simp
                              refine hK _ _ ?_
                              clear hK K
                              refine wpAnyIn_done (by kernel_rfl) ?_ _
                              gi_wp2
                              exact hpost.out
          case done =>
            rintro D ys W hD hS hJ hK
            have hn : ys.length = hs.length := hS.length
            obtain ⟨⟨⟨v, hv, hrow, -⟩, hbk⟩, hB1⟩ := hJ
            rw [came_all hS] at hrow
            have hpl : 0 < (partsH P2 hs).length := by rw [partsH_len]; omega
            have hpl2 : (partsH P2 hs).length ≤ 1000 := by rw [partsH_len]; omega
            obtain ⟨gg, cc, rfl, -, hnc, -, hgl, hcells⟩ := row_at hrow hpl
            have HJC : Hid (Calls Tryz.prog 68 #[.slice (some ⟨gg, 0, none⟩) (partsH P2 hs).length cc] W fun e w' => e = .returned (.string (textT ⟨h, l, o, ns, hs, b, f⟩)) ∧ Below W.heap.size W w') := by
              have := joined_any (partsH P2 hs) gg cc W hgl (fun k hk => hcells k _ (strsC_at (List.getElem?_eq_getElem hk))) hnc (by rw [catB_size]; omega) (by omega)
              rw [← HJN.out]
              exact this
            have q0 := hv.cell
            have hDl : D < W.heap.size := (Array.getElem?_eq_some_iff.1 hK).1
            obtain ⟨TX, HTX⟩ : ∃ TX, Hid (textT ⟨h, l, o, ns, hs, b, f⟩ = TX) := ⟨_, rfl⟩
            rw [HTX.out] at HJC
            clear HJN HR hsz
            generalize (partsH P2 hs).length = L at *
            clear hv hrow hbk hS hcells hl1 hl2 bC hJ0 hBW
            have hfj : Fence.wide.fn 68 := trivial
            gi_wp2_with fail
            refine (callsIn_wide.2 HJC.out).mono ?_
            rintro e w5 ⟨rfl, hb5⟩
            gi_wp2_with fail
            refine ⟨by simp, .inl ⟨_, _, rfl, run_takeDeferred ((hb5.block D hDl).trans hK), ?_⟩⟩
            exact ⟨_, results_tmp rfl _ _ _, by rw [HTX.out]; rfl, (hB1.trans (hb5.mono hB1.size)).trans (belowK_b (w := w) (Nat.le_refl _) w5 D _ _ (by omega) ((hb5.block D hDl).trans hK) rfl rfl)⟩
          case stop =>
            rintro D c pre W _ _ h _
            exact h.elim
end Go.Proofs.YtpncnkihfijmaaaGreatDoor
