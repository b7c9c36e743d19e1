/-
  FnPnr: the walk.
-/
import Derived.Test.YtpncnkihfijmaaaGreatDoorPnrFactsZ
import Derived.Test.YtpncnkihfijmaaaGreatDoorM10
import Derived.Test.YtpncnkihfijmaaaGreatDoorPnrSameZ
import Derived.Test.YtpncnkihfijmaaaGreatDoorM6
import Derived.Test.YtpncnkihfijmaaaGreatDoorHoldPutSZ
import Derived.Test.YtpncnkihfijmaaaGreatDoorM11
import Derived.Deep.RegionHeld3
import Derived.Deep.DeepCutAuto
import Derived.Deep.CutBlock
namespace Go.Proofs.YtpncnkihfijmaaaGreatDoor
open Go.ChangeShapes Go.WideShapes Go.ChangeAt Go.RowKit Go.ChangeMaps
set_option maxRecDepth 10000
set_option linter.unusedSimpArgs false
set_option linter.unusedVariables false

/-- What lies behind region 10: p, what was read twice, two bookings, a hold. -/
structure PnS (w : World) (gp : Nat) (p : PD) (A1 : Option Addr) (c1 : Nat) (A2 : Option Addr) (c2 : Nat) (gx gy : Nat) (q : PD) (cd : Int) (X1 : Option Addr) (x1 : Nat) (X2 : Option Addr) (x2 : Nat) (Y1 : Option Addr) (y1 : Nat) (Y2 : Option Addr) (y2 : Nat)
    (ga : Nat) (a : PD) (E1 : Option Addr) (e1 : Nat) (E2 : Option Addr) (e2 : Nat) (gb : Nat) (b : PD) (F1 : Option Addr) (f1 : Nat) (F2 : Option Addr) (f2 : Nat) (gh : Nat) (hf : ByteArray) (hr hk : Int) (W : World) : Prop where
  P : PSt w.heap.size gp p A1 c1 A2 c2 W
  X : GSt w.heap.size gx q cd X1 x1 X2 x2 (strsC q.names) (holdsC q.holds) W
  Y : GSt w.heap.size gy q cd Y1 y1 Y2 y2 (strsC q.names) (holdsC q.holds) W
  la : PLies W W.heap.size a E1 E2
  lb : PLies W W.heap.size b F1 F2
  kA : Block W ga 40 (pdCs a E1 e1 E2 e2)
  kB : Block W gb 40 (pdCs b F1 f1 F2 f2)
  kH : Block W gh 49 #[.string hf, .int .i64 hr, .int .i64 hk]
  B : Below w.heap.size w W
section
variable {w W W' : World} {gp gx gy ga gb gh : Nat} {p q a b : PD} {cd : Int} {A1 A2 X1 X2 Y1 Y2 E1 E2 F1 F2 : Option Addr} {c1 c2 x1 x2 y1 y2 e1 e2 f1 f2 : Nat} {hf : ByteArray} {hr hk : Int}
theorem PnS.on (h : PnS w gp p A1 c1 A2 c2 gx gy q cd X1 x1 X2 x2 Y1 y1 Y2 y2 ga a E1 e1 E2 e2 gb b F1 f1 F2 f2 gh hf hr hk W) (hb : Below W.heap.size W W') : PnS w gp p A1 c1 A2 c2 gx gy q cd X1 x1 X2 x2 Y1 y1 Y2 y2 ga a E1 e1 E2 e2 gb b F1 f1 F2 f2 gh hf hr hk W' :=
  ⟨h.P.on hb, h.X.on hb, h.Y.on hb, h.la.on hb, h.lb.on hb, h.kA.on hb, h.kB.on hb, h.kH.on hb, h.B.trans (hb.mono h.B.size)⟩
theorem PnS.drew (h : PnS w gp p A1 c1 A2 c2 gx gy q cd X1 x1 X2 x2 Y1 y1 Y2 y2 ga a E1 e1 E2 e2 gb b F1 f1 F2 f2 gh hf hr hk W) : PnS w gp p A1 c1 A2 c2 gx gy q cd X1 x1 X2 x2 Y1 y1 Y2 y2 ga a E1 e1 E2 e2 gb b F1 f1 F2 f2 gh hf hr hk W.drew := h.on (Below.refl _ W).drew
theorem PnS.alloc (h : PnS w gp p A1 c1 A2 c2 gx gy q cd X1 x1 X2 x2 Y1 y1 Y2 y2 ga a E1 e1 E2 e2 gb b F1 f1 F2 f2 gh hf hr hk W) (o : Obj) : PnS w gp p A1 c1 A2 c2 gx gy q cd X1 x1 X2 x2 Y1 y1 Y2 y2 ga a E1 e1 E2 e2 gb b F1 f1 F2 f2 gh hf hr hk (W.alloc o) := h.on ((Below.refl _ W).alloc (Nat.le_refl _) o)
end
/-- .. the two lists that a hold was put in, and the list as it was. -/
def Put9 (l : List HD) (H1 J1 K1 : Option Addr) (hs : List HD) (W : World) : Prop := Lies W W.heap.size 3 J1 l.length (holdsC l) ∧ Lies W W.heap.size 3 K1 l.length (holdsC l) ∧ Lies W W.heap.size 3 H1 hs.length (holdsC hs)
theorem Put9.on {l hs : List HD} {H1 J1 K1 : Option Addr} {W W' : World} (h : Put9 l H1 J1 K1 hs W) (hb : Below W.heap.size W W') : Put9 l H1 J1 K1 hs W' := ⟨h.1.on hb, h.2.1.on hb, h.2.2.on hb⟩

theorem str_nonempty {t : ByteArray} (h : ¬ t = ⟨#[]⟩) : t.toList.isEmpty = false := by
  have h0 : (⟨#[]⟩ : ByteArray).toList = [] := by first | rfl | decide | kernel_rfl | simp
  cases e : t.toList with
  | nil => exact absurd (e.trans h0.symm) (toList_ne h)
  | cons a r => rfl
theorem read_fit {s : ByteArray} (h : (readP s).2 = 0) : PFit (readP s).1 := by
  have hr : rightB (readP s).1 = true := by
    unfold readP at h ⊢
    by_cases h1 : 8000 < s.size
    · rw [if_pos h1] at h
      exact absurd h (by decide)
    · rw [if_neg h1] at h ⊢
      by_cases h2 : rightB (parseS (cutB 32 s)) = true ∧ textT (parseS (cutB 32 s)) = s
      · rw [if_pos h2]
        exact h2.1
      · rw [if_neg h2] at h
        exact absurd h (by decide)
  obtain ⟨-, ⟨h1, h2⟩, ⟨h3, h4⟩, -⟩ := right_parts hr
  unfold PFit maxLen
  exact ⟨by omega, fun x hx => Nat.le_trans (wordB_le (h2 x hx)) (by omega), by omega, fun x hx => Nat.le_trans (wordB_le (h4 x hx).1) (by omega)⟩

set_option maxRecDepth 100000 in
set_option maxHeartbeats 16000000 in
theorem fnPnr_walk (A : Option Addr) (l : List UInt8) (c : Nat) (A' : Option Addr) (l' : List UInt8) (c' : Nat) (w : World) (hl : Lies w w.heap.size 1 A l.length (bytesV l)) (hl' : Lies w w.heap.size 1 A' l'.length (bytesV l')) (hm : l.length ≤ maxLen) (hm' : l'.length ≤ maxLen) (hE : Env w) :
    Calls Tryz.prog 5 #[.slice A l.length c, .slice A' l'.length c'] w fun e w' => Holds e w w' := by
  by_cases hbig : (1048576 : Int) < (l.length : Int)
  · unfold maxLen at hm hm'
    go_enter Tryz.func5, Tryz.ntmps5
    go_wp2_with fail
    go_ret
    exact ⟨rfl, Below.refl _ _⟩
  by_cases hbig' : (1048576 : Int) < (l'.length : Int)
  · unfold maxLen at hm hm'
    go_enter Tryz.func5, Tryz.ntmps5
    go_wp2_with fail
    go_ret
    exact ⟨rfl, Below.refl _ _⟩
  have HD1 := Lib.hid (drawPnrText_any A l c w hl hm)
  have HD2 : Hid (∀ W : World, Below w.heap.size w W → Calls Tryz.prog 18 #[.slice A' l'.length c'] W fun e w' => (∃ s : ByteArray, e = .returned (.string s) ∧ s.size ≤ 200002) ∧ Below W.heap.size W w') := fun W h => drawPnrRead_any A' l' c' W (hl'.on h) hm'
  have HT : Hid (∀ (p : PD) (W : World) A1 c1 A2 c2, PLies W W.heap.size p A1 A2 → Small p 6 5 → Calls Tryz.prog 17 #[pdV p A1 c1 A2 c2] W fun e w' => e = .returned (.string (textT p)) ∧ Below W.heap.size W w') := fun p W A1 c1 A2 c2 h hs => iPnrText_any p A1 c1 A2 c2 W h (hs.fit (by omega) (by omega)) (by have := hs.1; omega) (by have := hs.2.1; omega)
  have HRi : Hid (∀ (s : ByteArray) (W : World), Below w.heap.size w W → Calls Tryz.prog 19 #[.string s] W (OutMade (readP s).1 (readP s).2 W)) := fun s W h => iPnrRead_any s W (hE.on h)
  have HRs : Hid (∀ (s : ByteArray) (W : World), s.size ≤ 200002 → Calls Tryz.prog 20 #[.string s] W (OutMade (readP s).1 (readP s).2 W)) := fun s W h => sPnrRead_any s W (by omega)
  have HD3 : Hid (∀ W : World, Below w.heap.size w W → Calls Tryz.prog 21 #[.slice A' l'.length c'] W (TwoD W)) := fun W h => drawPnrSame_any A' l' c' W (hl'.on h) hm'
  have HD4 : Hid (∀ W : World, Below w.heap.size w W → Calls Tryz.prog 22 #[.slice A l.length c] W fun e w' => (∃ (hs : List HD) (A2 : Option Addr) (c2 : Nat) (f : ByteArray) (r k : Int), e = .returned (.tuple #[.slice A2 hs.length c2, .agg #[.string f, .int .i64 r, .int .i64 k]]) ∧ hs.length ≤ 5 ∧ (∀ x ∈ hs, x.f.size ≤ 100) ∧ w'.ownsRow W.heap.size 49 3 (.slice A2 hs.length c2) hs.length (holdsC hs) ∧ HoldD f r k) ∧ Below W.heap.size W w') := fun W h => drawHoldPut_any A l c W (hl.on h) hm
  have HPi : Hid (∀ (hs : List HD) (x : HD) (H1 : Option Addr) (h1 : Nat) (W : World), Lies W W.heap.size 3 H1 hs.length (holdsC hs) → hs.length ≤ 5 → (∀ y ∈ hs, y.f.size ≤ 100) → x.f.size ≤ 100 → Calls Tryz.prog 23 #[.slice H1 hs.length h1, holdV x.f x.r x.c] W (HoldsMade (putL hs x) W)) := fun hs x H1 h1 W h hn hz hx => iHoldPut_any hs x H1 h1 W h (by omega) (fun y hy => Nat.le_trans (hz y hy) (by omega)) (by omega)
  have HPs : Hid (∀ (hs : List HD) (x : HD) (H1 : Option Addr) (h1 : Nat) (W : World), Lies W W.heap.size 3 H1 hs.length (holdsC hs) → hs.length ≤ h1 → hs.length ≤ 5 → Calls Tryz.prog 24 #[.slice H1 hs.length h1, holdV x.f x.r x.c] W (HoldsMade (putL hs x) W)) := fun hs x H1 h1 W h hc hn => sHoldPut_any hs x H1 h1 W h hc (by omega)
  have HD5 : Hid (∀ W : World, Below w.heap.size w W → Calls Tryz.prog 25 #[.slice A' l'.length c'] W fun e w' => (∃ f r k f2 r2 k2, e = .returned (.tuple #[.agg #[.string f, .int .i64 r, .int .i64 k], .agg #[.string f2, .int .i64 r2, .int .i64 k2]]) ∧ HoldD f r k ∧ HoldD f2 r2 k2) ∧ Below W.heap.size W w') := fun W h => drawHoldLess_any A' l' c' W (hl'.on h) hm'
  unfold HoldsMade at HPi HPs
  unfold PnrD at HD1
  unfold OutMade at HRi HRs
  unfold TwoD at HD3
  clear hl hl' hE
  unfold maxLen at hm hm'
  go_enter Tryz.func5, Tryz.ntmps5
  go_wp2_with fail
  refine HD1.out.mono ?_
  rintro e w1 ⟨⟨p, A1, c1, A2, c2, rfl, hsm, r1, r2⟩, hb1⟩
  have P1 : PSt w.heap.size w1.heap.size p A1 c1 A2 c2 (w1.alloc (.cells (pdCs p A1 c1 A2 c2) 40)) := ⟨Block.new w1 _ _, r1.alloc _, r2.alloc _⟩
  have B1 := hb1.alloc hb1.size (.cells (pdCs p A1 c1 A2 c2) 40)
  clear r1 r2 hb1
  go_wp2_with fail
  refine (HT.out p _ _ _ _ _ P1.lies hsm).mono ?_
  rintro e w2 ⟨rfl, hb2⟩
  have P2 := P1.on hb2
  have B2 := B1.trans (hb2.mono B1.size)
  clear P1 B1 hb2
  have HTp : Hid (∃ t, textT p = t) := ⟨_, rfl⟩
  generalize ht : textT p = t at *
  have Ht := Lib.hid ht
  clear ht HTp HT
  go_wp2_with fail
  refine (HD2.out _ B2).mono ?_
  rintro e w3 ⟨⟨u, rfl, hu⟩, hb3⟩
  have P3 := P2.on hb3
  have B3 := B2.trans (hb3.mono B2.size)
  clear P2 B2 hb3
  go_wp2_with fail
  refine (HRi.out u _ B3).mono ?_
  rintro e w4 ⟨⟨X1, x1, X2, x2, rfl, r1, r2⟩, hb4⟩
  have P4 := P3.on hb4
  have B4 := B3.trans (hb4.mono B3.size)
  have B4s := B4.size
  clear P3 hb4
  go_wp2_with fail
  refine (HRs.out u _ hu).mono ?_
  rintro e w5 ⟨⟨Y1, y1, Y2, y2, rfl, s1, s2⟩, hb5⟩
  have P5 := P4.on hb5
  have B5 := B4.trans (hb5.mono B4.size)
  have r1' := ownsRow_below r1 hb5
  have r2' := ownsRow_below r2 hb5
  clear P4 B4 hb5 r1 r2 HRs HD1 HD2 hu
  have Hrd : Hid (readP u = ((readP u).1, (readP u).2)) := rfl
  generalize (readP u).1 = q at *
  generalize (readP u).2 = cd at *
  obtain ⟨oX, hoX⟩ : ∃ o, o = Obj.cells (outCs q X1 x1 X2 x2 cd) 44 := ⟨_, rfl⟩
  obtain ⟨oY, hoY⟩ : ∃ o, o = Obj.cells (outCs q Y1 y1 Y2 y2 cd) 44 := ⟨_, rfl⟩
  have X6 : GSt w.heap.size w5.heap.size q cd X1 x1 X2 x2 (strsC q.names) (holdsC q.holds) ((w5.alloc oX).alloc oY) := ⟨by rw [hoX]; exact (Block.new w5 _ _).alloc _, ownsRow_base ((r1'.alloc _).alloc _) B3.size, ownsRow_base ((r2'.alloc _).alloc _) B3.size, by have := B5.size; simp; omega⟩
  have Y6 : GSt w.heap.size (w5.heap.size + 1) q cd Y1 y1 Y2 y2 (strsC q.names) (holdsC q.holds) ((w5.alloc oX).alloc oY) := ⟨by rw [hoY]; have := Block.new (w5.alloc oX) (outCs q Y1 y1 Y2 y2 cd) 44; rw [World.size_alloc] at this; exact this, ownsRow_base ((s1.alloc _).alloc _) B4s, ownsRow_base ((s2.alloc _).alloc _) B4s, by have := B5.size; simp; omega⟩
  have P6 := (P5.alloc oX).alloc oY
  have B6 := (B5.alloc B5.size oX).alloc (B5.alloc B5.size oX).size oY
  subst hoX hoY
  clear P5 B5 r1' r2' s1 s2
  go_wp2_with fail
  refine (HD3.out _ B6).mono ?_
  rintro e w7 ⟨⟨a, E1, e1, E2, e2, b, F1, f1, F2, f2, rfl, ha, hb, la, lb⟩, hb7⟩
  obtain ⟨oA, hoA⟩ : ∃ o, o = Obj.cells (pdCs a E1 e1 E2 e2) 40 := ⟨_, rfl⟩
  obtain ⟨oB, hoB⟩ : ∃ o, o = Obj.cells (pdCs b F1 f1 F2 f2) 40 := ⟨_, rfl⟩
  have hb8 : Below w7.heap.size w7 ((w7.alloc oA).alloc oB) := ((Below.refl _ w7).alloc (Nat.le_refl _) oA).alloc (by simp) oB
  have P8 := (P6.on hb7).on hb8
  have X8 := (X6.on hb7).on hb8
  have Y8 := (Y6.on hb7).on hb8
  have B7 := B6.trans (hb7.mono B6.size)
  have B8 := B7.trans (hb8.mono B7.size)
  have la8 := la.on hb8
  have lb8 := lb.on hb8
  have kA : Block ((w7.alloc oA).alloc oB) w7.heap.size 40 (pdCs a E1 e1 E2 e2) := by rw [hoA]; exact (Block.new w7 _ _).alloc _
  have kB : Block ((w7.alloc oA).alloc oB) (w7.heap.size + 1) 40 (pdCs b F1 f1 F2 f2) := by rw [hoB]; have := Block.new (w7.alloc oA) (pdCs b F1 f1 F2 f2) 40; rw [World.size_alloc] at this; exact this
  subst hoA hoB
  clear P6 X6 Y6 B6 B7 la lb hb7 hb8 HD3 B3 B4s
  go_wp2_with fail
  refine (HD4.out _ B8).mono ?_
  rintro e w9 ⟨⟨hs, H1, h1, hf, hr, hk, rfl, hlen, hsz, rh, hhd⟩, hb9⟩
  obtain ⟨oH, hoH⟩ : ∃ o, o = Obj.cells #[.string hf, .int .i64 hr, .int .i64 hk] 49 := ⟨_, rfl⟩
  have hbH : Below w9.heap.size w9 (w9.alloc oH) := (Below.refl _ w9).alloc (Nat.le_refl _) oH
  have P9 := (P8.on hb9).on hbH
  have X9 := (X8.on hb9).on hbH
  have Y9 := (Y8.on hb9).on hbH
  have B9' := B8.trans (hb9.mono B8.size)
  have B9 := B9'.trans (hbH.mono B9'.size)
  have la9 := (la8.on hb9).on hbH
  have lb9 := (lb8.on hb9).on hbH
  have kA9 := (kA.on hb9).on hbH
  have kB9 := (kB.on hb9).on hbH
  have hcap : hs.length ≤ h1 := by
    obtain ⟨_, _, e9, h9, -⟩ := own_form rh
    cases e9
    exact h9
  have rh9 := Lies.own (ownsRow_below rh hbH)
  have kH : Block (w9.alloc oH) w9.heap.size 49 #[.string hf, .int .i64 hr, .int .i64 hk] := by rw [hoH]; exact Block.new w9 _ _
  have hxz : hf.size ≤ 100 := hhd.small
  have S9 : PnS w w1.heap.size p A1 c1 A2 c2 w5.heap.size (w5.heap.size + 1) q cd X1 x1 X2 x2 Y1 y1 Y2 y2 w7.heap.size a E1 e1 E2 e2 (w7.heap.size + 1) b F1 f1 F2 f2 w9.heap.size hf hr hk (w9.alloc oH) := ⟨P9, X9, Y9, la9, lb9, kA9, kB9, kH, B9⟩
  subst hoH
  clear P8 X8 Y8 B8 B9' la8 lb8 kA kB hb9 hbH rh P9 X9 Y9 B9 la9 lb9 kA9 kB9 HD4 kH
  have HL := Lib.hid rh9
  have HS9 := Lib.hid S9
  have kc9 := S9.kH.cell
  clear rh9 S9
  generalize w1.heap.size = gp at *
  generalize hgy : w5.heap.size + 1 = gy at *
  generalize w5.heap.size = gx at *
  generalize hgb : w7.heap.size + 1 = gb at *
  generalize w7.heap.size = ga at *
  clear hgy hgb
  go_upto_region 9 with fail
  go_cut [14, 15] (fun v14 v15 W => ∃ J1 j1 K1 k1, v14 = .slice J1 (putL hs ⟨hf, hr, hk⟩).length j1 ∧ v15 = .slice K1 (putL hs ⟨hf, hr, hk⟩).length k1 ∧ Put9 (putL hs ⟨hf, hr, hk⟩) H1 J1 K1 hs W ∧ PnS w gp p A1 c1 A2 c2 gx gy q cd X1 x1 X2 x2 Y1 y1 Y2 y2 ga a E1 e1 E2 e2 gb b F1 f1 F2 f2 w9.heap.size hf hr hk W)
  case first =>
    as_aux_lemma =>
      go_region_with (first
        | (go_at_call 23; refine (HPi.out hs ⟨hf, hr, hk⟩ _ _ _ (HL.out.on (Below.refl _ _).drew) hlen hsz hxz).mono ?_; rintro e w10 ⟨J1, j1, rfl, rj, hb10⟩; have S10 := Lib.hid (HS9.out.drew.on hb10); have kc10 := S10.out.kH.cell; have L10 := Lib.hid ((HL.out.on (Below.refl _ _).drew).on hb10); have RJ := Lib.hid (Lies.own rj))
        | (go_at_call 24; refine (HPs.out hs ⟨hf, hr, hk⟩ _ _ _ L10.out hcap hlen).mono ?_; rintro e w11 ⟨K1, k1, rfl, rk, hb11⟩))
      all_goals
        have hEnd : Put9 (putL hs ⟨hf, hr, hk⟩) H1 J1 K1 hs w11 ∧ PnS w gp p A1 c1 A2 c2 gx gy q cd X1 x1 X2 x2 Y1 y1 Y2 y2 ga a E1 e1 E2 e2 gb b F1 f1 F2 f2 w9.heap.size hf hr hk w11 := ⟨⟨RJ.out.on hb11, Lies.own rk, L10.out.on hb11⟩, S10.out.on hb11⟩
        go_wp2_with fail
        go_meet
        exact ⟨_, _, _, _, rfl, rfl, hEnd.1, hEnd.2⟩
  case rest =>
    obtain ⟨J1, j1, K1, k1, rfl, rfl, hP9, hS9⟩ := hcut
    clear HL HS9 HPi HPs kc9 hsz hcap
    generalize w9.heap.size = gh at *
    have HPF := Lib.hid hP9
    have HSF := Lib.hid hS9
    have hBc := hS9.B
    clear hP9 hS9
    go_wp2_with fail
    refine (HD5.out _ hBc).mono ?_
    rintro e w12 ⟨⟨cf, cr, ck, df, dr, dk, rfl, hc, hd⟩, hb12⟩
    have S13 := ((HSF.out.on hb12).alloc (.cells #[.string cf, .int .i64 cr, .int .i64 ck] 49)).alloc (.cells #[.string df, .int .i64 dr, .int .i64 dk] 49)
    have P13 := ((HPF.out.on hb12).on ((Below.refl _ w12).alloc (Nat.le_refl _) (.cells #[.string cf, .int .i64 cr, .int .i64 ck] 49))).on ((Below.refl _ (w12.alloc (.cells #[.string cf, .int .i64 cr, .int .i64 ck] 49))).alloc (Nat.le_refl _) (.cells #[.string df, .int .i64 dr, .int .i64 dk] 49))
    have kC := (Block.new w12 #[.string cf, .int .i64 cr, .int .i64 ck] 49).alloc (.cells #[.string df, .int .i64 dr, .int .i64 dk] 49)
    have kD := Block.new (w12.alloc (.cells #[.string cf, .int .i64 cr, .int .i64 ck] 49)) #[.string df, .int .i64 dr, .int .i64 dk] 49
    rw [World.size_alloc] at kD
    have HS13 := Lib.hid S13
    have HP13 := Lib.hid P13
    have HkC := Lib.hid kC
    have HkD := Lib.hid kD
    clear hb12 HSF HPF S13 P13 kC kD HD5 hBc
    go_upto_region 11 with fail
    generalize hgd : w12.heap.size + 1 = gd at *
    generalize hgc : w12.heap.size = gc at *
    clear hgd hgc
    generalize (w12.alloc (.cells #[.string cf, .int .i64 cr, .int .i64 ck] 49)).alloc (.cells #[.string df, .int .i64 dr, .int .i64 dk] 49) = W13 at *
    have hq4 : q.names.length ≤ 4 ∧ q.holds.length ≤ 4 := by
      have := readP_few u
      rw [Hrd.out] at this
      exact this
    go_cut [126] (fun v W => v = .bool false ∧ Put9 (putL hs ⟨hf, hr, hk⟩) H1 J1 K1 hs W ∧ PnS w gp p A1 c1 A2 c2 gx gy q cd X1 x1 X2 x2 Y1 y1 Y2 y2 ga a E1 e1 E2 e2 gb b F1 f1 F2 f2 gh hf hr hk W)
    case first =>
      as_aux_lemma =>
        have yk0 : ∀ (z : Cls W13) (i : Nat), z.W.cell? ⟨gp, i, none⟩ = (pdCs p A1 c1 A2 c2)[i]? := fun z i => Cls.blk HS13.out.P.blk z i
        have yk1 : ∀ (z : Cls W13) (i : Nat), z.W.cell? ⟨gx, i, none⟩ = (outCs q X1 x1 X2 x2 cd)[i]? := fun z i => Cls.blk HS13.out.X.blk z i
        have yk2 : ∀ (z : Cls W13) (i : Nat), z.W.cell? ⟨gy, i, none⟩ = (outCs q Y1 y1 Y2 y2 cd)[i]? := fun z i => Cls.blk HS13.out.Y.blk z i
        have yk3 : ∀ (z : Cls W13) (i : Nat), z.W.cell? ⟨ga, i, none⟩ = (pdCs a E1 e1 E2 e2)[i]? := fun z i => Cls.blk HS13.out.kA z i
        have yk4 : ∀ (z : Cls W13) (i : Nat), z.W.cell? ⟨gb, i, none⟩ = (pdCs b F1 f1 F2 f2)[i]? := fun z i => Cls.blk HS13.out.kB z i
        have yk5 : ∀ (z : Cls W13) (i : Nat), z.W.cell? ⟨gc, i, none⟩ = #[.string cf, .int .i64 cr, .int .i64 ck][i]? := fun z i => Cls.blk HkC.out z i
        have yk6 : ∀ (z : Cls W13) (i : Nat), z.W.cell? ⟨gd, i, none⟩ = #[.string df, .int .i64 dr, .int .i64 dk][i]? := fun z i => Cls.blk HkD.out z i
        have C1 : Hid (∀ z : Cls W13, Calls Tryz.prog 26 #[pdV p A1 c1 A2 c2] z.W fun e w'' => e = .returned (.string t) ∧ ∃ z' : Cls W13, w'' = z'.W) := fun z => Cls.call (by
          rw [← Ht.out]
          exact sPnrText_any p A1 c1 A2 c2 z.W (HS13.out.P.lies.on z.h) (hsm.fit (by omega) (by omega)) (by have := hsm.1; omega) (by have := hsm.2.1; omega))
        have C2 : Hid (∀ z : Cls W13, Calls Tryz.prog 27 #[pdV q X1 x1 X2 x2, pdV q Y1 y1 Y2 y2] z.W fun e w'' => e = .returned (.bool true) ∧ ∃ z' : Cls W13, w'' = z'.W) := fun z => Cls.call (by
          rw [← sameB_yes (p := q)]
          exact sPnrSame_any q q X1 x1 X2 x2 Y1 y1 Y2 y2 z.W ((show PLies W13 _ _ _ _ from ⟨Lies.own HS13.out.X.ns, Lies.own HS13.out.X.hs⟩).on z.h) ((show PLies W13 _ _ _ _ from ⟨Lies.own HS13.out.Y.ns, Lies.own HS13.out.Y.hs⟩).on z.h) (by omega) (by omega) (by omega) (by omega))
        have C3 : Hid (∀ z : Cls W13, Calls Tryz.prog 28 #[pdV a E1 e1 E2 e2, pdV b F1 f1 F2 f2] z.W fun e w'' => e = .returned (.bool (sameB a b)) ∧ ∃ z' : Cls W13, w'' = z'.W) := fun z => Cls.call (iPnrSame_any a b E1 e1 E2 e2 F1 f1 F2 f2 z.W (HS13.out.la.on z.h) (HS13.out.lb.on z.h) (by have := ha.1; omega) (by have := ha.2.1; omega) (by have := hb.1; omega) (by have := hb.2.1; omega))
        have C4 : Hid (∀ z : Cls W13, Calls Tryz.prog 27 #[pdV a E1 e1 E2 e2, pdV b F1 f1 F2 f2] z.W fun e w'' => e = .returned (.bool (sameB a b)) ∧ ∃ z' : Cls W13, w'' = z'.W) := fun z => Cls.call (sPnrSame_any a b E1 e1 E2 e2 F1 f1 F2 f2 z.W (HS13.out.la.on z.h) (HS13.out.lb.on z.h) (by have := ha.1; omega) (by have := ha.2.1; omega) (by have := hb.1; omega) (by have := hb.2.1; omega))
        have C5 : Hid (∀ z : Cls W13, Calls Tryz.prog 29 #[pdV p A1 c1 A2 c2] z.W fun e w'' => e = .returned (.bool (rightB p)) ∧ ∃ z' : Cls W13, w'' = z'.W) := fun z => Cls.call (iPnrRight_any p A1 c1 A2 c2 z.W (HS13.out.P.lies.on z.h) (hsm.fit (by omega) (by omega)) (by have := hsm.1; omega) (by have := hsm.2.1; omega))
        have C6 : Hid (∀ z : Cls W13, Calls Tryz.prog 30 #[pdV p A1 c1 A2 c2] z.W fun e w'' => e = .returned (.bool (rightB p)) ∧ ∃ z' : Cls W13, w'' = z'.W) := fun z => Cls.call (sPnrRight_any p A1 c1 A2 c2 z.W (HS13.out.P.lies.on z.h) (hsm.fit (by omega) (by omega)) (by have := hsm.1; omega) (by have := hsm.2.1; omega))
        have C7 : Hid (∀ z : Cls W13, Calls Tryz.prog 31 #[holdV cf cr ck, holdV df dr dk] z.W fun e w'' => e = .returned (.bool (lessB ⟨cf, cr, ck⟩ ⟨df, dr, dk⟩)) ∧ ∃ z' : Cls W13, w'' = z'.W) := fun z => Cls.call (iHoldLess_any ⟨cf, cr, ck⟩ ⟨df, dr, dk⟩ z.W)
        have C8 : Hid (∀ z : Cls W13, Calls Tryz.prog 32 #[holdV cf cr ck, holdV df dr dk] z.W fun e w'' => e = .returned (.bool (lessB ⟨cf, cr, ck⟩ ⟨df, dr, dk⟩)) ∧ ∃ z' : Cls W13, w'' = z'.W) := fun z => Cls.call (sHoldLess_any ⟨cf, cr, ck⟩ ⟨df, dr, dk⟩ z.W)
        have C9 : Hid (∀ z : Cls W13, Calls Tryz.prog 31 #[holdV df dr dk, holdV cf cr ck] z.W fun e w'' => e = .returned (.bool (lessB ⟨df, dr, dk⟩ ⟨cf, cr, ck⟩)) ∧ ∃ z' : Cls W13, w'' = z'.W) := fun z => Cls.call (iHoldLess_any ⟨df, dr, dk⟩ ⟨cf, cr, ck⟩ z.W)
        have HEnd : Hid (∀ W, Below W13.heap.size W13 W → Put9 (putL hs ⟨hf, hr, hk⟩) H1 J1 K1 hs W ∧ PnS w gp p A1 c1 A2 c2 gx gy q cd X1 x1 X2 x2 Y1 y1 Y2 y2 ga a E1 e1 E2 e2 gb b F1 f1 F2 f2 gh hf hr hk W) := fun W hW => ⟨HP13.out.on hW, HS13.out.on hW⟩
        have hcmp : ∀ W : World, (binOp .neq 49 (holdV cf cr ck) (holdV df dr dk)).run Tryz.prog W = .ok (.bool (!decide ((⟨cf, cr, ck⟩ : HD) = ⟨df, dr, dk⟩))) W := fun W => hold_neq _ _ _ _ _ _ W
        have hasy : (⟨cf, cr, ck⟩ : HD) ≠ ⟨df, dr, dk⟩ → lessB ⟨df, dr, dk⟩ ⟨cf, cr, ck⟩ = !lessB ⟨cf, cr, ck⟩ ⟨df, dr, dk⟩ := fun h => less_asym h
        clear hq4 hlen hhd hxz hc hd ha hb hsm HS13 HP13 HkC HkD
        by_cases hcd : ((⟨cf, cr, ck⟩ : HD) = ⟨df, dr, dk⟩)
        · rw [decide_eq_true hcd] at hcmp
          clear hasy hcd
          go_wp2_with fail
          refine wp_region_cls (by kernel_rfl) (by kernel_rfl) ?_
          simp only [List.append_eq, List.cons_append, List.nil_append]
          repeat (go_big_quiet_step (first | (go_at_call 26; exact C1.out _) | (go_at_call 28; exact C3.out _) | (go_at_call 27; first | (with_reducible exact C2.out _) | (with_reducible exact C4.out _)) | (go_at_call 29; exact C5.out _) | (go_at_call 30; exact C6.out _) | (go_at_call 31; first | (with_reducible exact C7.out _) | (with_reducible exact C9.out _)) | (go_at_call 32; exact C8.out _)))
          refine wpQuiet_nil ?_
          rintro _ ⟨z, rfl⟩
          have hEnd := HEnd.out z.W z.h
          go_wp2_with fail
          go_meet
          exact ⟨rfl, hEnd.1, hEnd.2⟩
        · have hx := hasy hcd
          rw [decide_eq_false hcd] at hcmp
          rw [hx] at C9
          clear hasy hcd hx
          generalize lessB ⟨cf, cr, ck⟩ ⟨df, dr, dk⟩ = x at *
          cases x
          · skip
            go_wp2_with fail
            refine wp_region_cls (by kernel_rfl) (by kernel_rfl) ?_
            simp only [List.append_eq, List.cons_append, List.nil_append]
            repeat (go_big_quiet_step (first | (go_at_call 26; exact C1.out _) | (go_at_call 28; exact C3.out _) | (go_at_call 27; first | (with_reducible exact C2.out _) | (with_reducible exact C4.out _)) | (go_at_call 29; exact C5.out _) | (go_at_call 30; exact C6.out _) | (go_at_call 31; first | (with_reducible exact C7.out _) | (with_reducible exact C9.out _)) | (go_at_call 32; exact C8.out _)))
            refine wpQuiet_nil ?_
            rintro _ ⟨z, rfl⟩
            have hEnd := HEnd.out z.W z.h
            go_wp2_with fail
            go_meet
            exact ⟨rfl, hEnd.1, hEnd.2⟩
          · skip
            go_wp2_with fail
            refine wp_region_cls (by kernel_rfl) (by kernel_rfl) ?_
            simp only [List.append_eq, List.cons_append, List.nil_append]
            repeat (go_big_quiet_step (first | (go_at_call 26; exact C1.out _) | (go_at_call 28; exact C3.out _) | (go_at_call 27; first | (with_reducible exact C2.out _) | (with_reducible exact C4.out _)) | (go_at_call 29; exact C5.out _) | (go_at_call 30; exact C6.out _) | (go_at_call 31; first | (with_reducible exact C7.out _) | (with_reducible exact C9.out _)) | (go_at_call 32; exact C8.out _)))
            refine wpQuiet_nil ?_
            rintro _ ⟨z, rfl⟩
            have hEnd := HEnd.out z.W z.h
            go_wp2_with fail
            go_meet
            exact ⟨rfl, hEnd.1, hEnd.2⟩
    case rest =>
      obtain ⟨rfl, hP9, hS9⟩ := hcut
      have HPF := Lib.hid hP9
      have HSF := Lib.hid hS9
      have HFQ : Hid (cd = 0 → textT q = u ∧ PFit q) := fun h => by
        have h2 : (readP u).2 = 0 := by rw [Hrd.out]; exact h
        have a1 := read_text h2
        have a2 := read_fit h2
        rw [Hrd.out] at a1 a2
        exact ⟨a1, a2⟩
      have HTN : Hid (t ≠ ⟨#[]⟩ → readP t = (p, 0)) := fun h => by
        rw [← Ht.out] at h ⊢
        cases hrb : rightB p
        · exact absurd (text_none hrb) h
        · exact read_back hrb
      have Hpl : Hid (RisesL hs → RisesL (putL hs ⟨hf, hr, hk⟩) ∧ (putL hs ⟨hf, hr, hk⟩).count ⟨hf, hr, hk⟩ = 1) := fun h => ⟨put_rises (by omega) h, put_once (by omega) h⟩
      have hpn : (putL hs ⟨hf, hr, hk⟩).length ≤ 6 := by
        by_cases hx : (⟨hf, hr, hk⟩ : HD) ∈ hs
        · rw [putL_there (by omega) hx]; omega
        · rw [putL_len (by omega) hx]; omega
      clear hP9 hS9 HkC HkD HS13 HP13 hc hd ha hb hhd
      generalize putL hs ⟨hf, hr, hk⟩ = pl at *
      obtain ⟨kH0, kH1, kH2⟩ : wc.cell? ⟨gh, 0, none⟩ = some (.string hf) ∧ wc.cell? ⟨gh, 1, none⟩ = some (.int .i64 hr) ∧ wc.cell? ⟨gh, 2, none⟩ = some (.int .i64 hk) := ⟨HSF.out.kH.cell 0, HSF.out.kH.cell 1, HSF.out.kH.cell 2⟩
      have HkH := Lib.hid (And.intro kH0 (And.intro kH1 kH2))
      clear kH0 kH1 kH2
      go_wp2_with fail
      go_loopw [19, 20] (fun m i wr => ∃ k c : Nat, k ≤ pl.length ∧ i = .int .i64 k ∧ m = .int .i64 c ∧ c ≤ k ∧ Hid ((pl.take k).count ⟨hf, hr, hk⟩ = c) ∧ Below wc.heap.size wc wr) (fun _ i _ => pl.length - (intOf i).toNat)
      case atStart => exact ⟨0, 0, Nat.zero_le _, rfl, rfl, Nat.le_refl _, by simp [Hid], Below.refl _ _⟩
      case round =>
        obtain ⟨k, c, hkl, rfl, rfl, hck, HC, hB⟩ := hrel
        by_cases hlt : k < pl.length
        · as_aux_lemma =>
            have hP := HPF.out.on hB
            obtain ⟨b1, o1, y, rfl, hb1, hy, c0, c1, c2⟩ := hP.1.hold hlt
            obtain ⟨b2, o2, y', rfl, hb2, hy', d0, d1, d2⟩ := hP.2.1.hold hlt
            obtain rfl : y' = y := Option.some.inj (hy'.symm.trans hy)
            have e0 := Cls.cell c0
            have e1 := Cls.cell c1
            have e2 := Cls.cell c2
            have f0 := Cls.cell d0
            have f1 := Cls.cell d1
            have f2 := Cls.cell d2
            have hN : ∀ W : World, (binOp .neq 49 (holdV y'.f y'.r y'.c) (holdV y'.f y'.r y'.c)).run Tryz.prog W = .ok (.bool false) W := fun W => by rw [hold_neq]; simp
            have HE : Hid (∀ W : World, (binOp .eql 49 (holdV y'.f y'.r y'.c) (holdV hf hr hk)).run Tryz.prog W = .ok (.bool (decide (y' = ⟨hf, hr, hk⟩))) W) := fun W => hold_eql _ _ _ _ _ _ W
            have HC2 : Hid ((pl.take (k + 1)).count ⟨hf, hr, hk⟩ = if y' = ⟨hf, hr, hk⟩ then c + 1 else c) := by
              rw [Hid, List.take_add_one, hy, List.count_append, HC.out]
              by_cases e : y' = ⟨hf, hr, hk⟩ <;> simp [e, List.count_cons]
            clear hy hy' hb1 hb2 c0 c1 c2 d0 d1 d2 hP HC
            have k1 : decide (k < pl.length) = true := decide_eq_true hlt
            have k2 : decide ((k : Int) < (pl.length : Int)) = true := decide_eq_true (by omega)
            go_wp2_with fail
            refine wp_region_cls (by kernel_rfl) (by kernel_rfl) ?_
            repeat (go_big_quiet_step (fail))
            refine wpQuiet_nil ?_
            rintro _ ⟨z, rfl⟩
            have hBz := hB.trans (z.h.mono hB.size)
            have g0 := Cls.cell (e0 z)
            have g1 := Cls.cell (e1 z)
            have g2 := Cls.cell (e2 z)
            have q0 := Cls.cell (kc hBz HkH.out.1 (World.block_lt_of_cell? wc ⟨gh, 0, none⟩ HkH.out.1))
            have q1 := Cls.cell (kc hBz HkH.out.2.1 (World.block_lt_of_cell? wc ⟨gh, 1, none⟩ HkH.out.2.1))
            have q2 := Cls.cell (kc hBz HkH.out.2.2 (World.block_lt_of_cell? wc ⟨gh, 2, none⟩ HkH.out.2.2))
            clear e0 e1 e2 f0 f1 f2 hN
            have HE2 := HE.out
            by_cases hyx : y' = ⟨hf, hr, hk⟩
            · rw [decide_eq_true hyx] at HE2
              have HC3 := HC2.out
              rw [if_pos hyx] at HC3
              have HC4 := Lib.hid HC3
              clear HC3 HC2 HE hyx hbig hbig'
              go_wp2_with fail
              refine wp_region_cls (by kernel_rfl) (by kernel_rfl) ?_
              repeat (go_big_quiet_step (fail))
              refine wpQuiet_nil ?_
              rintro _ ⟨z2, rfl⟩
              have hBy := hBz.trans (z2.h.mono hBz.size)
              go_wp2_with fail
              go_roundw
              case rel => exact ⟨k + 1, c + 1, by omega, by go_num, by go_num, by omega, HC4, hBy⟩
              case measure => simp [intOf]; omega
            · rw [decide_eq_false hyx] at HE2
              have HC3 := HC2.out
              rw [if_neg hyx] at HC3
              have HC4 := Lib.hid HC3
              clear HC3 HC2 HE hyx hbig hbig'
              go_wp2_with fail
              refine wp_region_cls (by kernel_rfl) (by kernel_rfl) ?_
              repeat (go_big_quiet_step (fail))
              refine wpQuiet_nil ?_
              rintro _ ⟨z2, rfl⟩
              have hBy := hBz.trans (z2.h.mono hBz.size)
              go_wp2_with fail
              go_roundw
              case rel => exact ⟨k + 1, c, by omega, by go_num, rfl, by omega, HC4, hBy⟩
              case measure => simp [intOf]; omega
        · obtain rfl : k = pl.length := by omega
          rw [List.take_length] at HC
          clear hck hbig hbig'
          go_wp2_with fail
          go_loopw [18, 21] (fun vb i wr2 => ∃ (k : Nat) (b : Bool), 1 ≤ k ∧ (k ≤ hs.length ∨ k = 1) ∧ i = .int .i64 k ∧ vb = .bool b ∧ Hid (b = true → ∀ j x y, j + 1 < k → hs[j]? = some x → hs[j + 1]? = some y → lessB x y = true) ∧ Below wc.heap.size wc wr2) (fun _ i _ => hs.length - (intOf i).toNat)
          case atStart => exact ⟨1, true, Nat.le_refl _, .inr rfl, rfl, rfl, fun _ j x y h => absurd h (by omega), hB⟩
          case round =>
            obtain ⟨k, bb, hk0, hkl, rfl, rfl, HR, hB2⟩ := hrel
            by_cases hlt2 : k < hs.length
            · cases bb
              · as_aux_lemma =>
                  clear HR hkl
                  go_wp2_with fail
                  refine wp_region_cls (by kernel_rfl) (by kernel_rfl) ?_
                  repeat (go_big_quiet_step (fail))
                  refine wpQuiet_nil ?_
                  rintro _ ⟨z, rfl⟩
                  have hBz := hB2.trans (z.h.mono hB2.size)
                  go_wp2_with fail
                  go_roundw
                  case rel => exact ⟨k + 1, false, by omega, .inl (by omega), by go_num, rfl, (fun h => by cases h), hBz⟩
                  case measure => simp [intOf]; omega
              · as_aux_lemma =>
                  have hL := HPF.out.2.2.on hB2
                  obtain ⟨b1, o1, x, hH, hb1, hx, c0, c1, c2⟩ := hL.hold hlt2
                  obtain ⟨b2, o2, y, hH', hb2, hy, d0, d1, d2⟩ := hL.hold (show k - 1 < hs.length by omega)
                  subst hH
                  cases hH'
                  have HR2 : Hid (lessB y x = true → ∀ j x y, j + 1 < k + 1 → hs[j]? = some x → hs[j + 1]? = some y → lessB x y = true) := fun hyx j x' y' hj hx' hy' => by
                    rcases Nat.lt_or_ge (j + 1) k with h1 | h1
                    · exact HR.out rfl j x' y' h1 hx' hy'
                    · obtain rfl : k = j + 1 := by omega
                      rw [Nat.add_sub_cancel, hx'] at hy
                      rw [hy'] at hx
                      cases hx
                      cases hy
                      exact hyx
                  have HLq : Hid (∀ z : Cls wr, Calls Tryz.prog 32 #[holdV y.f y.r y.c, holdV x.f x.r x.c] z.W fun e w'' => e = .returned (.bool (lessB y x)) ∧ ∃ z' : Cls wr, w'' = z'.W) := fun z => Cls.call (sHoldLess_any y x z.W)
                  have e0 := Cls.cell c0
                  have e1 := Cls.cell c1
                  have e2 := Cls.cell c2
                  have f0 := Cls.cell d0
                  have f1 := Cls.cell d1
                  have f2 := Cls.cell d2
                  have hw1 : IntKind.i64.wrap ((k : Int) - 1) = (k : Int) - 1 := IntWalk.i64_in _ (by omega)
                  have hw2 : (0 : Int) ≤ (k : Int) - 1 := by omega
                  have hw4 : (k : Int) - 1 < (hs.length : Int) := by omega
                  have hw3 : ((k : Int) - 1).toNat = k - 1 := by omega
                  clear hL hx hy HR hb1 hb2 c0 c1 c2 d0 d1 d2 hkl
                  generalize lessB y x = bz at *
                  go_wp2_with fail
                  refine wp_region_cls (by kernel_rfl) (by kernel_rfl) ?_
                  repeat (go_big_quiet_step (first | (go_at_call 32; exact HLq.out _)))
                  refine wpQuiet_nil ?_
                  rintro _ ⟨z, rfl⟩
                  have hBz := hB2.trans (z.h.mono hB2.size)
                  clear hw1 hw3
                  go_wp2_with fail
                  go_roundw
                  case rel => exact ⟨k + 1, bz, by omega, .inl (by omega), by go_num, rfl, HR2, hBz⟩
                  case measure => simp [intOf]; omega
            · have HRS : Hid (bb = true → RisesL hs) := fun h => steps_rise fun j x y hx hy => HR.out h j x y (by
                have := (List.getElem?_eq_some_iff.1 hy).1
                omega) hx hy
              clear HR hkl
              go_upto_block 4 with fail
              go_cut [22] (fun _ W => Below wc.heap.size wc W)
              case first =>
                as_aux_lemma =>
                  cases bb
                  · clear HRS Hpl HC
                    go_wp2_with fail
                    go_loopw [22] (fun i wr => i = .int .i64 1 ∧ Below wc.heap.size wc wr) (fun _ _ => 0)
                    case atStart => exact ⟨rfl, hB2⟩
                    case round =>
                      obtain ⟨rfl, hB3⟩ := hrel
                      by_cases h1 : 1 < pl.length
                      · have h1' : decide ((1 : Int) < (pl.length : Int)) = true := decide_eq_true (by omega)
                        go_wp2_with fail
                        go_meet
                        exact hB3
                      · have h1' : decide ((1 : Int) < (pl.length : Int)) = false := decide_eq_false (by omega)
                        go_wp2_with fail
                        go_meet
                        exact hB3
                  · obtain ⟨hr1, hr2⟩ := Hpl.out (HRS.out rfl)
                    obtain rfl : c = 1 := HC.out.symm.trans hr2
                    have HSt := Lib.hid (rise_steps hr1)
                    clear HRS Hpl HC hr1 hr2
                    go_wp2_with fail
                    go_loopw [22] (fun i wr => ∃ k : Nat, 1 ≤ k ∧ (k ≤ pl.length ∨ k = 1) ∧ i = .int .i64 k ∧ Below wc.heap.size wc wr) (fun i _ => pl.length - (intOf i).toNat)
                    case atStart => exact ⟨1, Nat.le_refl _, .inr rfl, rfl, hB2⟩
                    case round =>
                      obtain ⟨k, hk0, hkl, rfl, hB3⟩ := hrel
                      by_cases hlt3 : k < pl.length
                      · have hL := HPF.out.1.on hB3
                        obtain ⟨b1, o1, x, hH, hb1, hx, c0, c1, c2⟩ := hL.hold hlt3
                        obtain ⟨b2, o2, y, hH', hb2, hy, d0, d1, d2⟩ := hL.hold (show k - 1 < pl.length by omega)
                        subst hH
                        cases hH'
                        have hyx : lessB y x = true := HSt.out (k - 1) y x hy (by rw [Nat.sub_add_cancel hk0]; exact hx)
                        have HLq : Hid (∀ z : Cls wr, Calls Tryz.prog 32 #[holdV y.f y.r y.c, holdV x.f x.r x.c] z.W fun e w'' => e = .returned (.bool true) ∧ ∃ z' : Cls wr, w'' = z'.W) := fun z => Cls.call (hyx ▸ sHoldLess_any y x z.W)
                        have e0 := Cls.cell c0
                        have e1 := Cls.cell c1
                        have e2 := Cls.cell c2
                        have f0 := Cls.cell d0
                        have f1 := Cls.cell d1
                        have f2 := Cls.cell d2
                        have hw1 : IntKind.i64.wrap ((k : Int) - 1) = (k : Int) - 1 := IntWalk.i64_in _ (by omega)
                        have hw2 : (0 : Int) ≤ (k : Int) - 1 := by omega
                        have hw4 : (k : Int) - 1 < (pl.length : Int) := by omega
                        have hw3 : ((k : Int) - 1).toNat = k - 1 := by omega
                        clear hL hx hy hyx hb1 hb2 c0 c1 c2 d0 d1 d2 hkl
                        go_wp2_with fail
                        refine wp_region_cls (by kernel_rfl) (by kernel_rfl) ?_
                        repeat (go_big_quiet_step (first | (go_at_call 32; exact HLq.out _)))
                        refine wpQuiet_nil ?_
                        rintro _ ⟨z, rfl⟩
                        have hBz := hB3.trans (z.h.mono hB3.size)
                        clear hw1 hw3
                        go_wp2_with fail
                        go_roundw
                        case rel => exact ⟨k + 1, by omega, .inl (by omega), by go_num, hBz⟩
                        case measure => simp [intOf]; omega
                      · have h1' : decide ((k : Int) < (pl.length : Int)) = false := decide_eq_false (by omega)
                        go_wp2_with fail
                        go_meet
                        exact hB3
              case rest =>
                have hB3 := hcut
                clear HRS Hpl HC hcut
                have hX := HSF.out.on hB3
                have hx0 := hX.X.blk.cell
                have hp0 := hX.P.blk.cell
                have HX := Lib.hid hX
                have HRt : Hid (t ≠ ⟨#[]⟩ → ∀ W : World, Below wc.heap.size wc W → Calls Tryz.prog 19 #[.string t] W fun e w' => (∃ G1 g1 G2 g2, e = .returned (outPV p G1 g1 G2 g2 0) ∧ w'.ownsRow W.heap.size 9 1 (.slice G1 p.names.length g1) p.names.length (strsC p.names) ∧ w'.ownsRow W.heap.size 49 3 (.slice G2 p.holds.length g2) p.holds.length (holdsC p.holds)) ∧ Below W.heap.size W w') := fun ht0 W hW => by
                  have := HRi.out t W (HX.out.B.trans (hW.mono HX.out.B.size))
                  rwa [HTN.out ht0] at this
                have HSm : Hid (∀ (W : World) G1 g1 G2 g2, Below wc.heap.size wc W → PLies W W.heap.size p G1 G2 → Calls Tryz.prog 27 #[pdV p G1 g1 G2 g2, pdV p A1 c1 A2 c2] W fun e w' => e = .returned (.bool true) ∧ Below W.heap.size W w') := fun W G1 g1 G2 g2 hW hG => by
                  have := sPnrSame_any p p G1 g1 G2 g2 A1 c1 A2 c2 W hG (HX.out.P.lies.on hW) (by have := hsm.1; omega) (by have := hsm.2.1; omega) (by have := hsm.1; omega) (by have := hsm.2.1; omega)
                  rwa [sameB_yes] at this
                have z0 : ∀ (z : Cls wc) (i : Nat), z.W.cell? ⟨gp, i, none⟩ = (pdCs p A1 c1 A2 c2)[i]? := fun z i => Cls.blk HX.out.P.blk z i
                have z1 : ∀ (z : Cls wc) (i : Nat), z.W.cell? ⟨gx, i, none⟩ = (outCs q X1 x1 X2 x2 cd)[i]? := fun z i => Cls.blk HX.out.X.blk z i
                clear hX HPF HSF
                by_cases hcd : cd = 0
                · have HTq : Hid (∀ W : World, Below wc.heap.size wc W → Calls Tryz.prog 17 #[pdV q X1 x1 X2 x2] W fun e w' => e = .returned (.string u) ∧ Below W.heap.size W w') := fun W hW => by
                    obtain ⟨h1, h2⟩ := HFQ.out hcd
                    have := iPnrText_any q X1 x1 X2 x2 W ((show PLies wc _ _ _ _ from ⟨Lies.own HX.out.X.ns, Lies.own HX.out.X.hs⟩).on hW) h2 (by omega) (by omega)
                    rwa [h1] at this
                  subst hcd
                  have HTz : Hid (∀ z : Cls wc, Calls Tryz.prog 17 #[pdV q X1 x1 X2 x2] z.W fun e w'' => e = .returned (.string u) ∧ ∃ z' : Cls wc, w'' = z'.W) := fun z => Cls.call (HTq.out z.W z.h)
                  by_cases ht0 : t = ⟨#[]⟩
                  · as_aux_lemma =>
                      clear HRt HSm HTq HFQ HTN Hrd hx0 hp0 hq4
                      go_wp2_with fail
                      refine wp_region_cls (by kernel_rfl) (by kernel_rfl) ?_
                      repeat (go_big_quiet_step (first | (go_at_call 17; exact HTz.out _)))
                      refine wpQuiet_nil ?_
                      rintro _ ⟨z, rfl⟩
                      have hEnd := (HX.out.on z.h).B
                      go_wp2_with fail
                      go_ret
                      exact ⟨rfl, hEnd⟩
                  · as_aux_lemma =>
                      replace HRt := Lib.hid (HRt.out ht0)
                      clear HTz HFQ HTN Hrd z0 z1 hq4
                      go_wp2_with fail
                      have hcur := (Below.refl wc.heap.size wc).drew
                      have HSall : Hid (∀ W : World, Below wc.heap.size wc W → (∀ i : Nat, W.cell? ⟨gp, i, none⟩ = (pdCs p A1 c1 A2 c2)[i]?) ∧ (∀ i : Nat, W.cell? ⟨gx, i, none⟩ = (outCs q X1 x1 X2 x2 0)[i]?)) := fun W hW => ⟨(HX.out.on hW).P.blk.cell, (HX.out.on hW).X.blk.cell⟩
                      have ht3 := str_nonempty ht0
                      have hFld : ∀ (G1 : Option Addr) (g1 : Nat) (G2 : Option Addr) (g2 : Nat) (W : World), (Instr.field 44 (outPV p G1 g1 G2 g2 0) 0).run Tryz.prog W = .ok (pdV p G1 g1 G2 g2) W := fun _ _ _ _ _ => by kernel_rfl
                      go_region_held3 (fun W => (∀ i : Nat, W.cell? ⟨gp, i, none⟩ = (pdCs p A1 c1 A2 c2)[i]?) ∧ (∀ i : Nat, W.cell? ⟨gx, i, none⟩ = (outCs q X1 x1 X2 x2 0)[i]?)) (with_reducible exact HSall.out _ hcur) (first
                        | (go_at_call 17; (with_reducible refine (HTq.out _ hcur).mono ?_); rintro e wA ⟨rfl, hbA⟩; have hcur := hcur.trans (hbA.mono hcur.size))
                        | (go_at_call 19; (with_reducible refine (HRt.out _ hcur).mono ?_); rintro e wB ⟨⟨G1, g1, G2, g2, rfl, r1, r2⟩, hbB⟩; have LB := Lib.hid (show PLies wB wB.heap.size p G1 G2 from ⟨Lies.own r1, Lies.own r2⟩); have hcur := hcur.trans (hbB.mono hcur.size); clear r1 r2 hbB)
                        | (go_at_call 27; (with_reducible refine (HSm.out _ _ _ _ _ hcur LB.out).mono ?_); rintro e wC ⟨rfl, hbC⟩; have hcur := hcur.trans (hbC.mono hcur.size)))
                      all_goals
                        have hEnd := (HX.out.on hcur).B
                        go_wp2_with fail
                        go_ret
                        exact ⟨rfl, hEnd⟩
                · have hcd2 : decide (cd = 0) = false := decide_eq_false hcd
                  have hcd3 : (cd == 0) = false := beq_eq_false_iff_ne.2 hcd
                  have hcd4 : (cd != 0) = true := bne_iff_ne.2 hcd
                  by_cases ht0 : t = ⟨#[]⟩
                  · as_aux_lemma =>
                      clear HRt HSm HFQ HTN Hrd hx0 hp0 hq4
                      go_wp2_with fail
                      refine wp_region_cls (by kernel_rfl) (by kernel_rfl) ?_
                      repeat (go_big_quiet_step (first | (go_at_call 17; exact HTz.out _)))
                      refine wpQuiet_nil ?_
                      rintro _ ⟨z, rfl⟩
                      have hEnd := (HX.out.on z.h).B
                      go_wp2_with fail
                      go_ret
                      exact ⟨rfl, hEnd⟩
                  · as_aux_lemma =>
                      replace HRt := Lib.hid (HRt.out ht0)
                      clear HFQ HTN Hrd z0 z1 hq4
                      go_wp2_with fail
                      have hcur := (Below.refl wc.heap.size wc).drew
                      have HSall : Hid (∀ W : World, Below wc.heap.size wc W → (∀ i : Nat, W.cell? ⟨gp, i, none⟩ = (pdCs p A1 c1 A2 c2)[i]?) ∧ (∀ i : Nat, W.cell? ⟨gx, i, none⟩ = (outCs q X1 x1 X2 x2 cd)[i]?)) := fun W hW => ⟨(HX.out.on hW).P.blk.cell, (HX.out.on hW).X.blk.cell⟩
                      have ht3 := str_nonempty ht0
                      have hFld : ∀ (G1 : Option Addr) (g1 : Nat) (G2 : Option Addr) (g2 : Nat) (W : World), (Instr.field 44 (outPV p G1 g1 G2 g2 0) 0).run Tryz.prog W = .ok (pdV p G1 g1 G2 g2) W := fun _ _ _ _ _ => by kernel_rfl
                      refine wp_region_held_drew (S := (fun W => (∀ i : Nat, W.cell? ⟨gp, i, none⟩ = (pdCs p A1 c1 A2 c2)[i]?) ∧ (∀ i : Nat, W.cell? ⟨gx, i, none⟩ = (outCs q X1 x1 X2 x2 cd)[i]?))) (by kernel_rfl) (by with_reducible exact HSall.out _ hcur) (fun hHeld => ?_)
                      refine wpAnyH_take (i := 0) (oi := { dst := some 193, op := Op.fieldAddr 44 (Operand.tmp 8) 1, type := 0, pos := "laws.go:147", after := #[], guard := none }) (v := .pointer (some ⟨gx, 7, none⟩)) rfl (by kernel_rfl) (by kernel_rfl) (by kernel_rfl) (fun _ _ _ h => h) (Or.inl ⟨by rfl, (fun W hSw => by (try dsimp only at hSw); first | (go_simp; done) | (go_simp; with_reducible rfl))⟩) hHeld ?_
                      try simp only [Act.put, List.setIfInBounds_toArray, List.set_cons_zero, List.set_cons_succ]
                      refine wpAnyH_take (i := 1) (oi := { dst := some 194, op := Op.load 2 (Operand.tmp 193), type := 2, pos := "laws.go:147", after := #[{ on := 0, ground := Ground.data }], guard := none }) (v := .int .i64 cd) rfl (by kernel_rfl) (by kernel_rfl) (by kernel_rfl) (fun _ _ _ h => h) (Or.inl ⟨by rfl, (fun W hSw => by (try dsimp only at hSw); first | (go_simp; done) | (go_simp; with_reducible rfl))⟩) hHeld ?_
                      try simp only [Act.put, List.setIfInBounds_toArray, List.set_cons_zero, List.set_cons_succ]
                      refine wpAnyH_take (i := 2) (oi := { dst := some 195, op := Op.binOp BinOp.neq 2 (Operand.tmp 194) (Operand.const (Value.int IntKind.i64 0)) 2, type := 4, pos := "laws.go:147", after := #[{ on := 1, ground := Ground.data }], guard := none }) (v := .bool true) rfl (by kernel_rfl) (by kernel_rfl) (by kernel_rfl) (fun _ _ _ h => h) (Or.inl ⟨by rfl, (fun W hSw => by (try dsimp only at hSw); first | (go_simp; done) | (go_simp; with_reducible rfl))⟩) hHeld ?_
                      try simp only [Act.put, List.setIfInBounds_toArray, List.set_cons_zero, List.set_cons_succ]
                      refine wpAnyH_take (i := 3) (oi := { dst := some 196, op := Op.move (Operand.tmp 195), type := 4, pos := "laws.go:147", after := #[{ on := 2, ground := Ground.data }], guard := none }) (v := .bool true) rfl (by kernel_rfl) (by kernel_rfl) (by kernel_rfl) (fun _ _ _ h => h) (Or.inl ⟨by rfl, (fun W hSw => by (try dsimp only at hSw); first | (go_simp; done) | (go_simp; with_reducible rfl))⟩) hHeld ?_
                      try simp only [Act.put, List.setIfInBounds_toArray, List.set_cons_zero, List.set_cons_succ]
                      refine wpAnyH_take (i := 4) (oi := { dst := some 197, op := Op.fieldAddr 44 (Operand.tmp 8) 0, type := 0, pos := "laws.go:147", after := #[{ on := 3, ground := Ground.guard }], guard := some (3, false) }) (v := undef) rfl (by kernel_rfl) (by kernel_rfl) (by kernel_rfl) (fun _ _ _ h => h) (Or.inr ⟨by rfl, rfl⟩) hHeld ?_
                      try simp only [Act.put, List.setIfInBounds_toArray, List.set_cons_zero, List.set_cons_succ]
                      refine wpAnyH_take (i := 5) (oi := { dst := some 198, op := Op.load 40 (Operand.tmp 197), type := 40, pos := "laws.go:147", after := #[{ on := 4, ground := Ground.data }, { on := 3, ground := Ground.guard }], guard := some (3, false) }) (v := undef) rfl (by kernel_rfl) (by kernel_rfl) (by kernel_rfl) (fun _ _ _ h => h) (Or.inr ⟨by rfl, rfl⟩) hHeld ?_
                      try simp only [Act.put, List.setIfInBounds_toArray, List.set_cons_zero, List.set_cons_succ]
                      refine wpAnyH_take (i := 6) (oi := { dst := some 199, op := Op.call { callee := Callee.value (Operand.func 17), args := #[Operand.tmp 198], argTypes := #[40] }, type := 9, pos := "laws.go:147", after := #[{ on := 5, ground := Ground.data }, { on := 3, ground := Ground.chain }, { on := 3, ground := Ground.guard }], guard := some (3, false) }) (v := undef) rfl (by kernel_rfl) (by kernel_rfl) (by kernel_rfl) (fun _ _ _ h => h) (Or.inr ⟨by rfl, rfl⟩) hHeld ?_
                      try simp only [Act.put, List.setIfInBounds_toArray, List.set_cons_zero, List.set_cons_succ]
                      refine wpAnyH_take (i := 7) (oi := { dst := some 200, op := Op.move (Operand.tmp 7), type := 9, pos := "laws.go:147", after := #[{ on := 3, ground := Ground.guard }], guard := some (3, false) }) (v := undef) rfl (by kernel_rfl) (by kernel_rfl) (by kernel_rfl) (fun _ _ _ h => h) (Or.inr ⟨by rfl, rfl⟩) hHeld ?_
                      try simp only [Act.put, List.setIfInBounds_toArray, List.set_cons_zero, List.set_cons_succ]
                      refine wpAnyH_take (i := 8) (oi := { dst := some 201, op := Op.binOp BinOp.eql 9 (Operand.tmp 199) (Operand.tmp 200) 9, type := 4, pos := "laws.go:147", after := #[{ on := 6, ground := Ground.data }, { on := 7, ground := Ground.data }, { on := 3, ground := Ground.guard }], guard := some (3, false) }) (v := undef) rfl (by kernel_rfl) (by kernel_rfl) (by kernel_rfl) (fun _ _ _ h => h) (Or.inr ⟨by rfl, rfl⟩) hHeld ?_
                      try simp only [Act.put, List.setIfInBounds_toArray, List.set_cons_zero, List.set_cons_succ]
                      refine wpAnyH_take (i := 9) (oi := { dst := some 202, op := Op.pick (Operand.tmp 196) (Operand.const (Value.bool true)) (Operand.tmp 201), type := 4, pos := "laws.go:147", after := #[{ on := 3, ground := Ground.data }, { on := 8, ground := Ground.data }], guard := none }) (v := .bool true) rfl (by kernel_rfl) (by kernel_rfl) (by kernel_rfl) (fun _ _ _ h => h) (Or.inl ⟨by rfl, (fun W hSw => by (try dsimp only at hSw); first | (go_simp; done) | (go_simp; with_reducible rfl))⟩) hHeld ?_
                      try simp only [Act.put, List.setIfInBounds_toArray, List.set_cons_zero, List.set_cons_succ]
                      refine wpAnyH_take (i := 10) (oi := { dst := some 203, op := Op.move (Operand.tmp 202), type := 4, pos := "laws.go:147", after := #[{ on := 9, ground := Ground.data }, { on := 6, ground := Ground.chain }], guard := none }) (v := .bool true) rfl (by kernel_rfl) (by kernel_rfl) (by kernel_rfl) (fun _ _ _ h => h) (Or.inl ⟨by rfl, (fun W hSw => by (try dsimp only at hSw); first | (go_simp; done) | (go_simp; with_reducible rfl))⟩) hHeld ?_
                      try simp only [Act.put, List.setIfInBounds_toArray, List.set_cons_zero, List.set_cons_succ]
                      refine wpAnyH_take (i := 11) (oi := { dst := some 204, op := Op.move (Operand.tmp 6), type := 9, pos := "laws.go:147", after := #[{ on := 10, ground := Ground.guard }], guard := some (10, true) }) (v := .string t) rfl (by kernel_rfl) (by kernel_rfl) (by kernel_rfl) (fun _ _ _ h => h) (Or.inl ⟨by rfl, (fun W hSw => by (try dsimp only at hSw); first | (go_simp; done) | (go_simp; with_reducible rfl))⟩) hHeld ?_
                      try simp only [Act.put, List.setIfInBounds_toArray, List.set_cons_zero, List.set_cons_succ]
                      refine wpAnyH_take (i := 12) (oi := { dst := some 205, op := Op.binOp BinOp.eql 9 (Operand.tmp 204) (Operand.const (Value.string { data := #[] })) 9, type := 4, pos := "laws.go:147", after := #[{ on := 11, ground := Ground.data }, { on := 10, ground := Ground.guard }], guard := some (10, true) }) (v := .bool false) rfl (by kernel_rfl) (by kernel_rfl) (by kernel_rfl) (fun _ _ _ h => h) (Or.inl ⟨by rfl, (fun W hSw => by (try dsimp only at hSw); first | (go_simp; done) | (go_simp; with_reducible rfl))⟩) hHeld ?_
                      try simp only [Act.put, List.setIfInBounds_toArray, List.set_cons_zero, List.set_cons_succ]
                      refine wpAnyH_take (i := 13) (oi := { dst := some 206, op := Op.move (Operand.tmp 205), type := 4, pos := "laws.go:147", after := #[{ on := 12, ground := Ground.data }, { on := 10, ground := Ground.chain }, { on := 10, ground := Ground.guard }], guard := some (10, true) }) (v := .bool false) rfl (by kernel_rfl) (by kernel_rfl) (by kernel_rfl) (fun _ _ _ h => h) (Or.inl ⟨by rfl, (fun W hSw => by (try dsimp only at hSw); first | (go_simp; done) | (go_simp; with_reducible rfl))⟩) hHeld ?_
                      try simp only [Act.put, List.setIfInBounds_toArray, List.set_cons_zero, List.set_cons_succ]
                      refine wpAnyH_take (i := 14) (oi := { dst := some 207, op := Op.move (Operand.tmp 6), type := 9, pos := "laws.go:147", after := #[{ on := 13, ground := Ground.guard }], guard := some (13, false) }) (v := .string t) rfl (by kernel_rfl) (by kernel_rfl) (by kernel_rfl) (fun _ _ _ h => h) (Or.inl ⟨by rfl, (fun W hSw => by (try dsimp only at hSw); first | (go_simp; done) | (go_simp; with_reducible rfl))⟩) hHeld ?_
                      try simp only [Act.put, List.setIfInBounds_toArray, List.set_cons_zero, List.set_cons_succ]
                      refine wpAnyH_take (i := 17) (oi := { dst := some 210, op := Op.load 40 (Operand.tmp 5), type := 40, pos := "laws.go:147", after := #[{ on := 13, ground := Ground.guard }], guard := some (13, false) }) (v := pdV p A1 c1 A2 c2) rfl (by kernel_rfl) (by kernel_rfl) (by kernel_rfl) (fun _ _ _ h => h) (Or.inl ⟨by rfl, (fun W hSw => by (try dsimp only at hSw); first | (go_simp; done) | (go_simp; with_reducible rfl))⟩) hHeld ?_
                      try simp only [Act.put, List.setIfInBounds_toArray, List.set_cons_zero, List.set_cons_succ]
                      refine wpAnyH_ready (rs := [15]) (by kernel_rfl) (by simp) ?_
                      refine AllReadyH.cons (o := { dst := some 208, op := Op.call { callee := Callee.value (Operand.func 19), args := #[Operand.tmp 207], argTypes := #[9] }, type := 44, pos := "laws.go:147", after := #[{ on := 14, ground := Ground.data }, { on := 13, ground := Ground.chain }, { on := 13, ground := Ground.guard }], guard := some (13, false) }) rfl (fun K hK => ?_) AllReadyH.nil
                      go_simp
                      go_at_call 19
                      with_reducible refine (HRt.out _ hcur).mono ?_
                      rintro e wB ⟨⟨G1, g1, G2, g2, rfl, r1, r2⟩, hbB⟩
                      have LB := Lib.hid (show PLies wB wB.heap.size p G1 G2 from ⟨Lies.own r1, Lies.own r2⟩)
                      have hcur := hcur.trans (hbB.mono hcur.size)
                      clear r1 r2 hbB
                      go_wp2_with fail
                      refine hK.out _ _ ?_ (fun hHeld => ?_)
                      · with_reducible exact HSall.out _ hcur
                      clear hK K
                      try simp only [Act.put, List.setIfInBounds_toArray, List.set_cons_zero, List.set_cons_succ]
                      refine wpAnyH_take (i := 16) (oi := { dst := some 209, op := Op.field 44 (Operand.tmp 208) 0, type := 40, pos := "laws.go:147", after := #[{ on := 15, ground := Ground.data }, { on := 13, ground := Ground.guard }], guard := some (13, false) }) (v := pdV p G1 g1 G2 g2) rfl (by kernel_rfl) (by kernel_rfl) (by kernel_rfl) (fun _ _ _ h => h) (Or.inl ⟨by rfl, (fun W hSw => by (try dsimp only at hSw); first | (go_simp; done) | (go_simp; with_reducible rfl))⟩) hHeld ?_
                      try simp only [Act.put, List.setIfInBounds_toArray, List.set_cons_zero, List.set_cons_succ]
                      refine wpAnyH_ready (rs := [18]) (by kernel_rfl) (by simp) ?_
                      refine AllReadyH.cons (o := { dst := some 211, op := Op.call { callee := Callee.value (Operand.func 27), args := #[Operand.tmp 209, Operand.tmp 210], argTypes := #[40, 40] }, type := 4, pos := "laws.go:147", after := #[{ on := 16, ground := Ground.data }, { on := 17, ground := Ground.data }, { on := 15, ground := Ground.chain }, { on := 13, ground := Ground.guard }], guard := some (13, false) }) rfl (fun K hK => ?_) AllReadyH.nil
                      go_simp
                      go_at_call 27
                      with_reducible refine (HSm.out _ _ _ _ _ hcur LB.out).mono ?_
                      rintro e wC ⟨rfl, hbC⟩
                      have hcur := hcur.trans (hbC.mono hcur.size)
                      go_wp2_with fail
                      refine hK.out _ _ ?_ (fun hHeld => ?_)
                      · with_reducible exact HSall.out _ hcur
                      clear hK K
                      try simp only [Act.put, List.setIfInBounds_toArray, List.set_cons_zero, List.set_cons_succ]
                      refine wpAnyH_take (i := 19) (oi := { dst := some 212, op := Op.pick (Operand.tmp 206) (Operand.const (Value.bool true)) (Operand.tmp 211), type := 4, pos := "laws.go:147", after := #[{ on := 13, ground := Ground.data }, { on := 18, ground := Ground.data }, { on := 10, ground := Ground.guard }], guard := some (10, true) }) (v := .bool true) rfl (by kernel_rfl) (by kernel_rfl) (by kernel_rfl) (fun _ _ _ h => h) (Or.inl ⟨by rfl, (fun W hSw => by (try dsimp only at hSw); first | (go_simp; done) | (go_simp; with_reducible rfl))⟩) hHeld ?_
                      try simp only [Act.put, List.setIfInBounds_toArray, List.set_cons_zero, List.set_cons_succ]
                      refine wpAnyH_take (i := 20) (oi := { dst := some 213, op := Op.pick (Operand.tmp 203) (Operand.tmp 212) (Operand.const (Value.bool false)), type := 4, pos := "laws.go:147", after := #[{ on := 10, ground := Ground.data }, { on := 19, ground := Ground.data }], guard := none }) (v := .bool true) rfl (by kernel_rfl) (by kernel_rfl) (by kernel_rfl) (fun _ _ _ h => h) (Or.inl ⟨by rfl, (fun W hSw => by (try dsimp only at hSw); first | (go_simp; done) | (go_simp; with_reducible rfl))⟩) hHeld ?_
                      try simp only [Act.put, List.setIfInBounds_toArray, List.set_cons_zero, List.set_cons_succ]
                      refine wpAnyH_take (i := 21) (oi := { dst := some 4, op := Op.assign (Operand.tmp 213), type := 4, pos := "laws.go:147", after := #[{ on := 20, ground := Ground.data }, { on := 18, ground := Ground.chain }, { on := 0, ground := Ground.phase }, { on := 1, ground := Ground.phase }, { on := 2, ground := Ground.phase }, { on := 3, ground := Ground.phase }, { on := 4, ground := Ground.phase }, { on := 5, ground := Ground.phase }, { on := 6, ground := Ground.phase }, { on := 7, ground := Ground.phase }, { on := 8, ground := Ground.phase }, { on := 9, ground := Ground.phase }, { on := 10, ground := Ground.phase }, { on := 11, ground := Ground.phase }, { on := 12, ground := Ground.phase }, { on := 13, ground := Ground.phase }, { on := 14, ground := Ground.phase }, { on := 15, ground := Ground.phase }, { on := 16, ground := Ground.phase }, { on := 17, ground := Ground.phase }, { on := 18, ground := Ground.phase }, { on := 19, ground := Ground.phase }, { on := 20, ground := Ground.phase }], guard := none }) (v := .bool true) rfl (by kernel_rfl) (by kernel_rfl) (by kernel_rfl) (fun _ _ _ h => h) (Or.inl ⟨by rfl, (fun W hSw => by (try dsimp only at hSw); first | (go_simp; done) | (go_simp; with_reducible rfl))⟩) hHeld ?_
                      try simp only [Act.put, List.setIfInBounds_toArray, List.set_cons_zero, List.set_cons_succ]
                      refine wpAnyH_done (by kernel_rfl) ?_ _
                      have hEnd := (HX.out.on hcur).B
                      go_wp2_with fail
                      go_ret
                      exact ⟨rfl, hEnd⟩
end Go.Proofs.YtpncnkihfijmaaaGreatDoor
