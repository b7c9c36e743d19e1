/-
  The spec's draws of chapter 4: DrawPnrSame.
-/
import Derived.Test.YtpncnkihfijmaaaGreatDoorM5
namespace Go.Proofs.YtpncnkihfijmaaaGreatDoor
open Go.ChangeShapes Go.WideShapes Go.ChangeAt Go.RowKit Go.ChangeMaps
set_option maxRecDepth 10000
set_option linter.unusedSimpArgs false
set_option linter.unusedVariables false

/-- Two bookings that were drawn. -/
def TwoD (w : World) (e : Ending) (w' : World) : Prop :=
  (∃ (p : PD) (A1 : Option Addr) (c1 : Nat) (A2 : Option Addr) (c2 : Nat) (q : PD) (B1 : Option Addr) (d1 : Nat) (B2 : Option Addr) (d2 : Nat), e = .returned (.tuple #[pdV p A1 c1 A2 c2, pdV q B1 d1 B2 d2]) ∧ Small p 7 5 ∧ Small q 7 5 ∧ PLies w' w'.heap.size p A1 A2 ∧ PLies w' w'.heap.size q B1 B2) ∧ Below w.heap.size w w'

theorem twoD_end {w W : World} {p q : PD} {A1 A2 B1 B2 : Option Addr} {c1 c2 d1 d2 : Nat} {v0 v1 v2 v3 v4 v5 v6 v7 v8 v9 v10 v11 v12 v13 : Value} (P1 : W.ownsRow (w.heap.size + 3) 9 1 (.slice A1 p.names.length c1) p.names.length (strsC p.names)) (P2 : W.ownsRow (w.heap.size + 3) 49 3 (.slice A2 p.holds.length c2) p.holds.length (holdsC p.holds)) (Q1 : W.ownsRow (w.heap.size + 3) 9 1 (.slice B1 q.names.length d1) q.names.length (strsC q.names)) (Q2 : W.ownsRow (w.heap.size + 3) 49 3 (.slice B2 q.holds.length d2) q.holds.length (holdsC q.holds)) (B : Below w.heap.size w W) (hp : Small p 7 5) (hq : Small q 7 5) :
    TwoD w (.returned (.tuple #[pdV p A1 c1 A2 c2, pdV q B1 d1 B2 d2])) ((((((((((((((W.setCell ⟨w.heap.size, 0, none⟩ v0).setCell ⟨w.heap.size, 1, none⟩ v1).setCell ⟨w.heap.size, 2, none⟩ v2).setCell ⟨w.heap.size, 3, none⟩ v3).setCell ⟨w.heap.size, 4, none⟩ v4).setCell ⟨w.heap.size, 5, none⟩ v5).setCell ⟨w.heap.size, 6, none⟩ v6).setCell ⟨w.heap.size + 1, 0, none⟩ v7).setCell ⟨w.heap.size + 1, 1, none⟩ v8).setCell ⟨w.heap.size + 1, 2, none⟩ v9).setCell ⟨w.heap.size + 1, 3, none⟩ v10).setCell ⟨w.heap.size + 1, 4, none⟩ v11).setCell ⟨w.heap.size + 1, 5, none⟩ v12).setCell ⟨w.heap.size + 1, 6, none⟩ v13) := by
  refine ⟨⟨p, A1, c1, A2, c2, q, B1, d1, B2, d2, rfl, hp, hq, ⟨Lies.own (base := w.heap.size + 3) (e := 9) (c := c1) ?_, Lies.own (base := w.heap.size + 3) (e := 49) (c := c2) ?_⟩, ⟨Lies.own (base := w.heap.size + 3) (e := 9) (c := d1) ?_, Lies.own (base := w.heap.size + 3) (e := 49) (c := d2) ?_⟩⟩, ?_⟩
  · iterate 14 (refine ownsRow_setCell_below ?_ (by dsimp only; omega) _)
    exact P1
  · iterate 14 (refine ownsRow_setCell_below ?_ (by dsimp only; omega) _)
    exact P2
  · iterate 14 (refine ownsRow_setCell_below ?_ (by dsimp only; omega) _)
    exact Q1
  · iterate 14 (refine ownsRow_setCell_below ?_ (by dsimp only; omega) _)
    exact Q2
  · iterate 14 (refine Below.setCell ?_ (by first | exact Nat.le_refl _ | exact Nat.le_succ _) _)
    exact B
theorem TwoD.drew {w W : World} {e : Ending} (h : TwoD w e W) : TwoD w e W.drew := by
  obtain ⟨⟨p, A1, c1, A2, c2, q, B1, d1, B2, d2, he, hp, hq, h1, h2⟩, hb⟩ := h
  exact ⟨⟨p, A1, c1, A2, c2, q, B1, d1, B2, d2, he, hp, hq, h1.drew, h2.drew⟩, hb.drew⟩
theorem PSt.far {base gA gB : Nat} {p : PD} {A1 A2 : Option Addr} {c1 c2 : Nat} {W : World} {cs : Array Value} (h : PSt base gA p A1 c1 A2 c2 W) (Q : Block W gB 40 cs) (hne : gA ≠ gB) (i : Nat) (v : Value) : PSt base gA p A1 c1 A2 c2 (W.setCell ⟨gB, i, none⟩ v) :=
  ⟨h.blk.far hne v, h.ns.kept (Lib.grownBy_setCell W gB i _) (.inr (own_not_block Q (by decide) h.ns)), h.hs.kept (Lib.grownBy_setCell W gB i _) (.inr (own_not_block Q (by decide) h.hs))⟩

set_option maxHeartbeats 4000000 in
theorem drawPnrSame_any (A : Option Addr) (l : List UInt8) (c : Nat) (w : World) (hl : Lies w w.heap.size 1 A l.length (bytesV l)) (hm : l.length ≤ maxLen) :
    Calls Tryz.prog 21 #[.slice A l.length c] w (TwoD w) := by
  have HSo : Hid (∀ W : World, Below w.heap.size w W → Calls Tryz.prog 47 #[.slice A l.length c] W fun e w' => e = .returned (.pointer (some ⟨W.heap.size, 0, none⟩)) ∧ SrcAt A l c W.heap.size w' ∧ Below W.heap.size W w') := fun W hW => l01Source_any A l c W (hl.on hW) hm
  have HP : Hid (∀ (g : Nat) (W : World), SrcAt A l c g W → Calls Tryz.prog 63 #[.pointer (some ⟨g, 0, none⟩)] W fun e w' => PnrDrawn 6 5 g W e w' ∧ SrcAt A l c g w') := fun g W hW => srcPnr_any A l c g W hW hm
  have HC : Hid (∀ (p : PD) (A1 : Option Addr) (c1 : Nat) (A2 : Option Addr) (c2 : Nat) (W : World), PLies W W.heap.size p A1 A2 → Small p 6 5 → Calls Tryz.prog 73 #[pdV p A1 c1 A2 c2] W (PnrCopied p W)) := fun p A1 c1 A2 c2 W h hs => l03Copy_any p A1 c1 A2 c2 W h (by have := hs.1; omega) (by have := hs.2.1; omega)
  have HN : Hid (∀ (g : Nat) (W : World) (m : Int), SrcAt A l c g W → m ≤ 1000000 → Calls Tryz.prog 53 #[.pointer (some ⟨g, 0, none⟩), .int .i64 m] W fun e w' => (∃ r : Int, e = .returned (.int .i64 r) ∧ 0 ≤ r ∧ (r < m ∨ r = 0)) ∧ SrcAt A l c g w' ∧ W.grownBy w' (some g)) := fun g W m h1 h2 => srcN_any A l c g m W h1 hm h2
  unfold PnrDrawn at HP
  unfold PnrCopied at HC
  have Y0 : Block (w.alloc (.cells zeroP 40)) w.heap.size 40 zeroP := Block.new w _ _
  have X0 := Y0.alloc (.cells zeroP 40)
  have Z0 := Block.new (w.alloc (.cells zeroP 40)) zeroP 40
  have B0 : Below w.heap.size w ((w.alloc (.cells zeroP 40)).alloc (.cells zeroP 40)) := ((Below.refl _ w).alloc (Nat.le_refl _) _).alloc (by simp) _
  have hz0 : ((w.alloc (.cells zeroP 40)).alloc (.cells zeroP 40)).heap.size = w.heap.size + 2 := by simp
  rw [World.size_alloc] at Z0
  clear hl Y0
  go_enter Tryz.func21, Tryz.ntmps21
  go_wp2_with fail
  refine (HSo.out _ B0).mono ?_
  rintro e w1 ⟨rfl, hs1, hb1⟩
  have X1 := X0.on hb1
  have Z1 := Z0.on hb1
  have B1 := B0.trans (hb1.mono (by omega))
  rw [hz0] at hs1
  clear X0 Z0 B0 hb1
  go_wp2_with fail
  refine (HP.out _ _ hs1).mono ?_
  rintro e w2 ⟨⟨⟨p, A1, c1, A2, c2, rfl, hsm, r1, r2⟩, hg2⟩, hs2⟩
  have X2 := X1.kept hg2 (fun e => by have := Option.some.inj e; omega)
  have Z2 := Z1.kept hg2 (fun e => by have := Option.some.inj e; omega)
  have B2 := B1.trans (below_draw hg2 B1.size (by omega))
  have hz1 : w.heap.size + 2 < w1.heap.size := hs1.lt
  have hownP : ∀ g, (Value.slice A1 p.names.length c1).ownBlock = some g → g < w2.heap.size := fun g h => (r1.lt g h).2
  clear hs1 hg2 B1 X1 Z1
  obtain ⟨ph, pl, po, ns, hs, pb, pf⟩ := p
  dsimp only [pdV] at *
  have P2 : PSt (w.heap.size + 3) w2.heap.size ⟨ph, pl, po, ns, hs, pb, pf⟩ A1 c1 A2 c2 (w2.alloc (.cells #[.int .i64 ph, .int .i64 pl, .int .i64 po, .slice A1 ns.length c1, .slice A2 hs.length c2, .bool pb, .int .i64 pf] 40)) := ⟨Block.new w2 _ _, ownsRow_base (r1.alloc _) (by omega), ownsRow_base (r2.alloc _) (by omega)⟩
  have X2a := X2.alloc (.cells #[.int .i64 ph, .int .i64 pl, .int .i64 po, .slice A1 ns.length c1, .slice A2 hs.length c2, .bool pb, .int .i64 pf] 40)
  have Z2a := Z2.alloc (.cells #[.int .i64 ph, .int .i64 pl, .int .i64 po, .slice A1 ns.length c1, .slice A2 hs.length c2, .bool pb, .int .i64 pf] 40)
  have B2a := B2.alloc B2.size (.cells #[.int .i64 ph, .int .i64 pl, .int .i64 po, .slice A1 ns.length c1, .slice A2 hs.length c2, .bool pb, .int .i64 pf] 40)
  have hs2a := hs2.on ((Below.refl _ w2).alloc (Nat.le_refl _) (.cells #[.int .i64 ph, .int .i64 pl, .int .i64 po, .slice A1 ns.length c1, .slice A2 hs.length c2, .bool pb, .int .i64 pf] 40))
  have hlt2 := hs2.lt
  have q2 := P2.blk.cell
  have hPL : PLies (w2.alloc (.cells #[.int .i64 ph, .int .i64 pl, .int .i64 po, .slice A1 ns.length c1, .slice A2 hs.length c2, .bool pb, .int .i64 pf] 40)) (w2.alloc (.cells #[.int .i64 ph, .int .i64 pl, .int .i64 po, .slice A1 ns.length c1, .slice A2 hs.length c2, .bool pb, .int .i64 pf] 40)).heap.size ⟨ph, pl, po, ns, hs, pb, pf⟩ A1 A2 := ⟨Lies.own P2.ns, Lies.own P2.hs⟩
  have hzb := B2.size
  clear X2 Z2 B2 hs2 r1 r2
  dsimp only [pnrV] at *
  go_wp2_with fail
  refine (HC.out _ _ _ _ _ _ hPL hsm).mono ?_
  rintro e w3 ⟨⟨D1, d1, D2, d2, rfl, s1, s2⟩, hb3⟩
  have X3 := X2a.on hb3
  have Z3 := Z2a.on hb3
  have P3 := P2.on hb3
  have hz2a : (w2.alloc (.cells #[.int .i64 ph, .int .i64 pl, .int .i64 po, .slice A1 ns.length c1, .slice A2 hs.length c2, .bool pb, .int .i64 pf] 40)).heap.size = w2.heap.size + 1 := by simp
  have B3 := B2a.trans (hb3.mono (by omega))
  have hs3 := hs2a.on hb3
  have hlt3 := P3.blk.lt
  rw [hz2a] at s1 s2
  clear X2a Z2a B2a hs2a P2 q2 hPL hb3 hz2a
  obtain ⟨o3, ho3⟩ : ∃ o, o = Obj.cells #[.int .i64 ph, .int .i64 pl, .int .i64 po, .slice D1 ns.length d1, .slice D2 hs.length d2, .bool pb, .int .i64 pf] 40 := ⟨_, rfl⟩
  have X4 := X3.alloc o3
  have Z4 := Z3.alloc o3
  have P4 := P3.on ((Below.refl _ w3).alloc (Nat.le_refl _) o3)
  have B4 := B3.alloc B3.size o3
  have hs4 := hs3.on ((Below.refl _ w3).alloc (Nat.le_refl _) o3)
  have Q4 : PSt (w.heap.size + 3) w3.heap.size ⟨ph, pl, po, ns, hs, pb, pf⟩ D1 d1 D2 d2 (w3.alloc o3) := ⟨by rw [ho3]; exact Block.new w3 _ _, ownsRow_base (s1.alloc _) (by omega), ownsRow_base (s2.alloc _) (by omega)⟩
  subst ho3
  have R4 : (w3.alloc (.cells #[.int .i64 ph, .int .i64 pl, .int .i64 po, .slice D1 ns.length d1, .slice D2 hs.length d2, .bool pb, .int .i64 pf] 40)).ownsRow (w2.heap.size + 1) 9 1 (.slice D1 ns.length d1) ns.length (strsC ns) := s1.alloc _
  clear X3 Z3 P3 B3 hs3 s1 s2
  go_wp2_with fail
  refine (HN.out _ _ 4 hs4 (by omega)).mono ?_
  rintro e w5 ⟨⟨r, rfl, a0, a1⟩, hs5, hg5⟩
  have X5 := X4.kept hg5 (fun e => by have := Option.some.inj e; omega)
  have Z5 := Z4.kept hg5 (fun e => by have := Option.some.inj e; omega)
  have P5 := P4.draw hg5 (by omega) (by omega)
  have Q5 := Q4.draw hg5 (by omega) (by omega)
  have B5 := B4.trans (below_draw hg5 B4.size (by omega))
  have R5 := row_draw R4 hg5 (by omega)
  have hns : ns.length ≤ 6 := hsm.1
  clear X4 Z4 P4 Q4 B4 hs4 hg5 R4
  have hr : r = 0 ∨ r = 1 ∨ r = 2 ∨ r = 3 := by omega
  have q5 := P5.blk.cell
  have t5 := Q5.blk.cell
  have u5 := Q5.blk.free
  rcases hr with rfl | rfl | rfl | rfl
  · have hsD := hs5.on (Below.refl _ w5).drew
    have XD := X5.drew
    have ZD := Z5.drew
    have PD' := P5.drew
    have BD := B5.drew
    have pc := P5.blk.cell
    have hlt5 := P5.blk.lt
    have hzd : w5.drew.heap.size = w5.heap.size := rfl
    clear HSo HC HN hs5 X5 Z5 P5 B5 Q5 q5 t5 u5 R5
    go_wp2_with fail
    go_region_with (first
      | (go_at_call 63; refine (HP.out _ _ hsD).mono ?_; rintro e w6 ⟨⟨⟨q, E1, e1, E2, e2, rfl, hsq, t1, t2⟩, hg6⟩, hs6⟩; have X6 := XD.kept hg6 (fun e => by have := Option.some.inj e; omega); have Z6 := ZD.kept hg6 (fun e => by have := Option.some.inj e; omega); have P6 := PD'.draw hg6 (by omega) (by omega); have B6 := BD.trans (below_draw hg6 BD.size (by omega)); have xc := X6.cell; have xf := X6.free; have zc := Z6.cell; have zf := Z6.free; have pc6 := P6.blk.cell; clear hg6 hs6))
    all_goals
      have HF := Lib.hid (And.intro P6 (And.intro (And.intro t1 t2) (And.intro B6 (And.intro hsm hsq))))
      clear t1 t2 X6 Z6 P6 B6 XD ZD PD' BD hsD HP
      go_wp2_with fail
      refine bodyPost_ret (v := .tuple #[pdV ⟨ph, pl, po, ns, hs, pb, pf⟩ A1 c1 A2 c2, pdV q E1 e1 E2 e2]) (by simp [results, Tryz.results21, go_sem, xc, xf, zc, zf]) rfl ?_
      first
        | with_reducible exact twoD_end HF.out.1.ns HF.out.1.hs (ownsRow_base HF.out.2.1.1 (by omega)) (ownsRow_base HF.out.2.1.2 (by omega)) HF.out.2.2.1 (HF.out.2.2.2.1.mono (by omega) (by omega)) (HF.out.2.2.2.2.mono (by omega) (by omega))
        | with_reducible exact (twoD_end HF.out.1.ns HF.out.1.hs (ownsRow_base HF.out.2.1.1 (by omega)) (ownsRow_base HF.out.2.1.2 (by omega)) HF.out.2.2.1 (HF.out.2.2.2.1.mono (by omega) (by omega)) (HF.out.2.2.2.2.mono (by omega) (by omega))).drew
  · have Q5a := Q5.alloc (.cells #[.string xA] 9)
    have P5a := P5.alloc (.cells #[.string xA] 9)
    have R5a := R5.alloc (.cells #[.string xA] 9)
    have X5a := X5.alloc (.cells #[.string xA] 9)
    have Z5a := Z5.alloc (.cells #[.string xA] 9)
    have B5a := B5.alloc B5.size (.cells #[.string xA] 9)
    have hlt5 := P5.blk.lt
    have qa := Q5a.blk.cell
    clear HSo HP HC HN hs5 X5 Z5 P5 B5
    go_wp2_with (first
      | (at_builtin; refine wpList_append_lies Tryz.underlying37 info_str rfl (by decide) (by decide) (w2.heap.size + 1) _ ns.length (strsC ns) rfl R5a (w5.alloc (.cells #[.string xA] 9)).heap.size (some ⟨w5.heap.size, 0, none⟩) 1 1 [.string xA] rfl (lies_block (Block.new w5 #[.string xA] 9) rfl) (fun u hu => strsC_one [xA] u (by simpa [strsC] using hu)) (by omega) (by simp; omega) ?_; intro v6 w6 hr6 hg6; obtain ⟨E1, e1, rfl, -, -⟩ := own_form hr6; have Y := Q5a.name hg6 (ownsRow_base hr6 (by omega)); have qc := Y.1.cell; have qf := Y.1.free))
    have X6 := X5a.kept hg6 (fun e => own_not_block X5a (by decide) Q5a.ns e.symm)
    have Z6 := Z5a.kept hg6 (fun e => own_not_block Z5a (by decide) Q5a.ns e.symm)
    have P6 : PSt (w.heap.size + 3) w2.heap.size ⟨ph, pl, po, ns, hs, pb, pf⟩ A1 c1 A2 c2 w6 := ⟨P5a.blk.kept hg6 (fun e => own_not_block P5a.blk (by decide) Q5a.ns e.symm), own_grown P5a.ns hg6 (fun g h1 e => by have h3 := (R5a.lt g e).1; have h4 := hownP g h1; omega), P5a.hs.kept hg6 (own_apart (by decide) P5a.hs Q5a.ns)⟩
    have P7 := P6.far Y.1 (by omega) 3 (.slice E1 (ns.length + 1) e1)
    have B6 := (B5a.trans (below_of_grown hg6 B5a.size (fun g e => by have h3 := (R5a.lt g e).1; omega))).setCell (p := ⟨w3.heap.size, 3, none⟩) (by dsimp only; omega) (.slice E1 (ns.length + 1) e1)
    have HSq := Lib.hid (hsm.name (s := xA) (by decide))
    have xc := X6.cell
    have xf := X6.free
    have zc := Z6.cell
    have zf := Z6.free
    have pc := P6.blk.cell
    have hne1 : ¬ w3.heap.size = w.heap.size := by omega
    have hne2 : ¬ w.heap.size = w3.heap.size := by omega
    have HF := Lib.hid (And.intro P7 (And.intro Y.2 (And.intro B6 hsm)))
    clear X6 Z6 P6 P7 B6 Y Q5 Q5a P5a R5a X5a Z5a B5a qa R5 hr6 hg6 hsm
    go_wp2_with fail
    go_region
    all_goals
      go_wp2_with fail
      have he : pdV ⟨ph, pl, po, ns ++ [xA], hs, pb, pf⟩ E1 e1 D2 d2 = pnrV ph pl po (ns.length + 1) E1 e1 hs.length D2 d2 pb pf := by simp [pdV]
      refine bodyPost_ret (v := .tuple #[pdV ⟨ph, pl, po, ns, hs, pb, pf⟩ A1 c1 A2 c2, pnrV ph pl po (ns.length + 1) E1 e1 hs.length D2 d2 pb pf]) (by simp [results, Tryz.results21, go_sem, xc, xf, zc, zf]) rfl ?_
      rw [← he]
      first
        | with_reducible exact (twoD_end HF.out.1.ns HF.out.1.hs HF.out.2.1.ns HF.out.2.1.hs HF.out.2.2.1 (HF.out.2.2.2.mono (by omega) (by omega)) HSq.out).drew
        | with_reducible exact twoD_end HF.out.1.ns HF.out.1.hs HF.out.2.1.ns HF.out.2.1.hs HF.out.2.2.1 (HF.out.2.2.2.mono (by omega) (by omega)) HSq.out
  · have Q6 := Q5.offer (wrap64 (3 - pf))
    have P6 := P5.far Q5.blk (by omega) 6 (.int .i64 (wrap64 (3 - pf)))
    have X6 := X5
    have Z6 := Z5
    have B6 := B5.setCell (p := ⟨w3.heap.size, 6, none⟩) (by dsimp only; omega) (.int .i64 (wrap64 (3 - pf)))
    have hsq0 := hsm.mono (N' := 7) (M' := 5) (by omega) (by omega)
    have hsq : Small ⟨ph, pl, po, ns, hs, pb, wrap64 (3 - pf)⟩ 7 5 := hsq0
    have HSq := Lib.hid hsq
    clear hsq hsq0
    have xc := X6.cell
    have xf := X6.free
    have zc := Z6.cell
    have zf := Z6.free
    have pc := P5.blk.cell
    have qc := Q5.blk.cell
    have hne1 : ¬ w3.heap.size = w.heap.size := by omega
    have hne2 : ¬ w.heap.size = w3.heap.size := by omega
    have HF := Lib.hid (And.intro P6 (And.intro Q6 (And.intro B6 hsm)))
    clear X6 Z6 P6 Q6 B6 P5 Q5 B5 X5 Z5 HSo HP HC HN hs5 hsm
    go_wp2_with fail
    go_region
    all_goals
      go_wp2_with fail
      refine bodyPost_ret (v := .tuple #[pdV ⟨ph, pl, po, ns, hs, pb, pf⟩ A1 c1 A2 c2, pdV ⟨ph, pl, po, ns, hs, pb, wrap64 (3 - pf)⟩ D1 d1 D2 d2]) (by simp [results, Tryz.results21, go_sem, xc, xf, zc, zf]) rfl ?_
      first
        | with_reducible exact (twoD_end HF.out.1.ns HF.out.1.hs HF.out.2.1.ns HF.out.2.1.hs HF.out.2.2.1 (HF.out.2.2.2.mono (by omega) (by omega)) HSq.out).drew
        | with_reducible exact twoD_end HF.out.1.ns HF.out.1.hs HF.out.2.1.ns HF.out.2.1.hs HF.out.2.2.1 (HF.out.2.2.2.mono (by omega) (by omega)) HSq.out
  · have X6 := X5
    have Z6 := Z5
    have P6 := P5
    have Q6 := Q5
    have B6 := B5
    have xc := X6.cell
    have xf := X6.free
    have zc := Z6.cell
    have zf := Z6.free
    have pc := P6.blk.cell
    have qc := Q6.blk.cell
    have hne1 : ¬ w3.heap.size = w.heap.size := by omega
    have hne2 : ¬ w.heap.size = w3.heap.size := by omega
    have HF := Lib.hid (And.intro P6 (And.intro Q6 (And.intro B6 hsm)))
    clear X6 Z6 P6 Q6 B6 P5 Q5 B5 X5 Z5 HSo HP HC HN hs5 hsm
    go_wp2_with fail
    go_region
    all_goals
      go_wp2_with fail
      refine bodyPost_ret (v := .tuple #[pdV ⟨ph, pl, po, ns, hs, pb, pf⟩ A1 c1 A2 c2, pdV ⟨ph, pl, po, ns, hs, pb, pf⟩ D1 d1 D2 d2]) (by simp [results, Tryz.results21, go_sem, xc, xf, zc, zf]) rfl ?_
      first
        | with_reducible exact (twoD_end HF.out.1.ns HF.out.1.hs HF.out.2.1.ns HF.out.2.1.hs HF.out.2.2.1 (HF.out.2.2.2.mono (by omega) (by omega)) (HF.out.2.2.2.mono (by omega) (by omega))).drew
        | with_reducible exact twoD_end HF.out.1.ns HF.out.1.hs HF.out.2.1.ns HF.out.2.1.hs HF.out.2.2.1 (HF.out.2.2.2.mono (by omega) (by omega)) (HF.out.2.2.2.mono (by omega) (by omega))
end Go.Proofs.YtpncnkihfijmaaaGreatDoor
