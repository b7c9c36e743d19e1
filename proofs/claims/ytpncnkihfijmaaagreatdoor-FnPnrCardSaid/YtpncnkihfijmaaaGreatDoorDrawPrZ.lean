/-
  The spec's draws: a booking that is right as a rule.
-/
import Derived.Test.YtpncnkihfijmaaaGreatDoorDrawPnZ
namespace Go.Proofs.YtpncnkihfijmaaaGreatDoor
open Go.ChangeShapes Go.WideShapes Go.ChangeAt Go.RowKit Go.ChangeMaps
set_option maxRecDepth 10000
set_option linter.unusedSimpArgs false
set_option linter.unusedVariables false

theorem PSt.names {base g : Nat} {p : PD} {A1 A2 : Option Addr} {c1 c2 : Nat} {W W' : World} (h : PSt base g p A1 c1 A2 c2 W) {A3 : Option Addr} {c3 : Nat} {L : List ByteArray} (hg : W.grownBy W' (Value.slice A1 p.names.length c1).ownBlock) (hr : W'.ownsRow base 9 1 (.slice A3 (p.names.length + L.length) c3) (p.names.length + L.length) (strsC p.names ++ strsC L)) :
    Block W' g 40 (pdCs p A1 c1 A2 c2) ∧ PSt base g { p with names := p.names ++ L } A3 c3 A2 c2 (W'.setCell ⟨g, 3, none⟩ (.slice A3 (p.names.length + L.length) c3)) := by
  have hb : Block W' g 40 (pdCs p A1 c1 A2 c2) := h.blk.kept hg (fun e => own_not_block h.blk (by decide) h.ns e.symm)
  have hh : W'.ownsRow base 49 3 (.slice A2 p.holds.length c2) p.holds.length (holdsC p.holds) := h.hs.kept hg (own_apart (by decide) h.hs h.ns)
  refine ⟨hb, ⟨by simpa [pdCs] using hb.set_ 3 (.slice A3 (p.names.length + L.length) c3), ?_, hh.kept (Lib.grownBy_setCell W' g 3 _) (.inr (own_not_block hb (by decide) hh))⟩⟩
  have := hr.kept (Lib.grownBy_setCell W' g 3 (.slice A3 (p.names.length + L.length) c3)) (.inr (own_not_block hb (by decide) hr))
  simpa [strsC_append] using this
section
variable {A : Option Addr} {l : List UInt8} {c g : Nat} {w W W' : World} {gP : Nat} {p : PD} {A1 A2 : Option Addr} {c1 c2 : Nat}
theorem DSt.names (h : DSt A l c g w gP p A1 c1 A2 c2 W) {A3 : Option Addr} {c3 : Nat} {L : List ByteArray} (hg : W.grownBy W' (Value.slice A1 p.names.length c1).ownBlock) (hr : W'.ownsRow (w.heap.size + 1) 9 1 (.slice A3 (p.names.length + L.length) c3) (p.names.length + L.length) (strsC p.names ++ strsC L)) :
    Block W' gP 40 (pdCs p A1 c1 A2 c2) ∧ DSt A l c g w gP { p with names := p.names ++ L } A3 c3 A2 c2 (W'.setCell ⟨gP, 3, none⟩ (.slice A3 (p.names.length + L.length) c3)) := by
  have Y := h.st.names hg hr
  have hB : Below w.heap.size W W' := below_of_grown hg h.src.size (fun j e => by have := (h.st.ns.lt j e).1; omega)
  have hZ : Block W' w.heap.size 40 zeroP := h.zero.kept hg (fun e => own_not_block h.zero (by decide) h.st.ns e.symm)
  exact ⟨Y.1, ⟨(h.src.from_ hB hg.size).set (Nat.le_of_lt h.gt) _, Y.2, hZ.far (Nat.ne_of_lt h.gt) _, h.gt⟩⟩
theorem DSt.hold (h : DSt A l c g w gP p A1 c1 A2 c2 W) {A3 : Option Addr} {c3 : Nat} {x : HD} (hg : W.grownBy W' (Value.slice A2 p.holds.length c2).ownBlock) (hr : W'.ownsRow (w.heap.size + 1) 49 3 (.slice A3 (p.holds.length + 1) c3) (p.holds.length + 1) (holdsC p.holds ++ [.string x.f, .int .i64 x.r, .int .i64 x.c])) :
    Block W' gP 40 (pdCs p A1 c1 A2 c2) ∧ DSt A l c g w gP { p with holds := p.holds ++ [x] } A1 c1 A3 c3 (W'.setCell ⟨gP, 4, none⟩ (.slice A3 (p.holds.length + 1) c3)) := by
  have Y := h.st.hold hg hr
  have hB : Below w.heap.size W W' := below_of_grown hg h.src.size (fun j e => by have := (h.st.hs.lt j e).1; omega)
  have hZ : Block W' w.heap.size 40 zeroP := h.zero.kept hg (fun e => own_not_block h.zero (by decide) h.st.hs e.symm)
  exact ⟨Y.1, ⟨(h.src.from_ hB hg.size).set (Nat.le_of_lt h.gt) _, Y.2, hZ.far (Nat.ne_of_lt h.gt) _, h.gt⟩⟩
theorem dst_of (h : SrcG A l c g w W) (Z : Block W w.heap.size 40 zeroP) (h1 : W.ownsRow (w.heap.size + 1) 9 1 (.slice A1 p.names.length c1) p.names.length (strsC p.names)) (h2 : W.ownsRow (w.heap.size + 1) 49 3 (.slice A2 p.holds.length c2) p.holds.length (holdsC p.holds)) :
    DSt A l c g w W.heap.size p A1 c1 A2 c2 (W.alloc (.cells (pdCs p A1 c1 A2 c2) 40)) :=
  ⟨h.on ((Below.refl _ W).alloc (Nat.le_refl _) _), ⟨Block.new W _ _, h1.alloc _, h2.alloc _⟩, Z.alloc _, Z.lt⟩
end
theorem Small.mono {p : PD} {N M N' M' : Nat} (h : Small p N M) (hN : N ≤ N') (hM : M ≤ M') : Small p N' M' := ⟨Nat.le_trans h.1 hN, Nat.le_trans h.2.1 hM, h.2.2.1, h.2.2.2⟩
theorem Small.hold {p : PD} {N M : Nat} {y : HD} (h : Small p N M) (hs : y.f.size ≤ 100) : Small { p with holds := p.holds ++ [y] } N (M + 1) := by
  obtain ⟨h1, h2, h3, h4⟩ := h
  refine ⟨h1, by simp; omega, h3, fun x hx => ?_⟩
  rcases List.mem_append.1 hx with hx | hx
  · exact h4 x hx
  · obtain rfl := List.mem_singleton.1 hx
    exact hs

abbrev upA : ByteArray := ⟨#[65]⟩
abbrev xA : ByteArray := ⟨#[120]⟩
abbrev yA : ByteArray := ⟨#[121]⟩
abbrev zA : ByteArray := ⟨#[122]⟩
theorem pickBad (i : Nat) (hi : i < 4) : ∃ s, (#[.string ⟨#[]⟩, .string upA, .string xA, .string yA] : Array Value)[i]? = some (.string s) ∧ s.size ≤ 100 := by
  have : i = 0 ∨ i = 1 ∨ i = 2 ∨ i = 3 := by omega
  rcases this with rfl | rfl | rfl | rfl
  · exact ⟨_, rfl, by decide⟩
  · exact ⟨_, rfl, by decide⟩
  · exact ⟨_, rfl, by decide⟩
  · exact ⟨_, rfl, by decide⟩

set_option maxHeartbeats 8000000 in
theorem srcPnr_any (A : Option Addr) (l : List UInt8) (c g : Nat) (w : World) (h : SrcAt A l c g w) (hl : l.length ≤ maxLen) :
    Calls Tryz.prog 63 #[.pointer (some ⟨g, 0, none⟩)] w fun e w' => PnrDrawn 6 5 g w e w' ∧ SrcAt A l c g w' := by
  have hg : g < w.heap.size := h.lt
  have HN : Hid (∀ (W : World) (m : Int), SrcAt A l c g W → m ≤ 1000000 → Calls Tryz.prog 53 #[.pointer (some ⟨g, 0, none⟩), .int .i64 m] W fun e w' => (∃ r : Int, e = .returned (.int .i64 r) ∧ 0 ≤ r ∧ (r < m ∨ r = 0)) ∧ SrcAt A l c g w' ∧ W.grownBy w' (some g)) := fun W m h1 h2 => srcN_any A l c g m W h1 hl h2
  have HO : Hid (∀ (W : World) (m : Int), SrcAt A l c g W → m ≤ 1000000 → Calls Tryz.prog 98 #[.pointer (some ⟨g, 0, none⟩), .int .i64 m] W fun e w' => (∃ b : Bool, e = .returned (.bool b)) ∧ SrcAt A l c g w' ∧ W.grownBy w' (some g)) := fun W m h1 h2 => srcOne_any A l c g m W h1 hl h2
  have HHo : Hid (∀ W : World, SrcAt A l c g W → Calls Tryz.prog 74 #[.pointer (some ⟨g, 0, none⟩)] W fun e w' => (∃ (f : ByteArray) (r k : Int), e = .returned (.agg #[.string f, .int .i64 r, .int .i64 k]) ∧ (f = ab1 ∨ f = cd2) ∧ (1 ≤ r ∧ r ≤ 3) ∧ (0 ≤ k ∧ k ≤ 2)) ∧ SrcAt A l c g w' ∧ W.grownBy w' (some g)) := fun W hW => srcHold_any A l c g W hW hl
  have HPf := Lib.hid (fun W hW => srcPnrOf_any A l c g W hW hl)
  unfold PnrDrawn at HPf
  have B0 : SrcG A l c g w (w.alloc (.cells zeroP 40)) := (SrcG.begin h).on ((Below.refl _ w).alloc (Nat.le_refl _) _)
  have Z0 : Block (w.alloc (.cells zeroP 40)) w.heap.size 40 zeroP := Block.new w _ _
  clear h
  go_enter Tryz.func63, Tryz.ntmps63
  go_wp2_with fail
  refine (HPf.out _ B0.1).mono ?_
  rintro e w1 ⟨⟨⟨p, A1, c1, A2, c2, rfl, hsm, r1, r2⟩, k2⟩, k1⟩
  have B1 := B0.n k1 k2
  have Z1 := Z0.kept k2 (fun e => by have := Option.some.inj e; omega)
  have D1 := dst_of B1 Z1 (by simpa using r1) (by simpa using r2)
  clear B0 Z0 k1 k2 B1 Z1 r1 r2 HPf
  obtain ⟨ph, pl, po, ns, hs, pb, pf⟩ := p
  dsimp only [pdV, pdCs] at *
  have HSm := Lib.hid hsm
  have hgP := D1.gt
  go_wp2_with fail
  refine (HO.out _ 8 D1.src.1 (by omega)).mono ?_
  rintro e w2 ⟨⟨b, rfl⟩, k1, k2⟩
  have D2 := D1.n k1 k2
  generalize w1.heap.size = gP at *
  clear D1 k1 k2 hsm
  cases b
  · have q1 := D2.st.blk.cell
    have z1 := D2.zero.cell
    have z2 := D2.zero.free
    have hne := Nat.ne_of_lt hgP
    have HD := Lib.hid D2
    clear D2
    go_wp2_with fail
    refine bodyPost_ret (v := pdV ⟨ph, pl, po, ns, hs, pb, pf⟩ A1 c1 A2 c2) (by simp [results, Tryz.results63, go_sem, z1, z2]) rfl ?_
    exact dst_end HD.out (HSm.out.mono (by omega) (by omega))
  · go_wp2_with fail
    refine (HN.out _ 6 D2.src.1 (by omega)).mono ?_
    rintro e w3 ⟨⟨r, rfl, a0, a1⟩, k1, k2⟩
    have D3 := D2.n k1 k2
    clear D2 k1 k2
    have hns : ns.length + 3 ≤ 1099511627 := by have := HSm.out.1; dsimp only at this; omega
    have hhs : hs.length + 1 ≤ 1099511627 := by have := HSm.out.2.1; dsimp only at this; omega
    have hr6 : r = 0 ∨ r = 1 ∨ r = 2 ∨ r = 3 ∨ r = 4 ∨ r = 5 := by omega
    have hgn := Nat.ne_of_lt hgP
    have q1 := D3.st.blk.cell
    have z1 := D3.zero.cell
    have z2 := D3.zero.free
    clear a0 a1
    rcases hr6 with rfl | rfl | rfl | rfl | rfl | rfl
    · have X := Block.new w3 #[.int .i64 0, .int .i64 4, .int .i64 5] 2
      have D3a := D3.alloc (.cells #[.int .i64 0, .int .i64 4, .int .i64 5] 2)
      have hlt3 := D3.src.1.lt
      clear D3 q1 z1 z2
      go_wp2_with fail
      refine (HN.out _ 3 D3a.src.1 (by omega)).mono ?_
      rintro e w4 ⟨⟨j, rfl, b0, b1⟩, k1, k2⟩
      have D4 := D3a.n k1 k2
      have X4 := X.kept k2 (fun e => by have := Option.some.inj e; omega)
      obtain ⟨j, rfl⟩ := nat_of b0
      obtain ⟨t, ht⟩ : ∃ t : Int, w4.cell? ⟨w3.heap.size, j, none⟩ = some (.int .i64 t) := by
        rw [X4.cell j]
        have : j = 0 ∨ j = 1 ∨ j = 2 := by omega
        rcases this with rfl | rfl | rfl <;> exact ⟨_, rfl⟩
      have hj3 : (j : Int) < 3 := by omega
      have q1 := D4.st.blk.cell
      have z1 := D4.zero.cell
      have z2 := D4.zero.free
      have f1 := D4.st.blk.free
      have HD := Lib.hid (D4.set_ (D4.st.home t))
      clear D3a k1 k2 D4 X4 X b0 b1
      go_wp2_with fail
      refine bodyPost_ret (v := pdV ⟨t, pl, po, ns, hs, pb, pf⟩ A1 c1 A2 c2) (by simp [results, Tryz.results63, go_sem, z1, z2]) rfl ?_
      exact dst_end HD.out (HSm.out.mono (by omega) (by omega))
    · have X := Block.new w3 #[.int .i64 0, .int .i64 9, .int .i64 10] 2
      have D3a := D3.alloc (.cells #[.int .i64 0, .int .i64 9, .int .i64 10] 2)
      have hlt3 := D3.src.1.lt
      clear D3 q1 z1 z2
      go_wp2_with fail
      refine (HN.out _ 3 D3a.src.1 (by omega)).mono ?_
      rintro e w4 ⟨⟨j, rfl, b0, b1⟩, k1, k2⟩
      have D4 := D3a.n k1 k2
      have X4 := X.kept k2 (fun e => by have := Option.some.inj e; omega)
      obtain ⟨j, rfl⟩ := nat_of b0
      obtain ⟨t, ht⟩ : ∃ t : Int, w4.cell? ⟨w3.heap.size, j, none⟩ = some (.int .i64 t) := by
        rw [X4.cell j]
        have : j = 0 ∨ j = 1 ∨ j = 2 := by omega
        rcases this with rfl | rfl | rfl <;> exact ⟨_, rfl⟩
      have hj3 : (j : Int) < 3 := by omega
      have q1 := D4.st.blk.cell
      have z1 := D4.zero.cell
      have z2 := D4.zero.free
      have f1 := D4.st.blk.free
      have HD := Lib.hid (D4.set_ (D4.st.loc t))
      clear D3a k1 k2 D4 X4 X b0 b1
      go_wp2_with fail
      refine bodyPost_ret (v := pdV ⟨ph, t, po, ns, hs, pb, pf⟩ A1 c1 A2 c2) (by simp [results, Tryz.results63, go_sem, z1, z2]) rfl ?_
      exact dst_end HD.out (HSm.out.mono (by omega) (by omega))
    · have hs3 := D3.src.1
      have HD3 := Lib.hid D3
      clear D3 q1 z1 z2
      go_wp2_with fail
      refine (HN.out _ 6 hs3 (by omega)).mono ?_
      rintro e w4 ⟨⟨j, rfl, b0, b1⟩, k1, k2⟩
      have D4 := HD3.out.n k1 k2
      have q1 := D4.st.blk.cell
      have z1 := D4.zero.cell
      have z2 := D4.zero.free
      have f1 := D4.st.blk.free
      have HD := Lib.hid (D4.set_ (D4.st.offer j))
      clear k1 k2 D4 b0 b1 hs3
      go_wp2_with fail
      refine bodyPost_ret (v := pdV ⟨ph, pl, po, ns, hs, pb, j⟩ A1 c1 A2 c2) (by simp [results, Tryz.results63, go_sem, z1, z2]) rfl ?_
      exact dst_end HD.out (HSm.out.mono (by omega) (by omega))
    · have f1 := D3.st.blk.free
      have HD := Lib.hid (D3.set_ (D3.st.live (!pb)))
      clear D3
      go_wp2_with fail
      refine bodyPost_ret (v := pdV ⟨ph, pl, po, ns, hs, !pb, pf⟩ A1 c1 A2 c2) (by simp [results, Tryz.results63, go_sem, z1, z2]) rfl ?_
      exact dst_end HD.out (HSm.out.mono (by omega) (by omega))
    · have D1 := (D3.alloc (.cells #[.string ⟨#[]⟩, .string upA, .string xA, .string yA] 9)).drew
      have X1 : Block (w3.alloc (.cells #[.string ⟨#[]⟩, .string upA, .string xA, .string yA] 9)).drew w3.heap.size 9 #[.string ⟨#[]⟩, .string upA, .string xA, .string yA] := (Block.new w3 _ _).drew
      have HPk : Hid (∀ cB : Nat, Calls Tryz.prog 55 #[.pointer (some ⟨g, 0, none⟩), .slice (some ⟨w3.heap.size, 0, none⟩) 4 cB] (w3.alloc (.cells #[.string ⟨#[]⟩, .string upA, .string xA, .string yA] 9)).drew fun e w' => (∃ s, e = .returned (.string s) ∧ s.size ≤ 100) ∧ SrcAt A l c g w' ∧ (w3.alloc (.cells #[.string ⟨#[]⟩, .string upA, .string xA, .string yA] 9)).drew.grownBy w' (some g)) := fun cB =>
        srcPick_any A l c g w3.heap.size cB _ (fun s => s.size ≤ 100) _ D1.src.1 hl X1 (by have := D3.src.1.lt; omega) 4 rfl (by omega) (by omega) pickBad
      have r1 : ∀ o, (w3.alloc o).cell? ⟨gP, 3, none⟩ = some (.slice A1 ns.length c1) := fun o => (D3.alloc o).st.blk.cell 3
      have HD1 := Lib.hid D1
      clear X1 D1 D3 z1 z2
      go_wp2_with fail
      go_region_law (first
        | (refine step_app (c := 3) (n := ns.length) rfl _ _ 37 rfl Tryz.underlying37 info_str rfl (by decide) (by decide) (D6.alloc (.cells #[.string sn, .string zA, .string zA] 9)).st.ns (by simp [Act.eval, Act.put]) (lies_blockN (n := 3) (Block.new w6 #[.string sn, .string zA, .string zA] 9) rfl) (by simp [Act.eval, Act.put]) (fun u hu => strsC_one [sn, zA, zA] u hu) (by omega) (by have := D6.zero.lt; simp; omega) ?_; intro A3 c3 w7 hown3 hg3; have Y := (D6.alloc (.cells #[.string sn, .string zA, .string zA] 9)).names (L := [sn, zA, zA]) hg3 hown3; have q7 := Y.1.cell; have f7 := Y.1.free; have D7 := Y.2; have Z7 := (D6.alloc (.cells #[.string sn, .string zA, .string zA] 9)).zero.kept hg3 (fun e => own_not_block (D6.alloc (.cells #[.string sn, .string zA, .string zA] 9)).zero (by decide) (D6.alloc (.cells #[.string sn, .string zA, .string zA] 9)).st.ns e.symm))
        | ((fail_if_success (have hq := D6)); go_simp; go_wp2_with (go_at_call 55; refine (HPk.out _).mono ?_; rintro e w6 ⟨⟨sn, rfl, hsn⟩, k1, k2⟩; have D6 := HD1.out.n k1 k2; have q6 := D6.st.blk.cell; have r6 : ∀ o, (w6.alloc o).cell? ⟨gP, 3, none⟩ = some (.slice A1 ns.length c1) := fun o => (D6.alloc o).st.blk.cell 3)))
      all_goals
        have HF := Lib.hid (And.intro D7 (((HSm.out.name hsn).name (s := zA) (by decide)).name (s := zA) (by decide)))
        have z1 := Z7.cell
        have z2 := Z7.free
        have hF2 : Hid (Small ⟨ph, pl, po, ns ++ [sn, zA, zA], hs, pb, pf⟩ 6 5) := by
          have h := HF.out.2
          dsimp only at h
          rw [List.append_assoc, List.append_assoc] at h
          exact h.mono (by omega) (by omega)
        have HD := Lib.hid HF.out.1
        clear D7 hsn k1 k2 D6 q6 r6 Y Z7
        go_wp2_with fail
        refine bodyPost_ret (v := pdV ⟨ph, pl, po, ns ++ [sn, zA, zA], hs, pb, pf⟩ A3 c3 A2 c2) (by simp [results, Tryz.results63, go_sem, z1, z2]) rfl ?_
        exact dst_end HD.out (hF2.out)
    · have hs3 := D3.drew.src.1
      have HD3 := Lib.hid D3
      clear D3 z1 z2
      go_wp2_with fail
      go_region_law (first
        | (refine step_app (c := 1) (n := hs.length) rfl _ _ 38 rfl Tryz.underlying38 info_hold rfl (by decide) (by decide) (D6.st.hs.alloc (.cells #[.string f, .int .i64 r, .int .i64 k] 49)) (by simp [Act.eval, Act.put]) (lies_block (Block.new w6 #[.string f, .int .i64 r, .int .i64 k] 49) rfl) (by simp [Act.eval, Act.put]) (fun u hu => holdsC_one [⟨f, r, k⟩] u (by simpa [holdsC, holdC] using hu)) (by omega) (by have := D6.zero.lt; simp; omega) ?_; intro A3 c3 w7 hown3 hg3; have Y := (D6.alloc (.cells #[.string f, .int .i64 r, .int .i64 k] 49)).hold (x := ⟨f, r, k⟩) hg3 hown3; have q7 := Y.1.cell; have f7 := Y.1.free; have D7 := Y.2; have Z7 := (D6.alloc (.cells #[.string f, .int .i64 r, .int .i64 k] 49)).zero.kept hg3 (fun e => own_not_block (D6.alloc (.cells #[.string f, .int .i64 r, .int .i64 k] 49)).zero (by decide) (D6.alloc (.cells #[.string f, .int .i64 r, .int .i64 k] 49)).st.hs e.symm))
        | ((fail_if_success (have hq := D6)); go_simp; go_wp2_with (go_at_call 74; refine (HHo.out _ hs3).mono ?_; rintro e w6 ⟨⟨f, r, k, rfl, hf, hr, hk⟩, k1, k2⟩; have D6 := HD3.out.drew.n k1 k2; have q6 := D6.st.blk.cell; have r6 : ∀ o, (w6.alloc o).cell? ⟨gP, 4, none⟩ = some (.slice A2 hs.length c2) := fun o => (D6.alloc o).st.blk.cell 4)))
      all_goals
        have hfs : f.size ≤ 100 := by rcases hf with rfl | rfl <;> decide
        have hF2 := Lib.hid ((HSm.out.hold (y := ⟨f, r, k⟩) hfs).mono (show 3 ≤ 6 by omega) (show 4 + 1 ≤ 5 by omega))
        have z1 := Z7.cell
        have z2 := Z7.free
        have HD := Lib.hid D7
        clear D7 k1 k2 D6 q6 r6 hf Y Z7
        go_wp2_with fail
        refine bodyPost_ret (v := pdV ⟨ph, pl, po, ns, hs ++ [⟨f, r, k⟩], pb, pf⟩ A1 c1 A3 c3) (by simp [results, Tryz.results63, go_sem, z1, z2]) rfl ?_
        exact dst_end HD.out (hF2.out)
end Go.Proofs.YtpncnkihfijmaaaGreatDoor
