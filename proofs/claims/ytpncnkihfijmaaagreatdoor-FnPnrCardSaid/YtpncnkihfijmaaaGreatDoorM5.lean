/-
  The spec's draws: a text, spoilt a little. spec.l03Copy: a booking anew; DrawPnrText. The spec's draws of chapter 4: DrawPnrText, DrawPnrRead. The spec's draws of chapter 4: DrawHoldLess, DrawHoldPut. The spec's draws of chapter 4: DrawHoldPut.
-/
import Derived.Test.YtpncnkihfijmaaaGreatDoorM4
import Derived.Test.YtpncnkihfijmaaaGreatDoorM1
import Derived.Deep.RegionWith
import Derived.Test.YtpncnkihfijmaaaGreatDoorDrawPrZ
import Derived.Test.YtpncnkihfijmaaaGreatDoorM3
import Derived.Test.YtpncnkihfijmaaaGreatDoorTextSZ
namespace Go.Proofs.YtpncnkihfijmaaaGreatDoor
open Go.ChangeShapes Go.WideShapes Go.ChangeAt Go.RowKit Go.ChangeMaps
set_option maxRecDepth 10000
set_option linter.unusedSimpArgs false
set_option linter.unusedVariables false

def StrDrawn (n g : Nat) (w : World) (e : Ending) (w' : World) : Prop := (∃ s : ByteArray, e = .returned (.string s) ∧ s.size ≤ n) ∧ w.grownBy w' (some g)
theorem add_run (a b : ByteArray) (h : a.size + b.size ≤ 1000000) (W : World) : (Op.stringOp .add a b).run Tryz.prog W = .ok (.string (a ++ b)) W := by
  rw [run_string_add_sum _ _ _ (by omega)]

abbrev spoilA : ByteArray := ⟨#[32, 10, 48, 97, 45, 110, 44, 58, 93, 255, 40, 120, 126, 49, 128, 225, 59]⟩

set_option maxHeartbeats 4000000 in
set_option maxRecDepth 100000 in
theorem srcSpoil_any (A : Option Addr) (l : List UInt8) (c g : Nat) (t : ByteArray) (w : World) (h : SrcAt A l c g w) (hl : l.length ≤ maxLen) (ht : t.size ≤ 100000) :
    Calls Tryz.prog 54 #[.pointer (some ⟨g, 0, none⟩), .string t] w fun e w' => StrDrawn 200002 g w e w' ∧ SrcAt A l c g w' := by
  have HN : Hid (∀ (W : World) (m : Int), SrcAt A l c g W → m ≤ 1000000 → Calls Tryz.prog 53 #[.pointer (some ⟨g, 0, none⟩), .int .i64 m] W fun e w' => (∃ r : Int, e = .returned (.int .i64 r) ∧ 0 ≤ r ∧ (r < m ∨ r = 0)) ∧ SrcAt A l c g w' ∧ W.grownBy w' (some g)) := fun W m h1 h2 => srcN_any A l c g m W h1 hl h2
  have HO : Hid (∀ (W : World) (m : Int), SrcAt A l c g W → m ≤ 1000000 → Calls Tryz.prog 98 #[.pointer (some ⟨g, 0, none⟩), .int .i64 m] W fun e w' => (∃ b : Bool, e = .returned (.bool b)) ∧ SrcAt A l c g w' ∧ W.grownBy w' (some g)) := fun W m h1 h2 => srcOne_any A l c g m W h1 hl h2
  have G0 : SrcG A l c g w w := ⟨h, World.grownBy.refl _ _, h.lt⟩
  have hw0 : IntKind.i64.wrap ((t.size : Int) + 1) = (t.size : Int) + 1 := IntWalk.i64_in _ (by omega)
  have htI : (t.size : Int) + 1 ≤ 1000000 := by omega
  clear h
  go_enter Tryz.func54, Tryz.ntmps54
  go_wp2_with fail
  refine (HN.out _ _ G0.1 htI).mono ?_
  rintro e w1 ⟨⟨k, rfl, a0, a1⟩, k1, k2⟩
  have G1 := G0.n k1 k2
  clear G0 k1 k2
  obtain ⟨k, rfl⟩ := nat_of a0
  have hk : k ≤ t.size := by omega
  clear a0 a1
  go_wp2_with fail
  refine (HN.out _ 17 G1.1 (by omega)).mono ?_
  rintro e w2 ⟨⟨j, rfl, b0, b1⟩, k1, k2⟩
  have G2 := G1.n k1 k2
  clear G1 k1 k2
  obtain ⟨j, rfl⟩ := nat_of b0
  have hj : j < 17 := by omega
  have hj2 : j < spoilA.size := hj
  obtain ⟨bj, hbj⟩ : ∃ b, b = spoilA[j] := ⟨_, rfl⟩
  have hix : ∀ W : World, (Instr.index 9 (.string spoilA) (.int .i64 (j : Int))).run Tryz.prog W = .ok (.int .u8 (bj.toNat : Int)) W := fun W => by
    have hj3 : (j : Int) < (spoilA.size : Int) := by omega
    rw [run_index_string _ _ _ _ _ Tryz.underlying9, dif_pos ⟨by omega, hj3⟩, hbj]
    rfl
  obtain ⟨v, hv⟩ : ∃ v : Int, (bj.toNat : Int) = v := ⟨_, rfl⟩
  rw [hv] at hix
  have HB := Lib.hid hv
  clear hv
  have hlt2 := G2.1.lt
  have HG2 := Lib.hid G2
  clear b0 b1 hj2 hbj G2
  have hS1 : ∀ W : World, (Instr.slice 9 (.string t) none (some (.int .i64 (k : Int))) none).run Tryz.prog W = .ok (.string (t.extract 0 k)) W := fun W => by
    have h1 : (k : Int) ≤ (t.size : Int) := by omega
    simp [Instr.slice, Instr.sliceBounds, Instr.sliceBound, asIntOf, run_underlying Tryz.underlying9, h1]
    try omega
  have hS2 : ∀ W : World, (Instr.slice 9 (.string t) (some (.int .i64 (k : Int))) none none).run Tryz.prog W = .ok (.string (t.extract k t.size)) W := fun W => by
    have h1 : (k : Int) ≤ (t.size : Int) := by omega
    simp [Instr.slice, Instr.sliceBounds, Instr.sliceBound, asIntOf, run_underlying Tryz.underlying9, h1]
    try omega
  have hS3 : ¬ k = t.size → ∀ W : World, (Instr.slice 9 (.string t) (some (.int .i64 ((k : Int) + 1))) none none).run Tryz.prog W = .ok (.string (t.extract (k + 1) t.size)) W := fun hne W => by
    have h1 : (k : Int) + 1 ≤ (t.size : Int) := by omega
    have h2 : (0 : Int) ≤ (k : Int) + 1 := by omega
    have h3 : ((k : Int) + 1).toNat = k + 1 := by omega
    simp [Instr.slice, Instr.sliceBounds, Instr.sliceBound, asIntOf, run_underlying Tryz.underlying9, h1, h2, h3]
    try omega
  have z1 : (t.extract 0 k).size ≤ 100000 := by simp; omega
  have z2 : (t.extract k t.size).size ≤ 100000 := by simp; omega
  have z3 : (t.extract (k + 1) t.size).size ≤ 100000 := by simp; omega
  have zc : (⟨[bj].toArray⟩ : ByteArray).size = 1 := rfl
  have HS1 := Lib.hid hS1
  have HS2 := Lib.hid hS2
  have HS3' := Lib.hid hS3
  clear hS1 hS2 hS3
  generalize t.extract 0 k = x1 at *
  generalize t.extract k t.size = x2 at *
  generalize t.extract (k + 1) t.size = x3 at *
  have HZ : Hid (x1.size ≤ 100000 ∧ x2.size ≤ 100000 ∧ x3.size ≤ 100000 ∧ (⟨[bj].toArray⟩ : ByteArray).size = 1) := ⟨z1, z2, z3, zc⟩
  have hwk : IntKind.i64.wrap ((k : Int) + 1) = (k : Int) + 1 := IntWalk.i64_in _ (by omega)
  have HWK := Lib.hid hwk
  by_cases hkt : k = t.size
  · have hkb : ((k : Int) == (t.size : Int)) = true := by rw [hkt]; exact beq_iff_eq.2 rfl
    have HG2b : Hid (SrcG A l c g w (w2.alloc (.cells #[.int .u8 v] 5))) := SrcG.on HG2.out ((Below.refl _ w2).alloc (Nat.le_refl _) _)
    clear hk hj htI hw0 ht z1 z2 z3 zc hwk hkt HS3'
    go_wp2_with (refine wpList_str_one Tryz.underlying31 Tryz.underlying5 Tryz.underlying9 bj ?_ rfl ?_; rotate_left)
    any_goals exact HB.out.symm
    generalize (⟨[bj].toArray⟩ : ByteArray) = cb at *
    have hS1 := HS1.out
    have hS2 := HS2.out
    obtain ⟨z1, z2, z3, zc⟩ := HZ.out
    have hA0 := add_run x1 cb (by (try simp only [ByteArray.size_append]); omega)
    have hA1 := add_run (x1 ++ cb) x2 (by (try simp only [ByteArray.size_append]); omega)
    have hsz : ((x1 ++ cb) ++ x2).size ≤ 200002 := by (try simp only [ByteArray.size_append]); omega
    have HSZ := Lib.hid hsz
    clear z1 z2 z3 zc hsz
    generalize x1 ++ cb = y1 at *
    generalize y1 ++ x2 = y2 at *
    go_region
    all_goals
      go_wp2_with fail
      go_ret
      exact ⟨⟨⟨_, rfl, HSZ.out⟩, (HG2b.out.on (Below.refl _ _).drew).2.1⟩, (HG2b.out.on (Below.refl _ _).drew).1⟩
  · have hkb : ((k : Int) == (t.size : Int)) = false := by rw [beq_eq_false_iff_ne]; omega
    have HS3 := Lib.hid (HS3'.out hkt)
    clear hk hj htI hw0 ht z1 z2 z3 zc hwk hkt HS3'
    have G2a : SrcG A l c g w (w2.alloc (.cells #[.int .u8 v] 5)) := SrcG.on HG2.out ((Below.refl _ w2).alloc (Nat.le_refl _) _)
    have hs2 := G2a.1
    have HG2a := Lib.hid G2a
    clear G2a
    go_wp2_with (refine wpList_str_one Tryz.underlying31 Tryz.underlying5 Tryz.underlying9 bj ?_ rfl ?_; rotate_left)
    any_goals exact HB.out.symm
    refine (HO.out _ 3 hs2 (by omega)).mono ?_
    rintro e w4 ⟨⟨b4, rfl⟩, k1, k2⟩
    have G4 := HG2a.out.n k1 k2
    have HG4 := Lib.hid G4
    have hs4 := G4.1
    clear G4 k1 k2 hs2
    cases b4
    · go_wp2_with fail
      refine (HO.out _ 2 hs4 (by omega)).mono ?_
      rintro e w5 ⟨⟨b5, rfl⟩, k1, k2⟩
      have HG5 := Lib.hid (HG4.out.n k1 k2)
      clear k1 k2 hs4
      have hwk := HWK.out
      cases b5
      · go_wp2_with fail
        generalize (⟨[bj].toArray⟩ : ByteArray) = cb at *
        have hS1 := HS1.out
        have hS3 := HS3.out
        obtain ⟨z1, z2, z3, zc⟩ := HZ.out
        have hA0 := add_run x1 cb (by (try simp only [ByteArray.size_append]); omega)
        have hA1 := add_run (x1 ++ cb) x3 (by (try simp only [ByteArray.size_append]); omega)
        have hsz : ((x1 ++ cb) ++ x3).size ≤ 200002 := by (try simp only [ByteArray.size_append]); omega
        have HSZ := Lib.hid hsz
        clear z1 z2 z3 zc hsz
        generalize x1 ++ cb = y1 at *
        generalize y1 ++ x3 = y2 at *
        go_region
        all_goals
          go_wp2_with fail
          go_ret
          exact ⟨⟨⟨_, rfl, HSZ.out⟩, (HG5.out.on (Below.refl _ _).drew).2.1⟩, (HG5.out.on (Below.refl _ _).drew).1⟩
      · go_wp2_with fail
        generalize (⟨[bj].toArray⟩ : ByteArray) = cb at *
        have hS1 := HS1.out
        have hS3 := HS3.out
        obtain ⟨z1, z2, z3, zc⟩ := HZ.out
        have hA0 := add_run x1 x3 (by (try simp only [ByteArray.size_append]); omega)
        have hsz : (x1 ++ x3).size ≤ 200002 := by (try simp only [ByteArray.size_append]); omega
        have HSZ := Lib.hid hsz
        clear z1 z2 z3 zc hsz
        generalize x1 ++ x3 = y2 at *
        go_region
        all_goals
          go_wp2_with fail
          go_ret
          exact ⟨⟨⟨_, rfl, HSZ.out⟩, (HG5.out.on (Below.refl _ _).drew).2.1⟩, (HG5.out.on (Below.refl _ _).drew).1⟩
    · go_wp2_with fail
      generalize (⟨[bj].toArray⟩ : ByteArray) = cb at *
      have hS1 := HS1.out
      have hS2 := HS2.out
      obtain ⟨z1, z2, z3, zc⟩ := HZ.out
      have hA0 := add_run x1 cb (by (try simp only [ByteArray.size_append]); omega)
      have hA1 := add_run (x1 ++ cb) x2 (by (try simp only [ByteArray.size_append]); omega)
      have hsz : ((x1 ++ cb) ++ x2).size ≤ 200002 := by (try simp only [ByteArray.size_append]); omega
      have HSZ := Lib.hid hsz
      clear z1 z2 z3 zc hsz
      generalize x1 ++ cb = y1 at *
      generalize y1 ++ x2 = y2 at *
      go_region
      all_goals
        go_wp2_with fail
        go_ret
        exact ⟨⟨⟨_, rfl, HSZ.out⟩, (HG4.out.on (Below.refl _ _).drew).2.1⟩, (HG4.out.on (Below.refl _ _).drew).1⟩
end Go.Proofs.YtpncnkihfijmaaaGreatDoor
namespace Go.Proofs.YtpncnkihfijmaaaGreatDoor
open Go.ChangeShapes Go.WideShapes Go.ChangeAt Go.RowKit Go.ChangeMaps
set_option maxRecDepth 10000
set_option linter.unusedSimpArgs false
set_option linter.unusedVariables false

def PnrCopied (p : PD) (w : World) (e : Ending) (w' : World) : Prop :=
  (∃ A1 c1 A2 c2, e = .returned (pdV p A1 c1 A2 c2) ∧ w'.ownsRow w.heap.size 9 1 (.slice A1 p.names.length c1) p.names.length (strsC p.names) ∧ w'.ownsRow w.heap.size 49 3 (.slice A2 p.holds.length c2) p.holds.length (holdsC p.holds)) ∧ Below w.heap.size w w'

set_option maxHeartbeats 4000000 in
theorem l03Copy_any (p : PD) (A1 : Option Addr) (c1 : Nat) (A2 : Option Addr) (c2 : Nat) (w : World) (hl : PLies w w.heap.size p A1 A2) (hn : p.names.length ≤ 1000000) (hh : p.holds.length ≤ 1000000) :
    Calls Tryz.prog 73 #[pdV p A1 c1 A2 c2] w (PnrCopied p w) := by
  obtain ⟨ph, pl, po, ns, hs, pb, pf⟩ := p
  obtain ⟨hl1, hl2⟩ := hl
  dsimp only [pdV] at *
  obtain ⟨W0, hW0⟩ : ∃ W0, W0 = (w.alloc (.cells #[.int .i64 ph, .int .i64 pl, .int .i64 po, .slice A1 ns.length c1, .slice A2 hs.length c2, .bool pb, .int .i64 pf] 40)).alloc (.cells zeroP 40) := ⟨_, rfl⟩
  have hz0 : W0.heap.size = w.heap.size + 2 := by rw [hW0]; simp
  have B0 : Below w.heap.size w W0 := by rw [hW0]; exact ((Below.refl _ w).alloc (Nat.le_refl _) _).alloc (by simp) _
  have X0 : Block W0 w.heap.size 40 #[.int .i64 ph, .int .i64 pl, .int .i64 po, .slice A1 ns.length c1, .slice A2 hs.length c2, .bool pb, .int .i64 pf] := by rw [hW0]; exact (Block.new w _ _).alloc _
  have Z0 : Block W0 (w.heap.size + 1) 40 zeroP := by
    have := Block.new (w.alloc (.cells #[.int .i64 ph, .int .i64 pl, .int .i64 po, .slice A1 ns.length c1, .slice A2 hs.length c2, .bool pb, .int .i64 pf] 40)) zeroP 40
    rw [World.size_alloc] at this
    rw [hW0]
    exact this
  have R0 : (W0.alloc (.cells #[] 9)).ownsRow W0.heap.size 9 1 (.slice (some ⟨W0.heap.size, 0, none⟩) 0 0) 0 [] := by
    have := World.ownsRow_lit (base := W0.heap.size) (e := 9) (size := 1) W0 #[] 0 (Nat.le_refl _) (by simp) rfl
    simpa using this
  have L1 : Lies (W0.alloc (.cells #[] 9)) w.heap.size 1 A1 ns.length (strsC ns) := hl1.below (B0.alloc (by omega) _)
  have HL2 := Lib.hid hl2
  have hW0' := hW0
  clear hl1 hl2
  subst hW0
  rw [show ((w.alloc (.cells #[.int .i64 ph, .int .i64 pl, .int .i64 po, .slice A1 ns.length c1, .slice A2 hs.length c2, .bool pb, .int .i64 pf] 40)).alloc (.cells zeroP 40)).heap.size = w.heap.size + 1 + 1 by simp] at R0
  have X1 := X0.alloc (.cells #[] 9)
  have Z1 := Z0.alloc (.cells #[] 9)
  have B1 := B0.alloc (by omega) (.cells #[] 9)
  clear X0 Z0 B0 hW0'
  have hBase : w.heap.size + 1 + 1 ≤ w.heap.size + 1 + 1 := Nat.le_refl _
  have HCo2 : Hid (∀ (w1 : World) (E1 : Option Addr) (e1 : Nat), Below w.heap.size w w1 → Block w1 w.heap.size 40 #[.int .i64 ph, .int .i64 pl, .int .i64 po, .slice A1 ns.length c1, .slice A2 hs.length c2, .bool pb, .int .i64 pf] → Block w1 (w.heap.size + 1) 40 zeroP → w1.ownsRow (w.heap.size + 1 + 1) 9 1 (.slice E1 ns.length e1) ns.length (strsC ns) →
      Lies ((w1.setCell ⟨w.heap.size, 3, none⟩ (.slice E1 ns.length e1)).alloc (.cells #[] 49)) w.heap.size 3 A2 hs.length (holdsC hs) ∧
      ((w1.setCell ⟨w.heap.size, 3, none⟩ (.slice E1 ns.length e1)).alloc (.cells #[] 49)).ownsRow w1.heap.size 49 3 (.slice (some ⟨w1.heap.size, 0, none⟩) 0 0) 0 [] ∧
      Block ((w1.setCell ⟨w.heap.size, 3, none⟩ (.slice E1 ns.length e1)).alloc (.cells #[] 49)) w.heap.size 40 #[.int .i64 ph, .int .i64 pl, .int .i64 po, .slice E1 ns.length e1, .slice A2 hs.length c2, .bool pb, .int .i64 pf] ∧
      Block ((w1.setCell ⟨w.heap.size, 3, none⟩ (.slice E1 ns.length e1)).alloc (.cells #[] 49)) (w.heap.size + 1) 40 zeroP ∧
      ((w1.setCell ⟨w.heap.size, 3, none⟩ (.slice E1 ns.length e1)).alloc (.cells #[] 49)).ownsRow (w.heap.size + 1 + 1) 9 1 (.slice E1 ns.length e1) ns.length (strsC ns) ∧
      Below w.heap.size w ((w1.setCell ⟨w.heap.size, 3, none⟩ (.slice E1 ns.length e1)).alloc (.cells #[] 49))) := fun w1 E1 e1 hB hX hZ hr => by
    have hB2 : Below w.heap.size w (w1.setCell ⟨w.heap.size, 3, none⟩ (.slice E1 ns.length e1)) := hB.setCell (Nat.le_refl _) _
    have hs1 : (w1.setCell ⟨w.heap.size, 3, none⟩ (.slice E1 ns.length e1)).heap.size = w1.heap.size := by simp
    refine ⟨HL2.out.below (hB2.alloc hB2.size _), ?_, ?_, ?_, ?_, hB2.alloc hB2.size _⟩
    · have := World.ownsRow_lit (base := w1.heap.size) (e := 49) (size := 3) (w1.setCell ⟨w.heap.size, 3, none⟩ (.slice E1 ns.length e1)) #[] 0 (by rw [hs1]; exact Nat.le_refl _) (by simp) rfl
      rw [hs1] at this
      simpa using this
    · have := (hX.set_ 3 (.slice E1 ns.length e1)).alloc (.cells #[] 49)
      simpa using this
    · exact (hZ.far (by show _ ≠ w.heap.size; omega) _).alloc _
    · exact (ownsRow_setCell_below hr (by show w.heap.size < _; omega) _).alloc _
  clear HL2
  go_enter Tryz.func73, Tryz.ntmps73
  go_wp2_with (first
    | (at_builtin; refine wpList_append_lies Tryz.underlying37 info_str rfl (by decide) (by decide) (w.heap.size + 1 + 1) _ 0 [] rfl R0 w.heap.size A1 ns.length c1 (strsC ns) rfl L1 (fun u hu => strsC_one ns u hu) (by omega) (by simp) ?_; intro v1 w1 hr1 hg1; obtain ⟨E1, e1, rfl, -, -⟩ := own_form hr1; have X2 := X1.kept hg1 (fun e => by have := Option.some.inj e; simp at this); have Z2 := Z1.kept hg1 (fun e => by have := Option.some.inj e; simp at this); have hB2 : Below w.heap.size _ w1 := below_of_grown hg1 (by simp only [World.size_alloc]; omega) (fun j e => by have : w.heap.size + 1 + 1 = j := Option.some.inj e; omega); have x2 := X2.cell; have f2 := X2.free; obtain ⟨L2, R2, X3, Z3, r3, B3⟩ := HCo2.out w1 E1 e1 (B1.trans hB2) X2 Z2 (by simpa using hr1); have q3 := X3.cell 4)
    | (at_builtin; refine wpList_append_lies Tryz.underlying38 info_hold rfl (by decide) (by decide) w1.heap.size _ 0 [] rfl R2 w.heap.size A2 hs.length c2 (holdsC hs) rfl L2 (fun u hu => holdsC_one hs u hu) (by omega) (by simp) ?_; intro v4 w4 hr4 hg4; obtain ⟨E2, e2, rfl, -, -⟩ := own_form hr4; have hlt1 := Nat.ne_of_lt X2.lt; have hlt2 := Nat.ne_of_lt Z2.lt; have X4 := X3.kept hg4 (fun e => hlt1 (Option.some.inj e)); have Z4 := Z3.kept hg4 (fun e => hlt2 (Option.some.inj e)); have r4 := r3.kept hg4 (own_apart (by decide) r3 R2); have B4 := B3.trans (show Below w.heap.size _ w4 from below_of_grown hg4 (Nat.le_trans B3.size (Nat.le_refl _)) (fun j e => by have h9 : w1.heap.size = j := Option.some.inj e; have := X2.lt; omega)); have x4 := X4.cell; have f4 := X4.free; have z4 := Z4.cell; have g4 := Z4.free))
  refine bodyPost_ret (v := pdV ⟨ph, pl, po, ns, hs, pb, pf⟩ E1 e1 E2 e2) (by simp [results, Tryz.results73, go_sem, z4, g4]) rfl ?_
  have hw1 := X2.lt
  refine ⟨⟨E1, e1, E2, e2, rfl, ?_, ?_⟩, ?_⟩
  · refine ownsRow_base (base := w.heap.size + 1 + 1) ?_ (by omega)
    iterate 7 (refine ownsRow_setCell_below ?_ (by dsimp only; omega) _)
    refine ownsRow_setCell_below ?_ (by dsimp only; omega) _
    exact r4
  · have hz2 := Z2.lt
    refine ownsRow_base (base := w1.heap.size) ?_ (by omega)
    iterate 7 (refine ownsRow_setCell_below ?_ (by dsimp only; omega) _)
    refine ownsRow_setCell_below ?_ (by dsimp only; omega) _
    simpa using hr4
  · iterate 7 (refine Below.setCell ?_ (by dsimp only; omega) _)
    exact B4.setCell (Nat.le_refl _) _
end Go.Proofs.YtpncnkihfijmaaaGreatDoor
namespace Go.Proofs.YtpncnkihfijmaaaGreatDoor
open Go.ChangeShapes Go.WideShapes Go.ChangeAt Go.RowKit Go.ChangeMaps
set_option maxRecDepth 10000
set_option linter.unusedSimpArgs false
set_option linter.unusedVariables false

/-- A booking that was drawn, all in new memory. -/
def PnrD (N M : Nat) (w : World) (e : Ending) (w' : World) : Prop :=
  (∃ p A1 c1 A2 c2, e = .returned (pdV p A1 c1 A2 c2) ∧ Small p N M ∧ w'.ownsRow w.heap.size 9 1 (.slice A1 p.names.length c1) p.names.length (strsC p.names) ∧ w'.ownsRow w.heap.size 49 3 (.slice A2 p.holds.length c2) p.holds.length (holdsC p.holds)) ∧ Below w.heap.size w w'
theorem below_draw {B g : Nat} {W W' : World} (h : W.grownBy W' (some g)) (hB : B ≤ W.heap.size) (hg : B ≤ g) : Below B W W' := below_of_grown h hB (fun j e => by have := Option.some.inj e; omega)

set_option maxHeartbeats 2000000 in
theorem drawPnrText_any (A : Option Addr) (l : List UInt8) (c : Nat) (w : World) (hl : Lies w w.heap.size 1 A l.length (bytesV l)) (hm : l.length ≤ maxLen) :
    Calls Tryz.prog 16 #[.slice A l.length c] w (PnrD 6 5 w) := by
  have HSo : Hid (∀ W : World, Below w.heap.size w W → Calls Tryz.prog 47 #[.slice A l.length c] W fun e w' => e = .returned (.pointer (some ⟨W.heap.size, 0, none⟩)) ∧ SrcAt A l c W.heap.size w' ∧ Below W.heap.size W w') := fun W hW => l01Source_any A l c W (hl.on hW) hm
  have HP : Hid (∀ (g : Nat) (W : World), SrcAt A l c g W → Calls Tryz.prog 63 #[.pointer (some ⟨g, 0, none⟩)] W fun e w' => PnrDrawn 6 5 g W e w' ∧ SrcAt A l c g w') := fun g W hW => srcPnr_any A l c g W hW hm
  unfold PnrDrawn at HP
  have Z0 : Block (w.alloc (.cells zeroP 40)) w.heap.size 40 zeroP := Block.new w _ _
  have B0 : Below w.heap.size w (w.alloc (.cells zeroP 40)) := (Below.refl _ w).alloc (Nat.le_refl _) _
  have hz0 : (w.alloc (.cells zeroP 40)).heap.size = w.heap.size + 1 := by simp
  clear hl
  go_enter Tryz.func16, Tryz.ntmps16
  go_wp2_with fail
  refine (HSo.out _ B0).mono ?_
  rintro e w1 ⟨rfl, hs1, hb1⟩
  have Z1 := Z0.on hb1
  have B1 := B0.trans (hb1.mono (by omega))
  rw [hz0] at hs1
  clear Z0 B0 hb1
  go_wp2_with fail
  refine (HP.out _ _ hs1).mono ?_
  rintro e w2 ⟨⟨⟨p, A1, c1, A2, c2, rfl, hsm, r1, r2⟩, hg2⟩, hs2⟩
  have Z2 := Z1.kept hg2 (fun e => by have := Option.some.inj e; omega)
  have B2 := B1.trans (below_draw hg2 B1.size (by omega))
  have hz1 : w.heap.size + 1 ≤ w1.heap.size := Nat.le_of_lt hs1.lt
  have z2 := Z2.cell
  have f2 := Z2.free
  have HB := Lib.hid B2
  have HR := Lib.hid (And.intro r1 r2)
  clear Z1 B1 hs1 hs2 hg2 Z2 B2 r1 r2
  obtain ⟨ph, pl, po, ns, hs, pb, pf⟩ := p
  dsimp only [pdV] at *
  go_wp2_with fail
  refine bodyPost_ret (v := pdV ⟨ph, pl, po, ns, hs, pb, pf⟩ A1 c1 A2 c2) (by simp [results, Tryz.results16, go_sem, z2, f2]) rfl ?_
  refine ⟨⟨_, A1, c1, A2, c2, rfl, hsm, ?_, ?_⟩, ?_⟩
  · refine ownsRow_base (base := w1.heap.size) ?_ (by omega)
    iterate 7 (refine ownsRow_setCell_below ?_ (by dsimp only; omega) _)
    exact HR.out.1
  · refine ownsRow_base (base := w1.heap.size) ?_ (by omega)
    iterate 7 (refine ownsRow_setCell_below ?_ (by dsimp only; omega) _)
    exact HR.out.2
  · iterate 7 (refine Below.setCell ?_ (Nat.le_refl w.heap.size) _)
    exact HB.out

theorem Small.fit {p : PD} {N M : Nat} (h : Small p N M) (hN : N ≤ 1000) (hM : M ≤ 1000) : PFit p := by
  obtain ⟨h1, h2, h3, h4⟩ := h
  unfold PFit maxLen
  exact ⟨by omega, fun x hx => Nat.le_trans (h3 x hx) (by omega), by omega, fun x hx => Nat.le_trans (h4 x hx) (by omega)⟩
theorem textT_le (p : PD) : (textT p).size ≤ 200 := by
  rw [textT]
  split
  · rename_i h
    obtain ⟨⟨a, b, c⟩, ⟨n1, n2⟩, ⟨h1, h2⟩, f⟩ := right_parts h
    have e1 := holdsT_size p.holds (p.names.foldl nameT (offT p.offer (liveT p.live (headT p.home p.loc p.owner)))) h2
    have e2 := namesT_size p.names (offT p.offer (liveT p.live (headT p.home p.loc p.owner))) n2
    have e3 := offT_size f (liveT p.live (headT p.home p.loc p.owner))
    have e4 := liveT_size p.live (headT p.home p.loc p.owner)
    have e5 := headT_size a b c
    omega
  · exact Nat.zero_le _

set_option maxRecDepth 100000 in
set_option maxHeartbeats 4000000 in
theorem drawPnrRead_any (A : Option Addr) (l : List UInt8) (c : Nat) (w : World) (hl : Lies w w.heap.size 1 A l.length (bytesV l)) (hm : l.length ≤ maxLen) :
    Calls Tryz.prog 18 #[.slice A l.length c] w fun e w' => (∃ s : ByteArray, e = .returned (.string s) ∧ s.size ≤ 200002) ∧ Below w.heap.size w w' := by
  have HSo : Hid (Calls Tryz.prog 47 #[.slice A l.length c] w fun e w' => e = .returned (.pointer (some ⟨w.heap.size, 0, none⟩)) ∧ SrcAt A l c w.heap.size w' ∧ Below w.heap.size w w') := l01Source_any A l c w hl hm
  have HP : Hid (∀ (W : World), SrcAt A l c w.heap.size W → Calls Tryz.prog 69 #[.pointer (some ⟨w.heap.size, 0, none⟩)] W fun e w' => PnrDrawn 3 4 w.heap.size W e w' ∧ SrcAt A l c w.heap.size w') := fun W hW => srcPnrOf_any A l c w.heap.size W hW hm
  have HN : Hid (∀ (W : World) (m : Int), SrcAt A l c w.heap.size W → m ≤ 1000000 → Calls Tryz.prog 53 #[.pointer (some ⟨w.heap.size, 0, none⟩), .int .i64 m] W fun e w' => (∃ r : Int, e = .returned (.int .i64 r) ∧ 0 ≤ r ∧ (r < m ∨ r = 0)) ∧ SrcAt A l c w.heap.size w' ∧ W.grownBy w' (some w.heap.size)) := fun W m h1 h2 => srcN_any A l c w.heap.size m W h1 hm h2
  have HSp : Hid (∀ (t : ByteArray) (W : World), SrcAt A l c w.heap.size W → t.size ≤ 100000 → Calls Tryz.prog 54 #[.pointer (some ⟨w.heap.size, 0, none⟩), .string t] W fun e w' => StrDrawn 200002 w.heap.size W e w' ∧ SrcAt A l c w.heap.size w') := fun t W hW ht => srcSpoil_any A l c w.heap.size t W hW hm ht
  have HT : Hid (∀ (p : PD) (W : World) A1 c1 A2 c2, PLies W W.heap.size p A1 A2 → Small p 3 4 → Calls Tryz.prog 26 #[pdV p A1 c1 A2 c2] W fun e w' => e = .returned (.string (textT p)) ∧ Below W.heap.size W w') := fun p W A1 c1 A2 c2 h hs => sPnrText_any p A1 c1 A2 c2 W h (hs.fit (by omega) (by omega)) (by have := hs.1; omega) (by have := hs.2.1; omega)
  unfold PnrDrawn at HP
  unfold StrDrawn at HSp
  clear hl
  go_enter Tryz.func18, Tryz.ntmps18
  go_wp2_with fail
  refine HSo.out.mono ?_
  rintro e w1 ⟨rfl, hs1, B1⟩
  go_wp2_with fail
  refine (HP.out _ hs1).mono ?_
  rintro e w2 ⟨⟨⟨p, A1, c1, A2, c2, rfl, hsm, r1, r2⟩, hg2⟩, hs2⟩
  have B2 := B1.trans (below_draw hg2 B1.size (Nat.le_refl _))
  clear hs1 hg2
  go_wp2_with fail
  refine (HT.out p _ _ _ _ _ ⟨Lies.own r1, Lies.own r2⟩ hsm).mono ?_
  rintro e w3 ⟨rfl, hb3⟩
  have hs3 := hs2.on hb3
  have B3 := B2.trans (hb3.mono B2.size)
  have HTz : Hid ((textT p).size ≤ 200) := textT_le p
  clear hs2 hb3 r1 r2 hsm B2
  generalize textT p = t at *
  go_wp2_with fail
  refine (HN.out _ 4 hs3 (by omega)).mono ?_
  rintro e w4 ⟨⟨r, rfl, a0, a1⟩, k1, k2⟩
  have B4 := B3.trans (below_draw k2 B3.size (Nat.le_refl _))
  clear hs3 B3 k2 HN HP HT HSo
  have hr : r = 0 ∨ r = 1 ∨ (2 ≤ r ∧ r ≤ 3) := by omega
  rcases hr with rfl | rfl | ⟨h2, h3⟩
  · go_wp2_with fail
    refine (HSp.out _ _ k1 (by have : t.size ≤ 200 := HTz.out; omega)).mono ?_
    rintro e w5 ⟨⟨⟨s, rfl, hs⟩, hg5⟩, -⟩
    have B5 := B4.trans (below_draw hg5 B4.size (Nat.le_refl _))
    clear hg5 k1 B4
    go_wp2_with fail
    go_ret
    exact ⟨⟨s, rfl, hs⟩, B5⟩
  · go_wp2_with fail
    refine (srcPick_any A l c w.heap.size w4.heap.size 11 _ (fun s => s.size ≤ 200002) _ (k1.on ((Below.refl _ w4).alloc (Nat.le_refl _) _)) hm (Block.new w4 _ _) (by have := k1.lt; omega) 11 rfl (by omega) (by omega) (by
      intro i hi
      have h11 : i = 0 ∨ i = 1 ∨ i = 2 ∨ i = 3 ∨ i = 4 ∨ i = 5 ∨ i = 6 ∨ i = 7 ∨ i = 8 ∨ i = 9 ∨ i = 10 := by omega
      rcases h11 with rfl | rfl | rfl | rfl | rfl | rfl | rfl | rfl | rfl | rfl | rfl <;> exact ⟨_, rfl, by decide⟩)).mono ?_
    rintro e w5 ⟨⟨s, rfl, hs⟩, -, hg5⟩
    have B5 := (B4.alloc B4.size _).trans (below_draw hg5 (by have := B4.size; simp; omega) (Nat.le_refl _))
    clear hg5 k1 B4
    go_wp2_with fail
    go_ret
    exact ⟨⟨s, rfl, hs⟩, B5⟩
  · have h0 : (r == 0) = false := by rw [beq_eq_false_iff_ne]; omega
    have h1 : (r == 1) = false := by rw [beq_eq_false_iff_ne]; omega
    go_wp2_with fail
    go_ret
    exact ⟨⟨t, rfl, by have : t.size ≤ 200 := HTz.out; omega⟩, B4⟩
end Go.Proofs.YtpncnkihfijmaaaGreatDoor
namespace Go.Proofs.YtpncnkihfijmaaaGreatDoor
open Go.ChangeShapes Go.WideShapes Go.ChangeAt Go.RowKit Go.ChangeMaps
set_option maxRecDepth 10000
set_option linter.unusedSimpArgs false
set_option linter.unusedVariables false

/-- A drawn hold. -/
def HoldD (f : ByteArray) (r k : Int) : Prop := (f = ab1 ∨ f = cd2) ∧ (1 ≤ r ∧ r ≤ 3) ∧ (0 ≤ k ∧ k ≤ 2)
theorem HoldD.small {f : ByteArray} {r k : Int} (h : HoldD f r k) : f.size ≤ 100 := by
  rcases h.1 with rfl | rfl <;> decide

abbrev zeroH : Array Value := #[.string ⟨#[]⟩, .int .i64 0, .int .i64 0]

set_option maxHeartbeats 2000000 in
theorem drawHoldLess_any (A : Option Addr) (l : List UInt8) (c : Nat) (w : World) (hl : Lies w w.heap.size 1 A l.length (bytesV l)) (hm : l.length ≤ maxLen) :
    Calls Tryz.prog 25 #[.slice A l.length c] w fun e w' => (∃ f r k f2 r2 k2, e = .returned (.tuple #[.agg #[.string f, .int .i64 r, .int .i64 k], .agg #[.string f2, .int .i64 r2, .int .i64 k2]]) ∧ HoldD f r k ∧ HoldD f2 r2 k2) ∧ Below w.heap.size w w' := by
  have HSo : Hid (∀ W : World, Below w.heap.size w W → Calls Tryz.prog 47 #[.slice A l.length c] W fun e w' => e = .returned (.pointer (some ⟨W.heap.size, 0, none⟩)) ∧ SrcAt A l c W.heap.size w' ∧ Below W.heap.size W w') := fun W hW => l01Source_any A l c W (hl.on hW) hm
  have HH : Hid (∀ (g : Nat) (W : World), SrcAt A l c g W → Calls Tryz.prog 74 #[.pointer (some ⟨g, 0, none⟩)] W fun e w' => (∃ (f : ByteArray) (r k : Int), e = .returned (.agg #[.string f, .int .i64 r, .int .i64 k]) ∧ HoldD f r k) ∧ SrcAt A l c g w' ∧ W.grownBy w' (some g)) := fun g W hW => srcHold_any A l c g W hW hm
  have Y0 : Block (w.alloc (.cells zeroH 49)) w.heap.size 49 zeroH := Block.new w _ _
  have X0 := Y0.alloc (.cells zeroH 49)
  have Z0 := Block.new (w.alloc (.cells zeroH 49)) zeroH 49
  have B0 : Below w.heap.size w ((w.alloc (.cells zeroH 49)).alloc (.cells zeroH 49)) := ((Below.refl _ w).alloc (Nat.le_refl _) _).alloc (by simp) _
  have hz0 : ((w.alloc (.cells zeroH 49)).alloc (.cells zeroH 49)).heap.size = w.heap.size + 2 := by simp
  rw [World.size_alloc] at Z0
  clear hl Y0
  go_enter Tryz.func25, Tryz.ntmps25
  go_wp2_with fail
  refine (HSo.out _ B0).mono ?_
  rintro e w1 ⟨rfl, hs1, hb1⟩
  have X1 := X0.on hb1
  have Z1 := Z0.on hb1
  have B1 := B0.trans (hb1.mono (by omega))
  rw [hz0] at hs1
  clear X0 Z0 B0 hb1
  go_wp2_with fail
  refine (HH.out _ _ hs1).mono ?_
  rintro e w2 ⟨⟨f, r, k, rfl, hh⟩, hs2, hg2⟩
  have X2 := X1.kept hg2 (fun e => by have := Option.some.inj e; omega)
  have Z2 := Z1.kept hg2 (fun e => by have := Option.some.inj e; omega)
  have B2 := B1.trans (below_draw hg2 B1.size (by omega))
  clear hs1 hg2 B1 X1 Z1
  have HD1 := Lib.hid hh
  clear hh
  have hsD : SrcAt A l c (w.heap.size + 2) (w2.alloc (.cells #[.string f, .int .i64 r, .int .i64 k] 49)).drew := (hs2.on ((Below.refl _ w2).alloc (Nat.le_refl _) _)).on (Below.refl _ _).drew
  have XD := (X2.alloc (.cells #[.string f, .int .i64 r, .int .i64 k] 49)).drew
  have ZD := (Z2.alloc (.cells #[.string f, .int .i64 r, .int .i64 k] 49)).drew
  have VD : Block (w2.alloc (.cells #[.string f, .int .i64 r, .int .i64 k] 49)).drew w2.heap.size 49 #[.string f, .int .i64 r, .int .i64 k] := (Block.new w2 _ _).drew
  have BD : Below w.heap.size w (w2.alloc (.cells #[.string f, .int .i64 r, .int .i64 k] 49)).drew := (B2.alloc B2.size _).drew
  have hz2 := Z2.lt
  have hzs2 := hs2.lt
  have vD := VD.cell
  clear hs2 X2 Z2 B2
  go_wp2_with fail
  go_region_with (first
    | (go_at_call 74; refine (HH.out _ _ hsD).mono ?_; rintro e w3 ⟨⟨f2, r2, k2, rfl, hh2⟩, hs3, hg3⟩; have X3 := XD.kept hg3 (fun e => by have := Option.some.inj e; omega); have Z3 := ZD.kept hg3 (fun e => by have := Option.some.inj e; omega); have V3 := VD.kept hg3 (fun e => by have := Option.some.inj e; omega); have q3 := X3.cell; have z3 := Z3.cell; have v3 := V3.cell; have f3 := X3.free; have g3 := Z3.free; have HD2 := Lib.hid hh2; have B3 := BD.trans (below_draw hg3 BD.size (by omega))))
  all_goals
    have HB := Lib.hid B3
    clear X3 Z3 V3 B3 XD ZD VD BD hsD hs3 hg3
    go_wp2_with fail
    refine bodyPost_ret (v := .tuple #[.agg #[.string f, .int .i64 r, .int .i64 k], .agg #[.string f2, .int .i64 r2, .int .i64 k2]]) (by simp [results, Tryz.results25, go_sem, q3, f3, z3, g3]) rfl ?_
    refine ⟨⟨_, _, _, _, _, _, rfl, HD1.out, HD2.out⟩, ?_⟩
    iterate 6 (refine Below.setCell ?_ (by first | exact Nat.le_refl _ | exact Nat.le_succ _) _)
    exact HB.out
end Go.Proofs.YtpncnkihfijmaaaGreatDoor
namespace Go.Proofs.YtpncnkihfijmaaaGreatDoor
open Go.ChangeShapes Go.WideShapes Go.ChangeAt Go.RowKit Go.ChangeMaps
set_option maxRecDepth 10000
set_option linter.unusedSimpArgs false
set_option linter.unusedVariables false

set_option maxHeartbeats 4000000 in
theorem drawHoldPut_any (A : Option Addr) (l : List UInt8) (c : Nat) (w : World) (hl : Lies w w.heap.size 1 A l.length (bytesV l)) (hm : l.length ≤ maxLen) :
    Calls Tryz.prog 22 #[.slice A l.length c] w fun e w' => (∃ (hs : List HD) (A2 : Option Addr) (c2 : Nat) (f : ByteArray) (r k : Int), e = .returned (.tuple #[.slice A2 hs.length c2, .agg #[.string f, .int .i64 r, .int .i64 k]]) ∧ hs.length ≤ 5 ∧ (∀ x ∈ hs, x.f.size ≤ 100) ∧ w'.ownsRow w.heap.size 49 3 (.slice A2 hs.length c2) hs.length (holdsC hs) ∧ HoldD f r k) ∧ Below w.heap.size w w' := by
  have HSo : Hid (∀ W : World, Below w.heap.size w W → Calls Tryz.prog 47 #[.slice A l.length c] W fun e w' => e = .returned (.pointer (some ⟨W.heap.size, 0, none⟩)) ∧ SrcAt A l c W.heap.size w' ∧ Below W.heap.size W w') := fun W hW => l01Source_any A l c W (hl.on hW) hm
  have HP : Hid (∀ (g : Nat) (W : World), SrcAt A l c g W → Calls Tryz.prog 63 #[.pointer (some ⟨g, 0, none⟩)] W fun e w' => PnrDrawn 6 5 g W e w' ∧ SrcAt A l c g w') := fun g W hW => srcPnr_any A l c g W hW hm
  have HH : Hid (∀ (g : Nat) (W : World), SrcAt A l c g W → Calls Tryz.prog 74 #[.pointer (some ⟨g, 0, none⟩)] W fun e w' => (∃ (f : ByteArray) (r k : Int), e = .returned (.agg #[.string f, .int .i64 r, .int .i64 k]) ∧ HoldD f r k) ∧ SrcAt A l c g w' ∧ W.grownBy w' (some g)) := fun g W hW => srcHold_any A l c g W hW hm
  unfold PnrDrawn at HP
  have Z0 := Block.new w zeroH 49
  have B0 : Below w.heap.size w (w.alloc (.cells zeroH 49)) := (Below.refl _ w).alloc (Nat.le_refl _) _
  have hz0 : (w.alloc (.cells zeroH 49)).heap.size = w.heap.size + 1 := by simp
  clear hl
  go_enter Tryz.func22, Tryz.ntmps22
  go_wp2_with fail
  refine (HSo.out _ B0).mono ?_
  rintro e w1 ⟨rfl, hs1, hb1⟩
  have Z1 := Z0.on hb1
  have B1 := B0.trans (hb1.mono (by omega))
  rw [hz0] at hs1
  clear Z0 B0 hb1
  go_wp2_with fail
  refine (HP.out _ _ hs1).mono ?_
  rintro e w2 ⟨⟨⟨p, A1, c1, A2, c2, rfl, hsm, r1, r2⟩, hg2⟩, hs2⟩
  have Z2 := Z1.kept hg2 (fun e => by have := Option.some.inj e; omega)
  have B2 := B1.trans (below_draw hg2 B1.size (by omega))
  have hz1 := hs1.lt
  clear hs1 hg2 B1 Z1 r1
  obtain ⟨ph, pl, po, ns, hs, pb, pf⟩ := p
  dsimp only [pdV] at *
  have HSm : Hid (hs.length ≤ 5 ∧ ∀ x ∈ hs, x.f.size ≤ 100) := ⟨hsm.2.1, hsm.2.2.2⟩
  clear hsm
  have hsD : SrcAt A l c (w.heap.size + 1) (w2.alloc (.cells #[.int .i64 ph, .int .i64 pl, .int .i64 po, .slice A1 ns.length c1, .slice A2 hs.length c2, .bool pb, .int .i64 pf] 40)).drew := (hs2.on ((Below.refl _ w2).alloc (Nat.le_refl _) _)).on (Below.refl _ _).drew
  have ZD := (Z2.alloc (.cells #[.int .i64 ph, .int .i64 pl, .int .i64 po, .slice A1 ns.length c1, .slice A2 hs.length c2, .bool pb, .int .i64 pf] 40)).drew
  have VD : Block (w2.alloc (.cells #[.int .i64 ph, .int .i64 pl, .int .i64 po, .slice A1 ns.length c1, .slice A2 hs.length c2, .bool pb, .int .i64 pf] 40)).drew w2.heap.size 40 #[.int .i64 ph, .int .i64 pl, .int .i64 po, .slice A1 ns.length c1, .slice A2 hs.length c2, .bool pb, .int .i64 pf] := (Block.new w2 _ _).drew
  have BD : Below w.heap.size w (w2.alloc (.cells #[.int .i64 ph, .int .i64 pl, .int .i64 po, .slice A1 ns.length c1, .slice A2 hs.length c2, .bool pb, .int .i64 pf] 40)).drew := (B2.alloc B2.size _).drew
  have RD := (r2.alloc (.cells #[.int .i64 ph, .int .i64 pl, .int .i64 po, .slice A1 ns.length c1, .slice A2 hs.length c2, .bool pb, .int .i64 pf] 40)).drew
  have hz2 := Z2.lt
  have hzs2 := hs2.lt
  have vD := VD.cell
  clear hs2 Z2 B2 r2
  go_wp2_with fail
  go_region_with (first
    | (go_at_call 74; refine (HH.out _ _ hsD).mono ?_; rintro e w3 ⟨⟨f2, r2, k2, rfl, hh2⟩, hs3, hg3⟩; have Z3 := ZD.kept hg3 (fun e => by have := Option.some.inj e; omega); have V3 := VD.kept hg3 (fun e => by have := Option.some.inj e; omega); have z3 := Z3.cell; have v3 := V3.cell; have g3 := Z3.free; have HD2 := Lib.hid hh2; have B3 := BD.trans (below_draw hg3 BD.size (by omega)); have R3 := row_draw RD hg3 hz1))
  all_goals
    have HB := Lib.hid B3
    have HR := Lib.hid R3
    clear Z3 V3 B3 R3 ZD VD BD RD hsD hs3 hg3
    go_wp2_with fail
    refine bodyPost_ret (v := .tuple #[.slice A2 hs.length c2, .agg #[.string f2, .int .i64 r2, .int .i64 k2]]) (by simp [results, Tryz.results22, go_sem, z3, g3]) rfl ?_
    refine ⟨⟨hs, A2, c2, f2, r2, k2, rfl, HSm.out.1, HSm.out.2, ?_, HD2.out⟩, ?_⟩
    · refine ownsRow_base (base := w1.heap.size) ?_ (by omega)
      iterate 3 (refine ownsRow_setCell_below ?_ (by dsimp only; omega) _)
      exact HR.out
    · iterate 3 (refine Below.setCell ?_ (by first | exact Nat.le_refl _ | exact Nat.le_succ _) _)
      exact HB.out
end Go.Proofs.YtpncnkihfijmaaaGreatDoor
