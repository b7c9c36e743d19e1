/-
  Bookings: as values; the laws' own size, copy and equality of them.
-/
import Derived.Test.YtihlilihipcfaaaDoorStrs
import Derived.Test.YtihlilihipcfaaaDoorHoldEq
namespace Go.Proofs.YtihlilihipcfaaaDoor
open Go.ChangeShapes Go.WideShapes Go.ChangeAt Go.RowKit Go.ChangeMaps
set_option maxRecDepth 10000
set_option linter.unusedSimpArgs false
set_option linter.unusedVariables false

structure PD where
  home : Int
  loc : Int
  owner : Int
  names : List ByteArray
  holds : List HD
  live : Bool
  offer : Int

/-- A booking, as a value. -/
abbrev pnrV (h l o : Int) (n : Nat) (A1 : Option Addr) (c1 m : Nat) (A2 : Option Addr) (c2 : Nat) (b : Bool) (f : Int) : Value :=
  .agg #[.int .i64 h, .int .i64 l, .int .i64 o, .slice A1 n c1, .slice A2 m c2, .bool b, .int .i64 f]
/-- .. of what its lists hold. -/
abbrev pdV (p : PD) (A1 : Option Addr) (c1 : Nat) (A2 : Option Addr) (c2 : Nat) : Value := pnrV p.home p.loc p.owner p.names.length A1 c1 p.holds.length A2 c2 p.live p.offer
/-- Its lists lie there. -/
def PLies (w : World) (B : Nat) (p : PD) (A1 A2 : Option Addr) : Prop := Lies w B 1 A1 p.names.length (strsC p.names) ∧ Lies w B 3 A2 p.holds.length (holdsC p.holds)
theorem PLies.below {w w' : World} {B : Nat} {p : PD} {A1 A2 : Option Addr} (h : PLies w B p A1 A2) (hb : Below B w w') : PLies w' B p A1 A2 := ⟨h.1.below hb, h.2.below hb⟩
theorem PLies.mono {w : World} {B B' : Nat} {p : PD} {A1 A2 : Option Addr} (h : PLies w B p A1 A2) (hb : B ≤ B') : PLies w B' p A1 A2 := ⟨h.1.mono hb, h.2.mono hb⟩
theorem PLies.on {w w' : World} {p : PD} {A1 A2 : Option Addr} (h : PLies w w.heap.size p A1 A2) (hb : Below w.heap.size w w') : PLies w' w'.heap.size p A1 A2 := ⟨h.1.on hb, h.2.on hb⟩
theorem PLies.drew {w : World} {B : Nat} {p : PD} {A1 A2 : Option Addr} (h : PLies w B p A1 A2) : PLies w.drew B p A1 A2 := h
theorem PLies.alloc {w : World} {p : PD} {A1 A2 : Option Addr} (h : PLies w w.heap.size p A1 A2) (o : Obj) : PLies (w.alloc o) (w.alloc o).heap.size p A1 A2 := ⟨h.1.alloc o, h.2.alloc o⟩
/-- It takes no more than it may. -/
def PFit (p : PD) : Prop := p.names.length ≤ maxLen ∧ (∀ x ∈ p.names, x.size ≤ maxLen) ∧ p.holds.length ≤ maxLen ∧ (∀ x ∈ p.holds, x.f.size ≤ maxLen)
/-- How many elements and letters a booking has. -/
def bulk (p : PD) : Nat := (p.names.length + totS p.names) + (p.holds.length + tot p.holds)
def leftP (n : Int) (p : PD) : Int := if n < (bulk p : Nat) then -1 else n - (bulk p : Nat)

theorem boxed {w w1 : World} {o : Obj} (hb : Below (w.alloc o).heap.size (w.alloc o) w1) : Below w.heap.size w w1 := ((Below.refl _ _).alloc (Nat.le_refl _) _).trans (hb.mono (by simp))

set_option maxHeartbeats 1000000 in
theorem szPnr_any (p : PD) (A1 : Option Addr) (c1 : Nat) (A2 : Option Addr) (c2 : Nat) (n : Int) (w : World) (hl : PLies w w.heap.size p A1 A2) (hf : PFit p) (h0 : 0 ≤ n) (h1 : n ≤ 1048576) :
    Calls Tryd.prog 9 #[pdV p A1 c1 A2 c2, .int .i64 n] w fun e w' => e = .returned (.int .i64 (leftP n p)) ∧ Below w.heap.size w w' := by
  obtain ⟨h, l, o, ns, hs, b, f⟩ := p
  obtain ⟨hl1, hl2⟩ := hl
  obtain ⟨f1, f2, f3, f4⟩ := hf
  dsimp only at *
  have HS : Hid (∀ W : World, Below w.heap.size w W → Calls Tryd.prog 21 #[.slice A1 ns.length c1, .int .i64 n] W fun e w' => e = .returned (.int .i64 (leftS n ns)) ∧ Below W.heap.size W w') :=
    fun W hW => szStringS_any ns A1 c1 n W (hl1.on hW) f1 f2 h0 h1
  have HH : Hid (∀ (k : Int) (W : World), Below w.heap.size w W → 0 ≤ k → k ≤ 1048576 → Calls Tryd.prog 22 #[.slice A2 hs.length c2, .int .i64 k] W fun e w' => e = .returned (.int .i64 (leftI k hs)) ∧ Below W.heap.size W w') :=
    fun k W hW k0 k1 => szHoldS_any hs A2 c2 k W (hl2.on hW) f3 f4 k0 k1
  have HR : Hid (leftP n ⟨h, l, o, ns, hs, b, f⟩ = if n < (((ns.length + totS ns) + (hs.length + tot hs) : Nat)) then -1 else n - (((ns.length + totS ns) + (hs.length + tot hs) : Nat))) := rfl
  generalize leftP n ⟨h, l, o, ns, hs, b, f⟩ = R at *
  unfold leftS at HS
  unfold leftI at HH
  generalize ns.length + totS ns = X at *
  generalize hs.length + tot hs = Y at *
  clear f1 f2 f3 f4 hl1 hl2
  by_cases hX : n < (X : Nat)
  · rw [if_pos hX] at HS
    go_enter Tryd.func9, Tryd.ntmps9
    go_wp2_with fail
    refine (HS.out _ ((Below.refl _ _).alloc (Nat.le_refl _) _)).mono ?_
    rintro e w1 ⟨rfl, hb1⟩
    go_wp2_with fail
    go_ret
    exact ⟨ret_int (by rw [HR.out, if_pos (by omega)]), boxed hb1⟩
  · rw [if_neg hX] at HS
    go_enter Tryd.func9, Tryd.ntmps9
    go_wp2_with fail
    refine (HS.out _ ((Below.refl _ _).alloc (Nat.le_refl _) _)).mono ?_
    rintro e w1 ⟨rfl, hb1⟩
    have hB := boxed hb1
    have c4 := kc hb1 (b := w.heap.size) (i := 4) (v := .slice A2 hs.length c2) (by go_simp) (by simp)
    clear hb1
    go_wp2_with fail
    refine (HH.out _ _ hB (by omega) (by omega)).mono ?_
    rintro e w2 ⟨rfl, hb2⟩
    by_cases hY : n - (X : Nat) < (Y : Nat)
    · rw [if_pos hY]
      go_wp2_with fail
      go_ret
      exact ⟨ret_int (by rw [HR.out, if_pos (by omega)]), hB.trans (hb2.mono hB.size)⟩
    · rw [if_neg hY]
      go_wp2_with fail
      go_ret
      exact ⟨ret_int (by rw [HR.out, if_neg (by omega)]; omega), hB.trans (hb2.mono hB.size)⟩

/-- What the laws' own copy of a booking is: new lists, that read alike. -/
def PnrMade (p : PD) (w : World) (e : Ending) (w' : World) : Prop :=
  ∃ (A1 : Option Addr) (c1 : Nat) (A2 : Option Addr) (c2 : Nat), e = .returned (pdV p A1 c1 A2 c2) ∧ PLies w' w'.heap.size p A1 A2 ∧ Below w.heap.size w w'
def StrsMade (l : List ByteArray) (w : World) (e : Ending) (w' : World) : Prop :=
  ∃ (A : Option Addr) (c : Nat), e = .returned (.slice A l.length c) ∧ w'.ownsRow w.heap.size 9 1 (.slice A l.length c) l.length (strsC l) ∧ Below w.heap.size w w'
def HoldsMade (l : List HD) (w : World) (e : Ending) (w' : World) : Prop :=
  ∃ (A : Option Addr) (c : Nat), e = .returned (.slice A l.length c) ∧ w'.ownsRow w.heap.size 58 3 (.slice A l.length c) l.length (holdsC l) ∧ Below w.heap.size w w'

theorem alloc3_mid (w : World) (a b c : Obj) : (((w.alloc a).alloc b).alloc c).heap[w.heap.size + 1]? = some b :=
  (Below.heap_alloc _ _ _ (by simp)).trans (by have := heap_alloc_new (w.alloc a) b; simpa using this)
theorem alloc3_last (w : World) (a b c : Obj) : (((w.alloc a).alloc b).alloc c).heap[w.heap.size + 1 + 1]? = some c := by
  have := heap_alloc_new ((w.alloc a).alloc b) c
  simpa using this

set_option maxHeartbeats 1000000 in
theorem toPnr_any (p : PD) (A1 : Option Addr) (c1 : Nat) (A2 : Option Addr) (c2 : Nat) (w : World) (hl : PLies w w.heap.size p A1 A2) (hn : p.names.length ≤ 1099511627) (hh : p.holds.length ≤ 1099511627) :
    Calls Tryd.prog 11 #[pdV p A1 c1 A2 c2] w (PnrMade p w) := by
  obtain ⟨h, l, o, ns, hs, b, f⟩ := p
  obtain ⟨hl1, hl2⟩ := hl
  dsimp only at *
  have HS : Hid (∀ W : World, Below w.heap.size w W → Calls Tryd.prog 26 #[.slice A1 ns.length c1] W (StrsMade ns W)) :=
    fun W hW => (toStringS_any ns A1 c1 W (hl1.on hW) hn).mono fun e w' ⟨h1, h2, h3⟩ => ⟨_, _, h1, h2, h3⟩
  have HH : Hid (∀ W : World, Below w.heap.size w W → Calls Tryd.prog 27 #[.slice A2 hs.length c2] W (HoldsMade hs W)) :=
    fun W hW => (toHoldS_any hs A2 c2 W (hl2.on hW) hh).mono fun e w' ⟨h1, h2, h3⟩ => ⟨_, _, h1, h2, h3⟩
  clear hl1 hl2
  go_enter Tryd.func11, Tryd.ntmps11
  go_wp2_with fail
  refine (HS.out _ (by go_grown)).mono ?_
  rintro e w1 ⟨B1, d1, rfl, hlies1, hb1⟩
  have hB : Below w.heap.size w w1 := Below.trans (by go_grown) (hb1.mono (by simp; omega))
  have hz : w.heap.size + 3 ≤ w1.heap.size := by have := hb1.size; simpa using this
  have b4 := kc hb1 (b := w.heap.size) (i := 4) (v := .slice A2 hs.length c2) (by go_simp) (by simp; omega)
  have b5 := kc hb1 (b := w.heap.size) (i := 5) (v := .bool b) (by go_simp) (by simp; omega)
  have b6 := kc hb1 (b := w.heap.size) (i := 6) (v := .int .i64 f) (by go_simp) (by simp; omega)
  have blk1 : w1.heap[w.heap.size + 1]? = some (.cells #[.int .i64 0, .int .i64 0, .int .i64 0, .slice none 0 0, .slice none 0 0, .bool false, .int .i64 0] 41 (0, 0)) := (hb1.block (w.heap.size + 1) (by simp)).trans (alloc3_mid _ _ _ _)
  have blk2 : w1.heap[w.heap.size + 1 + 1]? = some (.cells #[.int .i64 h, .int .i64 l, .int .i64 o, .slice none 0 0, .slice none 0 0, .bool false, .int .i64 0] 41 (0, 0)) := (hb1.block (w.heap.size + 2) (by simp)).trans (alloc3_last _ _ _ _)
  have e3 := cell_of_row w1 (w.heap.size + 1 + 1) 3 _ _ _ blk2
  have f3 := frozen_of_row w1 (w.heap.size + 1 + 1) 3 _ _ blk2
  have K1 := Lib.hid ((heap_setCell_other w1 ⟨w.heap.size + 1 + 1, 3, none⟩ (w.heap.size + 1) (.slice (some ⟨0, 0, none⟩) 0 0) (by simp)).trans blk1)
  have K2 := Lib.hid (fun v => heap_setCell_same w1 (w.heap.size + 1 + 1) 3 _ _ v blk2)
  have K1 : Hid (∀ v, (w1.setCell ⟨w.heap.size + 1 + 1, 3, none⟩ v).heap[w.heap.size + 1]? = some (.cells #[.int .i64 0, .int .i64 0, .int .i64 0, .slice none 0 0, .slice none 0 0, .bool false, .int .i64 0] 41 (0, 0))) := fun v => (heap_setCell_other w1 ⟨w.heap.size + 1 + 1, 3, none⟩ (w.heap.size + 1) v (by simp)).trans blk1
  have K5 : Hid (∀ v, (w1.setCell ⟨w.heap.size + 1 + 1, 3, none⟩ v).cell? ⟨w.heap.size, 5, none⟩ = some (.bool b)) := fun v => (World.cell?_setCell_other w1 _ _ v (by simp)).trans b5
  have K6 : Hid (∀ v, (w1.setCell ⟨w.heap.size + 1 + 1, 3, none⟩ v).cell? ⟨w.heap.size, 6, none⟩ = some (.int .i64 f)) := fun v => (World.cell?_setCell_other w1 _ _ v (by simp)).trans b6
  clear hb1 blk1 blk2 b5 b6
  go_wp2_with fail
  refine (HH.out _ (hB.setCell (by simp; omega) _)).mono ?_
  rintro e w2 ⟨B2, d2, rfl, hlies2, hb2⟩
  have hz2 : w.heap.size + 3 ≤ w2.heap.size := Nat.le_trans (by simpa using hz) hb2.size
  have hB2 : Below w.heap.size w w2 := (hB.setCell (by simp; omega) _).trans (hb2.mono (by simp; omega))
  have b5 := kc hb2 (K5.out _) (by simp; omega)
  have b6 := kc hb2 (K6.out _) (by simp; omega)
  have blk1 := (hb2.block (w.heap.size + 1) (by simp; omega)).trans (K1.out _)
  have blk2 := (hb2.block (w.heap.size + 1 + 1) (by simp; omega)).trans (K2.out _)
  have hown1' := ownsRow_below (ownsRow_setCell_below hlies1 (a := ⟨w.heap.size + 1 + 1, 3, none⟩) (by simp) _) hb2
  simp only [World.size_alloc, World.size_setCell] at hown1' hlies2
  have L1 := Lib.hid hown1'
  have L2 := Lib.hid hlies2
  have q1 := fun i => (cell_of_row w2 (w.heap.size + 1) i _ _ _ blk1)
  have q2 := fun i => (cell_of_row w2 (w.heap.size + 1 + 1) i _ _ _ blk2)
  have r1 := fun i => (frozen_of_row w2 (w.heap.size + 1) i _ _ blk1)
  have r2 := fun i => (frozen_of_row w2 (w.heap.size + 1 + 1) i _ _ blk2)
  clear hown1' hlies1 hlies2 hb2 blk1 blk2 hB K1 K2 K5 K6
  go_wp2_with fail
  refine bodyPost_ret (v := pnrV h l o ns.length B1 d1 hs.length B2 d2 b f) (by simp [results, Tryd.results11, go_sem, q1, q2]) rfl ?_
  refine ⟨B1, d1, B2, d2, rfl, ⟨Lies.own (base := w.heap.size + 1 + 1 + 1) (e := 9) (c := d1) ?_, Lies.own (base := w1.heap.size) (e := 58) (c := d2) ?_⟩, ?_⟩
  · iterate 10 (refine ownsRow_setCell_below ?_ (by dsimp only; omega) _)
    exact L1.out
  · iterate 10 (refine ownsRow_setCell_below ?_ (by dsimp only; omega) _)
    exact L2.out
  · iterate 10 (refine Below.setCell ?_ (by dsimp only; omega) _)
    exact hB2

set_option maxHeartbeats 2000000 in
theorem eqPnr_same (p : PD) (A1 : Option Addr) (c1 : Nat) (A2 : Option Addr) (c2 : Nat) (B1 : Option Addr) (d1 : Nat) (B2 : Option Addr) (d2 : Nat) (w : World) (hl : PLies w w.heap.size p A1 A2) (hl' : PLies w w.heap.size p B1 B2) (hn : p.names.length ≤ 1099511627) (hh : p.holds.length ≤ 1099511627) :
    Calls Tryd.prog 13 #[pdV p A1 c1 A2 c2, pdV p B1 d1 B2 d2] w fun e w' => e = .returned (.bool true) ∧ Below w.heap.size w w' := by
  obtain ⟨h, l, o, ns, hs, b, f⟩ := p
  obtain ⟨hl1, hl2⟩ := hl
  obtain ⟨hl3, hl4⟩ := hl'
  dsimp only at *
  have HS : Hid (∀ W : World, Below w.heap.size w W → Calls Tryd.prog 34 #[.slice A1 ns.length c1, .slice B1 ns.length d1] W fun e w' => e = .returned (.bool true) ∧ Below W.heap.size W w') :=
    fun W hW => eqStringS_same ns A1 B1 ns.length c1 d1 W rfl (hl1.on hW) (hl3.on hW) hn
  have HH : Hid (∀ W : World, Below w.heap.size w W → Calls Tryd.prog 35 #[.slice A2 hs.length c2, .slice B2 hs.length d2] W fun e w' => e = .returned (.bool true) ∧ Below W.heap.size W w') :=
    fun W hW => eqHoldS_same hs A2 B2 hs.length c2 d2 W rfl (hl2.on hW) (hl4.on hW) hh
  clear hl1 hl2 hl3 hl4
  go_enter Tryd.func13, Tryd.ntmps13
  go_wp2_with fail
  refine (HS.out _ (by go_grown)).mono ?_
  rintro e w1 ⟨rfl, hb1⟩
  have hB : Below w.heap.size w w1 := Below.trans (by go_grown) (hb1.mono (by simp; omega))
  have a4 := kc hb1 (b := w.heap.size) (i := 4) (v := .slice A2 hs.length c2) (by go_simp) (by simp; omega)
  have a5 := kc hb1 (b := w.heap.size) (i := 5) (v := .bool b) (by go_simp) (by simp; omega)
  have a6 := kc hb1 (b := w.heap.size) (i := 6) (v := .int .i64 f) (by go_simp) (by simp; omega)
  have b4 := kc hb1 (b := w.heap.size + 1) (i := 4) (v := .slice B2 hs.length d2) (by go_simp) (by simp)
  have b5 := kc hb1 (b := w.heap.size + 1) (i := 5) (v := .bool b) (by go_simp) (by simp)
  have b6 := kc hb1 (b := w.heap.size + 1) (i := 6) (v := .int .i64 f) (by go_simp) (by simp)
  have hz : w.heap.size + 2 ≤ w1.heap.size := by have := hb1.size; simpa using this
  clear hb1
  go_wp2_with fail
  refine (HH.out _ hB).mono ?_
  rintro e w2 ⟨rfl, hb2⟩
  replace a5 := kc hb2 a5 (by omega)
  replace a6 := kc hb2 a6 (by omega)
  replace b5 := kc hb2 b5 (by omega)
  replace b6 := kc hb2 b6 (by omega)
  have hB2 := hB.trans (hb2.mono (by omega))
  clear hb2 hB
  go_wp2_with fail
  go_ret
  exact ⟨rfl, hB2⟩
end Go.Proofs.YtihlilihipcfaaaDoor
