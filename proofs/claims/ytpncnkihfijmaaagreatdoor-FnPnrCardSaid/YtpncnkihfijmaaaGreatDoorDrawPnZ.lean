/-
  The spec's draws: a right booking (what it holds is not told: how great it is).
-/
import Derived.Test.YtpncnkihfijmaaaGreatDoorM4
import Derived.Test.YtpncnkihfijmaaaGreatDoorM8
import Derived.Test.YtpncnkihfijmaaaGreatDoorHoldPutSZ
import Derived.Test.YtpncnkihfijmaaaGreatDoorM3
import Derived.Deep.RegionLaw
import Derived.Deep.DeepCutAuto
namespace Go.Proofs.YtpncnkihfijmaaaGreatDoor
open Go.ChangeShapes Go.WideShapes Go.ChangeAt Go.RowKit Go.ChangeMaps
set_option maxRecDepth 10000
set_option linter.unusedSimpArgs false
set_option linter.unusedVariables false

/-- A booking of N names and M holds at most, all short. -/
def Small (p : PD) (N M : Nat) : Prop := p.names.length ≤ N ∧ p.holds.length ≤ M ∧ (∀ s ∈ p.names, s.size ≤ 100) ∧ (∀ x ∈ p.holds, x.f.size ≤ 100)
theorem Small.name {p : PD} {N M : Nat} {s : ByteArray} (h : Small p N M) (hs : s.size ≤ 100) : Small { p with names := p.names ++ [s] } (N + 1) M := by
  obtain ⟨h1, h2, h3, h4⟩ := h
  refine ⟨by simp; omega, h2, fun x hx => ?_, h4⟩
  rcases List.mem_append.1 hx with hx | hx
  · exact h3 x hx
  · obtain rfl := List.mem_singleton.1 hx
    exact hs
theorem Small.put {p : PD} {N M : Nat} {y : HD} (h : Small p N M) (hM : M ≤ 300) (hs : y.f.size ≤ 100) : Small { p with holds := putL p.holds y } N (M + 1) := by
  obtain ⟨h1, h2, h3, h4⟩ := h
  refine ⟨h1, ?_, h3, fun x hx => ?_⟩
  · dsimp only
    by_cases hx : y ∈ p.holds
    · rw [putL_there (by omega) hx]; omega
    · rw [putL_len (by omega) hx]; omega
  · dsimp only at hx
    unfold putL at hx
    split at hx
    · cases hx
    · split at hx
      · exact h4 x hx
      · simp only [List.mem_append, List.mem_singleton] at hx
        rcases hx with hx | rfl | hx
        · exact h4 x (List.mem_of_mem_take hx)
        · exact hs
        · exact h4 x (List.mem_of_mem_drop hx)

theorem PSt.setHolds {base g : Nat} {p : PD} {A1 A2 A3 : Option Addr} {c1 c2 c3 : Nat} {W : World} {hs' : List HD} (h : PSt base g p A1 c1 A2 c2 W) (hr : W.ownsRow base 49 3 (.slice A3 hs'.length c3) hs'.length (holdsC hs')) :
    PSt base g { p with holds := hs' } A1 c1 A3 c3 (W.setCell ⟨g, 4, none⟩ (.slice A3 hs'.length c3)) :=
  ⟨by simpa [pdCs] using h.blk.set_ 4 (.slice A3 hs'.length c3), (h.rows 4 _).1, hr.kept (Lib.grownBy_setCell W g 4 _) (.inr (own_not_block h.blk (by decide) hr))⟩
theorem PSt.draw {base g gS : Nat} {p : PD} {A1 A2 : Option Addr} {c1 c2 : Nat} {W W' : World} (h : PSt base g p A1 c1 A2 c2 W) (hg : W.grownBy W' (some gS)) (h1 : gS < base) (h2 : gS ≠ g) : PSt base g p A1 c1 A2 c2 W' :=
  ⟨h.blk.kept hg (fun e => h2 (Option.some.inj e).symm), row_draw h.ns hg h1, row_draw h.hs hg h1⟩

theorem SrcG.from_ {A : Option Addr} {l : List UInt8} {c g : Nat} {w W W' : World} (h : SrcG A l c g w W) (hb : Below w.heap.size W W') (hs : W.heap.size ≤ W'.heap.size) : SrcG A l c g w W' := by
  have hg := h.2.2
  obtain ⟨⟨k, m, s, h1, h2, h3⟩, h4, h5⟩ := h
  refine ⟨⟨k, m, s, h1.below hb hg, h2, h3.below (hb.mono (Nat.le_of_lt hg))⟩, ?_, h5⟩
  exact ⟨hb.os.trans h4.os, hb.tape.trans h4.tape, hb.output.trans h4.output, Nat.le_trans h4.size hs, fun j hj hne => (hb.block j hj).trans (h4.block j hj hne)⟩
theorem SrcG.begin {A : Option Addr} {l : List UInt8} {c g : Nat} {w : World} (h : SrcAt A l c g w) : SrcG A l c g w w := ⟨h, World.grownBy.refl _ _, h.lt⟩
/-- The world of a walk that draws a booking: its answer's place is empty yet; the booking stands in block gP. -/
structure DSt (A : Option Addr) (l : List UInt8) (c g : Nat) (w : World) (gP : Nat) (p : PD) (A1 : Option Addr) (c1 : Nat) (A2 : Option Addr) (c2 : Nat) (W : World) : Prop where
  src : SrcG A l c g w W
  st : PSt (w.heap.size + 1) gP p A1 c1 A2 c2 W
  zero : Block W w.heap.size 40 zeroP
  gt : w.heap.size < gP
section
variable {A : Option Addr} {l : List UInt8} {c g : Nat} {w W W' : World} {gP : Nat} {p : PD} {A1 A2 : Option Addr} {c1 c2 : Nat}
theorem DSt.on (h : DSt A l c g w gP p A1 c1 A2 c2 W) (hb : Below W.heap.size W W') : DSt A l c g w gP p A1 c1 A2 c2 W' := ⟨h.src.on hb, h.st.on hb, h.zero.on hb, h.gt⟩
theorem DSt.drew (h : DSt A l c g w gP p A1 c1 A2 c2 W) : DSt A l c g w gP p A1 c1 A2 c2 W.drew := h.on (Below.refl _ W).drew
theorem DSt.alloc (h : DSt A l c g w gP p A1 c1 A2 c2 W) (o : Obj) : DSt A l c g w gP p A1 c1 A2 c2 (W.alloc o) := h.on ((Below.refl _ W).alloc (Nat.le_refl _) o)
theorem DSt.n (h : DSt A l c g w gP p A1 c1 A2 c2 W) (h1 : SrcAt A l c g W') (h2 : W.grownBy W' (some g)) : DSt A l c g w gP p A1 c1 A2 c2 W' := by
  have hg := h.src.2.2
  have hgt := h.gt
  exact ⟨h.src.n h1 h2, h.st.draw h2 (by omega) (by omega), h.zero.kept h2 (fun e => by have := Option.some.inj e; omega), h.gt⟩
theorem DSt.set_ (h : DSt A l c g w gP p A1 c1 A2 c2 W) {p' : PD} {B1 B2 : Option Addr} {d1 d2 : Nat} {i : Nat} {v : Value} (hp : PSt (w.heap.size + 1) gP p' B1 d1 B2 d2 (W.setCell ⟨gP, i, none⟩ v)) : DSt A l c g w gP p' B1 d1 B2 d2 (W.setCell ⟨gP, i, none⟩ v) := by
  have hg := h.src.2.2
  have hgt := h.gt
  exact ⟨h.src.set (Nat.le_of_lt h.gt) v, hp, h.zero.far (Nat.ne_of_lt h.gt) _, h.gt⟩
theorem DSt.name (h : DSt A l c g w gP p A1 c1 A2 c2 W) {A3 : Option Addr} {c3 : Nat} {s : ByteArray} (hg : W.grownBy W' (Value.slice A1 p.names.length c1).ownBlock) (hr : W'.ownsRow (w.heap.size + 1) 9 1 (.slice A3 (p.names.length + 1) c3) (p.names.length + 1) (strsC p.names ++ [.string s])) :
    Block W' gP 40 (pdCs p A1 c1 A2 c2) ∧ DSt A l c g w gP { p with names := p.names ++ [s] } A3 c3 A2 c2 (W'.setCell ⟨gP, 3, none⟩ (.slice A3 (p.names.length + 1) c3)) := by
  have Y := h.st.name hg hr
  have hsz := h.src.size
  have hB : Below w.heap.size W W' := below_of_grown hg hsz (fun j e => by have := (h.st.ns.lt j e).1; omega)
  have hZ : Block W' w.heap.size 40 zeroP := h.zero.kept hg (fun e => own_not_block h.zero (by decide) h.st.ns e.symm)
  have hg0 := h.src.2.2
  have hgt := h.gt
  exact ⟨Y.1, ⟨(h.src.from_ hB hg.size).set (Nat.le_of_lt h.gt) _, Y.2, hZ.far (Nat.ne_of_lt h.gt) _, h.gt⟩⟩
theorem dst_new {A : Option Addr} {l : List UInt8} {c g : Nat} {w W : World} {n1 n2 n3 : Int} {lv : Bool} (h : SrcG A l c g w W) (Z : Block W w.heap.size 40 zeroP) :
    DSt A l c g w W.heap.size ⟨n1, n2, n3, [], [], lv, 0⟩ none 0 none 0 (W.alloc (.cells #[.int .i64 n1, .int .i64 n2, .int .i64 n3, .slice none 0 0, .slice none 0 0, .bool lv, .int .i64 0] 40)) :=
  ⟨h.on ((Below.refl _ W).alloc (Nat.le_refl _) _), ⟨Block.new W _ _, ⟨rfl, .inl ⟨rfl, rfl⟩⟩, ⟨rfl, .inl ⟨rfl, rfl⟩⟩⟩, Z.alloc _, Z.lt⟩
end
/-- What l03PnrOf and l03Pnr give. -/
def PnrDrawn (N M : Nat) (g : Nat) (w : World) (e : Ending) (w' : World) : Prop :=
  (∃ p A1 c1 A2 c2, e = .returned (pdV p A1 c1 A2 c2) ∧ Small p N M ∧ w'.ownsRow w.heap.size 9 1 (.slice A1 p.names.length c1) p.names.length (strsC p.names) ∧ w'.ownsRow w.heap.size 49 3 (.slice A2 p.holds.length c2) p.holds.length (holdsC p.holds)) ∧ w.grownBy w' (some g)

theorem SrcG.own {A : Option Addr} {l : List UInt8} {c g : Nat} {w W : World} (h : SrcG A l c g w W) (i : Nat) (v : Value) : SrcG A l c g w (W.setCell ⟨w.heap.size, i, none⟩ v) :=
  h.set (Nat.le_refl _) v
theorem dst_end {A : Option Addr} {l : List UInt8} {c g : Nat} {w W : World} {gP : Nat} {p : PD} {A1 A2 : Option Addr} {c1 c2 N M : Nat} {v0 v1 v2 v3 v4 v5 v6 : Value} (D : DSt A l c g w gP p A1 c1 A2 c2 W) (hs : Small p N M) :
    PnrDrawn N M g w (.returned (pdV p A1 c1 A2 c2)) (((((((W.setCell ⟨w.heap.size, 0, none⟩ v0).setCell ⟨w.heap.size, 1, none⟩ v1).setCell ⟨w.heap.size, 2, none⟩ v2).setCell ⟨w.heap.size, 3, none⟩ v3).setCell ⟨w.heap.size, 4, none⟩ v4).setCell ⟨w.heap.size, 5, none⟩ v5).setCell ⟨w.heap.size, 6, none⟩ v6) ∧
    SrcAt A l c g (((((((W.setCell ⟨w.heap.size, 0, none⟩ v0).setCell ⟨w.heap.size, 1, none⟩ v1).setCell ⟨w.heap.size, 2, none⟩ v2).setCell ⟨w.heap.size, 3, none⟩ v3).setCell ⟨w.heap.size, 4, none⟩ v4).setCell ⟨w.heap.size, 5, none⟩ v5).setCell ⟨w.heap.size, 6, none⟩ v6) := by
  have hS := ((((((D.src.own 0 v0).own 1 v1).own 2 v2).own 3 v3).own 4 v4).own 5 v5).own 6 v6
  refine ⟨⟨⟨p, A1, c1, A2, c2, rfl, hs, ?_, ?_⟩, hS.2.1⟩, hS.1⟩
  · refine ownsRow_base (base := w.heap.size + 1) ?_ (by omega)
    iterate 7 (refine ownsRow_setCell_below ?_ (Nat.lt_succ_self _) _)
    exact D.st.ns
  · refine ownsRow_base (base := w.heap.size + 1) ?_ (by omega)
    iterate 7 (refine ownsRow_setCell_below ?_ (Nat.lt_succ_self _) _)
    exact D.st.hs
def NamesRel (A : Option Addr) (l : List UInt8) (c g : Nat) (w : World) (gP : Nat) (v : Value) (W : World) : Prop :=
  ∃ (i : Nat) (p : PD) (A1 : Option Addr) (c1 : Nat), i ≤ 3 ∧ v = .int .i64 i ∧ Small p (3 - i) 0 ∧ p.holds = [] ∧ (1 ≤ p.owner ∧ p.owner ≤ 3) ∧ DSt A l c g w gP p A1 c1 none 0 W
def HoldsRel (A : Option Addr) (l : List UInt8) (c g : Nat) (w : World) (gP : Nat) (v : Value) (W : World) : Prop :=
  ∃ (i : Nat) (p : PD) (A1 : Option Addr) (c1 : Nat) (A2 : Option Addr) (c2 : Nat), i ≤ 4 ∧ v = .int .i64 i ∧ Small p 3 (4 - i) ∧ (1 ≤ p.owner ∧ p.owner ≤ 3) ∧ DSt A l c g w gP p A1 c1 A2 c2 W

abbrev annA : ByteArray := ⟨#[97, 110, 110]⟩
abbrev bobA : ByteArray := ⟨#[98, 111, 98]⟩
abbrev cidA : ByteArray := ⟨#[99, 105, 100]⟩
theorem pickName (i : Nat) (hi : i < 3) : ∃ s, (#[.string annA, .string bobA, .string cidA] : Array Value)[i]? = some (.string s) ∧ s.size ≤ 100 := by
  have : i = 0 ∨ i = 1 ∨ i = 2 := by omega
  rcases this with rfl | rfl | rfl
  · exact ⟨_, rfl, by decide⟩
  · exact ⟨_, rfl, by decide⟩
  · exact ⟨_, rfl, by decide⟩

set_option maxHeartbeats 8000000 in
theorem srcPnrOf_any (A : Option Addr) (l : List UInt8) (c g : Nat) (w : World) (h : SrcAt A l c g w) (hl : l.length ≤ maxLen) :
    Calls Tryz.prog 69 #[.pointer (some ⟨g, 0, none⟩)] w fun e w' => PnrDrawn 3 4 g w e w' ∧ SrcAt A l c g w' := by
  have hg : g < w.heap.size := h.lt
  have HN : Hid (∀ (W : World) (m : Int), SrcAt A l c g W → m ≤ 1000000 → Calls Tryz.prog 53 #[.pointer (some ⟨g, 0, none⟩), .int .i64 m] W fun e w' => (∃ r : Int, e = .returned (.int .i64 r) ∧ 0 ≤ r ∧ (r < m ∨ r = 0)) ∧ SrcAt A l c g w' ∧ W.grownBy w' (some g)) := fun W m h1 h2 => srcN_any A l c g m W h1 hl h2
  have HO : Hid (∀ (W : World) (m : Int), SrcAt A l c g W → m ≤ 1000000 → Calls Tryz.prog 98 #[.pointer (some ⟨g, 0, none⟩), .int .i64 m] W fun e w' => (∃ b : Bool, e = .returned (.bool b)) ∧ SrcAt A l c g w' ∧ W.grownBy w' (some g)) := fun W m h1 h2 => srcOne_any A l c g m W h1 hl h2
  have B0 : SrcG A l c g w (w.alloc (.cells zeroP 40)) := (SrcG.begin h).on ((Below.refl _ w).alloc (Nat.le_refl _) _)
  have Z0 : Block (w.alloc (.cells zeroP 40)) w.heap.size 40 zeroP := Block.new w _ _
  clear h
  go_enter Tryz.func69, Tryz.ntmps69
  go_wp2_with fail
  refine (HN.out _ 3 B0.1 (by omega)).mono ?_
  rintro e w1 ⟨⟨n1, rfl, a0, a1⟩, k1, k2⟩
  have B1 := B0.n k1 k2
  have Z1 := Z0.kept k2 (fun e => by have := Option.some.inj e; omega)
  have hw1 : IntKind.i64.wrap (1 + n1) = 1 + n1 := IntWalk.i64_in _ (by omega)
  clear B0 Z0 k1 k2
  go_wp2_with fail
  refine (HN.out _ 5 B1.1 (by omega)).mono ?_
  rintro e w2 ⟨⟨n2, rfl, b0, b1⟩, k1, k2⟩
  have B2 := B1.n k1 k2
  have Z2 := Z1.kept k2 (fun e => by have := Option.some.inj e; omega)
  have hw2 : IntKind.i64.wrap (1 + n2) = 1 + n2 := IntWalk.i64_in _ (by omega)
  clear B1 Z1 k1 k2
  go_wp2_with fail
  refine (HN.out _ 3 B2.1 (by omega)).mono ?_
  rintro e w3 ⟨⟨n3, rfl, d0, d1⟩, k1, k2⟩
  have B3 := B2.n k1 k2
  have Z3 := Z2.kept k2 (fun e => by have := Option.some.inj e; omega)
  have hw3 : IntKind.i64.wrap (1 + n3) = 1 + n3 := IntWalk.i64_in _ (by omega)
  clear B2 Z2 k1 k2
  go_wp2_with fail
  refine (HO.out _ 4 B3.1 (by omega)).mono ?_
  rintro e w4 ⟨⟨lv, rfl⟩, k1, k2⟩
  have B4 := B3.n k1 k2
  have Z4 := Z3.kept k2 (fun e => by have := Option.some.inj e; omega)
  have D4 : DSt A l c g w w4.heap.size ⟨1 + n1, 1 + n2, 1 + n3, [], [], !lv, 0⟩ none 0 none 0 (w4.alloc (.cells #[.int .i64 (1 + n1), .int .i64 (1 + n2), .int .i64 (1 + n3), .slice none 0 0, .slice none 0 0, .bool (!lv), .int .i64 0] 40)) := dst_new B4 Z4
  clear B3 Z3 k1 k2 B4 Z4
  go_wp2_with fail
  refine (HN.out _ 3 D4.src.1 (by omega)).mono ?_
  rintro e w5 ⟨⟨k, rfl, e0, e1⟩, k1, k2⟩
  have D5 := D4.n k1 k2
  clear D4 k1 k2
  obtain ⟨k, rfl⟩ := nat_of e0
  have hk : k ≤ 3 := by omega
  have hsm : Small ⟨1 + n1, 1 + n2, 1 + n3, [], [], !lv, 0⟩ (3 - k) 0 := ⟨Nat.zero_le _, Nat.zero_le _, fun _ h => (by cases h), fun _ h => (by cases h)⟩
  have HR0 : NamesRel A l c g w w4.heap.size (.int .i64 k) w5 := ⟨k, _, none, 0, hk, rfl, hsm, rfl, ⟨by dsimp only; omega, by dsimp only; omega⟩, D5⟩
  have hgP := D5.gt
  generalize w4.heap.size = gP at *
  clear D5 hsm a0 a1 b0 b1 d0 d1 e0 e1 hk hw1 hw2 hw3
  go_wp2_with fail
  go_loopw [4] (fun v W => NamesRel A l c g w gP v W) (fun v _ => (intOf v).toNat)
  case atStart => exact HR0
  case round =>
    clear HR0
    obtain ⟨i, p, A1, c1, hi, rfl, hsm, hh, hown, D⟩ := hrel
    by_cases hi0 : 0 < i
    · obtain ⟨ph, pl, po, ns, hs, pb, pf⟩ := p
      dsimp only at hh hown
      subst hh
      have hiI : (0 : Int) < (i : Int) := by omega
      have hns : ns.length + 1 ≤ 1099511627 := by have := hsm.1; dsimp only at this; omega
      have D1 := (D.alloc (.cells #[.string annA, .string bobA, .string cidA] 9)).drew
      have X1 : Block (wr.alloc (.cells #[.string annA, .string bobA, .string cidA] 9)).drew wr.heap.size 9 #[.string annA, .string bobA, .string cidA] := (Block.new wr _ _).drew
      have HPk : Hid (∀ cB : Nat, Calls Tryz.prog 55 #[.pointer (some ⟨g, 0, none⟩), .slice (some ⟨wr.heap.size, 0, none⟩) 3 cB] (wr.alloc (.cells #[.string annA, .string bobA, .string cidA] 9)).drew fun e w' => (∃ s, e = .returned (.string s) ∧ s.size ≤ 100) ∧ SrcAt A l c g w' ∧ (wr.alloc (.cells #[.string annA, .string bobA, .string cidA] 9)).drew.grownBy w' (some g)) := fun cB =>
        srcPick_any A l c g wr.heap.size cB _ (fun s => s.size ≤ 100) _ D1.src.1 hl X1 (by have := D.src.1.lt; omega) 3 rfl (by omega) (by omega) pickName
      have q1 := D.st.blk.cell
      have r1 : ∀ o, (wr.alloc o).cell? ⟨gP, 3, none⟩ = some (.slice A1 ns.length c1) := fun o => (D.alloc o).st.blk.cell 3
      have HD1 := Lib.hid D1
      have HSm := Lib.hid hsm
      clear X1 D1 D hsm
      go_wp2_with fail
      go_region_law (first
        | (refine step_app (c := 1) (n := ns.length) rfl _ _ 37 rfl Tryz.underlying37 info_str rfl (by decide) (by decide) (D6.alloc (.cells #[.string sn] 9)).st.ns (by simp [Act.eval, Act.put]) (lies_block (Block.new w6 #[.string sn] 9) rfl) (by simp [Act.eval, Act.put]) (fun u hu => strsC_one [sn] u (by simpa [strsC] using hu)) (by omega) (by have := D6.zero.lt; simp; omega) ?_; intro A3 c3 w7 hown3 hg3; have Y := (D6.alloc (.cells #[.string sn] 9)).name hg3 hown3; have q7 := Y.1.cell; have f7 := Y.1.free; have D7 := Y.2)
        | ((fail_if_success (have hq := D6)); go_simp; go_wp2_with (go_at_call 55; refine (HPk.out _).mono ?_; rintro e w6 ⟨⟨sn, rfl, hsn⟩, k1, k2⟩; have D6 := HD1.out.n k1 k2; have q6 := D6.st.blk.cell; have r6 : ∀ o, (w6.alloc o).cell? ⟨gP, 3, none⟩ = some (.slice A1 ns.length c1) := fun o => (D6.alloc o).st.blk.cell 3)))
      all_goals
        have HF := Lib.hid (And.intro D7 hsn)
        clear D7 hsn k1 k2
        go_wp2_with fail
        go_roundw
        case rel => exact ⟨i - 1, _, A3, c3, by omega, by go_num, by have h := HSm.out.name HF.out.2; have e : 3 - i + 1 = 3 - (i - 1) := by omega
                                                                     rw [e] at h; exact h, rfl, hown, HF.out.1⟩
        case measure => simp [intOf]; omega
    · obtain rfl : i = 0 := by omega
      have HS0 : HoldsRel A l c g w gP (.int .i64 0) wr → True := fun _ => trivial
      clear HS0
      have hiI : ¬ (0 : Int) < ((0 : Nat) : Int) := by omega
      go_wp2_with fail
      refine (HN.out _ 4 D.src.1 (by omega)).mono ?_
      rintro e w6 ⟨⟨k2, rfl, e0, e1⟩, k3, k4⟩
      have D6 := D.n k3 k4
      obtain ⟨k2, rfl⟩ := nat_of e0
      have hk2 : k2 ≤ 4 := by omega
      have HR0 : HoldsRel A l c g w gP (.int .i64 k2) w6 := ⟨k2, p, A1, c1, none, 0, hk2, rfl, ⟨by have := hsm.1; omega, by rw [hh]; exact Nat.zero_le _, hsm.2.2.1, hsm.2.2.2⟩, hown, D6⟩
      clear D D6 k3 k4 hsm hh hown e0 e1 hk2
      go_wp2_with fail
      go_loopw [5] (fun v W => HoldsRel A l c g w gP v W) (fun v _ => (intOf v).toNat)
      case atStart => exact HR0
      case round =>
        clear HR0
        obtain ⟨i, p, A1, c1, A2, c2, hi, rfl, hsm, hown, D⟩ := hrel
        obtain ⟨ph, pl, po, ns, hs, pb, pf⟩ := p
        dsimp only at hown
        have HSm := Lib.hid hsm
        have hhs : hs.length ≤ 4 := Nat.le_trans hsm.2.1 (by omega)
        clear hsm
        by_cases hgo : 0 < i ∧ pb = true
        · obtain ⟨hi0, rfl⟩ := hgo
          have hiI : (0 : Int) < (i : Int) := by omega
          have HHo : Hid (∀ W : World, SrcAt A l c g W → Calls Tryz.prog 74 #[.pointer (some ⟨g, 0, none⟩)] W fun e w' => (∃ (f : ByteArray) (r k : Int), e = .returned (.agg #[.string f, .int .i64 r, .int .i64 k]) ∧ (f = ab1 ∨ f = cd2) ∧ (1 ≤ r ∧ r ≤ 3) ∧ (0 ≤ k ∧ k ≤ 2)) ∧ SrcAt A l c g w' ∧ W.grownBy w' (some g)) := fun W hW => srcHold_any A l c g W hW hl
          have hcap : hs.length ≤ c2 := by
            obtain ⟨A', c', he, h1, -⟩ := own_form D.st.hs
            cases he
            exact h1
          have HPut : Hid (∀ (W : World) (f : ByteArray) (r k : Int), Lies W W.heap.size 3 A2 hs.length (holdsC hs) → Calls Tryz.prog 24 #[.slice A2 hs.length c2, .agg #[.string f, .int .i64 r, .int .i64 k]] W (HoldsMade (putL hs ⟨f, r, k⟩) W)) := fun W f r k h => sHoldPut_any hs ⟨f, r, k⟩ A2 c2 W h hcap (by omega)
          unfold HoldsMade at HPut
          have q1 := D.st.blk.cell
          have HD := Lib.hid D
          have hpb : ((true : Bool)) = true := rfl
          clear D hpb
          go_wp2_with fail
          go_region_law (first
            | ((fail_if_success (have hq := D6)); go_simp; go_wp2_with (go_at_call 74; refine (HHo.out _ HD.out.drew.src.1).mono ?_; rintro e w6 ⟨⟨f, r, k, rfl, hf, hr, hk⟩, k1, k2⟩; have D6 := HD.out.drew.n k1 k2; have q6 := D6.st.blk.cell))
            | ((fail_if_success (have hq := D7)); go_simp; go_wp2_with (go_at_call 24; refine (HPut.out _ _ _ _ (Lies.own D6.st.hs)).mono ?_; rintro e w7 ⟨A3, c3, rfl, r3, hb7⟩; have D7 := D6.on hb7; have q7 := D7.st.blk.cell; have f7 := D7.st.blk.free)))
          all_goals
            have hr4 := ownsRow_base (base' := w.heap.size + 1) r3 (Nat.le_trans D6.zero.lt (Nat.le_refl _))
            have HF := Lib.hid (D7.set_ (D7.st.setHolds hr4))
            have hfs : f.size ≤ 100 := by rcases hf with rfl | rfl <;> decide
            have HS2 : Hid (Small ⟨ph, pl, po, ns, putL hs ⟨f, r, k⟩, true, pf⟩ 3 (4 - (i - 1))) := by
              have h := HSm.out.put (y := ⟨f, r, k⟩) (by omega) hfs
              have e : 4 - i + 1 = 4 - (i - 1) := by omega
              rw [e] at h
              exact h
            clear D6 D7 r3 hb7 hr4 k1 k2 hf q6
            go_wp2_with fail
            go_roundw
            case rel => exact ⟨i - 1, _, A1, c1, A3, c3, by omega, by go_num, HS2.out, hown, HF.out⟩
            case measure => simp [intOf]; omega
        · have HSm4 : Hid (∀ pf', Small ⟨ph, pl, po, ns, hs, pb, pf'⟩ 3 4) := fun pf' => ⟨HSm.out.1, Nat.le_trans HSm.out.2.1 (by omega), HSm.out.2.2.1, HSm.out.2.2.2⟩
          have q1 := D.st.blk.cell
          have z1 := D.zero.cell
          have z2 := D.zero.free
          have hne := Nat.ne_of_lt D.gt
          have HD := Lib.hid D
          clear D
          cases pb
          · by_cases hi0 : 0 < i
            · have hiI : (0 : Int) < (i : Int) := by omega
              go_wp2_with fail
              refine bodyPost_ret (v := pdV ⟨ph, pl, po, ns, hs, false, pf⟩ A1 c1 A2 c2) (by simp [results, Tryz.results69, go_sem, z1, z2]) rfl ?_
              exact dst_end HD.out (HSm4.out _)
            · have hiI : ¬ (0 : Int) < (i : Int) := by omega
              go_wp2_with fail
              refine bodyPost_ret (v := pdV ⟨ph, pl, po, ns, hs, false, pf⟩ A1 c1 A2 c2) (by simp [results, Tryz.results69, go_sem, z1, z2]) rfl ?_
              exact dst_end HD.out (HSm4.out _)
          · have hi0 : ¬ 0 < i := fun h => hgo ⟨h, rfl⟩
            have hiI : ¬ (0 : Int) < (i : Int) := by omega
            have hs1 := HD.out.src.1
            go_wp2_with fail
            refine (HO.out _ 3 hs1 (by omega)).mono ?_
            rintro e w8 ⟨⟨b8, rfl⟩, k1, k2⟩
            have D8 := HD.out.n k1 k2
            clear q1 z1 z2 hs1 k1 k2
            have q1 := D8.st.blk.cell
            have z1 := D8.zero.cell
            have z2 := D8.zero.free
            have q2 := D8.st.blk.free
            have HD8 := Lib.hid D8
            cases b8
            · clear D8
              go_wp2_with fail
              refine bodyPost_ret (v := pdV ⟨ph, pl, po, ns, hs, true, pf⟩ A1 c1 A2 c2) (by simp [results, Tryz.results69, go_sem, z1, z2]) rfl ?_
              exact dst_end HD8.out (HSm4.out _)
            · have hwo : IntKind.i64.wrap (po % 3 + 1) = po % 3 + 1 := IntWalk.i64_in _ (by omega)
              have hpo : 0 ≤ po := by omega
              have HD9 := Lib.hid (D8.set_ (D8.st.offer (po % 3 + 1)))
              clear D8
              go_wp2_with fail
              refine bodyPost_ret (v := pdV ⟨ph, pl, po, ns, hs, true, po % 3 + 1⟩ A1 c1 A2 c2) (by simp [results, Tryz.results69, go_sem, z1, z2]) rfl ?_
              exact dst_end HD9.out (HSm4.out _)
end Go.Proofs.YtpncnkihfijmaaaGreatDoor
