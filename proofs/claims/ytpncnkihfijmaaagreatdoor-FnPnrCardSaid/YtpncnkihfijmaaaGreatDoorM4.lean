/-
  The spec's draws: a source of numbers, and what it gives. The spec's draws: one, l01Source. The spec's draws: the world of a walk that draws. The spec's draws: one text of a list, a seat, a hold. The spec's draws: a hold.
-/
import Derived.Test.YtpncnkihfijmaaaGreatDoorM1
import Derived.Deep.Cut
import Derived.Deep.DeepCutAuto
import Derived.Deep.RegionHeld3
import Derived.Deep.RegionWith
namespace Go.Proofs.YtpncnkihfijmaaaGreatDoor
open Go.ChangeShapes Go.WideShapes Go.ChangeAt Go.RowKit Go.ChangeMaps
set_option maxRecDepth 10000
set_option linter.unusedSimpArgs false
set_option linter.unusedVariables false

abbrev srcCs (A : Option Addr) (n c : Nat) (a : Int) (m s : Int) : Array Value := #[.slice A n c, .int .i64 a, .int .u64 m, .int .i64 s]
/-- A source lies in block g: what it draws from lies below. -/
def SrcAt (A : Option Addr) (l : List UInt8) (c g : Nat) (W : World) : Prop :=
  ∃ (k : Nat) (m s : Int), Block W g 127 (srcCs A l.length c k m s) ∧ k ≤ l.length ∧ Lies W g 1 A l.length (bytesV l)
theorem Lies.byte {w : World} {B i : Nat} {A : Option Addr} {l : List UInt8} (h : Lies w B 1 A l.length (bytesV l)) (hi : i < l.length) :
    ∃ b off z, A = some ⟨b, off, none⟩ ∧ b < B ∧ w.cell? ⟨b, off + i, none⟩ = some (.int .u8 z) := by
  obtain ⟨b, off, rfl, hb, hc⟩ := h.2 (by omega)
  exact ⟨b, off, _, rfl, hb, hc i (byteV l[i]) (by rw [bytesV, List.getElem?_map, List.getElem?_eq_getElem hi]; rfl)⟩
theorem SrcAt.on {A : Option Addr} {l : List UInt8} {c g : Nat} {W W' : World} (h : SrcAt A l c g W) (hb : Below W.heap.size W W') : SrcAt A l c g W' := by
  obtain ⟨k, m, s, h1, h2, h3⟩ := h
  exact ⟨k, m, s, h1.on hb, h2, h3.below (hb.mono (Nat.le_of_lt h1.lt))⟩

/-- A source on its way. -/
def SrcW (A : Option Addr) (l : List UInt8) (c g : Nat) (s : Int) (w W : World) : Prop :=
  ∃ (k : Nat) (m : Int), Block W g 127 (srcCs A l.length c k m s) ∧ k ≤ l.length ∧ Lies W g 1 A l.length (bytesV l) ∧ w.grownBy W (some g)
theorem SrcW.mix {A : Option Addr} {l : List UInt8} {c g : Nat} {s : Int} {w W : World} {k : Nat} {m m' : Int} (hX : Block W g 127 (srcCs A l.length c k m s)) (hk : k ≤ l.length) (hL : Lies W g 1 A l.length (bytesV l)) (hG : w.grownBy W (some g)) :
    SrcW A l c g s w (W.setCell ⟨g, 2, none⟩ (.int .u64 m')) := by
  refine ⟨k, m', hX.set_ 2 _, hk, hL.below ((Below.refl g W).setCell (p := ⟨g, 2, none⟩) (Nat.le_refl _) _), ?_⟩
  exact ⟨hG.os, hG.tape, hG.output, by simpa using hG.size, fun j hj hne => (Below.heap_setCell W ⟨g, 2, none⟩ _ j (fun e => hne (by rw [e]))).trans (hG.block j hj hne)⟩
theorem SrcW.step {A : Option Addr} {l : List UInt8} {c g : Nat} {s : Int} {w W : World} {k : Nat} {m : Int} (hX : Block W g 127 (srcCs A l.length c k m s)) (hk : k < l.length) (hL : Lies W g 1 A l.length (bytesV l)) (hG : w.grownBy W (some g)) :
    SrcW A l c g s w (W.setCell ⟨g, 1, none⟩ (.int .i64 ((k : Int) + 1))) := by
  refine ⟨k + 1, m, ?_, hk, hL.below ((Below.refl g W).setCell (p := ⟨g, 1, none⟩) (Nat.le_refl _) _), ?_⟩
  · have := hX.set_ 1 (.int .i64 ((k : Int) + 1))
    simpa using this
  · exact ⟨hG.os, hG.tape, hG.output, by simpa using hG.size, fun j hj hne => (Below.heap_setCell W ⟨g, 1, none⟩ _ j (fun e => hne (by rw [e]))).trans (hG.block j hj hne)⟩
theorem SrcW.drew {A : Option Addr} {l : List UInt8} {c g : Nat} {s : Int} {w W : World} (h : SrcW A l c g s w W) : SrcW A l c g s w W.drew := by
  obtain ⟨k, m, h1, h2, h3, h4⟩ := h
  exact ⟨k, m, h1, h2, h3, ⟨h4.os, h4.tape, h4.output, h4.size, h4.block⟩⟩

theorem u64_nonneg (n : Int) : 0 ≤ IntKind.u64.wrap n := by
  unfold IntKind.wrap
  simp [IntKind.signed, IntKind.bits]
  omega

set_option maxHeartbeats 2000000 in
theorem srcN_any (A : Option Addr) (l : List UInt8) (c g : Nat) (most : Int) (w : World) (h : SrcAt A l c g w) (hl : l.length ≤ maxLen) (hm : most ≤ 1000000) :
    Calls Tryz.prog 53 #[.pointer (some ⟨g, 0, none⟩), .int .i64 most] w fun e w' => (∃ r : Int, e = .returned (.int .i64 r) ∧ 0 ≤ r ∧ (r < most ∨ r = 0)) ∧ SrcAt A l c g w' ∧ w.grownBy w' (some g) := by
  by_cases h1 : most ≤ 1
  · go_enter Tryz.func53, Tryz.ntmps53
    go_wp2
    go_ret
    exact ⟨⟨0, rfl, Int.le_refl _, .inr rfl⟩, h, World.grownBy.refl _ _⟩
  obtain ⟨k, m, s, hX, hk, hL⟩ := h
  unfold maxLen at hl
  have x0 := hX.cell 0
  have x1 := hX.cell 1
  go_enter Tryz.func53, Tryz.ntmps53
  have hX0 := hX
  go_wp2_with fail
  go_region_held3 (fun W => W.cell? ⟨g, 0, none⟩ = some (.slice A l.length c) ∧ W.cell? ⟨g, 1, none⟩ = some (.int .i64 (k : Int))) (go_keep) (fail)
  go_upto_if 17 with fail
  go_cut [5] (fun v W => (∃ x : Int, v = .int .u64 x) ∧ SrcW A l c g s w W)
  case first =>
    by_cases hlt : k < l.length
    · obtain ⟨b, off, z, rfl, hb, hc⟩ := hL.byte hlt
      have hlt1 : (k : Int) < (l.length : Int) := by omega
      have hd : decide (k < l.length) = true := decide_eq_true hlt
      have hX1 : Block w.drew.drew g 127 (srcCs (some ⟨b, off, none⟩) l.length c k m s) := hX
      have f1 := hX.free 1
      go_wp2_with fail
      go_region_held3 (fun W => W.cell? ⟨g, 0, none⟩ = some (.slice (some ⟨b, off, none⟩) l.length c) ∧ W.cell? ⟨g, 1, none⟩ = some (.int .i64 (k : Int)) ∧ W.cell? ⟨b, off + k, none⟩ = some (.int .u8 z)) (go_keep) (fail)
      go_wp2_with fail
      go_meet
      exact ⟨⟨_, rfl⟩, SrcW.drew (SrcW.drew (SrcW.step hX hlt hL (World.grownBy.refl _ _)))⟩
    · have hd : decide (k < l.length) = false := decide_eq_false hlt
      go_wp2_with fail
      go_meet
      exact ⟨⟨_, rfl⟩, SrcW.drew ⟨k, m, hX, hk, hL, World.grownBy.refl _ _⟩⟩
  case rest =>
  obtain ⟨⟨x, rfl⟩, hsrc⟩ := hcut
  clear hX hk hL hX0 x0 x1
  go_upto_region 7 with fail
  go_cut [] (SrcW A l c g s w)
  case first =>
    obtain ⟨k, m, hX, hk, hL, hG⟩ := hsrc
    have x2 := hX.cell 2
    have z2 := hX.free 2
    go_region
    all_goals
      go_wp2_with fail
      go_meet
      first | exact SrcW.mix (W := World.drew _) hX hk hL ⟨hG.os, hG.tape, hG.output, hG.size, hG.block⟩ | exact SrcW.drew (SrcW.mix hX hk hL hG)
  case rest =>
  clear hsrc
  have hsrc := hcut
  clear hcut
  go_upto_region 8 with fail
  go_cut [] (SrcW A l c g s w)
  case first =>
    obtain ⟨k, m, hX, hk, hL, hG⟩ := hsrc
    have x2 := hX.cell 2
    have z2 := hX.free 2
    go_region
    all_goals
      go_wp2_with fail
      go_meet
      first | exact SrcW.mix (W := World.drew _) hX hk hL ⟨hG.os, hG.tape, hG.output, hG.size, hG.block⟩ | exact SrcW.drew (SrcW.mix hX hk hL hG)
  case rest =>
  clear hsrc
  have hsrc := hcut
  clear hcut
  go_upto_region 9 with fail
  go_cut [] (SrcW A l c g s w)
  case first =>
    obtain ⟨k, m, hX, hk, hL, hG⟩ := hsrc
    have x2 := hX.cell 2
    have z2 := hX.free 2
    go_region
    all_goals
      go_wp2_with fail
      go_meet
      first | exact SrcW.mix (W := World.drew _) hX hk hL ⟨hG.os, hG.tape, hG.output, hG.size, hG.block⟩ | exact SrcW.drew (SrcW.mix hX hk hL hG)
  case rest =>
  clear hsrc
  have hsrc := hcut
  clear hcut
  obtain ⟨k, m, hX, hk, hL, hG⟩ := hsrc
  have x2 := hX.cell 2
  go_wp2_with fail
  go_ret
  have hu := u64_nonneg (x + m / 1048576)
  generalize IntKind.u64.wrap (x + m / 1048576) = y at *
  have h2 := Int.tmod_nonneg most hu
  have h3 := Int.tmod_lt_of_pos y (show 0 < most by omega)
  have h4 : wrap64 (y.tmod most) = y.tmod most := IntWalk.wrap64_in _ (by omega)
  rw [h4]
  exact ⟨⟨_, rfl, h2, .inl h3⟩, ⟨k, m, s, hX, hk, hL⟩, hG⟩
end Go.Proofs.YtpncnkihfijmaaaGreatDoor
namespace Go.Proofs.YtpncnkihfijmaaaGreatDoor
open Go.ChangeShapes Go.WideShapes Go.ChangeAt Go.RowKit Go.ChangeMaps
set_option maxRecDepth 10000
set_option linter.unusedSimpArgs false
set_option linter.unusedVariables false

theorem grown_trans' {a b c : World} {row : Option Nat} (h : a.grownBy b row) (k : b.grownBy c row) : a.grownBy c row :=
  ⟨k.os.trans h.os, k.tape.trans h.tape, k.output.trans h.output, Nat.le_trans h.size k.size, fun i hi hr => (k.block i (Nat.lt_of_lt_of_le hi h.size) hr).trans (h.block i hi hr)⟩

set_option maxHeartbeats 1000000 in
theorem srcOne_any (A : Option Addr) (l : List UInt8) (c g : Nat) (most : Int) (w : World) (h : SrcAt A l c g w) (hl : l.length ≤ maxLen) (hm : most ≤ 1000000) :
    Calls Tryz.prog 98 #[.pointer (some ⟨g, 0, none⟩), .int .i64 most] w fun e w' => (∃ b : Bool, e = .returned (.bool b)) ∧ SrcAt A l c g w' ∧ w.grownBy w' (some g) := by
  have HN : Hid (Calls Tryz.prog 53 #[.pointer (some ⟨g, 0, none⟩), .int .i64 most] w fun e w' => (∃ r : Int, e = .returned (.int .i64 r) ∧ 0 ≤ r ∧ (r < most ∨ r = 0)) ∧ SrcAt A l c g w' ∧ w.grownBy w' (some g)) := srcN_any A l c g most w h hl hm
  clear h
  go_enter Tryz.func98, Tryz.ntmps98
  go_wp2_with fail
  refine HN.out.mono ?_
  rintro e w1 ⟨⟨r, rfl, -, -⟩, h1, h2⟩
  go_wp2_with fail
  go_ret
  exact ⟨⟨_, rfl⟩, h1, h2⟩

set_option maxHeartbeats 4000000 in
theorem l01Source_any (A : Option Addr) (l : List UInt8) (c : Nat) (w : World) (hl : Lies w w.heap.size 1 A l.length (bytesV l)) (hm : l.length ≤ maxLen) :
    Calls Tryz.prog 47 #[.slice A l.length c] w fun e w' => e = .returned (.pointer (some ⟨w.heap.size, 0, none⟩)) ∧ SrcAt A l c w.heap.size w' ∧ Below w.heap.size w w' := by
  unfold maxLen at hm
  have HL := Lib.hid hl
  clear hl
  go_enter Tryz.func47, Tryz.ntmps47
  go_wp2
  go_loopw [4] (fun i W => ∃ (k : Nat) (m : Int), k ≤ l.length ∧ i = .int .i64 k ∧ Block W w.heap.size 127 (srcCs A l.length c 0 m 0) ∧ Below w.heap.size w W) (fun i _ => l.length - (intOf i).toNat)
  case atStart => exact ⟨0, _, Nat.zero_le _, rfl, Block.new w _ _, (Below.refl _ w).alloc (Nat.le_refl _) _⟩
  case round =>
    obtain ⟨k, m, hk, rfl, hX, hB⟩ := hrel
    have x0 := hX.cell 0
    have x2 := hX.cell 2
    have x3 := hX.cell 3
    have z2 := hX.free 2
    have z3 := hX.free 3
    have hL1 := HL.out.below hB
    by_cases hlt : k < l.length
    · obtain ⟨b, off, z, rfl, hb, hc⟩ := hL1.byte hlt
      have hlt1 : (k : Int) < (l.length : Int) := by omega
      have hbn : b ≠ w.heap.size := by omega
      by_cases h64 : k < 64
      · have hd : decide (k < 64) = true := decide_eq_true h64
        clear hL1
        go_wp2_with fail
        go_region
        all_goals
          go_wp2_with fail
          go_roundw
          case rel => exact ⟨k + 1, _, by omega, by go_num, hX.set_ 2 _, hB.drew.setCell (by simp) _⟩
          case measure => simp [intOf]; omega
      · have hd : decide (k < 64) = false := decide_eq_false h64
        clear hL1
        by_cases h20 : 12 < (l.length : Int) / 20
        · go_wp2_with fail
          go_ret
          have hX2 := (hX.set_ 3 (.int .i64 ((l.length : Int) / 20))).set_ 3 (.int .i64 12)
          have hB2 := (hB.setCell (p := ⟨w.heap.size, 3, none⟩) (by simp) (.int .i64 ((l.length : Int) / 20))).setCell (p := ⟨w.heap.size, 3, none⟩) (by simp) (.int .i64 12)
          exact ⟨rfl, ⟨0, m, 12, hX2, Nat.zero_le _, HL.out.below hB2⟩, hB2⟩
        · go_wp2_with fail
          go_ret
          have hX2 := hX.set_ 3 (.int .i64 ((l.length : Int) / 20))
          have hB2 := hB.setCell (p := ⟨w.heap.size, 3, none⟩) (by simp) (.int .i64 ((l.length : Int) / 20))
          exact ⟨rfl, ⟨0, m, (l.length : Int) / 20, hX2, Nat.zero_le _, HL.out.below hB2⟩, hB2⟩
    · obtain rfl : k = l.length := by omega
      clear hL1
      by_cases h20 : 12 < (l.length : Int) / 20
      · go_wp2_with fail
        go_ret
        have hX2 := (hX.set_ 3 (.int .i64 ((l.length : Int) / 20))).set_ 3 (.int .i64 12)
        have hB2 := (hB.setCell (p := ⟨w.heap.size, 3, none⟩) (by simp) (.int .i64 ((l.length : Int) / 20))).setCell (p := ⟨w.heap.size, 3, none⟩) (by simp) (.int .i64 12)
        exact ⟨rfl, ⟨0, m, 12, hX2, Nat.zero_le _, HL.out.below hB2⟩, hB2⟩
      · go_wp2_with fail
        go_ret
        have hX2 := hX.set_ 3 (.int .i64 ((l.length : Int) / 20))
        have hB2 := hB.setCell (p := ⟨w.heap.size, 3, none⟩) (by simp) (.int .i64 ((l.length : Int) / 20))
        exact ⟨rfl, ⟨0, m, (l.length : Int) / 20, hX2, Nat.zero_le _, HL.out.below hB2⟩, hB2⟩
end Go.Proofs.YtpncnkihfijmaaaGreatDoor
namespace Go.Proofs.YtpncnkihfijmaaaGreatDoor
open Go.ChangeShapes Go.WideShapes Go.ChangeAt Go.RowKit Go.ChangeMaps
set_option maxRecDepth 10000
set_option linter.unusedSimpArgs false
set_option linter.unusedVariables false

/-- A walk's world: the source lies; but for its own cells and new blocks nothing has turned. -/
def SrcG (A : Option Addr) (l : List UInt8) (c g : Nat) (w W : World) : Prop := SrcAt A l c g W ∧ w.grownBy W (some g) ∧ g < w.heap.size
section
variable {A : Option Addr} {l : List UInt8} {c g : Nat} {w W W' : World}
theorem SrcG.on (h : SrcG A l c g w W) (hb : Below W.heap.size W W') : SrcG A l c g w W' := ⟨h.1.on hb, grown_trans' h.2.1 (grown_of_below hb _), h.2.2⟩
theorem SrcG.n (h : SrcG A l c g w W) (h1 : SrcAt A l c g W') (h2 : W.grownBy W' (some g)) : SrcG A l c g w W' := ⟨h1, grown_trans' h.2.1 h2, h.2.2⟩
theorem SrcG.size (h : SrcG A l c g w W) : w.heap.size ≤ W.heap.size := h.2.1.size
end
/-- A row of the call's own behind a draw. -/
theorem row_draw {W W' : World} {base : Nat} {e : TypeId} {k n : Nat} {v : Value} {xs : List Value} {g : Nat} (h : W.ownsRow base e k v n xs) (hg : W.grownBy W' (some g)) (hb : g < base) : W'.ownsRow base e k v n xs :=
  own_grown h hg (fun g' h1 e => by have := (h.lt g' h1).1; have := Option.some.inj e; omega)

theorem SrcAt.row {A : Option Addr} {l : List UInt8} {c g b : Nat} {W W' : World} (h : SrcAt A l c g W) (hg : W.grownBy W' (some b)) (hb : g < b) : SrcAt A l c g W' := by
  obtain ⟨k, m, s, h1, h2, h3⟩ := h
  exact ⟨k, m, s, h1.kept hg (fun e => by have := Option.some.inj e; omega), h2, h3.below (below_of_grown hg (Nat.le_of_lt h1.lt) (fun g' e => by have := Option.some.inj e; omega))⟩
theorem SrcAt.lt {A : Option Addr} {l : List UInt8} {c g : Nat} {W : World} (h : SrcAt A l c g W) : g < W.heap.size := by obtain ⟨_, _, _, h1, -⟩ := h; exact h1.lt
/-- A walk's world: the source lies, below it nothing has turned. -/
def SrcB (A : Option Addr) (l : List UInt8) (c g : Nat) (w W : World) : Prop := SrcAt A l c g W ∧ Below g w W ∧ w.heap.size ≤ W.heap.size ∧ g < w.heap.size
section
variable {A : Option Addr} {l : List UInt8} {c g : Nat} {w W W' : World}
theorem SrcB.start (h : SrcAt A l c g w) : SrcB A l c g w w := ⟨h, Below.refl _ _, Nat.le_refl _, h.lt⟩
theorem SrcB.on (h : SrcB A l c g w W) (hb : Below W.heap.size W W') : SrcB A l c g w W' := ⟨h.1.on hb, h.2.1.trans (hb.mono (Nat.le_of_lt h.1.lt)), Nat.le_trans h.2.2.1 hb.size, h.2.2.2⟩
theorem SrcB.n (h : SrcB A l c g w W) (h1 : SrcAt A l c g W') (h2 : W.grownBy W' (some g)) : SrcB A l c g w W' :=
  ⟨h1, h.2.1.trans (below_of_grown h2 (Nat.le_of_lt h.1.lt) (fun g' e => by have := Option.some.inj e; omega)), Nat.le_trans h.2.2.1 h2.size, h.2.2.2⟩
theorem SrcB.row {b : Nat} (h : SrcB A l c g w W) (h2 : W.grownBy W' (some b)) (hb : g < b) : SrcB A l c g w W' :=
  ⟨h.1.row h2 hb, h.2.1.trans (below_of_grown h2 (Nat.le_of_lt h.1.lt) (fun g' e => by have := Option.some.inj e; omega)), Nat.le_trans h.2.2.1 h2.size, h.2.2.2⟩
/-- What grew from the row's base on lets the source be. -/
theorem SrcB.from_ (h : SrcB A l c g w W) (hb : Below w.heap.size W W') (hs : W.heap.size ≤ W'.heap.size) : SrcB A l c g w W' := by
  have hg := h.2.2.2
  obtain ⟨⟨k, m, s, h1, h2, h3⟩, h4, h5, h6⟩ := h
  exact ⟨⟨k, m, s, h1.below hb hg, h2, h3.below (hb.mono (Nat.le_of_lt hg))⟩, h4.trans (hb.mono (Nat.le_of_lt hg)), Nat.le_trans h5 hs, h6⟩
end

end Go.Proofs.YtpncnkihfijmaaaGreatDoor
namespace Go.Proofs.YtpncnkihfijmaaaGreatDoor
open Go.ChangeShapes Go.WideShapes Go.ChangeAt Go.RowKit Go.ChangeMaps
set_option maxRecDepth 10000
set_option linter.unusedSimpArgs false
set_option linter.unusedVariables false

theorem SrcG.set {A : Option Addr} {l : List UInt8} {c g : Nat} {w W : World} (h : SrcG A l c g w W) {b i : Nat} (hb : w.heap.size ≤ b) (v : Value) : SrcG A l c g w (W.setCell ⟨b, i, none⟩ v) := by
  obtain ⟨h1, hG, h3⟩ := h
  refine ⟨h1.row (b := b) ⟨rfl, rfl, rfl, by simp, fun j hj hne => Below.heap_setCell W ⟨b, i, none⟩ v j (fun e => hne (by rw [e]))⟩ (by omega), ?_, h3⟩
  exact ⟨hG.os, hG.tape, hG.output, by simpa using hG.size, fun j hj hne => (Below.heap_setCell W ⟨b, i, none⟩ v j (fun e => by have e : j = b := e; omega)).trans (hG.block j hj hne)⟩

set_option maxHeartbeats 2000000 in
theorem srcPick_any (A : Option Addr) (l : List UInt8) (c g b cB : Nat) (cs : Array Value) (P : ByteArray → Prop) (w : World) (h : SrcAt A l c g w) (hl : l.length ≤ maxLen) (hX : Block w b 9 cs) (hgb : b ≠ g) (n : Nat) (hnn : cs.size = n) (h0 : 0 < n) (h1 : n ≤ 1000000)
    (hcs : ∀ i, i < n → ∃ s, cs[i]? = some (.string s) ∧ P s) :
    Calls Tryz.prog 55 #[.pointer (some ⟨g, 0, none⟩), .slice (some ⟨b, 0, none⟩) n cB] w fun e w' => (∃ s, e = .returned (.string s) ∧ P s) ∧ SrcAt A l c g w' ∧ w.grownBy w' (some g) := by
  have HN : Hid (Calls Tryz.prog 53 #[.pointer (some ⟨g, 0, none⟩), .int .i64 (n : Int)] w fun e w' => (∃ r : Int, e = .returned (.int .i64 r) ∧ 0 ≤ r ∧ (r < n ∨ r = 0)) ∧ SrcAt A l c g w' ∧ w.grownBy w' (some g)) := srcN_any A l c g n w h hl (by omega)
  clear h
  have HC := Lib.hid hcs
  have HX := Lib.hid hX
  clear hcs hX
  clear hnn
  go_enter Tryz.func55, Tryz.ntmps55
  go_wp2_with fail
  refine HN.out.mono ?_
  rintro e w1 ⟨⟨r, rfl, r0, r1⟩, k1, k2⟩
  have hX1 := HX.out.kept k2 (fun e => hgb (Option.some.inj e))
  obtain ⟨i, rfl⟩ := nat_of r0
  have hi : i < n := by omega
  have hi2 : (i : Int) < (n : Int) := by omega
  obtain ⟨s, hs, hP⟩ := HC.out i hi
  have c0 : w1.cell? ⟨b, i, none⟩ = some (.string s) := (hX1.cell i).trans hs
  have HF := Lib.hid (And.intro hP (And.intro k1 k2))
  clear HC HX hX1 hs hP k1 k2 r1
  go_wp2_with fail
  go_ret
  exact ⟨⟨s, rfl, HF.out.1⟩, HF.out.2.1, HF.out.2.2⟩

set_option maxHeartbeats 2000000 in
theorem srcSeat_any (A : Option Addr) (l : List UInt8) (c g : Nat) (w : World) (h : SrcAt A l c g w) (hl : l.length ≤ maxLen) :
    Calls Tryz.prog 109 #[.pointer (some ⟨g, 0, none⟩)] w fun e w' => (∃ r k : Int, e = .returned (.agg #[.int .i64 r, .int .i64 k]) ∧ (1 ≤ r ∧ r ≤ 3) ∧ (0 ≤ k ∧ k ≤ 2)) ∧ SrcAt A l c g w' ∧ w.grownBy w' (some g) := by
  have HN : Hid (∀ (W : World) (m : Int), SrcAt A l c g W → m ≤ 1000000 → Calls Tryz.prog 53 #[.pointer (some ⟨g, 0, none⟩), .int .i64 m] W fun e w' => (∃ r : Int, e = .returned (.int .i64 r) ∧ 0 ≤ r ∧ (r < m ∨ r = 0)) ∧ SrcAt A l c g w' ∧ W.grownBy w' (some g)) := fun W m h1 h2 => srcN_any A l c g m W h1 hl h2
  have hg : g < w.heap.size := by obtain ⟨_, _, _, h1, -⟩ := h; exact h1.lt
  have G0 : SrcG A l c g w (w.alloc (.cells #[.int .i64 0, .int .i64 0] 23)) := SrcG.on ⟨h, World.grownBy.refl _ _, hg⟩ ((Below.refl _ w).alloc (Nat.le_refl _) _)
  have X0 := Block.new w #[.int .i64 0, .int .i64 0] 23
  clear h
  go_enter Tryz.func109, Tryz.ntmps109
  go_wp2_with fail
  refine (HN.out _ 3 G0.1 (by omega)).mono ?_
  rintro e w1 ⟨⟨r, rfl, a0, a1⟩, k1, k2⟩
  have G1 := G0.n k1 k2
  have X1 := X0.kept k2 (fun e => by have := Option.some.inj e; omega)
  clear G0 X0 k1 k2
  have hw1 : IntKind.i64.wrap (1 + r) = 1 + r := IntWalk.i64_in _ (by omega)
  go_wp2_with fail
  refine (HN.out _ 3 G1.1 (by omega)).mono ?_
  rintro e w2 ⟨⟨k, rfl, b0, b1⟩, k1, k2⟩
  have G2 := G1.n k1 k2
  have X2 := X1.kept k2 (fun e => by have := Option.some.inj e; omega)
  have G3 := Lib.hid ((G2.set (b := w.heap.size) (i := 0) (Nat.le_refl _) (.int .i64 (1 + r))).set (b := w.heap.size) (i := 1) (Nat.le_refl _) (.int .i64 k))
  have q2 := X2.cell
  have f2 := X2.free
  clear G1 X1 k1 k2 G2
  have hz := X2.lt
  clear X2
  go_wp2_with fail
  refine bodyPost_ret (v := .agg #[.int .i64 (1 + r), .int .i64 k]) (by simp [results, Tryz.results109, go_sem, q2, f2, hz, Nat.ne_of_lt hz]) rfl ?_
  exact ⟨⟨1 + r, k, rfl, by omega, by omega⟩, G3.out.1, G3.out.2.1⟩
end Go.Proofs.YtpncnkihfijmaaaGreatDoor
namespace Go.Proofs.YtpncnkihfijmaaaGreatDoor
open Go.ChangeShapes Go.WideShapes Go.ChangeAt Go.RowKit Go.ChangeMaps
set_option maxRecDepth 10000
set_option linter.unusedSimpArgs false
set_option linter.unusedVariables false

abbrev ab1 : ByteArray := ⟨#[97, 98, 49]⟩
abbrev cd2 : ByteArray := ⟨#[99, 100, 50]⟩
theorem pickFlight (i : Nat) (hi : i < 2) : ∃ s, (#[.string ab1, .string cd2] : Array Value)[i]? = some (.string s) ∧ (s = ab1 ∨ s = cd2) := by
  have : i = 0 ∨ i = 1 := by omega
  rcases this with rfl | rfl
  · exact ⟨_, rfl, .inl rfl⟩
  · exact ⟨_, rfl, .inr rfl⟩

set_option maxHeartbeats 2000000 in
theorem srcHold_any (A : Option Addr) (l : List UInt8) (c g : Nat) (w : World) (h : SrcAt A l c g w) (hl : l.length ≤ maxLen) :
    Calls Tryz.prog 74 #[.pointer (some ⟨g, 0, none⟩)] w fun e w' => (∃ (f : ByteArray) (r k : Int), e = .returned (.agg #[.string f, .int .i64 r, .int .i64 k]) ∧ (f = ab1 ∨ f = cd2) ∧ (1 ≤ r ∧ r ≤ 3) ∧ (0 ≤ k ∧ k ≤ 2)) ∧ SrcAt A l c g w' ∧ w.grownBy w' (some g) := by
  have hg : g < w.heap.size := by obtain ⟨_, _, _, h1, -⟩ := h; exact h1.lt
  obtain ⟨W1, hW1⟩ : ∃ W1, W1 = (w.alloc (.cells #[.string ⟨#[]⟩, .int .i64 0, .int .i64 0] 49)).alloc (.cells #[.string ab1, .string cd2] 9) := ⟨_, rfl⟩
  have G1 : SrcG A l c g w W1 := by
    rw [hW1]
    exact SrcG.on (SrcG.on ⟨h, World.grownBy.refl _ _, hg⟩ ((Below.refl _ w).alloc (Nat.le_refl _) _)) ((Below.refl _ _).alloc (Nat.le_refl _) _)
  have X1 : Block W1 w.heap.size 49 #[.string ⟨#[]⟩, .int .i64 0, .int .i64 0] := by
    rw [hW1]
    exact (Block.new w _ _).alloc _
  have Y1 : Block W1 (w.heap.size + 1) 9 #[.string ab1, .string cd2] := by
    have := Block.new (w.alloc (.cells #[.string ⟨#[]⟩, .int .i64 0, .int .i64 0] 49)) #[.string ab1, .string cd2] 9
    rw [World.size_alloc] at this
    rw [hW1]
    exact this
  have HP : Hid (∀ cB : Nat, Calls Tryz.prog 55 #[.pointer (some ⟨g, 0, none⟩), .slice (some ⟨w.heap.size + 1, 0, none⟩) 2 cB] W1 fun e w' => (∃ s, e = .returned (.string s) ∧ (s = ab1 ∨ s = cd2)) ∧ SrcAt A l c g w' ∧ W1.grownBy w' (some g)) := fun cB =>
    srcPick_any A l c g (w.heap.size + 1) cB _ (fun s => s = ab1 ∨ s = cd2) W1 G1.1 hl Y1 (by omega) 2 rfl (by omega) (by omega) pickFlight
  have HS : Hid (∀ W : World, SrcAt A l c g W → Calls Tryz.prog 109 #[.pointer (some ⟨g, 0, none⟩)] W fun e w' => (∃ r k : Int, e = .returned (.agg #[.int .i64 r, .int .i64 k]) ∧ (1 ≤ r ∧ r ≤ 3) ∧ (0 ≤ k ∧ k ≤ 2)) ∧ SrcAt A l c g w' ∧ W.grownBy w' (some g)) := fun W h => srcSeat_any A l c g W h hl
  have HPw := Lib.hid (hW1 ▸ HP.out)
  clear h Y1 HP
  go_enter Tryz.func74, Tryz.ntmps74
  go_wp2_with fail
  refine (HPw.out _).mono ?_
  rintro e w1 ⟨⟨f, rfl, hf⟩, k1, k2⟩
  rw [← hW1] at k2
  have G2 := G1.n k1 k2
  have X2 := X1.kept k2 (fun e => by have := Option.some.inj e; omega)
  have HF := Lib.hid hf
  clear G1 X1 k1 k2 hf hW1 HPw
  go_wp2_with fail
  refine (HS.out _ G2.1).mono ?_
  rintro e w2 ⟨⟨r, k, rfl, a0, a1⟩, k1, k2⟩
  have G3 := G2.n k1 k2
  have X3 := X2.kept k2 (fun e => by have := Option.some.inj e; omega)
  have G4 := Lib.hid (((G3.set (b := w.heap.size) (i := 0) (Nat.le_refl _) (.string f)).set (b := w.heap.size) (i := 1) (Nat.le_refl _) (.int .i64 r)).set (b := w.heap.size) (i := 2) (Nat.le_refl _) (.int .i64 k))
  have q2 := X3.cell
  have f2 := X3.free
  have hz := X3.lt
  clear G2 X2 X3 k1 k2 G3
  go_wp2_with fail
  refine bodyPost_ret (v := .agg #[.string f, .int .i64 r, .int .i64 k]) (by simp [results, Tryz.results74, go_sem, q2, f2, hz, Nat.ne_of_lt hz]) rfl ?_
  exact ⟨⟨f, r, k, rfl, HF.out, a0, a1⟩, G4.out.1, G4.out.2.1⟩
end Go.Proofs.YtpncnkihfijmaaaGreatDoor
