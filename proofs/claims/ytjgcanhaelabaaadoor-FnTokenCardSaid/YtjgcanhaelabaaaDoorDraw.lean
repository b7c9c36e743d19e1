/-
  The spec's draws: a source of numbers, and what it gives.
-/
import Derived.Test.YtjgcanhaelabaaaDoorBytes
import Derived.Test.YtjgcanhaelabaaaDoorLists
import Derived.Test.YtjgcanhaelabaaaDoorBlocks
import Derived.Deep.Cut
import Derived.Deep.DeepCutAuto
import Derived.Deep.RegionHeld3
namespace Go.Proofs.YtjgcanhaelabaaaDoor
open Go.ChangeShapes Go.WideShapes Go.ChangeAt Go.RowKit Go.ChangeMaps
set_option maxRecDepth 10000
set_option linter.unusedSimpArgs false
set_option linter.unusedVariables false

abbrev srcCs (A : Option Addr) (n c : Nat) (a : Int) (m s : Int) : Array Value := #[.slice A n c, .int .i64 a, .int .u64 m, .int .i64 s]
/-- A source lies in block g: what it draws from lies below. -/
def SrcAt (A : Option Addr) (l : List UInt8) (c g : Nat) (W : World) : Prop :=
  ∃ (k : Nat) (m s : Int), Block W g 91 (srcCs A l.length c k m s) ∧ k ≤ l.length ∧ Lies W g 1 A l.length (bytesV l)
theorem Lies.byte {w : World} {B i : Nat} {A : Option Addr} {l : List UInt8} (h : Lies w B 1 A l.length (bytesV l)) (hi : i < l.length) :
    ∃ b off z, A = some ⟨b, off, none⟩ ∧ b < B ∧ w.cell? ⟨b, off + i, none⟩ = some (.int .u8 z) := by
  obtain ⟨b, off, rfl, hb, hc⟩ := h.2 (by omega)
  exact ⟨b, off, _, rfl, hb, hc i (byteV l[i]) (by rw [bytesV, List.getElem?_map, List.getElem?_eq_getElem hi]; rfl)⟩
theorem SrcAt.on {A : Option Addr} {l : List UInt8} {c g : Nat} {W W' : World} (h : SrcAt A l c g W) (hb : Below W.heap.size W W') : SrcAt A l c g W' := by
  obtain ⟨k, m, s, h1, h2, h3⟩ := h
  exact ⟨k, m, s, h1.on hb, h2, h3.below (hb.mono (Nat.le_of_lt h1.lt))⟩

/-- A source on its way. -/
def SrcW (A : Option Addr) (l : List UInt8) (c g : Nat) (s : Int) (w W : World) : Prop :=
  ∃ (k : Nat) (m : Int), Block W g 91 (srcCs A l.length c k m s) ∧ k ≤ l.length ∧ Lies W g 1 A l.length (bytesV l) ∧ w.grownBy W (some g)
theorem SrcW.mix {A : Option Addr} {l : List UInt8} {c g : Nat} {s : Int} {w W : World} {k : Nat} {m m' : Int} (hX : Block W g 91 (srcCs A l.length c k m s)) (hk : k ≤ l.length) (hL : Lies W g 1 A l.length (bytesV l)) (hG : w.grownBy W (some g)) :
    SrcW A l c g s w (W.setCell ⟨g, 2, none⟩ (.int .u64 m')) := by
  refine ⟨k, m', hX.set_ 2 _, hk, hL.below ((Below.refl g W).setCell (p := ⟨g, 2, none⟩) (Nat.le_refl _) _), ?_⟩
  exact ⟨hG.os, hG.tape, hG.output, by simpa using hG.size, fun j hj hne => (Below.heap_setCell W ⟨g, 2, none⟩ _ j (fun e => hne (by rw [e]))).trans (hG.block j hj hne)⟩
theorem SrcW.step {A : Option Addr} {l : List UInt8} {c g : Nat} {s : Int} {w W : World} {k : Nat} {m : Int} (hX : Block W g 91 (srcCs A l.length c k m s)) (hk : k < l.length) (hL : Lies W g 1 A l.length (bytesV l)) (hG : w.grownBy W (some g)) :
    SrcW A l c g s w (W.setCell ⟨g, 1, none⟩ (.int .i64 ((k : Int) + 1))) := by
  refine ⟨k + 1, m, ?_, hk, hL.below ((Below.refl g W).setCell (p := ⟨g, 1, none⟩) (Nat.le_refl _) _), ?_⟩
  · have := hX.set_ 1 (.int .i64 ((k : Int) + 1))
    simpa using this
  · exact ⟨hG.os, hG.tape, hG.output, by simpa using hG.size, fun j hj hne => (Below.heap_setCell W ⟨g, 1, none⟩ _ j (fun e => hne (by rw [e]))).trans (hG.block j hj hne)⟩
theorem SrcW.drew {A : Option Addr} {l : List UInt8} {c g : Nat} {s : Int} {w W : World} (h : SrcW A l c g s w W) : SrcW A l c g s w W.drew := by
  obtain ⟨k, m, h1, h2, h3, h4⟩ := h
  exact ⟨k, m, h1, h2, h3, ⟨h4.os, h4.tape, h4.output, h4.size, h4.block⟩⟩

theorem u64_nonneg (n : Int) : 0 ≤ IntKind.u64.wrap n := by
  unfold IntKind.wrap
  simp [IntKind.signed, IntKind.bits]
  omega

set_option maxHeartbeats 2000000 in
theorem srcN_any (A : Option Addr) (l : List UInt8) (c g : Nat) (most : Int) (w : World) (h : SrcAt A l c g w) (hl : l.length ≤ maxLen) (hm : most ≤ 1000000) :
    Calls Tryd.prog 28 #[.pointer (some ⟨g, 0, none⟩), .int .i64 most] w fun e w' => (∃ r : Int, e = .returned (.int .i64 r) ∧ 0 ≤ r ∧ (r < most ∨ r = 0)) ∧ SrcAt A l c g w' ∧ w.grownBy w' (some g) := by
  by_cases h1 : most ≤ 1
  · go_enter Tryd.func28, Tryd.ntmps28
    go_wp2
    go_ret
    exact ⟨⟨0, rfl, Int.le_refl _, .inr rfl⟩, h, World.grownBy.refl _ _⟩
  obtain ⟨k, m, s, hX, hk, hL⟩ := h
  unfold maxLen at hl
  have x0 := hX.cell 0
  have x1 := hX.cell 1
  go_enter Tryd.func28, Tryd.ntmps28
  have hX0 := hX
  go_wp2_with fail
  go_region_held3 (fun W => W.cell? ⟨g, 0, none⟩ = some (.slice A l.length c) ∧ W.cell? ⟨g, 1, none⟩ = some (.int .i64 (k : Int))) (go_keep) (fail)
  go_upto_if 17 with fail
  go_cut [5] (fun v W => (∃ x : Int, v = .int .u64 x) ∧ SrcW A l c g s w W)
  case first =>
    by_cases hlt : k < l.length
    · obtain ⟨b, off, z, rfl, hb, hc⟩ := hL.byte hlt
      have hlt1 : (k : Int) < (l.length : Int) := by omega
      have hd : decide (k < l.length) = true := decide_eq_true hlt
      have hX1 : Block w.drew.drew g 91 (srcCs (some ⟨b, off, none⟩) l.length c k m s) := hX
      have f1 := hX.free 1
      go_wp2_with fail
      go_region_held3 (fun W => W.cell? ⟨g, 0, none⟩ = some (.slice (some ⟨b, off, none⟩) l.length c) ∧ W.cell? ⟨g, 1, none⟩ = some (.int .i64 (k : Int)) ∧ W.cell? ⟨b, off + k, none⟩ = some (.int .u8 z)) (go_keep) (fail)
      go_wp2_with fail
      go_meet
      exact ⟨⟨_, rfl⟩, SrcW.drew (SrcW.drew (SrcW.step hX hlt hL (World.grownBy.refl _ _)))⟩
    · have hd : decide (k < l.length) = false := decide_eq_false hlt
      go_wp2_with fail
      go_meet
      exact ⟨⟨_, rfl⟩, SrcW.drew ⟨k, m, hX, hk, hL, World.grownBy.refl _ _⟩⟩
  case rest =>
  obtain ⟨⟨x, rfl⟩, hsrc⟩ := hcut
  clear hX hk hL hX0 x0 x1
  go_upto_region 7 with fail
  go_cut [] (SrcW A l c g s w)
  case first =>
    obtain ⟨k, m, hX, hk, hL, hG⟩ := hsrc
    have x2 := hX.cell 2
    have z2 := hX.free 2
    go_region
    all_goals
      go_wp2_with fail
      go_meet
      first | exact SrcW.mix (W := World.drew _) hX hk hL ⟨hG.os, hG.tape, hG.output, hG.size, hG.block⟩ | exact SrcW.drew (SrcW.mix hX hk hL hG)
  case rest =>
  clear hsrc
  have hsrc := hcut
  clear hcut
  go_upto_region 8 with fail
  go_cut [] (SrcW A l c g s w)
  case first =>
    obtain ⟨k, m, hX, hk, hL, hG⟩ := hsrc
    have x2 := hX.cell 2
    have z2 := hX.free 2
    go_region
    all_goals
      go_wp2_with fail
      go_meet
      first | exact SrcW.mix (W := World.drew _) hX hk hL ⟨hG.os, hG.tape, hG.output, hG.size, hG.block⟩ | exact SrcW.drew (SrcW.mix hX hk hL hG)
  case rest =>
  clear hsrc
  have hsrc := hcut
  clear hcut
  go_upto_region 9 with fail
  go_cut [] (SrcW A l c g s w)
  case first =>
    obtain ⟨k, m, hX, hk, hL, hG⟩ := hsrc
    have x2 := hX.cell 2
    have z2 := hX.free 2
    go_region
    all_goals
      go_wp2_with fail
      go_meet
      first | exact SrcW.mix (W := World.drew _) hX hk hL ⟨hG.os, hG.tape, hG.output, hG.size, hG.block⟩ | exact SrcW.drew (SrcW.mix hX hk hL hG)
  case rest =>
  clear hsrc
  have hsrc := hcut
  clear hcut
  obtain ⟨k, m, hX, hk, hL, hG⟩ := hsrc
  have x2 := hX.cell 2
  go_wp2_with fail
  go_ret
  have hu := u64_nonneg (x + m / 1048576)
  generalize IntKind.u64.wrap (x + m / 1048576) = y at *
  have h2 := Int.tmod_nonneg most hu
  have h3 := Int.tmod_lt_of_pos y (show 0 < most by omega)
  have h4 : wrap64 (y.tmod most) = y.tmod most := IntWalk.wrap64_in _ (by omega)
  rw [h4]
  exact ⟨⟨_, rfl, h2, .inl h3⟩, ⟨k, m, s, hX, hk, hL⟩, hG⟩
end Go.Proofs.YtjgcanhaelabaaaDoor
