/-
  The spec's draws: one, edge, l01Source.
-/
import Derived.Test.YtjgcanhaelabaaaDoorDraw
import Derived.Deep.RegionWith
namespace Go.Proofs.YtjgcanhaelabaaaDoor
open Go.ChangeShapes Go.WideShapes Go.ChangeAt Go.RowKit Go.ChangeMaps
set_option maxRecDepth 10000
set_option linter.unusedSimpArgs false
set_option linter.unusedVariables false

theorem grown_trans' {a b c : World} {row : Option Nat} (h : a.grownBy b row) (k : b.grownBy c row) : a.grownBy c row :=
  ⟨k.os.trans h.os, k.tape.trans h.tape, k.output.trans h.output, Nat.le_trans h.size k.size, fun i hi hr => (k.block i (Nat.lt_of_lt_of_le hi h.size) hr).trans (h.block i hi hr)⟩

set_option maxHeartbeats 1000000 in
theorem srcOne_any (A : Option Addr) (l : List UInt8) (c g : Nat) (most : Int) (w : World) (h : SrcAt A l c g w) (hl : l.length ≤ maxLen) (hm : most ≤ 1000000) :
    Calls Tryd.prog 29 #[.pointer (some ⟨g, 0, none⟩), .int .i64 most] w fun e w' => (∃ b : Bool, e = .returned (.bool b)) ∧ SrcAt A l c g w' ∧ w.grownBy w' (some g) := by
  have HN : Hid (Calls Tryd.prog 28 #[.pointer (some ⟨g, 0, none⟩), .int .i64 most] w fun e w' => (∃ r : Int, e = .returned (.int .i64 r) ∧ 0 ≤ r ∧ (r < most ∨ r = 0)) ∧ SrcAt A l c g w' ∧ w.grownBy w' (some g)) := srcN_any A l c g most w h hl hm
  clear h
  go_enter Tryd.func29, Tryd.ntmps29
  go_wp2_with fail
  refine HN.out.mono ?_
  rintro e w1 ⟨⟨r, rfl, -, -⟩, h1, h2⟩
  go_wp2_with fail
  go_ret
  exact ⟨⟨_, rfl⟩, h1, h2⟩

set_option maxHeartbeats 4000000 in
theorem l01Source_any (A : Option Addr) (l : List UInt8) (c : Nat) (w : World) (hl : Lies w w.heap.size 1 A l.length (bytesV l)) (hm : l.length ≤ maxLen) :
    Calls Tryd.prog 27 #[.slice A l.length c] w fun e w' => e = .returned (.pointer (some ⟨w.heap.size, 0, none⟩)) ∧ SrcAt A l c w.heap.size w' ∧ Below w.heap.size w w' := by
  unfold maxLen at hm
  have HL := Lib.hid hl
  clear hl
  go_enter Tryd.func27, Tryd.ntmps27
  go_wp2
  go_loopw [4] (fun i W => ∃ (k : Nat) (m : Int), k ≤ l.length ∧ i = .int .i64 k ∧ Block W w.heap.size 91 (srcCs A l.length c 0 m 0) ∧ Below w.heap.size w W) (fun i _ => l.length - (intOf i).toNat)
  case atStart => exact ⟨0, _, Nat.zero_le _, rfl, Block.new w _ _, (Below.refl _ w).alloc (Nat.le_refl _) _⟩
  case round =>
    obtain ⟨k, m, hk, rfl, hX, hB⟩ := hrel
    have x0 := hX.cell 0
    have x2 := hX.cell 2
    have x3 := hX.cell 3
    have z2 := hX.free 2
    have z3 := hX.free 3
    have hL1 := HL.out.below hB
    by_cases hlt : k < l.length
    · obtain ⟨b, off, z, rfl, hb, hc⟩ := hL1.byte hlt
      have hlt1 : (k : Int) < (l.length : Int) := by omega
      have hbn : b ≠ w.heap.size := by omega
      by_cases h64 : k < 64
      · have hd : decide (k < 64) = true := decide_eq_true h64
        clear hL1
        go_wp2_with fail
        go_region
        all_goals
          go_wp2_with fail
          go_roundw
          case rel => exact ⟨k + 1, _, by omega, by go_num, hX.set_ 2 _, hB.drew.setCell (by simp) _⟩
          case measure => simp [intOf]; omega
      · have hd : decide (k < 64) = false := decide_eq_false h64
        clear hL1
        by_cases h20 : 12 < (l.length : Int) / 20
        · go_wp2_with fail
          go_ret
          have hX2 := (hX.set_ 3 (.int .i64 ((l.length : Int) / 20))).set_ 3 (.int .i64 12)
          have hB2 := (hB.setCell (p := ⟨w.heap.size, 3, none⟩) (by simp) (.int .i64 ((l.length : Int) / 20))).setCell (p := ⟨w.heap.size, 3, none⟩) (by simp) (.int .i64 12)
          exact ⟨rfl, ⟨0, m, 12, hX2, Nat.zero_le _, HL.out.below hB2⟩, hB2⟩
        · go_wp2_with fail
          go_ret
          have hX2 := hX.set_ 3 (.int .i64 ((l.length : Int) / 20))
          have hB2 := hB.setCell (p := ⟨w.heap.size, 3, none⟩) (by simp) (.int .i64 ((l.length : Int) / 20))
          exact ⟨rfl, ⟨0, m, (l.length : Int) / 20, hX2, Nat.zero_le _, HL.out.below hB2⟩, hB2⟩
    · obtain rfl : k = l.length := by omega
      clear hL1
      by_cases h20 : 12 < (l.length : Int) / 20
      · go_wp2_with fail
        go_ret
        have hX2 := (hX.set_ 3 (.int .i64 ((l.length : Int) / 20))).set_ 3 (.int .i64 12)
        have hB2 := (hB.setCell (p := ⟨w.heap.size, 3, none⟩) (by simp) (.int .i64 ((l.length : Int) / 20))).setCell (p := ⟨w.heap.size, 3, none⟩) (by simp) (.int .i64 12)
        exact ⟨rfl, ⟨0, m, 12, hX2, Nat.zero_le _, HL.out.below hB2⟩, hB2⟩
      · go_wp2_with fail
        go_ret
        have hX2 := hX.set_ 3 (.int .i64 ((l.length : Int) / 20))
        have hB2 := hB.setCell (p := ⟨w.heap.size, 3, none⟩) (by simp) (.int .i64 ((l.length : Int) / 20))
        exact ⟨rfl, ⟨0, m, (l.length : Int) / 20, hX2, Nat.zero_le _, HL.out.below hB2⟩, hB2⟩

set_option maxHeartbeats 1000000 in
theorem srcEdge_any (A : Option Addr) (l : List UInt8) (c g : Nat) (w : World) (h : SrcAt A l c g w) (hl : l.length ≤ maxLen) :
    Calls Tryd.prog 30 #[.pointer (some ⟨g, 0, none⟩)] w fun e w' => (∃ r : Int, e = .returned (.int .i64 r) ∧ (Lit.int .i64 r).wf = true) ∧ SrcAt A l c g w' ∧ w.grownBy w' (some g) := by
  obtain ⟨cs, hcs⟩ : ∃ cs : Array Value, cs = #[.int .i64 0, .int .i64 1, .int .i64 (-1), .int .i64 2, .int .i64 1000, .int .i64 1001, .int .i64 2147483648, .int .i64 2147483647, .int .i64 (-2147483648), .int .i64 4611686018427387904, .int .i64 9223372036854775807, .int .i64 (-9223372036854775808), .int .i64 1000000, .int .i64 1000001] := ⟨_, rfl⟩
  have hX := Block.new w cs 2
  have hS : SrcAt A l c g (w.alloc (.cells cs 2)) := h.on ((Below.refl _ w).alloc (Nat.le_refl _) _)
  have hg : g < w.heap.size := by obtain ⟨_, _, _, h1, -⟩ := h; exact h1.lt
  have HN : Hid (Calls Tryd.prog 28 #[.pointer (some ⟨g, 0, none⟩), .int .i64 14] (w.alloc (.cells cs 2)) fun e w' => (∃ r : Int, e = .returned (.int .i64 r) ∧ 0 ≤ r ∧ (r < 14 ∨ r = 0)) ∧ SrcAt A l c g w' ∧ (w.alloc (.cells cs 2)).grownBy w' (some g)) := srcN_any A l c g 14 _ hS hl (by omega)
  have hcell : ∀ i : Nat, i < 14 → ∃ r : Int, cs[i]? = some (.int .i64 r) ∧ (Lit.int .i64 r).wf = true := by
    subst hcs
    intro i hi
    match i, hi with
    | 0, _ => exact ⟨_, rfl, by decide⟩
    | 1, _ => exact ⟨_, rfl, by decide⟩
    | 2, _ => exact ⟨_, rfl, by decide⟩
    | 3, _ => exact ⟨_, rfl, by decide⟩
    | 4, _ => exact ⟨_, rfl, by decide⟩
    | 5, _ => exact ⟨_, rfl, by decide⟩
    | 6, _ => exact ⟨_, rfl, by decide⟩
    | 7, _ => exact ⟨_, rfl, by decide⟩
    | 8, _ => exact ⟨_, rfl, by decide⟩
    | 9, _ => exact ⟨_, rfl, by decide⟩
    | 10, _ => exact ⟨_, rfl, by decide⟩
    | 11, _ => exact ⟨_, rfl, by decide⟩
    | 12, _ => exact ⟨_, rfl, by decide⟩
    | 13, _ => exact ⟨_, rfl, by decide⟩
    | n + 14, hi => omega
  rw [hcs] at HN hX
  clear h hS
  go_enter Tryd.func30, Tryd.ntmps30
  go_wp2_with fail
  refine HN.out.mono ?_
  rintro e w1 ⟨⟨r, rfl, r0, r1⟩, h1, h2⟩
  obtain ⟨i, rfl⟩ := nat_of r0
  have hi : i < 14 := by omega
  have hX1 := hX.kept h2 (fun e => by have := Option.some.inj e; omega)
  obtain ⟨v, hv, hw⟩ := hcell i hi
  have c0 : w1.cell? ⟨w.heap.size, i, none⟩ = some (.int .i64 v) := by rw [hX1.cell i, ← hcs]; exact hv
  have hi2 : (i : Int) < 14 := by omega
  clear hcell hX hX1
  go_wp2_with fail
  go_ret
  exact ⟨⟨v, rfl, hw⟩, h1, grown_trans' (World.grownBy_alloc w _ _) h2⟩
end Go.Proofs.YtjgcanhaelabaaaDoor
