/-
  laws.lwTokens, laws.lwTokensOut: true of two that are alike.
-/
import Derived.Test.YtjgcanhaelabaaaDoorTokSnoc
import Derived.Test.YtjgcanhaelabaaaDoorBlocks
import Derived.Test.YtjgcanhaelabaaaDoorTokOkS
namespace Go.Proofs.YtjgcanhaelabaaaDoor
open Go.ChangeShapes Go.WideShapes Go.ChangeAt Go.RowKit Go.ChangeMaps
set_option maxRecDepth 10000
set_option linter.unusedSimpArgs false
set_option linter.unusedVariables false

set_option maxHeartbeats 2000000 in
theorem lwTokens_same (l : List TK) (A A' : Option Addr) (n cap cap' : Nat) (w : World) (hn : l.length = n) (hl : Lies w w.heap.size 4 A n (toksC l)) (hl' : Lies w w.heap.size 4 A' n (toksC l)) (hm : n ≤ 1099511627) :
    Calls Tryd.prog 37 #[.slice A n cap, .slice A' n cap'] w fun e w' => e = .returned (.bool true) ∧ Below w.heap.size w w' := by
  have HN := Lib.hid hn
  clear hn
  go_enter Tryd.func37, Tryd.ntmps37
  go_wp2
  go_loopw [5] (fun i wr => ∃ k : Nat, k ≤ n ∧ i = .int .i64 k ∧ Below w.heap.size w wr) (fun i _ => n - (intOf i).toNat)
  case atStart => exact ⟨0, Nat.zero_le _, rfl, Below.refl _ _⟩
  case round =>
    obtain ⟨k, hk, rfl, hB⟩ := hrel
    by_cases hlt : k < n
    · obtain ⟨b, off, x, rfl, hlb, hx, c0, c1, c2, c3⟩ := (hl.below hB).tok hlt
      obtain ⟨b', off', x', rfl, hlb', hx', d0, d1, d2, d3⟩ := (hl'.below hB).tok hlt
      obtain rfl : x' = x := Option.some.inj (hx'.symm.trans hx)
      have hz := hB.size
      have hBd := hB.drew
      clear hx hx' hl hl'
      go_wp2_with fail
      go_region_held3 (fun W => W.cell? ⟨b, off + k * 4, none⟩ = some (.int .i64 x'.n) ∧ W.cell? ⟨b, off + k * 4 + 1, none⟩ = some (.int .i64 x'.h) ∧ W.cell? ⟨b, off + k * 4 + 2, none⟩ = some (.int .i64 x'.r) ∧ W.cell? ⟨b, off + k * 4 + 3, none⟩ = some (.int .i64 x'.t) ∧ W.cell? ⟨b', off' + k * 4, none⟩ = some (.int .i64 x'.n) ∧ W.cell? ⟨b', off' + k * 4 + 1, none⟩ = some (.int .i64 x'.h) ∧ W.cell? ⟨b', off' + k * 4 + 2, none⟩ = some (.int .i64 x'.r) ∧ W.cell? ⟨b', off' + k * 4 + 3, none⟩ = some (.int .i64 x'.t) ∧ Below w.heap.size w W ∧ w.heap.size ≤ W.heap.size) (go_keep) (fail)
      rename_i hHeld
      obtain ⟨-, -, -, -, -, -, -, -, hB, -⟩ := hHeld
      go_wp2_with fail
      go_roundw
      case rel => exact ⟨k + 1, by omega, by go_num, hB⟩
      case measure => simp [intOf]; omega
    · obtain rfl : k = n := by omega
      clear hl hl'
      go_wp2
      go_ret
      exact ⟨rfl, hB⟩

set_option maxHeartbeats 4000000 in
theorem lwTokensOut_same (l : List TK) (A B : Option Addr) (c d : Nat) (no code : Int) (w : World) (hl : Lies w w.heap.size 4 A l.length (toksC l)) (hl' : Lies w w.heap.size 4 B l.length (toksC l)) (hm : l.length ≤ 1099511627) (hok : code = 0 → toksOkB l = true) :
    Calls Tryd.prog 14 #[outV A l.length c no code, outV B l.length d no code] w fun e w' => e = .returned (.bool true) ∧ Below w.heap.size w w' := by
  have HE : Hid (∀ W : World, Below w.heap.size w W → Calls Tryd.prog 37 #[.slice A l.length c, .slice B l.length d] W fun e w' => e = .returned (.bool true) ∧ Below W.heap.size W w') := fun W hW => lwTokens_same l A B l.length c d W rfl (hl.on hW) (hl'.on hW) hm
  have HO : Hid (∀ W : World, Below w.heap.size w W → Calls Tryd.prog 20 #[.slice A l.length c] W fun e w' => e = .returned (.bool (toksOkB l)) ∧ Below W.heap.size W w') := fun W hW => sTokensRight_any l A c W (hl.on hW) hm
  clear hl hl'
  go_enter Tryd.func14, Tryd.ntmps14
  go_wp2_with fail
  refine (HE.out _ (by go_grown)).mono ?_
  rintro e w1 ⟨rfl, hb1⟩
  have X1 := ((Block.new w #[.slice A l.length c, .int .i64 no, .int .i64 code] 28).alloc (.cells #[.slice B l.length d, .int .i64 no, .int .i64 code] 28)).on hb1
  have hB : Below w.heap.size w w1 := (((Below.refl _ w).alloc (Nat.le_refl _) _).alloc (by simp) _).trans (hb1.mono (by simp; omega))
  have x1 := X1.cell
  clear hb1 X1
  by_cases h0 : code = 0
  · subst h0
    rw [hok rfl] at HO
    go_wp2_with fail
    refine (HO.out _ hB).mono ?_
    rintro e w2 ⟨rfl, hb2⟩
    have hB2 := hB.trans (hb2.mono hB.size)
    clear hB hb2
    go_wp2_with fail
    go_ret
    exact ⟨rfl, hB2⟩
  · go_wp2_with fail
    go_ret
    exact ⟨rfl, hB⟩
end Go.Proofs.YtjgcanhaelabaaaDoor
