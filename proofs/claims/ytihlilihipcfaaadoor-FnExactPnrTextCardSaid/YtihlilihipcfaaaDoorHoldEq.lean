/-
  Lists of holds: the laws' own equality of two that read alike.
-/
import Derived.Test.YtihlilihipcfaaaDoorHoldLists
namespace Go.Proofs.YtihlilihipcfaaaDoor
open Go.ChangeShapes Go.WideShapes Go.ChangeAt Go.RowKit Go.ChangeMaps
set_option maxRecDepth 10000
set_option linter.unusedSimpArgs false
set_option linter.unusedVariables false

set_option maxHeartbeats 1000000 in
theorem eqHoldS_same (l : List HD) (A A' : Option Addr) (n cap cap' : Nat) (w : World) (hn : l.length = n) (hl : Lies w w.heap.size 3 A n (holdsC l)) (hl' : Lies w w.heap.size 3 A' n (holdsC l)) (hm : n ≤ 1099511627) :
    Calls Tryd.prog 35 #[.slice A n cap, .slice A' n cap'] w fun e w' => e = .returned (.bool true) ∧ Below w.heap.size w w' := by
  have HN := Lib.hid hn
  clear hn
  go_enter Tryd.func35, Tryd.ntmps35
  go_wp2
  go_loopw [5] (fun i wr => ∃ k : Nat, k ≤ n ∧ i = .int .i64 k ∧ Below w.heap.size w wr) (fun i _ => n - (intOf i).toNat)
  case atStart => exact ⟨0, Nat.zero_le _, rfl, Below.refl _ _⟩
  case round =>
    obtain ⟨k, hk, rfl, hB⟩ := hrel
    by_cases hlt : k < n
    · obtain ⟨b, off, x, rfl, hlb, hx, c0, c1, c2⟩ := (hl.below hB).hold hlt
      obtain ⟨b', off', x', rfl, hlb', hx', d0, d1, d2⟩ := (hl'.below hB).hold hlt
      obtain rfl : x' = x := Option.some.inj (hx'.symm.trans hx)
      have HT : Hid (∀ W : World, Calls Tryd.prog 57 #[holdV x'.f x'.r x'.c, holdV x'.f x'.r x'.c] W fun e w' => e = .returned (.bool true) ∧ Below W.heap.size W w') := fun W => eqHold_same x'.f x'.r x'.c W
      have hz := hB.size
      have hBd := hB.drew
      clear hx hx' hl hl'
      go_wp2_with fail
      go_region_held3 (fun W => W.cell? ⟨b, off + k * 3, none⟩ = some (.string x'.f) ∧ W.cell? ⟨b, off + k * 3 + 1, none⟩ = some (.int .i64 x'.r) ∧ W.cell? ⟨b, off + k * 3 + 2, none⟩ = some (.int .i64 x'.c) ∧
          W.cell? ⟨b', off' + k * 3, none⟩ = some (.string x'.f) ∧ W.cell? ⟨b', off' + k * 3 + 1, none⟩ = some (.int .i64 x'.r) ∧ W.cell? ⟨b', off' + k * 3 + 2, none⟩ = some (.int .i64 x'.c) ∧ Below w.heap.size w W ∧ w.heap.size ≤ W.heap.size)
        (first | (go_keep; done) | (go_split_ands; exact ⟨kc hb (by assumption) (by omega), kc hb (by assumption) (by omega), kc hb (by assumption) (by omega), kc hb (by assumption) (by omega), kc hb (by assumption) (by omega), kc hb (by assumption) (by omega), bstep hb (by assumption) (by omega), zstep hb (by assumption)⟩))
        (first | (go_at_call 57; refine (HT.out _).mono ?_; rintro e w' ⟨rfl, hb⟩))
      rename_i hHeld
      obtain ⟨-, -, -, -, -, -, hB, -⟩ := hHeld
      go_wp2_with fail
      go_roundw
      case rel => exact ⟨k + 1, by omega, by go_num, hB⟩
      case measure => simp [intOf]; omega
    · obtain rfl : k = n := by omega
      clear hl hl'
      go_wp2
      go_ret
      exact ⟨rfl, hB⟩
end Go.Proofs.YtihlilihipcfaaaDoor
