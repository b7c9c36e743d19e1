/-
  slices.Equal at texts, and at holds.
-/
import Derived.Test.YtagbcfkdieinpaaStrs
import Derived.Test.YtagbcfkdieinpaaHoldLists
namespace Go.Proofs.Ytagbcfkdieinpaa
open Go.ChangeShapes Go.WideShapes Go.ChangeAt Go.RowKit Go.ChangeMaps
set_option linter.unusedSimpArgs false
set_option linter.unusedVariables false

def strsB (l m : List ByteArray) : Bool := decide (l = m)
def holdsB (l m : List HD) : Bool := decide (l = m)
theorem take_eq_succ {α : Type} {l m : List α} {k : Nat} {x : α} (h : l.take k = m.take k) (hl : l[k]? = some x) (hm : m[k]? = some x) : l.take (k + 1) = m.take (k + 1) := by
  rw [List.take_add_one, List.take_add_one, h, hl, hm]
theorem ne_of_at {α : Type} {l m : List α} {k : Nat} {x y : α} (hl : l[k]? = some x) (hm : m[k]? = some y) (h : x ≠ y) : l ≠ m := fun e => h (by rw [e, hm] at hl; exact (Option.some.inj hl).symm)

set_option maxHeartbeats 1000000 in
theorem equalS_any (l m : List ByteArray) (A A' : Option Addr) (cap cap' : Nat) (w : World) (hl : Lies w w.heap.size 1 A l.length (strsC l)) (hl' : Lies w w.heap.size 1 A' m.length (strsC m)) (hm : l.length ≤ 1099511627) (hm' : m.length ≤ 1099511627) :
    Calls Try.prog 42 #[.slice A l.length cap, .slice A' m.length cap'] w fun e w' => e = .returned (.bool (strsB l m)) ∧ Below w.heap.size w w' := by
  have HR : Hid (strsB l m = decide (l = m)) := rfl
  generalize strsB l m = R at *
  by_cases hn : l.length = m.length
  · rw [← hn] at hl' ⊢
    have HN := Lib.hid hn
    clear hn hm'
    go_enter Try.func42, Try.ntmps42
    go_wp2
    go_loopw [13] (fun i wr => ∃ k : Nat, k ≤ l.length ∧ i = .int .i64 k ∧ Hid (l.take k = m.take k) ∧ Below w.heap.size w wr) (fun i _ => l.length - (intOf i).toNat)
    case atStart => exact ⟨0, Nat.zero_le _, rfl, rfl, Below.refl _ _⟩
    case round =>
      obtain ⟨k, hk, rfl, HT, hB⟩ := hrel
      by_cases hlt : k < l.length
      · obtain ⟨b, off, x, rfl, hlb, hx, c0⟩ := (hl.below hB).str hlt
        obtain ⟨b', off', y, rfl, hlb', hy, d0⟩ := (hl'.below hB).str hlt
        have hz := hB.size
        have hBd := hB.drew
        clear hl hl'
        by_cases hxy : x = y
        · subst hxy
          have HT2 := Lib.hid (take_eq_succ HT.out hx hy)
          clear hx hy HT
          go_wp2_with fail
          go_region_held3 (fun W => W.cell? ⟨b, off + k, none⟩ = some (.string x) ∧ W.cell? ⟨b', off' + k, none⟩ = some (.string x) ∧ Below w.heap.size w W ∧ w.heap.size ≤ W.heap.size) (go_keep) (fail)
          rename_i hHeld
          obtain ⟨-, -, hB, -⟩ := hHeld
          go_wp2_with fail
          go_roundw
          case rel => exact ⟨k + 1, by omega, by go_num, HT2.out, hB⟩
          case measure => simp [intOf]; omega
        · have HNE := Lib.hid (ne_of_at hx hy hxy)
          have hne := str_ne hxy
          clear hx hy HT hxy
          go_wp2_with fail
          go_region_held3 (fun W => W.cell? ⟨b, off + k, none⟩ = some (.string x) ∧ W.cell? ⟨b', off' + k, none⟩ = some (.string y) ∧ Below w.heap.size w W ∧ w.heap.size ≤ W.heap.size) (go_keep) (fail)
          rename_i hHeld
          obtain ⟨-, -, hB, -⟩ := hHeld
          go_wp2_with fail
          go_ret
          exact ⟨ret_bool (by rw [HR.out, decide_eq_false HNE.out]), hB⟩
      · obtain rfl : k = l.length := by omega
        have HE : Hid (l = m) := by
          have := HT.out
          rw [List.take_length, HN.out, List.take_length] at this
          exact this
        clear hl hl' HT
        go_wp2
        go_ret
        exact ⟨ret_bool (by rw [HR.out, decide_eq_true HE.out]), hB⟩
  · have HNE : Hid (l ≠ m) := fun e => hn (by rw [e])
    have hn' : ¬ ((l.length : Int) = (m.length : Int)) := by omega
    clear hl hl'
    go_enter Try.func42, Try.ntmps42
    go_wp2
    go_ret
    exact ⟨ret_bool (by rw [HR.out, decide_eq_false HNE.out]), Below.refl _ _⟩

theorem ne_parts {x y : HD} (h : x ≠ y) : x.f ≠ y.f ∨ (x.f = y.f ∧ x.r ≠ y.r) ∨ (x.f = y.f ∧ x.r = y.r ∧ x.c ≠ y.c) := by
  obtain ⟨a, b, c⟩ := x
  obtain ⟨a', b', c'⟩ := y
  by_cases h1 : a = a'
  · by_cases h2 : b = b'
    · exact .inr (.inr ⟨h1, h2, fun h3 => h (by simp at h3; subst h1 h2 h3; rfl)⟩)
    · exact .inr (.inl ⟨h1, h2⟩)
  · exact .inl h1

set_option maxHeartbeats 2000000 in
theorem equalH_any (l m : List HD) (A A' : Option Addr) (cap cap' : Nat) (w : World) (hl : Lies w w.heap.size 3 A l.length (holdsC l)) (hl' : Lies w w.heap.size 3 A' m.length (holdsC m)) (hm : l.length ≤ 1099511627) (hm' : m.length ≤ 1099511627) :
    Calls Try.prog 43 #[.slice A l.length cap, .slice A' m.length cap'] w fun e w' => e = .returned (.bool (holdsB l m)) ∧ Below w.heap.size w w' := by
  have HR : Hid (holdsB l m = decide (l = m)) := rfl
  generalize holdsB l m = R at *
  by_cases hn : l.length = m.length
  · rw [← hn] at hl' ⊢
    have HN := Lib.hid hn
    clear hn hm'
    go_enter Try.func43, Try.ntmps43
    go_wp2
    go_loopw [13] (fun i wr => ∃ k : Nat, k ≤ l.length ∧ i = .int .i64 k ∧ Hid (l.take k = m.take k) ∧ Below w.heap.size w wr) (fun i _ => l.length - (intOf i).toNat)
    case atStart => exact ⟨0, Nat.zero_le _, rfl, rfl, Below.refl _ _⟩
    case round =>
      obtain ⟨k, hk, rfl, HT, hB⟩ := hrel
      by_cases hlt : k < l.length
      · obtain ⟨b, off, x, rfl, hlb, hx, c0, c1, c2⟩ := (hl.below hB).hold hlt
        obtain ⟨b', off', y, rfl, hlb', hy, d0, d1, d2⟩ := (hl'.below hB).hold hlt
        have hz := hB.size
        have hBd := hB.drew
        clear hl hl'
        by_cases hxy : x = y
        · subst hxy
          have HT2 := Lib.hid (take_eq_succ HT.out hx hy)
          obtain ⟨xf, xr, xc⟩ := x
          dsimp only at c0 c1 c2 d0 d1 d2
          clear hx hy HT
          go_wp2_with fail
          go_region_held3 (fun W => W.cell? ⟨b, off + k * 3, none⟩ = some (.string xf) ∧ W.cell? ⟨b, off + k * 3 + 1, none⟩ = some (.int .i64 xr) ∧ W.cell? ⟨b, off + k * 3 + 2, none⟩ = some (.int .i64 xc) ∧ W.cell? ⟨b', off' + k * 3, none⟩ = some (.string xf) ∧ W.cell? ⟨b', off' + k * 3 + 1, none⟩ = some (.int .i64 xr) ∧ W.cell? ⟨b', off' + k * 3 + 2, none⟩ = some (.int .i64 xc) ∧ Below w.heap.size w W ∧ w.heap.size ≤ W.heap.size) (go_keep) (fail)
          rename_i hHeld
          obtain ⟨-, -, -, -, -, -, hB, -⟩ := hHeld
          go_wp2_with fail
          go_roundw
          case rel => exact ⟨k + 1, by omega, by go_num, HT2.out, hB⟩
          case measure => simp [intOf]; omega
        · have HNE := Lib.hid (ne_of_at hx hy hxy)
          have hp := ne_parts hxy
          obtain ⟨xf, xr, xc⟩ := x
          obtain ⟨yf, yr, yc⟩ := y
          dsimp only at c0 c1 c2 d0 d1 d2 hp
          clear hx hy HT hxy
          rcases hp with hp | ⟨rfl, hp⟩ | ⟨rfl, rfl, hp⟩
          · have hne := str_ne hp
            clear hp
            go_wp2_with fail
            go_region_held3 (fun W => W.cell? ⟨b, off + k * 3, none⟩ = some (.string xf) ∧ W.cell? ⟨b, off + k * 3 + 1, none⟩ = some (.int .i64 xr) ∧ W.cell? ⟨b, off + k * 3 + 2, none⟩ = some (.int .i64 xc) ∧ W.cell? ⟨b', off' + k * 3, none⟩ = some (.string yf) ∧ W.cell? ⟨b', off' + k * 3 + 1, none⟩ = some (.int .i64 yr) ∧ W.cell? ⟨b', off' + k * 3 + 2, none⟩ = some (.int .i64 yc) ∧ Below w.heap.size w W ∧ w.heap.size ≤ W.heap.size) (go_keep) (fail)
            rename_i hHeld
            obtain ⟨-, -, -, -, -, -, hB, -⟩ := hHeld
            go_wp2_with fail
            go_ret
            exact ⟨ret_bool (by rw [HR.out, decide_eq_false HNE.out]), hB⟩
          · have hne : (xr == yr) = false := beq_eq_false_iff_ne.2 hp
            clear hp
            go_wp2_with fail
            go_region_held3 (fun W => W.cell? ⟨b, off + k * 3, none⟩ = some (.string xf) ∧ W.cell? ⟨b, off + k * 3 + 1, none⟩ = some (.int .i64 xr) ∧ W.cell? ⟨b, off + k * 3 + 2, none⟩ = some (.int .i64 xc) ∧ W.cell? ⟨b', off' + k * 3, none⟩ = some (.string xf) ∧ W.cell? ⟨b', off' + k * 3 + 1, none⟩ = some (.int .i64 yr) ∧ W.cell? ⟨b', off' + k * 3 + 2, none⟩ = some (.int .i64 yc) ∧ Below w.heap.size w W ∧ w.heap.size ≤ W.heap.size) (go_keep) (fail)
            rename_i hHeld
            obtain ⟨-, -, -, -, -, -, hB, -⟩ := hHeld
            go_wp2_with fail
            go_ret
            exact ⟨ret_bool (by rw [HR.out, decide_eq_false HNE.out]), hB⟩
          · have hne : (xc == yc) = false := beq_eq_false_iff_ne.2 hp
            clear hp
            go_wp2_with fail
            go_region_held3 (fun W => W.cell? ⟨b, off + k * 3, none⟩ = some (.string xf) ∧ W.cell? ⟨b, off + k * 3 + 1, none⟩ = some (.int .i64 xr) ∧ W.cell? ⟨b, off + k * 3 + 2, none⟩ = some (.int .i64 xc) ∧ W.cell? ⟨b', off' + k * 3, none⟩ = some (.string xf) ∧ W.cell? ⟨b', off' + k * 3 + 1, none⟩ = some (.int .i64 xr) ∧ W.cell? ⟨b', off' + k * 3 + 2, none⟩ = some (.int .i64 yc) ∧ Below w.heap.size w W ∧ w.heap.size ≤ W.heap.size) (go_keep) (fail)
            rename_i hHeld
            obtain ⟨-, -, -, -, -, -, hB, -⟩ := hHeld
            go_wp2_with fail
            go_ret
            exact ⟨ret_bool (by rw [HR.out, decide_eq_false HNE.out]), hB⟩
      · obtain rfl : k = l.length := by omega
        have HE : Hid (l = m) := by
          have := HT.out
          rw [List.take_length, HN.out, List.take_length] at this
          exact this
        clear hl hl' HT
        go_wp2
        go_ret
        exact ⟨ret_bool (by rw [HR.out, decide_eq_true HE.out]), hB⟩
  · have HNE : Hid (l ≠ m) := fun e => hn (by rw [e])
    have hn' : ¬ ((l.length : Int) = (m.length : Int)) := by omega
    clear hl hl'
    go_enter Try.func43, Try.ntmps43
    go_wp2
    go_ret
    exact ⟨ret_bool (by rw [HR.out, decide_eq_false HNE.out]), Below.refl _ _⟩
end Go.Proofs.Ytagbcfkdieinpaa
