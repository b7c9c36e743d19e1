/-
  Lists of texts: as cells; the laws' own size, copy and equality of them.
-/
import Derived.Test.YtihlilihipcfaaaDoorStrsC
import Derived.Deep.RegionHeld3
namespace Go.Proofs.YtihlilihipcfaaaDoor
open Go.ChangeShapes Go.WideShapes Go.ChangeAt Go.RowKit Go.ChangeMaps
set_option maxRecDepth 10000
set_option linter.unusedSimpArgs false
set_option linter.unusedVariables false

/-- How many letters. -/
def totS (l : List ByteArray) : Nat := (l.map fun x => x.size).sum
theorem totS_take_succ {l : List ByteArray} {k : Nat} {x : ByteArray} (h : l[k]? = some x) : totS (l.take (k + 1)) = totS (l.take k) + x.size := by
  rw [List.take_add_one, h]
  simp [totS]
theorem totS_take_le (l : List ByteArray) (k : Nat) : totS (l.take k) ≤ totS l := by
  have e : totS l = totS (l.take k) + totS (l.drop k) := by
    unfold totS
    rw [← List.sum_append, ← List.map_append, List.take_append_drop]
  omega
/-- What is left of n behind a list. -/
def leftS (n : Int) (l : List ByteArray) : Int := if n < (l.length + totS l : Nat) then -1 else n - (l.length + totS l : Nat)

set_option maxHeartbeats 1000000 in
theorem szStringS_any (l : List ByteArray) (A : Option Addr) (cap : Nat) (n : Int) (w : World) (hl : Lies w w.heap.size 1 A l.length (strsC l)) (hm : l.length ≤ maxLen) (hf : ∀ x ∈ l, x.size ≤ maxLen) (h0 : 0 ≤ n) (h1 : n ≤ 1048576) :
    Calls Tryd.prog 21 #[.slice A l.length cap, .int .i64 n] w fun e w' => e = .returned (.int .i64 (leftS n l)) ∧ Below w.heap.size w w' := by
  unfold maxLen at hm
  have HF := Lib.hid hf
  have HT : Hid (∀ k, totS (l.take k) ≤ totS l) := totS_take_le l
  have HL : Hid (leftS n l = if n < (l.length + totS l : Nat) then -1 else n - (l.length + totS l : Nat)) := rfl
  generalize leftS n l = R at *
  clear hf
  by_cases hn : n < l.length
  · go_enter Tryd.func21, Tryd.ntmps21
    go_wp2
    go_ret
    exact ⟨ret_int (by rw [HL.out, if_pos (by omega)]), Below.refl _ _⟩
  · go_enter Tryd.func21, Tryd.ntmps21
    go_wp2
    go_loopw [1, 5] (fun v i wr => ∃ k : Nat, k ≤ l.length ∧ i = .int .i64 k ∧ v = .int .i64 (n - l.length - (totS (l.take k) : Nat)) ∧ ((totS (l.take k) : Nat) : Int) ≤ n - l.length ∧ Below w.heap.size w wr) (fun _ i _ => l.length - (intOf i).toNat)
    case atStart => exact ⟨0, Nat.zero_le _, rfl, by simp [totS], by simp [totS]; omega, Below.refl _ _⟩
    case round =>
      obtain ⟨k, hk, rfl, rfl, hle, hB⟩ := hrel
      by_cases hlt : k < l.length
      · obtain ⟨b, off, x, rfl, hb, hx, c0⟩ := (hl.below hB).str hlt
        have hxs := HF.out x (List.mem_of_getElem? hx)
        unfold maxLen at hxs
        have HS := Lib.hid (totS_take_succ hx)
        have HTL := HT.out (k + 1)
        rw [HS.out] at HTL
        generalize totS (l.take k) = T at *
        clear hx hl
        by_cases hbig : n - l.length - (T : Nat) < x.size
        · go_wp2
          go_ret
          exact ⟨ret_int (by rw [HL.out, if_pos (by omega)]), hB⟩
        · go_wp2
          go_roundw
          case rel => exact ⟨k + 1, by omega, by go_num, val_int (by rw [HS.out]; omega), by rw [HS.out]; omega, hB⟩
          case measure => simp [intOf]; omega
      · obtain rfl : k = l.length := by omega
        have HE : Hid (l.take l.length = l) := List.take_length
        rw [HE.out] at hle ⊢
        go_wp2
        go_ret
        exact ⟨ret_int (by rw [HL.out, if_neg (by omega)]; omega), hB⟩


set_option maxHeartbeats 1000000 in
theorem toStringS_any (l : List ByteArray) (A : Option Addr) (cap : Nat) (w : World) (hl : Lies w w.heap.size 1 A l.length (strsC l)) (hm : l.length ≤ 1099511627) :
    Calls Tryd.prog 26 #[.slice A l.length cap] w fun e w' => e = .returned (.slice (some ⟨w.heap.size, 0, none⟩) l.length l.length) ∧
      w'.ownsRow w.heap.size 9 1 (.slice (some ⟨w.heap.size, 0, none⟩) l.length l.length) l.length (strsC l) ∧ Below w.heap.size w w' := by
  go_enter Tryd.func26, Tryd.ntmps26
  go_wp2_with (first | (refine wpList_make_rows Tryd.underlying33 info_str (by omega) l.length _ rfl rfl rfl (by omega) ?_; intro zs w1 hown hzs hb1 hlt1))
  go_loopw [4] (fun i wr => ∃ (k : Nat) (rest : List Value), k ≤ l.length ∧ i = .int .i64 k ∧ rest.length = (l.length - k) ∧ wr.ownsRow w.heap.size 9 1 (.slice (some ⟨w.heap.size, 0, none⟩) l.length l.length) l.length (strsC (l.take k) ++ rest) ∧
      Below w.heap.size w wr ∧ w.heap.size < wr.heap.size) (fun i _ => l.length - (intOf i).toNat)
  case atStart => exact ⟨0, zs, Nat.zero_le _, rfl, by simpa using hzs, by simpa [strsC] using hown, hb1, hlt1⟩
  case round =>
    obtain ⟨k, rest, hk, rfl, hrl, hown, hB, hz⟩ := hrel
    by_cases hlt : k < l.length
    · obtain ⟨b, off, x, rfl, hb, hx, c0⟩ := (hl.below hB).str hlt
      have hTL : (strsC (l.take k)).length = k := by rw [strsC_length]; simp; omega
      have HS := Lib.hid (strsC_take_succ hx)
      have H3 := Lib.hid (set_one (strsC (l.take k)) rest k hTL (by omega) (.string x))
      have HL := Lib.hid hown.1
      generalize strsC (l.take k) = X at *
      clear hx hTL
      have f0 := hown.frozenAt k
      have hlen := HL.out
      obtain ⟨u0, d0⟩ : ∃ u, wr.cell? ⟨w.heap.size, k, none⟩ = some u := ⟨_, (hown.cellAt k (by omega)).trans (List.getElem?_eq_getElem (by omega))⟩
      have hown3 := (hown.stored k (.string x)).1
      rw [H3.out] at hown3
      have HO := Lib.hid hown3
      clear hown hown3 hlen
      go_wp2_with fail
      go_roundw
      case rel => exact ⟨k + 1, rest.drop 1, by omega, by go_num, by simp; omega, by rw [HS.out]; exact HO.out, hB.setCell (by simp) _, by simpa using hz⟩
      case measure => simp [intOf]; omega
    · obtain rfl : k = l.length := by omega
      obtain rfl : rest = [] := List.eq_nil_of_length_eq_zero (by omega)
      rw [List.take_length, List.append_nil] at hown
      go_wp2
      go_ret
      exact ⟨rfl, hown, hB⟩

set_option maxHeartbeats 1000000 in
theorem eqStringS_same (l : List ByteArray) (A A' : Option Addr) (n cap cap' : Nat) (w : World) (hn : l.length = n) (hl : Lies w w.heap.size 1 A n (strsC l)) (hl' : Lies w w.heap.size 1 A' n (strsC l)) (hm : n ≤ 1099511627) :
    Calls Tryd.prog 34 #[.slice A n cap, .slice A' n cap'] w fun e w' => e = .returned (.bool true) ∧ Below w.heap.size w w' := by
  have HN := Lib.hid hn
  clear hn
  go_enter Tryd.func34, Tryd.ntmps34
  go_wp2
  go_loopw [5] (fun i wr => ∃ k : Nat, k ≤ n ∧ i = .int .i64 k ∧ Below w.heap.size w wr) (fun i _ => n - (intOf i).toNat)
  case atStart => exact ⟨0, Nat.zero_le _, rfl, Below.refl _ _⟩
  case round =>
    obtain ⟨k, hk, rfl, hB⟩ := hrel
    by_cases hlt : k < n
    · obtain ⟨b, off, x, rfl, hlb, hx, c0⟩ := (hl.below hB).str hlt
      obtain ⟨b', off', x', rfl, hlb', hx', d0⟩ := (hl'.below hB).str hlt
      obtain rfl : x' = x := Option.some.inj (hx'.symm.trans hx)
      have hz := hB.size
      have hBd := hB.drew
      clear hx hx' hl hl'
      go_wp2_with fail
      go_region_held3 (fun W => W.cell? ⟨b, off + k, none⟩ = some (.string x') ∧ W.cell? ⟨b', off' + k, none⟩ = some (.string x') ∧ Below w.heap.size w W ∧ w.heap.size ≤ W.heap.size)
        (go_keep) (fail)
      rename_i hHeld
      obtain ⟨-, -, hB, -⟩ := hHeld
      go_wp2_with fail
      go_roundw
      case rel => exact ⟨k + 1, by omega, by go_num, hB⟩
      case measure => simp [intOf]; omega
    · obtain rfl : k = n := by omega
      clear hl hl'
      go_wp2
      go_ret
      exact ⟨rfl, hB⟩
end Go.Proofs.YtihlilihipcfaaaDoor
