/-
  Lists of holds: as cells; the laws' own size, copy and equality of them.
-/
import Derived.Test.YtihlilihipcfaaaDoorHolds
import Derived.Test.YtihlilihipcfaaaDoorLists
import Derived.Deep.RegionHeld3
namespace Go.Proofs.YtihlilihipcfaaaDoor
open Go.ChangeShapes Go.WideShapes Go.ChangeAt Go.RowKit Go.ChangeMaps
set_option maxRecDepth 10000
set_option linter.unusedSimpArgs false
set_option linter.unusedVariables false

def holdC (x : HD) : List Value := [.string x.f, .int .i64 x.r, .int .i64 x.c]
def holdsC (l : List HD) : List Value := l.flatMap holdC
theorem holdsC_length (l : List HD) : (holdsC l).length = l.length * 3 := by
  induction l with
  | nil => rfl
  | cons x l ih => simp [holdsC, holdC] at ih ⊢; omega
theorem holdsC_append (l m : List HD) : holdsC (l ++ m) = holdsC l ++ holdsC m := by simp [holdsC]
theorem holdsC_one (l : List HD) : ∀ v ∈ holdsC l, v.oneCell' = true := by
  intro v hv
  obtain ⟨x, _, hx⟩ := List.mem_flatMap.1 hv
  simp only [holdC, List.mem_cons, List.not_mem_nil, or_false] at hx
  rcases hx with rfl | rfl | rfl <;> rfl
theorem holdsC_at {x : HD} : ∀ (l : List HD) (i : Nat), l[i]? = some x → (holdsC l)[i * 3]? = some (.string x.f) ∧ (holdsC l)[i * 3 + 1]? = some (.int .i64 x.r) ∧ (holdsC l)[i * 3 + 2]? = some (.int .i64 x.c)
  | [], i, h => by simp at h
  | y :: l, 0, h => by
    simp only [List.getElem?_cons_zero, Option.some.injEq] at h
    subst h
    exact ⟨rfl, rfl, rfl⟩
  | y :: l, i + 1, h => by
    have e : holdsC (y :: l) = .string y.f :: .int .i64 y.r :: .int .i64 y.c :: holdsC l := rfl
    obtain ⟨h1, h2, h3⟩ := holdsC_at l i (by simpa using h)
    have e0 : (i + 1) * 3 = i * 3 + 1 + 1 + 1 := by omega
    rw [e, e0]
    exact ⟨by simpa using h1, by simpa using h2, by simpa using h3⟩
theorem holdsC_take_succ {l : List HD} {k : Nat} {x : HD} (h : l[k]? = some x) : holdsC (l.take (k + 1)) = holdsC (l.take k) ++ holdC x := by
  rw [List.take_add_one, h, holdsC_append]
  rfl
theorem take_len_le {α : Type} {l : List α} {k : Nat} (h : k ≤ l.length) : (l.take k).length = k := by simp; omega

theorem Lies.hold {w : World} {B n i : Nat} {A : Option Addr} {l : List HD} (h : Lies w B 3 A n (holdsC l)) (hi : i < n) :
    ∃ b off x, A = some ⟨b, off, none⟩ ∧ b < B ∧ l[i]? = some x ∧ w.cell? ⟨b, off + i * 3, none⟩ = some (.string x.f) ∧ w.cell? ⟨b, off + i * 3 + 1, none⟩ = some (.int .i64 x.r) ∧ w.cell? ⟨b, off + i * 3 + 2, none⟩ = some (.int .i64 x.c) := by
  obtain ⟨hl, h2⟩ := h
  obtain ⟨b, off, rfl, hb, hc⟩ := h2 (by omega)
  rw [holdsC_length] at hl
  have hil : i < l.length := by omega
  obtain ⟨h0, h1, h2⟩ := holdsC_at l i (List.getElem?_eq_getElem hil)
  exact ⟨b, off, l[i], rfl, hb, List.getElem?_eq_getElem hil, hc _ _ h0, hc _ _ h1, hc _ _ h2⟩

/-- How many elements and letters. -/
def tot (l : List HD) : Nat := (l.map fun x => x.f.size).sum
theorem tot_take_succ {l : List HD} {k : Nat} {x : HD} (h : l[k]? = some x) : tot (l.take (k + 1)) = tot (l.take k) + x.f.size := by
  rw [List.take_add_one, h]
  simp [tot]
theorem tot_take_le (l : List HD) (k : Nat) : tot (l.take k) ≤ tot l := by
  have e : tot l = tot (l.take k) + tot (l.drop k) := by
    unfold tot
    rw [← List.sum_append, ← List.map_append, List.take_append_drop]
  omega
/-- What is left of n behind a list. -/
def leftI (n : Int) (l : List HD) : Int := if n < (l.length + tot l : Nat) then -1 else n - (l.length + tot l : Nat)

set_option maxHeartbeats 1000000 in
theorem szHoldS_any (l : List HD) (A : Option Addr) (cap : Nat) (n : Int) (w : World) (hl : Lies w w.heap.size 3 A l.length (holdsC l)) (hm : l.length ≤ maxLen) (hf : ∀ x ∈ l, x.f.size ≤ maxLen) (h0 : 0 ≤ n) (h1 : n ≤ 1048576) :
    Calls Tryd.prog 22 #[.slice A l.length cap, .int .i64 n] w fun e w' => e = .returned (.int .i64 (leftI n l)) ∧ Below w.heap.size w w' := by
  unfold maxLen at hm
  have HF := Lib.hid hf
  have HT : Hid (∀ k, tot (l.take k) ≤ tot l) := tot_take_le l
  have HL : Hid (leftI n l = if n < (l.length + tot l : Nat) then -1 else n - (l.length + tot l : Nat)) := rfl
  generalize leftI n l = R at *
  clear hf
  by_cases hn : n < l.length
  · go_enter Tryd.func22, Tryd.ntmps22
    go_wp2
    go_ret
    exact ⟨ret_int (by rw [HL.out, if_pos (by omega)]), Below.refl _ _⟩
  · go_enter Tryd.func22, Tryd.ntmps22
    go_wp2
    go_loopw [1, 5] (fun v i wr => ∃ k : Nat, k ≤ l.length ∧ i = .int .i64 k ∧ v = .int .i64 (n - l.length - (tot (l.take k) : Nat)) ∧ ((tot (l.take k) : Nat) : Int) ≤ n - l.length ∧ Below w.heap.size w wr) (fun _ i _ => l.length - (intOf i).toNat)
    case atStart => exact ⟨0, Nat.zero_le _, rfl, by simp [tot], by simp [tot]; omega, Below.refl _ _⟩
    case round =>
      obtain ⟨k, hk, rfl, rfl, hle, hB⟩ := hrel
      by_cases hlt : k < l.length
      · obtain ⟨b, off, x, rfl, hb, hx, c0, c1, c2⟩ := (hl.below hB).hold hlt
        have hxs := HF.out x (List.mem_of_getElem? hx)
        have HS := Lib.hid (tot_take_succ hx)
        have HTL := HT.out (k + 1)
        rw [HS.out] at HTL
        generalize tot (l.take k) = T at *
        have HSZ : Hid (∀ W : World, Calls Tryd.prog 48 #[holdV x.f x.r x.c, .int .i64 (n - l.length - (T : Nat))] W fun e w' => e = .returned (.int .i64 (if n - l.length - (T : Nat) < x.f.size then -1 else n - l.length - (T : Nat) - x.f.size)) ∧ Below W.heap.size W w') :=
          fun W => szHold_any x.f x.r x.c _ W hxs (by omega) (by omega)
        by_cases hbig : n - l.length - (T : Nat) < x.f.size
        · rw [if_pos hbig] at HSZ
          clear hx hl
          go_wp2_with fail
          refine (HSZ.out _).mono ?_
          rintro e w1 ⟨rfl, hb1⟩
          go_wp2_with fail
          go_ret
          exact ⟨ret_int (by rw [HL.out, if_pos (by omega)]), hB.trans (hb1.mono hB.size)⟩
        · rw [if_neg hbig] at HSZ
          clear hx hl
          go_wp2_with fail
          refine (HSZ.out _).mono ?_
          rintro e w1 ⟨rfl, hb1⟩
          go_wp2_with fail
          go_roundw
          case rel => exact ⟨k + 1, by omega, by go_num, val_int (by rw [HS.out]; omega), by rw [HS.out]; omega, hB.trans (hb1.mono hB.size)⟩
          case measure => simp [intOf]; omega
      · obtain rfl : k = l.length := by omega
        have HE : Hid (l.take l.length = l) := List.take_length
        rw [HE.out] at hle ⊢
        go_wp2
        go_ret
        exact ⟨ret_int (by rw [HL.out, if_neg (by omega)]; omega), hB⟩

theorem info_hold : (Tryd.prog.info? 58).map (fun i => (i.zero, i.size, i.bytes)) = some (some (.agg #[.string ⟨#[]⟩, .int .i64 0, .int .i64 0]), 3, 32) := by kernel_rfl

set_option maxHeartbeats 1000000 in
theorem toHoldS_any (l : List HD) (A : Option Addr) (cap : Nat) (w : World) (hl : Lies w w.heap.size 3 A l.length (holdsC l)) (hm : l.length ≤ 1099511627) :
    Calls Tryd.prog 27 #[.slice A l.length cap] w fun e w' => e = .returned (.slice (some ⟨w.heap.size, 0, none⟩) l.length l.length) ∧
      w'.ownsRow w.heap.size 58 3 (.slice (some ⟨w.heap.size, 0, none⟩) l.length l.length) l.length (holdsC l) ∧ Below w.heap.size w w' := by
  go_enter Tryd.func27, Tryd.ntmps27
  go_wp2_with (first | (refine wpList_make_rows Tryd.underlying39 info_hold (by omega) l.length _ rfl rfl rfl (by omega) ?_; intro zs w1 hown hzs hb1 hlt1))
  go_loopw [4] (fun i wr => ∃ (k : Nat) (rest : List Value), k ≤ l.length ∧ i = .int .i64 k ∧ rest.length = (l.length - k) * 3 ∧ wr.ownsRow w.heap.size 58 3 (.slice (some ⟨w.heap.size, 0, none⟩) l.length l.length) l.length (holdsC (l.take k) ++ rest) ∧
      Below w.heap.size w wr ∧ w.heap.size < wr.heap.size) (fun i _ => l.length - (intOf i).toNat)
  case atStart => exact ⟨0, zs, Nat.zero_le _, rfl, by simpa using hzs, by simpa [holdsC] using hown, hb1, hlt1⟩
  case round =>
    obtain ⟨k, rest, hk, rfl, hrl, hown, hB, hz⟩ := hrel
    by_cases hlt : k < l.length
    · obtain ⟨b, off, x, rfl, hb, hx, c0, c1, c2⟩ := (hl.below hB).hold hlt
      have hTL : (holdsC (l.take k)).length = k * 3 := by rw [holdsC_length, take_len_le hk]
      have HS := Lib.hid (holdsC_take_succ hx)
      have HT : Hid (∀ W : World, Calls Tryd.prog 50 #[holdV x.f x.r x.c] W fun e w' => e = .returned (holdV x.f x.r x.c) ∧ Below W.heap.size W w') := fun W => toHold_any x.f x.r x.c W
      have H3 := Lib.hid (set_three (holdsC (l.take k)) rest (k * 3) hTL (by omega) (.string x.f) (.int .i64 x.r) (.int .i64 x.c))
      have HL := Lib.hid hown.1
      generalize holdsC (l.take k) = X at *
      clear hx hTL
      go_wp2_with fail
      refine (HT.out _).mono ?_
      rintro e w2 ⟨rfl, hb2⟩
      have hown2 := ownsRow_below hown hb2
      have f0 := hown2.frozenAt (k * 3)
      have f1 := hown2.frozenAt (k * 3 + 1)
      have f2 := hown2.frozenAt (k * 3 + 2)
      have hlen := HL.out
      obtain ⟨u0, d0⟩ : ∃ u, w2.cell? ⟨w.heap.size, k * 3, none⟩ = some u := ⟨_, (hown2.cellAt (k * 3) (by omega)).trans (List.getElem?_eq_getElem (by omega))⟩
      obtain ⟨u1, d1⟩ : ∃ u, w2.cell? ⟨w.heap.size, k * 3 + 1, none⟩ = some u := ⟨_, (hown2.cellAt (k * 3 + 1) (by omega)).trans (List.getElem?_eq_getElem (by omega))⟩
      obtain ⟨u2, d2⟩ : ∃ u, w2.cell? ⟨w.heap.size, k * 3 + 2, none⟩ = some u := ⟨_, (hown2.cellAt (k * 3 + 2) (by omega)).trans (List.getElem?_eq_getElem (by omega))⟩
      have hown3 := ((hown2.stored (k * 3) (.string x.f)).1.stored (k * 3 + 1) (.int .i64 x.r)).1.stored (k * 3 + 2) (.int .i64 x.c) |>.1
      rw [H3.out] at hown3
      have HO := Lib.hid hown3
      have hB2 := hB.trans (hb2.mono hB.size)
      have hz2 := Nat.lt_of_lt_of_le hz hb2.size
      clear hown hown2 hown3 hlen hb2 hB
      go_wp2_with fail
      go_roundw
      case rel => exact ⟨k + 1, rest.drop 3, by omega, by go_num, by simp; omega, by rw [HS.out]; exact HO.out, ((hB2.setCell (by simp) _).setCell (by simp) _).setCell (by simp) _, by simpa using hz2⟩
      case measure => simp [intOf]; omega
    · obtain rfl : k = l.length := by omega
      obtain rfl : rest = [] := List.eq_nil_of_length_eq_zero (by omega)
      rw [List.take_length, List.append_nil] at hown
      go_wp2
      go_ret
      exact ⟨rfl, hown, hB⟩
end Go.Proofs.YtihlilihipcfaaaDoor
