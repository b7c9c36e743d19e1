/-
  colOf, seatOf: a seat out of its text.
-/
import Derived.Test.YtjejdfmeclbjeaaDoorSeatTextS
import Derived.Test.YtjejdfmeclbjeaaDoorParseInt
import Derived.Test.YtjejdfmeclbjeaaDoorTooLong
namespace Go.Proofs.YtjejdfmeclbjeaaDoor
open Go.ChangeShapes Go.WideShapes Go.ChangeAt Go.RowKit Go.ChangeMaps
set_option linter.unusedSimpArgs false
set_option linter.unusedVariables false

/-- The column of a letter. -/
def colI (n : Int) : Int := if 97 ≤ n ∧ n ≤ 102 then n - 97 else -1
set_option maxHeartbeats 400000 in
theorem colOf_any (n : Int) (w : World) : Calls Tryd.prog 23 #[.int .u8 n] w fun e w' => e = .returned (.int .i64 (colI n)) ∧ w = w' := by
  by_cases h : 97 ≤ n ∧ n ≤ 102
  · have hc : n = 97 ∨ n = 98 ∨ n = 99 ∨ n = 100 ∨ n = 101 ∨ n = 102 := by omega
    rcases hc with rfl | rfl | rfl | rfl | rfl | rfl
    all_goals
      clear h
      go_enter Tryd.func23, Tryd.ntmps23
      go_wp2
      go_ret
      exact ⟨rfl, rfl⟩
  · have HR : Hid (colI n = -1) := by rw [Hid, colI, if_neg h]
    have h1 : (n == 97) = false := by rw [beq_eq_false_iff_ne]; omega
    have h2 : (n == 98) = false := by rw [beq_eq_false_iff_ne]; omega
    have h3 : (n == 99) = false := by rw [beq_eq_false_iff_ne]; omega
    have h4 : (n == 100) = false := by rw [beq_eq_false_iff_ne]; omega
    have h5 : (n == 101) = false := by rw [beq_eq_false_iff_ne]; omega
    have h6 : (n == 102) = false := by rw [beq_eq_false_iff_ne]; omega
    clear h
    go_enter Tryd.func23, Tryd.ntmps23
    go_wp2
    go_ret
    exact ⟨ret_int HR.out.symm, rfl⟩

theorem not_empty {s : ByteArray} (h0 : 0 < s.size) : s.toList.isEmpty = false := by
  rw [ByteArray.toList_eq]
  cases hl : s.data.toList with
  | nil =>
    have e : s.data.toList.length = s.size := by simp
    rw [hl] at e
    simp at e
    omega
  | cons a r => rfl

set_option maxHeartbeats 1000000 in
theorem seatOf_no (s : ByteArray) (w : World) (hs : s.size ≤ 8000) (h0 : 0 < s.size) (hp : ∀ v, Lib.parseIntB 64 (s.extract 0 (s.size - 1)).data.toList ≠ .ok v) (hE : ErrVars w) :
    Calls Tryd.prog 17 #[.string s] w fun e w' => e = .returned (seatV 0 0) ∧ Below w.heap.size w w' := by
  have hin : (s.extract 0 (s.size - 1)).size ≤ 1048576 := by simp; omega
  have HX : Hid (s.extract 0 (s.size - 1) = s.extract 0 (s.size - 1)) := rfl
  have HP : Hid (∀ W : World, ErrVars W → Calls Tryd.prog 22 #[.string (s.extract 0 (s.size - 1)), .int .i64 10, .int .i64 64] W fun e w' => (∃ n N, e = .returned (.tuple #[.int .i64 n, .iface 65 (.pointer (some ⟨N, 0, none⟩))])) ∧ Below W.heap.size W w') := fun W hW => parseInt_no _ hin hp W hW
  have HC : Hid (∀ (n : Int) (W : World), Calls Tryd.prog 23 #[.int .u8 n] W fun e w' => e = .returned (.int .i64 (colI n)) ∧ W = w') := fun n W => colOf_any n W
  have HEE := Lib.hid hE
  have he1 : s.toList.isEmpty = false := not_empty h0
  clear hp hE hin
  go_enter Tryd.func17, Tryd.ntmps17
  go_wp2_with fail
  refine (HP.out _ (HEE.out.below ((Below.refl _ _).alloc (Nat.le_refl _) _) (Nat.le_refl _))).mono ?_
  rintro e w1 ⟨⟨n, N, rfl⟩, hb1⟩
  have hz : w.heap.size < w1.heap.size := by have := hb1.size; simp at this; omega
  have hB : Below w.heap.size w w1 := ((Below.refl _ _).alloc (Nat.le_refl _) _).trans (hb1.mono (by simp))
  have d0 := kc hb1 (b := w.heap.size) (i := 0) (v := .int .i64 0) (by go_simp) (by simp)
  have d1 := kc hb1 (b := w.heap.size) (i := 1) (v := .int .i64 0) (by go_simp) (by simp)
  have f0' := kf hb1 (b := w.heap.size) (i := 0) (by go_simp) (by simp)
  have f1' := kf hb1 (b := w.heap.size) (i := 1) (by go_simp) (by simp)
  clear hb1
  go_wp2_with fail
  refine (HC.out _ _).mono ?_
  rintro e w2 ⟨rfl, rfl⟩
  go_wp2_with fail
  refine bodyPost_ret (v := seatV 0 0) (by simp [results, Tryd.results17, go_sem, d0, d1, f0', f1', hz, Nat.ne_of_lt hz]) rfl ?_
  exact ⟨rfl, ((hB.setCell (by simp) _).setCell (by simp) _).alloc (by simp; omega) _⟩

set_option maxHeartbeats 1000000 in
theorem seatOf_ok (s : ByteArray) (v : Int) (w : World) (hs : s.size ≤ 8000) (h0 : 0 < s.size) (hp : Lib.parseIntB 64 (s.extract 0 (s.size - 1)).data.toList = .ok v) :
    Calls Tryd.prog 17 #[.string s] w fun e w' => e = .returned (if (⟨(seatTextL v (colI s[s.size - 1].toNat)).toArray⟩ : ByteArray) = s then seatV v (colI s[s.size - 1].toNat) else seatV 0 0) ∧ Below w.heap.size w w' := by
  have hin : (s.extract 0 (s.size - 1)).size ≤ 1048576 := by simp; omega
  have HP : Hid (∀ W : World, Calls Tryd.prog 22 #[.string (s.extract 0 (s.size - 1)), .int .i64 10, .int .i64 64] W fun e w' => e = .returned (.tuple #[.int .i64 v, .nilIface]) ∧ Below W.heap.size W w') := fun W => parseInt_ok _ hin v hp W
  have HC : Hid (∀ (n : Int) (W : World), Calls Tryd.prog 23 #[.int .u8 n] W fun e w' => e = .returned (.int .i64 (colI n)) ∧ W = w') := fun n W => colOf_any n W
  have HT : Hid (∀ W : World, Calls Tryd.prog 7 #[seatV v (colI s[s.size - 1].toNat)] W fun e w' => e = .returned (.string ⟨(seatTextL v (colI s[s.size - 1].toNat)).toArray⟩) ∧ Below W.heap.size W w') := fun W => iSeatText_any _ _ W
  have he1 : s.toList.isEmpty = false := not_empty h0
  generalize (⟨(seatTextL v (colI s[s.size - 1].toNat)).toArray⟩ : ByteArray) = T at *
  clear hp hin
  by_cases hq : T = s
  · rw [if_pos hq]
    subst hq
    go_enter Tryd.func17, Tryd.ntmps17
    go_wp2_with fail
    refine (HP.out _).mono ?_
    rintro e w1 ⟨rfl, hb1⟩
    have hz : w.heap.size < w1.heap.size := by have := hb1.size; simp at this; omega
    have hB : Below w.heap.size w w1 := ((Below.refl _ _).alloc (Nat.le_refl _) _).trans (hb1.mono (by simp))
    have d0 := kc hb1 (b := w.heap.size) (i := 0) (v := .int .i64 0) (by go_simp) (by simp)
    have d1 := kc hb1 (b := w.heap.size) (i := 1) (v := .int .i64 0) (by go_simp) (by simp)
    have f0' := kf hb1 (b := w.heap.size) (i := 0) (by go_simp) (by simp)
    have f1' := kf hb1 (b := w.heap.size) (i := 1) (by go_simp) (by simp)
    clear hb1
    go_wp2_with fail
    refine (HC.out _ _).mono ?_
    rintro e w2 ⟨rfl, rfl⟩
    go_wp2_with fail
    refine (HT.out _).mono ?_
    rintro e w2 ⟨rfl, hb2⟩
    have hz2 : w1.heap.size < w2.heap.size := by have := hb2.size; simp at this; omega
    have e0 := kc hb2 (b := w1.heap.size) (i := 0) (v := .int .i64 v) (by go_simp) (by simp)
    have e1 := kc hb2 (b := w1.heap.size) (i := 1) (v := .int .i64 (colI T[T.size - 1].toNat)) (by go_simp) (by simp)
    replace d0 := kca hb2 d0
    replace d1 := kca hb2 d1
    replace f0' := kfa hb2 f0' hz
    replace f1' := kfa hb2 f1' hz
    replace hB := (hB.alloc (by omega) _).trans (hb2.mono (by simp; omega))
    clear hb2
    go_wp2_with fail
    refine bodyPost_ret (v := seatV v (colI T[T.size - 1].toNat)) (by simp [results, Tryd.results17, go_sem, d0, d1, f0', f1']) rfl ?_
    exact ⟨rfl, (hB.setCell (by simp) _).setCell (by simp) _⟩
  · rw [if_neg hq]
    have hne := str_ne hq
    clear hq
    go_enter Tryd.func17, Tryd.ntmps17
    go_wp2_with fail
    refine (HP.out _).mono ?_
    rintro e w1 ⟨rfl, hb1⟩
    have hz : w.heap.size < w1.heap.size := by have := hb1.size; simp at this; omega
    have hB : Below w.heap.size w w1 := ((Below.refl _ _).alloc (Nat.le_refl _) _).trans (hb1.mono (by simp))
    have d0 := kc hb1 (b := w.heap.size) (i := 0) (v := .int .i64 0) (by go_simp) (by simp)
    have d1 := kc hb1 (b := w.heap.size) (i := 1) (v := .int .i64 0) (by go_simp) (by simp)
    have f0' := kf hb1 (b := w.heap.size) (i := 0) (by go_simp) (by simp)
    have f1' := kf hb1 (b := w.heap.size) (i := 1) (by go_simp) (by simp)
    clear hb1
    go_wp2_with fail
    refine (HC.out _ _).mono ?_
    rintro e w2 ⟨rfl, rfl⟩
    go_wp2_with fail
    refine (HT.out _).mono ?_
    rintro e w2 ⟨rfl, hb2⟩
    have hz2 : w1.heap.size < w2.heap.size := by have := hb2.size; simp at this; omega
    have e0 := kc hb2 (b := w1.heap.size) (i := 0) (v := .int .i64 v) (by go_simp) (by simp)
    have e1 := kc hb2 (b := w1.heap.size) (i := 1) (v := .int .i64 (colI s[s.size - 1].toNat)) (by go_simp) (by simp)
    replace d0 := kca hb2 d0
    replace d1 := kca hb2 d1
    replace f0' := kfa hb2 f0' hz
    replace f1' := kfa hb2 f1' hz
    replace hB := (hB.alloc (by omega) _).trans (hb2.mono (by simp; omega))
    clear hb2
    go_wp2_with fail
    refine bodyPost_ret (v := seatV 0 0) (by simp [results, Tryd.results17, go_sem, d0, d1, f0', f1']) rfl ?_
    exact ⟨rfl, (hB.setCell (by simp) _).setCell (by simp) _⟩
end Go.Proofs.YtjejdfmeclbjeaaDoor
