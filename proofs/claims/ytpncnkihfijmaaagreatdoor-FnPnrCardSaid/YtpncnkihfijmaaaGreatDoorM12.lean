/-
  colOf, seatOf: a seat out of its text. SeatRead: both functions answer 'seatReadT'.
-/
import Derived.Test.YtpncnkihfijmaaaGreatDoorSeatTextSZ
import Derived.Test.YtpncnkihfijmaaaGreatDoorM3
import Derived.Test.YtpncnkihfijmaaaGreatDoorM1
import Derived.Laws.StructEq
namespace Go.Proofs.YtpncnkihfijmaaaGreatDoor
open Go.ChangeShapes Go.WideShapes Go.ChangeAt Go.RowKit Go.ChangeMaps
set_option maxRecDepth 10000
set_option linter.unusedSimpArgs false
set_option linter.unusedVariables false

/-- The column of a letter. -/
def colI (n : Int) : Int := if 97 ≤ n ∧ n ≤ 102 then n - 97 else -1
set_option maxHeartbeats 400000 in
theorem colOf_any (n : Int) (w : World) : Calls Tryz.prog 135 #[.int .u8 n] w fun e w' => e = .returned (.int .i64 (colI n)) ∧ w = w' := by
  by_cases h : 97 ≤ n ∧ n ≤ 102
  · have hc : n = 97 ∨ n = 98 ∨ n = 99 ∨ n = 100 ∨ n = 101 ∨ n = 102 := by omega
    rcases hc with rfl | rfl | rfl | rfl | rfl | rfl
    all_goals
      clear h
      go_enter Tryz.func135, Tryz.ntmps135
      go_wp2
      go_ret
      exact ⟨rfl, rfl⟩
  · have HR : Hid (colI n = -1) := by rw [Hid, colI, if_neg h]
    have h1 : (n == 97) = false := by rw [beq_eq_false_iff_ne]; omega
    have h2 : (n == 98) = false := by rw [beq_eq_false_iff_ne]; omega
    have h3 : (n == 99) = false := by rw [beq_eq_false_iff_ne]; omega
    have h4 : (n == 100) = false := by rw [beq_eq_false_iff_ne]; omega
    have h5 : (n == 101) = false := by rw [beq_eq_false_iff_ne]; omega
    have h6 : (n == 102) = false := by rw [beq_eq_false_iff_ne]; omega
    clear h
    go_enter Tryz.func135, Tryz.ntmps135
    go_wp2
    go_ret
    exact ⟨ret_int HR.out.symm, rfl⟩

theorem not_empty {s : ByteArray} (h0 : 0 < s.size) : s.toList.isEmpty = false := by
  rw [ByteArray.toList_eq]
  cases hl : s.data.toList with
  | nil =>
    have e : s.data.toList.length = s.size := by simp
    rw [hl] at e
    simp at e
    omega
  | cons a r => rfl

set_option maxHeartbeats 1000000 in
theorem seatOf_no (s : ByteArray) (w : World) (hs : s.size ≤ 8000) (h0 : 0 < s.size) (hp : ∀ v, Lib.parseIntB 64 (s.extract 0 (s.size - 1)).data.toList ≠ .ok v) (hE : ErrVars w) :
    Calls Tryz.prog 119 #[.string s] w fun e w' => e = .returned (seatV 0 0) ∧ Below w.heap.size w w' := by
  have hin : (s.extract 0 (s.size - 1)).size ≤ 1048576 := by simp; omega
  have HX : Hid (s.extract 0 (s.size - 1) = s.extract 0 (s.size - 1)) := rfl
  have HP : Hid (∀ W : World, ErrVars W → Calls Tryz.prog 120 #[.string (s.extract 0 (s.size - 1)), .int .i64 10, .int .i64 64] W fun e w' => (∃ n N, e = .returned (.tuple #[.int .i64 n, .iface 211 (.pointer (some ⟨N, 0, none⟩))])) ∧ Below W.heap.size W w') := fun W hW => parseInt_no _ hin hp W hW
  have HC : Hid (∀ (n : Int) (W : World), Calls Tryz.prog 135 #[.int .u8 n] W fun e w' => e = .returned (.int .i64 (colI n)) ∧ W = w') := fun n W => colOf_any n W
  have HEE := Lib.hid hE
  have he1 : s.toList.isEmpty = false := not_empty h0
  clear hp hE hin
  go_enter Tryz.func119, Tryz.ntmps119
  go_wp2_with fail
  refine (HP.out _ (HEE.out.below ((Below.refl _ _).alloc (Nat.le_refl _) _) (Nat.le_refl _))).mono ?_
  rintro e w1 ⟨⟨n, N, rfl⟩, hb1⟩
  have hz : w.heap.size < w1.heap.size := by have := hb1.size; simp at this; omega
  have hB : Below w.heap.size w w1 := ((Below.refl _ _).alloc (Nat.le_refl _) _).trans (hb1.mono (by simp))
  have d0 := kc hb1 (b := w.heap.size) (i := 0) (v := .int .i64 0) (by go_simp) (by simp)
  have d1 := kc hb1 (b := w.heap.size) (i := 1) (v := .int .i64 0) (by go_simp) (by simp)
  have f0' := kf hb1 (b := w.heap.size) (i := 0) (by go_simp) (by simp)
  have f1' := kf hb1 (b := w.heap.size) (i := 1) (by go_simp) (by simp)
  clear hb1
  go_wp2_with fail
  refine (HC.out _ _).mono ?_
  rintro e w2 ⟨rfl, rfl⟩
  go_wp2_with fail
  refine bodyPost_ret (v := seatV 0 0) (by simp [results, Tryz.results119, go_sem, d0, d1, f0', f1', hz, Nat.ne_of_lt hz]) rfl ?_
  exact ⟨rfl, ((hB.setCell (by simp) _).setCell (by simp) _).alloc (by simp; omega) _⟩

set_option maxHeartbeats 1000000 in
theorem seatOf_ok (s : ByteArray) (v : Int) (w : World) (hs : s.size ≤ 8000) (h0 : 0 < s.size) (hp : Lib.parseIntB 64 (s.extract 0 (s.size - 1)).data.toList = .ok v) :
    Calls Tryz.prog 119 #[.string s] w fun e w' => e = .returned (if (⟨(seatTextL v (colI s[s.size - 1].toNat)).toArray⟩ : ByteArray) = s then seatV v (colI s[s.size - 1].toNat) else seatV 0 0) ∧ Below w.heap.size w w' := by
  have hin : (s.extract 0 (s.size - 1)).size ≤ 1048576 := by simp; omega
  have HP : Hid (∀ W : World, Calls Tryz.prog 120 #[.string (s.extract 0 (s.size - 1)), .int .i64 10, .int .i64 64] W fun e w' => e = .returned (.tuple #[.int .i64 v, .nilIface]) ∧ Below W.heap.size W w') := fun W => parseInt_ok _ hin v hp W
  have HC : Hid (∀ (n : Int) (W : World), Calls Tryz.prog 135 #[.int .u8 n] W fun e w' => e = .returned (.int .i64 (colI n)) ∧ W = w') := fun n W => colOf_any n W
  have HT : Hid (∀ W : World, Calls Tryz.prog 67 #[seatV v (colI s[s.size - 1].toNat)] W fun e w' => e = .returned (.string ⟨(seatTextL v (colI s[s.size - 1].toNat)).toArray⟩) ∧ Below W.heap.size W w') := fun W => iSeatText_any _ _ W
  have he1 : s.toList.isEmpty = false := not_empty h0
  generalize (⟨(seatTextL v (colI s[s.size - 1].toNat)).toArray⟩ : ByteArray) = T at *
  clear hp hin
  by_cases hq : T = s
  · rw [if_pos hq]
    subst hq
    go_enter Tryz.func119, Tryz.ntmps119
    go_wp2_with fail
    refine (HP.out _).mono ?_
    rintro e w1 ⟨rfl, hb1⟩
    have hz : w.heap.size < w1.heap.size := by have := hb1.size; simp at this; omega
    have hB : Below w.heap.size w w1 := ((Below.refl _ _).alloc (Nat.le_refl _) _).trans (hb1.mono (by simp))
    have d0 := kc hb1 (b := w.heap.size) (i := 0) (v := .int .i64 0) (by go_simp) (by simp)
    have d1 := kc hb1 (b := w.heap.size) (i := 1) (v := .int .i64 0) (by go_simp) (by simp)
    have f0' := kf hb1 (b := w.heap.size) (i := 0) (by go_simp) (by simp)
    have f1' := kf hb1 (b := w.heap.size) (i := 1) (by go_simp) (by simp)
    clear hb1
    go_wp2_with fail
    refine (HC.out _ _).mono ?_
    rintro e w2 ⟨rfl, rfl⟩
    go_wp2_with fail
    refine (HT.out _).mono ?_
    rintro e w2 ⟨rfl, hb2⟩
    have hz2 : w1.heap.size < w2.heap.size := by have := hb2.size; simp at this; omega
    have e0 := kc hb2 (b := w1.heap.size) (i := 0) (v := .int .i64 v) (by go_simp) (by simp)
    have e1 := kc hb2 (b := w1.heap.size) (i := 1) (v := .int .i64 (colI T[T.size - 1].toNat)) (by go_simp) (by simp)
    replace d0 := kca hb2 d0
    replace d1 := kca hb2 d1
    replace f0' := kfa hb2 f0' hz
    replace f1' := kfa hb2 f1' hz
    replace hB := (hB.alloc (by omega) _).trans (hb2.mono (by simp; omega))
    clear hb2
    go_wp2_with fail
    refine bodyPost_ret (v := seatV v (colI T[T.size - 1].toNat)) (by simp [results, Tryz.results119, go_sem, d0, d1, f0', f1']) rfl ?_
    exact ⟨rfl, (hB.setCell (by simp) _).setCell (by simp) _⟩
  · rw [if_neg hq]
    have hne := str_ne hq
    clear hq
    go_enter Tryz.func119, Tryz.ntmps119
    go_wp2_with fail
    refine (HP.out _).mono ?_
    rintro e w1 ⟨rfl, hb1⟩
    have hz : w.heap.size < w1.heap.size := by have := hb1.size; simp at this; omega
    have hB : Below w.heap.size w w1 := ((Below.refl _ _).alloc (Nat.le_refl _) _).trans (hb1.mono (by simp))
    have d0 := kc hb1 (b := w.heap.size) (i := 0) (v := .int .i64 0) (by go_simp) (by simp)
    have d1 := kc hb1 (b := w.heap.size) (i := 1) (v := .int .i64 0) (by go_simp) (by simp)
    have f0' := kf hb1 (b := w.heap.size) (i := 0) (by go_simp) (by simp)
    have f1' := kf hb1 (b := w.heap.size) (i := 1) (by go_simp) (by simp)
    clear hb1
    go_wp2_with fail
    refine (HC.out _ _).mono ?_
    rintro e w2 ⟨rfl, rfl⟩
    go_wp2_with fail
    refine (HT.out _).mono ?_
    rintro e w2 ⟨rfl, hb2⟩
    have hz2 : w1.heap.size < w2.heap.size := by have := hb2.size; simp at this; omega
    have e0 := kc hb2 (b := w1.heap.size) (i := 0) (v := .int .i64 v) (by go_simp) (by simp)
    have e1 := kc hb2 (b := w1.heap.size) (i := 1) (v := .int .i64 (colI s[s.size - 1].toNat)) (by go_simp) (by simp)
    replace d0 := kca hb2 d0
    replace d1 := kca hb2 d1
    replace f0' := kfa hb2 f0' hz
    replace f1' := kfa hb2 f1' hz
    replace hB := (hB.alloc (by omega) _).trans (hb2.mono (by simp; omega))
    clear hb2
    go_wp2_with fail
    refine bodyPost_ret (v := seatV 0 0) (by simp [results, Tryz.results119, go_sem, d0, d1, f0', f1']) rfl ?_
    exact ⟨rfl, (hB.setCell (by simp) _).setCell (by simp) _⟩
end Go.Proofs.YtpncnkihfijmaaaGreatDoor
namespace Go.Proofs.YtpncnkihfijmaaaGreatDoor
open Go.ChangeShapes Go.WideShapes Go.ChangeAt Go.RowKit Go.ChangeMaps
set_option maxRecDepth 10000
set_option linter.unusedSimpArgs false
set_option linter.unusedVariables false

def lastI (s : ByteArray) : Int := ((s.data.toList.getLastD 0).toNat : Int)
theorem lastI_at {s : ByteArray} (h : s.size - 1 < s.size) : (s[s.size - 1].toNat : Int) = lastI s := by
  unfold lastI
  have e : s.data.toList.length = s.size := by simp
  rw [List.getLastD_eq_getLast?, List.getLast?_eq_getElem?, e, List.getElem?_eq_getElem (by rw [e]; exact h)]
  rfl
/-- What SeatRead answers. -/
def seatReadT (s : ByteArray) : Int × Int × Int :=
  if 8000 < s.size then (0, 0, 2)
  else if 2 ≤ s.size ∧ (⟨(seatTextL (numI (s.extract 0 (s.size - 1)).data.toList) (lastI s - 97)).toArray⟩ : ByteArray) = s then (numI (s.extract 0 (s.size - 1)).data.toList, lastI s - 97, 0)
  else (0, 0, 3)

theorem seat_of_text {s : ByteArray} {a b : Int} (h : (⟨(seatTextL a b).toArray⟩ : ByteArray) = s) (h0 : 0 < s.size) :
    seatB a b = true ∧ (s.extract 0 (s.size - 1)).data.toList = Lib.decDigits a.toNat ∧ lastI s = 97 + b ∧ 2 ≤ s.size := by
  cases hb : seatB a b
  · rw [seatTextL, if_neg (by rw [hb]; simp)] at h
    subst h
    simp [ByteArray.size] at h0
  · obtain ⟨⟨r1, r2⟩, c1, c2⟩ := seatB_parts hb
    rw [seatTextL, if_pos hb] at h
    have hl : s.data.toList = Lib.decDigits a.toNat ++ [UInt8.ofNat (97 + b.toNat)] := by rw [← h]
    have hn := (dec_props a.toNat).2.2.1
    have e : s.size = (Lib.decDigits a.toNat).length + 1 := by
      have e1 : s.data.toList.length = s.size := by simp
      rw [← e1, hl]; simp
    refine ⟨rfl, ?_, ?_, by omega⟩
    · rw [ByteArray.data_extract, Array.toList_extract, hl, e]
      simp
    · unfold lastI
      rw [hl, List.getLastD_eq_getLast?, List.getLast?_concat]
      simp only [Option.getD_some]
      rw [ofNat_toNat (by omega)]
      omega
theorem parse_row {a : Int} (h1 : 1 ≤ a) (h2 : a ≤ 20) : Lib.parseIntB 64 (Lib.decDigits a.toNat) = .ok a := by
  have h : a = 1 ∨ a = 2 ∨ a = 3 ∨ a = 4 ∨ a = 5 ∨ a = 6 ∨ a = 7 ∨ a = 8 ∨ a = 9 ∨ a = 10 ∨ a = 11 ∨ a = 12 ∨ a = 13 ∨ a = 14 ∨ a = 15 ∨ a = 16 ∨ a = 17 ∨ a = 18 ∨ a = 19 ∨ a = 20 := by omega
  rcases h with rfl | rfl | rfl | rfl | rfl | rfl | rfl | rfl | rfl | rfl | rfl | rfl | rfl | rfl | rfl | rfl | rfl | rfl | rfl | rfl
  all_goals
    first
      | (rw [Lib.decDigits_one (by decide)]; rfl)
      | (rw [Lib.decDigits_two (by decide) (by decide)]; rfl)
theorem seatReadT_yes {s : ByteArray} {a b : Int} (hs : s.size ≤ 8000) (h : (⟨(seatTextL a b).toArray⟩ : ByteArray) = s) (h0 : 0 < s.size) : seatReadT s = (a, b, 0) := by
  obtain ⟨hb, h1, h2, h3⟩ := seat_of_text h h0
  obtain ⟨⟨r1, r2⟩, c1, c2⟩ := seatB_parts hb
  have e1 : numI (s.extract 0 (s.size - 1)).data.toList = a := by rw [h1, numI_dec (by omega)]; omega
  have e2 : lastI s - 97 = b := by omega
  rw [seatReadT, if_neg (by omega), e1, e2, if_pos ⟨h3, h⟩]
theorem seatReadT_no {s : ByteArray} (hs : s.size ≤ 8000) (h : ∀ a b, (⟨(seatTextL a b).toArray⟩ : ByteArray) ≠ s) : seatReadT s = (0, 0, 3) := by
  rw [seatReadT, if_neg (by omega), if_neg (fun hh => h _ _ hh.2)]

/-- seatOf: a seat of which this is the text, else the zero one. -/
theorem seatOf_yes (s : ByteArray) (a b : Int) (w : World) (hs : s.size ≤ 8000) (h0 : 0 < s.size) (h : (⟨(seatTextL a b).toArray⟩ : ByteArray) = s) :
    Calls Tryz.prog 119 #[.string s] w fun e w' => e = .returned (seatV a b) ∧ Below w.heap.size w w' := by
  obtain ⟨hb, h1, h2, h3⟩ := seat_of_text h h0
  obtain ⟨⟨r1, r2⟩, c1, c2⟩ := seatB_parts hb
  have hp : Lib.parseIntB 64 (s.extract 0 (s.size - 1)).data.toList = .ok a := by rw [h1]; exact parse_row r1 r2
  refine (seatOf_ok s a w hs h0 hp).mono ?_
  rintro e w' ⟨he, hB⟩
  refine ⟨?_, hB⟩
  have e2 : colI (s[s.size - 1].toNat : Int) = b := by
    rw [lastI_at (by omega), h2, colI, if_pos (by omega)]
    omega
  rw [e2, if_pos h] at he
  exact he
theorem seatOf_none (s : ByteArray) (w : World) (hs : s.size ≤ 8000) (h0 : 0 < s.size) (h : ∀ a b, (⟨(seatTextL a b).toArray⟩ : ByteArray) ≠ s) (hE : ErrVars w) :
    Calls Tryz.prog 119 #[.string s] w fun e w' => e = .returned (seatV 0 0) ∧ Below w.heap.size w w' := by
  by_cases hp : ∃ v, Lib.parseIntB 64 (s.extract 0 (s.size - 1)).data.toList = .ok v
  · obtain ⟨v, hv⟩ := hp
    refine (seatOf_ok s v w hs h0 hv).mono ?_
    rintro e w' ⟨he, hB⟩
    rw [if_neg (h _ _)] at he
    exact ⟨he, hB⟩
  · exact seatOf_no s w hs h0 (fun v hv => hp ⟨v, hv⟩) hE
set_option maxHeartbeats 400000 in
theorem seatOf_empty (s : ByteArray) (w : World) (h0 : s.size = 0) : Calls Tryz.prog 119 #[.string s] w fun e w' => e = .returned (seatV 0 0) ∧ Below w.heap.size w w' := by
  have he1 : s.toList.isEmpty = true := by
    rw [ByteArray.toList_eq]
    have e : s.data.toList.length = s.size := by simp
    rw [h0] at e
    rw [List.eq_nil_of_length_eq_zero e]
    rfl
  clear h0
  go_enter Tryz.func119, Tryz.ntmps119
  go_wp2_with fail
  refine bodyPost_ret (v := seatV 0 0) (by simp [results, Tryz.results119, go_sem]) rfl ?_
  exact ⟨rfl, (Below.refl _ _).alloc (Nat.le_refl _) _⟩

/-- .. the same, told by seatReadT. -/
theorem seatOf_any (s : ByteArray) (w : World) (hs : s.size ≤ 8000) (hE : ErrVars w) : Calls Tryz.prog 119 #[.string s] w fun e w' => e = .returned (seatV (seatReadT s).1 (seatReadT s).2.1) ∧ Below w.heap.size w w' := by
  by_cases h0 : s.size = 0
  · have hn : ∀ a b, (⟨(seatTextL a b).toArray⟩ : ByteArray) ≠ s → True := fun _ _ _ => trivial
    have e : seatReadT s = (0, 0, 3) := by rw [seatReadT, if_neg (by omega), if_neg (by omega)]
    rw [e]
    exact seatOf_empty s w h0
  · by_cases hq : ∃ a b, (⟨(seatTextL a b).toArray⟩ : ByteArray) = s
    · obtain ⟨a, b, hq⟩ := hq
      rw [seatReadT_yes hs hq (by omega)]
      exact seatOf_yes s a b w hs (by omega) hq
    · have hn : ∀ a b, (⟨(seatTextL a b).toArray⟩ : ByteArray) ≠ s := fun a b h => hq ⟨a, b, h⟩
      rw [seatReadT_no hs hn]
      exact seatOf_none s w hs (by omega) hn hE
theorem seatReadT_cases {s : ByteArray} (hs : s.size ≤ 8000) : (∃ a b, 1 ≤ a ∧ seatReadT s = (a, b, 0)) ∨ seatReadT s = (0, 0, 3) := by
  by_cases h0 : s.size = 0
  · exact .inr (by rw [seatReadT, if_neg (by omega), if_neg (by omega)])
  · by_cases hq : ∃ a b, (⟨(seatTextL a b).toArray⟩ : ByteArray) = s
    · obtain ⟨a, b, hq⟩ := hq
      obtain ⟨hb, _⟩ := seat_of_text hq (by omega)
      exact .inl ⟨a, b, (seatB_parts hb).1.1, seatReadT_yes hs hq (by omega)⟩
    · exact .inr (seatReadT_no hs (fun a b h => hq ⟨a, b, h⟩))
theorem seatReadT_long {s : ByteArray} (hs : 8000 < s.size) : seatReadT s = (0, 0, 2) := by rw [seatReadT, if_pos hs]

set_option maxHeartbeats 1000000 in
theorem iSeatRead_any (s : ByteArray) (w : World) (hE : ErrVars w) : Calls Tryz.prog 94 #[.string s] w fun e w' => e = .returned (seatOutV (seatReadT s)) ∧ Below w.heap.size w w' := by
  by_cases hs : 8000 < s.size
  · rw [seatReadT_long hs]
    go_enter Tryz.func94, Tryz.ntmps94
    go_wp2_with (go_at_call 43; refine (tooLong_any _ _).mono ?_; rintro e w1 ⟨rfl, rfl⟩)
    refine bodyPost_ret (v := seatOutV (0, 0, 2)) (by simp [results, Tryz.results94, go_sem]) rfl ?_
    exact ⟨rfl, by go_grown⟩
  · have hs' : s.size ≤ 8000 := by omega
    have HS : Hid (∀ W : World, ErrVars W → Calls Tryz.prog 119 #[.string s] W fun e w' => e = .returned (seatV (seatReadT s).1 (seatReadT s).2.1) ∧ Below W.heap.size W w') := fun W hW => seatOf_any s W hs' hW
    have HEE := Lib.hid hE
    clear hE
    rcases seatReadT_cases hs' with ⟨a, b, ha, hR⟩ | hR
    · rw [hR] at HS ⊢
      have ha0 : ((a : Int) == 0) = false := by rw [beq_eq_false_iff_ne]; omega
      clear hR
      go_enter Tryz.func94, Tryz.ntmps94
      go_wp2_with (go_at_call 43; refine (tooLong_any _ _).mono ?_; rintro e w1 ⟨rfl, rfl⟩)
      refine (HS.out _ (HEE.out.below ((Below.refl _ _).alloc (Nat.le_refl _) _) (Nat.le_refl _))).mono ?_
      rintro e w1 ⟨rfl, hb1⟩
      have hz : w.heap.size < w1.heap.size := by have := hb1.size; simp at this; omega
      have hB : Below w.heap.size w w1 := ((Below.refl _ _).alloc (Nat.le_refl _) _).trans (hb1.mono (by simp))
      have d0 := kc hb1 (b := w.heap.size) (i := 0) (v := .int .i64 0) (by go_simp) (by simp)
      have d1 := kc hb1 (b := w.heap.size) (i := 1) (v := .int .i64 0) (by go_simp) (by simp)
      have d2 := kc hb1 (b := w.heap.size) (i := 2) (v := .int .i64 0) (by go_simp) (by simp)
      have f0' := kf hb1 (b := w.heap.size) (i := 0) (by go_simp) (by simp)
      have f1' := kf hb1 (b := w.heap.size) (i := 1) (by go_simp) (by simp)
      have f2' := kf hb1 (b := w.heap.size) (i := 2) (by go_simp) (by simp)
      clear hb1
      go_wp2_with fail
      refine bodyPost_ret (v := seatOutV (a, b, 0)) (by simp [results, Tryz.results94, go_sem, d0, d1, d2, f0', f1', f2', hz, Nat.ne_of_lt hz]) rfl ?_
      exact ⟨rfl, (((hB.setCell (by simp) _).setCell (by simp) _).setCell (by simp) _).alloc (by simp; omega) _⟩
    · rw [hR] at HS ⊢
      clear hR
      go_enter Tryz.func94, Tryz.ntmps94
      go_wp2_with (go_at_call 43; refine (tooLong_any _ _).mono ?_; rintro e w1 ⟨rfl, rfl⟩)
      refine (HS.out _ (HEE.out.below ((Below.refl _ _).alloc (Nat.le_refl _) _) (Nat.le_refl _))).mono ?_
      rintro e w1 ⟨rfl, hb1⟩
      have hz : w.heap.size < w1.heap.size := by have := hb1.size; simp at this; omega
      have hB : Below w.heap.size w w1 := ((Below.refl _ _).alloc (Nat.le_refl _) _).trans (hb1.mono (by simp))
      have d0 := kc hb1 (b := w.heap.size) (i := 0) (v := .int .i64 0) (by go_simp) (by simp)
      have d1 := kc hb1 (b := w.heap.size) (i := 1) (v := .int .i64 0) (by go_simp) (by simp)
      have d2 := kc hb1 (b := w.heap.size) (i := 2) (v := .int .i64 0) (by go_simp) (by simp)
      have f0' := kf hb1 (b := w.heap.size) (i := 0) (by go_simp) (by simp)
      have f1' := kf hb1 (b := w.heap.size) (i := 1) (by go_simp) (by simp)
      have f2' := kf hb1 (b := w.heap.size) (i := 2) (by go_simp) (by simp)
      clear hb1
      go_wp2_with fail
      refine bodyPost_ret (v := seatOutV (0, 0, 3)) (by simp [results, Tryz.results94, go_sem, d0, d1, d2, f0', f1', f2', hz, Nat.ne_of_lt hz]) rfl ?_
      exact ⟨rfl, (((hB.setCell (by simp) _).setCell (by simp) _).setCell (by simp) _).alloc (by simp; omega) _⟩
end Go.Proofs.YtpncnkihfijmaaaGreatDoor
