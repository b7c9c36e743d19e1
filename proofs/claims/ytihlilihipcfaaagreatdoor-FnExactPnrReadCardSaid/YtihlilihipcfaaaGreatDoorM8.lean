/-
  l02Num: a number of at most nine digits, read. SeatRead: both functions answer 'seatReadT'. The words of a booking's text, and what either side reads of them: plain mathematics. A booking in a block of the call's own, its lists rows of the call's own.
-/
import Derived.Test.YtihlilihipcfaaaGreatDoorM7
import Derived.Test.YtihlilihipcfaaaGreatDoorM1
import Derived.Laws.StructEq
import Derived.Test.YtihlilihipcfaaaGreatDoorM2
import Derived.Lib.BufferWrite
namespace Go.Proofs.YtihlilihipcfaaaGreatDoor
open Go.ChangeShapes Go.WideShapes Go.ChangeAt Go.RowKit Go.ChangeMaps
set_option maxRecDepth 10000
set_option linter.unusedSimpArgs false
set_option linter.unusedVariables false

theorem numI_size {s : ByteArray} (h : s.size < 1 ∨ 9 < s.size) : numI s.data.toList = -1 := by
  have e : s.data.toList.length = s.size := by simp
  unfold numI
  rw [if_pos (by omega)]
theorem head_at {s : ByteArray} (h : 0 < s.size) : s.data.toList.head? = some s[0] := by
  rw [List.head?_eq_getElem?, List.getElem?_eq_getElem (by simpa using h)]
  rfl
theorem numI_nought {s : ByteArray} (h : 1 < s.size) (h0 : s[0] = 48) : numI s.data.toList = -1 := by
  have e : s.data.toList.length = s.size := by simp
  unfold numI
  rw [if_pos (by rw [e, head_at (by omega), h0]; simp [h])]
theorem numI_bad {s : ByteArray} (k : Nat) (hk : k < s.size) (h : isDig s[k] = false) : numI s.data.toList = -1 := by
  unfold numI
  split
  · rfl
  · rw [if_neg]
    intro ha
    have := List.all_eq_true.1 ha s[k] (by have : s[k] = s.data.toList[k]'(by simpa using hk) := rfl; rw [this]; exact List.getElem_mem _)
    rw [h] at this
    cases this
theorem numI_good {s : ByteArray} (h1 : 1 ≤ s.size) (h2 : s.size ≤ 9) (h3 : s.size = 1 ∨ s[0]'(by omega) ≠ 48) (ha : s.data.toList.all isDig = true) : numI s.data.toList = numV s.data.toList := by
  have e : s.data.toList.length = s.size := by simp
  unfold numI
  rw [if_neg, if_pos ha]
  rintro (h | h | ⟨h, h'⟩)
  · omega
  · omega
  · rw [head_at (by omega)] at h'
    rcases h3 with h3 | h3
    · omega
    · exact h3 (Option.some.inj h')

set_option maxHeartbeats 1000000 in
theorem l02Num_any (s : ByteArray) (w : World) (hs : s.size ≤ maxLen) : Calls Tryz.prog 39 #[.string s] w fun e w' => e = .returned (.int .i64 (numI s.data.toList)) ∧ w = w' := by
  unfold maxLen at hs
  by_cases h1 : s.size < 1
  · go_enter Tryz.func39, Tryz.ntmps39
    go_wp2
    go_ret
    exact ⟨ret_int (numI_size (.inl h1)).symm, rfl⟩
  by_cases h9 : 9 < s.size
  · go_enter Tryz.func39, Tryz.ntmps39
    go_wp2
    go_ret
    exact ⟨ret_int (numI_size (.inr h9)).symm, rfl⟩
  have key : (1 < s.size ∧ ∃ h : 0 < s.size, s[0] = 48) ∨ ((¬ 1 < s.size ∨ (1 < s.size ∧ ∃ h : 0 < s.size, ((s[0].toNat : Int) == 48) = false)) ∧ (s.data.toList.all isDig = true → numI s.data.toList = numV s.data.toList)) := by
    by_cases hm : 1 < s.size
    · by_cases h0 : s[0] = 48
      · exact .inl ⟨hm, by omega, h0⟩
      · refine .inr ⟨.inr ⟨hm, by omega, ?_⟩, fun ha => numI_good (s := s) (by omega) (by omega) (.inr h0) ha⟩
        rw [beq_eq_false_iff_ne]
        intro e
        exact h0 (UInt8.toNat_inj.1 (by have : (48 : UInt8).toNat = 48 := rfl; omega))
    · exact .inr ⟨.inl hm, fun ha => numI_good (s := s) (by omega) (by omega) (.inl (by omega)) ha⟩
  rcases key with ⟨hm, hp, h0⟩ | ⟨hm, hG⟩
  · have hb0 : ((s[0].toNat : Int) == 48) = true := by rw [h0]; rfl
    have HR := Lib.hid (numI_nought hm h0)
    clear h0
    go_enter Tryz.func39, Tryz.ntmps39
    go_wp2
    go_ret
    exact ⟨ret_int HR.out.symm, rfl⟩
  have HG := Lib.hid hG
  clear hG
  have hp : 0 < s.size := by omega
  rcases hm with hm | ⟨hm, hp', hb0⟩
  all_goals
    go_enter Tryz.func39, Tryz.ntmps39
    go_wp2
    go_loop [3, 4] (fun n i => ∃ k : Nat, k ≤ s.size ∧ i = .int .i64 (k : Int) ∧ n = .int .i64 (numV (s.data.toList.take k)) ∧ Hid ((s.data.toList.take k).all isDig = true)) (fun _ i => s.size - (intOf i).toNat)
    case atStart => exact ⟨0, Nat.zero_le _, rfl, rfl, rfl⟩
    case round =>
      try clear hb0
      obtain ⟨k, hk, rfl, rfl, hall⟩ := hrel
      by_cases hlt : k < s.size
      · have hv := numV_nine hall.out (by have := List.length_take_le k s.data.toList; omega)
        have hts := take_snoc s k hlt
        have HS : Hid (numV (s.data.toList.take (k + 1)) = 10 * numV (s.data.toList.take k) + ((s[k].toNat : Int) - 48)) := by rw [Hid, hts, numV_snoc]
        have HA : Hid (isDig s[k] = true → (s.data.toList.take (k + 1)).all isDig = true) := fun hd => by rw [hts, List.all_append, hall.out]; simpa using hd
        have HN : Hid (isDig s[k] = false → numI s.data.toList = -1) := fun hd => numI_bad k hlt hd
        clear hts
        generalize numV (s.data.toList.take k) = V at *
        obtain ⟨v1, v2⟩ := hv
        go_wp2
        all_goals first
          | (go_ret
             refine ⟨ret_int (HN.out ?_).symm, rfl⟩
             simp [isDig]
             omega)
          | (go_round
             case rel => exact ⟨k + 1, by omega, by go_num, by rw [HS.out], HA.out (by simp [isDig]; omega)⟩
             case measure => simp [intOf]; omega)
      · obtain rfl : k = s.size := by omega
        have he : s.data.toList.take s.size = s.data.toList := List.take_of_length_le (by simp)
        have hR := HG.out (by rw [← he]; exact hall.out)
        have HR := Lib.hid hR
        have HE := Lib.hid he
        clear hR he
        go_wp2
        go_ret
        exact ⟨ret_int (by rw [HE.out, HR.out]), rfl⟩
end Go.Proofs.YtihlilihipcfaaaGreatDoor
namespace Go.Proofs.YtihlilihipcfaaaGreatDoor
open Go.ChangeShapes Go.WideShapes Go.ChangeAt Go.RowKit Go.ChangeMaps
set_option maxRecDepth 10000
set_option linter.unusedSimpArgs false
set_option linter.unusedVariables false

def lastI (s : ByteArray) : Int := ((s.data.toList.getLastD 0).toNat : Int)
theorem lastI_at {s : ByteArray} (h : s.size - 1 < s.size) : (s[s.size - 1].toNat : Int) = lastI s := by
  unfold lastI
  have e : s.data.toList.length = s.size := by simp
  rw [List.getLastD_eq_getLast?, List.getLast?_eq_getElem?, e, List.getElem?_eq_getElem (by rw [e]; exact h)]
  rfl
/-- What SeatRead answers. -/
def seatReadT (s : ByteArray) : Int × Int × Int :=
  if 8000 < s.size then (0, 0, 2)
  else if 2 ≤ s.size ∧ (⟨(seatTextL (numI (s.extract 0 (s.size - 1)).data.toList) (lastI s - 97)).toArray⟩ : ByteArray) = s then (numI (s.extract 0 (s.size - 1)).data.toList, lastI s - 97, 0)
  else (0, 0, 3)

theorem seat_of_text {s : ByteArray} {a b : Int} (h : (⟨(seatTextL a b).toArray⟩ : ByteArray) = s) (h0 : 0 < s.size) :
    seatB a b = true ∧ (s.extract 0 (s.size - 1)).data.toList = Lib.decDigits a.toNat ∧ lastI s = 97 + b ∧ 2 ≤ s.size := by
  cases hb : seatB a b
  · rw [seatTextL, if_neg (by rw [hb]; simp)] at h
    subst h
    simp [ByteArray.size] at h0
  · obtain ⟨⟨r1, r2⟩, c1, c2⟩ := seatB_parts hb
    rw [seatTextL, if_pos hb] at h
    have hl : s.data.toList = Lib.decDigits a.toNat ++ [UInt8.ofNat (97 + b.toNat)] := by rw [← h]
    have hn := (dec_props a.toNat).2.2.1
    have e : s.size = (Lib.decDigits a.toNat).length + 1 := by
      have e1 : s.data.toList.length = s.size := by simp
      rw [← e1, hl]; simp
    refine ⟨rfl, ?_, ?_, by omega⟩
    · rw [ByteArray.data_extract, Array.toList_extract, hl, e]
      simp
    · unfold lastI
      rw [hl, List.getLastD_eq_getLast?, List.getLast?_concat]
      simp only [Option.getD_some]
      rw [ofNat_toNat (by omega)]
      omega
theorem parse_row {a : Int} (h1 : 1 ≤ a) (h2 : a ≤ 20) : Lib.parseIntB 64 (Lib.decDigits a.toNat) = .ok a := by
  have h : a = 1 ∨ a = 2 ∨ a = 3 ∨ a = 4 ∨ a = 5 ∨ a = 6 ∨ a = 7 ∨ a = 8 ∨ a = 9 ∨ a = 10 ∨ a = 11 ∨ a = 12 ∨ a = 13 ∨ a = 14 ∨ a = 15 ∨ a = 16 ∨ a = 17 ∨ a = 18 ∨ a = 19 ∨ a = 20 := by omega
  rcases h with rfl | rfl | rfl | rfl | rfl | rfl | rfl | rfl | rfl | rfl | rfl | rfl | rfl | rfl | rfl | rfl | rfl | rfl | rfl | rfl
  all_goals
    first
      | (rw [Lib.decDigits_one (by decide)]; rfl)
      | (rw [Lib.decDigits_two (by decide) (by decide)]; rfl)
theorem seatReadT_yes {s : ByteArray} {a b : Int} (hs : s.size ≤ 8000) (h : (⟨(seatTextL a b).toArray⟩ : ByteArray) = s) (h0 : 0 < s.size) : seatReadT s = (a, b, 0) := by
  obtain ⟨hb, h1, h2, h3⟩ := seat_of_text h h0
  obtain ⟨⟨r1, r2⟩, c1, c2⟩ := seatB_parts hb
  have e1 : numI (s.extract 0 (s.size - 1)).data.toList = a := by rw [h1, numI_dec (by omega)]; omega
  have e2 : lastI s - 97 = b := by omega
  rw [seatReadT, if_neg (by omega), e1, e2, if_pos ⟨h3, h⟩]
theorem seatReadT_no {s : ByteArray} (hs : s.size ≤ 8000) (h : ∀ a b, (⟨(seatTextL a b).toArray⟩ : ByteArray) ≠ s) : seatReadT s = (0, 0, 3) := by
  rw [seatReadT, if_neg (by omega), if_neg (fun hh => h _ _ hh.2)]

/-- seatOf: a seat of which this is the text, else the zero one. -/
theorem seatOf_yes (s : ByteArray) (a b : Int) (w : World) (hs : s.size ≤ 8000) (h0 : 0 < s.size) (h : (⟨(seatTextL a b).toArray⟩ : ByteArray) = s) :
    Calls Tryz.prog 117 #[.string s] w fun e w' => e = .returned (seatV a b) ∧ Below w.heap.size w w' := by
  obtain ⟨hb, h1, h2, h3⟩ := seat_of_text h h0
  obtain ⟨⟨r1, r2⟩, c1, c2⟩ := seatB_parts hb
  have hp : Lib.parseIntB 64 (s.extract 0 (s.size - 1)).data.toList = .ok a := by rw [h1]; exact parse_row r1 r2
  refine (seatOf_ok s a w hs h0 hp).mono ?_
  rintro e w' ⟨he, hB⟩
  refine ⟨?_, hB⟩
  have e2 : colI (s[s.size - 1].toNat : Int) = b := by
    rw [lastI_at (by omega), h2, colI, if_pos (by omega)]
    omega
  rw [e2, if_pos h] at he
  exact he
theorem seatOf_none (s : ByteArray) (w : World) (hs : s.size ≤ 8000) (h0 : 0 < s.size) (h : ∀ a b, (⟨(seatTextL a b).toArray⟩ : ByteArray) ≠ s) (hE : ErrVars w) :
    Calls Tryz.prog 117 #[.string s] w fun e w' => e = .returned (seatV 0 0) ∧ Below w.heap.size w w' := by
  by_cases hp : ∃ v, Lib.parseIntB 64 (s.extract 0 (s.size - 1)).data.toList = .ok v
  · obtain ⟨v, hv⟩ := hp
    refine (seatOf_ok s v w hs h0 hv).mono ?_
    rintro e w' ⟨he, hB⟩
    rw [if_neg (h _ _)] at he
    exact ⟨he, hB⟩
  · exact seatOf_no s w hs h0 (fun v hv => hp ⟨v, hv⟩) hE
set_option maxHeartbeats 400000 in
theorem seatOf_empty (s : ByteArray) (w : World) (h0 : s.size = 0) : Calls Tryz.prog 117 #[.string s] w fun e w' => e = .returned (seatV 0 0) ∧ Below w.heap.size w w' := by
  have he1 : s.toList.isEmpty = true := by
    rw [ByteArray.toList_eq]
    have e : s.data.toList.length = s.size := by simp
    rw [h0] at e
    rw [List.eq_nil_of_length_eq_zero e]
    rfl
  clear h0
  go_enter Tryz.func117, Tryz.ntmps117
  go_wp2_with fail
  refine bodyPost_ret (v := seatV 0 0) (by simp [results, Tryz.results117, go_sem]) rfl ?_
  exact ⟨rfl, (Below.refl _ _).alloc (Nat.le_refl _) _⟩

/-- .. the same, told by seatReadT. -/
theorem seatOf_any (s : ByteArray) (w : World) (hs : s.size ≤ 8000) (hE : ErrVars w) : Calls Tryz.prog 117 #[.string s] w fun e w' => e = .returned (seatV (seatReadT s).1 (seatReadT s).2.1) ∧ Below w.heap.size w w' := by
  by_cases h0 : s.size = 0
  · have hn : ∀ a b, (⟨(seatTextL a b).toArray⟩ : ByteArray) ≠ s → True := fun _ _ _ => trivial
    have e : seatReadT s = (0, 0, 3) := by rw [seatReadT, if_neg (by omega), if_neg (by omega)]
    rw [e]
    exact seatOf_empty s w h0
  · by_cases hq : ∃ a b, (⟨(seatTextL a b).toArray⟩ : ByteArray) = s
    · obtain ⟨a, b, hq⟩ := hq
      rw [seatReadT_yes hs hq (by omega)]
      exact seatOf_yes s a b w hs (by omega) hq
    · have hn : ∀ a b, (⟨(seatTextL a b).toArray⟩ : ByteArray) ≠ s := fun a b h => hq ⟨a, b, h⟩
      rw [seatReadT_no hs hn]
      exact seatOf_none s w hs (by omega) hn hE
theorem seatReadT_cases {s : ByteArray} (hs : s.size ≤ 8000) : (∃ a b, 1 ≤ a ∧ seatReadT s = (a, b, 0)) ∨ seatReadT s = (0, 0, 3) := by
  by_cases h0 : s.size = 0
  · exact .inr (by rw [seatReadT, if_neg (by omega), if_neg (by omega)])
  · by_cases hq : ∃ a b, (⟨(seatTextL a b).toArray⟩ : ByteArray) = s
    · obtain ⟨a, b, hq⟩ := hq
      obtain ⟨hb, _⟩ := seat_of_text hq (by omega)
      exact .inl ⟨a, b, (seatB_parts hb).1.1, seatReadT_yes hs hq (by omega)⟩
    · exact .inr (seatReadT_no hs (fun a b h => hq ⟨a, b, h⟩))
theorem seatReadT_long {s : ByteArray} (hs : 8000 < s.size) : seatReadT s = (0, 0, 2) := by rw [seatReadT, if_pos hs]

set_option maxHeartbeats 1000000 in
theorem iSeatRead_any (s : ByteArray) (w : World) (hE : ErrVars w) : Calls Tryz.prog 91 #[.string s] w fun e w' => e = .returned (seatOutV (seatReadT s)) ∧ Below w.heap.size w w' := by
  by_cases hs : 8000 < s.size
  · rw [seatReadT_long hs]
    go_enter Tryz.func91, Tryz.ntmps91
    go_wp2_with (go_at_call 41; refine (tooLong_any _ _).mono ?_; rintro e w1 ⟨rfl, rfl⟩)
    refine bodyPost_ret (v := seatOutV (0, 0, 2)) (by simp [results, Tryz.results91, go_sem]) rfl ?_
    exact ⟨rfl, by go_grown⟩
  · have hs' : s.size ≤ 8000 := by omega
    have HS : Hid (∀ W : World, ErrVars W → Calls Tryz.prog 117 #[.string s] W fun e w' => e = .returned (seatV (seatReadT s).1 (seatReadT s).2.1) ∧ Below W.heap.size W w') := fun W hW => seatOf_any s W hs' hW
    have HEE := Lib.hid hE
    clear hE
    rcases seatReadT_cases hs' with ⟨a, b, ha, hR⟩ | hR
    · rw [hR] at HS ⊢
      have ha0 : ((a : Int) == 0) = false := by rw [beq_eq_false_iff_ne]; omega
      clear hR
      go_enter Tryz.func91, Tryz.ntmps91
      go_wp2_with (go_at_call 41; refine (tooLong_any _ _).mono ?_; rintro e w1 ⟨rfl, rfl⟩)
      refine (HS.out _ (HEE.out.below ((Below.refl _ _).alloc (Nat.le_refl _) _) (Nat.le_refl _))).mono ?_
      rintro e w1 ⟨rfl, hb1⟩
      have hz : w.heap.size < w1.heap.size := by have := hb1.size; simp at this; omega
      have hB : Below w.heap.size w w1 := ((Below.refl _ _).alloc (Nat.le_refl _) _).trans (hb1.mono (by simp))
      have d0 := kc hb1 (b := w.heap.size) (i := 0) (v := .int .i64 0) (by go_simp) (by simp)
      have d1 := kc hb1 (b := w.heap.size) (i := 1) (v := .int .i64 0) (by go_simp) (by simp)
      have d2 := kc hb1 (b := w.heap.size) (i := 2) (v := .int .i64 0) (by go_simp) (by simp)
      have f0' := kf hb1 (b := w.heap.size) (i := 0) (by go_simp) (by simp)
      have f1' := kf hb1 (b := w.heap.size) (i := 1) (by go_simp) (by simp)
      have f2' := kf hb1 (b := w.heap.size) (i := 2) (by go_simp) (by simp)
      clear hb1
      go_wp2_with fail
      refine bodyPost_ret (v := seatOutV (a, b, 0)) (by simp [results, Tryz.results91, go_sem, d0, d1, d2, f0', f1', f2', hz, Nat.ne_of_lt hz]) rfl ?_
      exact ⟨rfl, (((hB.setCell (by simp) _).setCell (by simp) _).setCell (by simp) _).alloc (by simp; omega) _⟩
    · rw [hR] at HS ⊢
      clear hR
      go_enter Tryz.func91, Tryz.ntmps91
      go_wp2_with (go_at_call 41; refine (tooLong_any _ _).mono ?_; rintro e w1 ⟨rfl, rfl⟩)
      refine (HS.out _ (HEE.out.below ((Below.refl _ _).alloc (Nat.le_refl _) _) (Nat.le_refl _))).mono ?_
      rintro e w1 ⟨rfl, hb1⟩
      have hz : w.heap.size < w1.heap.size := by have := hb1.size; simp at this; omega
      have hB : Below w.heap.size w w1 := ((Below.refl _ _).alloc (Nat.le_refl _) _).trans (hb1.mono (by simp))
      have d0 := kc hb1 (b := w.heap.size) (i := 0) (v := .int .i64 0) (by go_simp) (by simp)
      have d1 := kc hb1 (b := w.heap.size) (i := 1) (v := .int .i64 0) (by go_simp) (by simp)
      have d2 := kc hb1 (b := w.heap.size) (i := 2) (v := .int .i64 0) (by go_simp) (by simp)
      have f0' := kf hb1 (b := w.heap.size) (i := 0) (by go_simp) (by simp)
      have f1' := kf hb1 (b := w.heap.size) (i := 1) (by go_simp) (by simp)
      have f2' := kf hb1 (b := w.heap.size) (i := 2) (by go_simp) (by simp)
      clear hb1
      go_wp2_with fail
      refine bodyPost_ret (v := seatOutV (0, 0, 3)) (by simp [results, Tryz.results91, go_sem, d0, d1, d2, f0', f1', f2', hz, Nat.ne_of_lt hz]) rfl ?_
      exact ⟨rfl, (((hB.setCell (by simp) _).setCell (by simp) _).setCell (by simp) _).alloc (by simp; omega) _⟩
end Go.Proofs.YtihlilihipcfaaaGreatDoor
namespace Go.Proofs.YtihlilihipcfaaaGreatDoor
open Go.ChangeShapes Go.WideShapes Go.ChangeAt Go.RowKit Go.ChangeMaps
set_option maxRecDepth 10000
set_option linter.unusedSimpArgs false
set_option linter.unusedVariables false

/-- All bytes are those of a word. -/
def WdAll (s : ByteArray) : Prop := ∀ c ∈ s.data.toList, wdOk c = true
theorem WdAll.of_word {s : ByteArray} (h : wordB s = true) : WdAll s := by
  intro c hc
  obtain ⟨i, hi, rfl⟩ := List.getElem_of_mem hc
  simp only [wordB, decide_eq_true_eq] at h
  exact h.2.2 i (by simpa using hi)
theorem wdOk_dig {n : Nat} (h : n < 10) : wdOk (UInt8.ofNat (48 + n)) = true := by
  rw [wdOk, ofNat_toNat (by omega), digB_mk (by omega) (by omega)]
  simp
theorem wdOk_let {n : Nat} (h : n < 26) : wdOk (UInt8.ofNat (97 + n)) = true := by
  rw [wdOk, ofNat_toNat (by omega), letB_mk (by omega) (by omega)]
  rfl
theorem dgT_data {n : Int} (h0 : 0 ≤ n) (h1 : n < 10) : (dgT n).data.toList = [UInt8.ofNat (48 + n.toNat)] := by
  rw [dgT, Lib.decDigits_one (by omega)]
theorem WdAll.dg {n : Int} (h0 : 0 ≤ n) (h1 : n < 10) : WdAll (dgT n) := by
  intro c hc
  rw [dgT_data h0 h1] at hc
  obtain rfl : c = UInt8.ofNat (48 + n.toNat) := by simpa using hc
  exact wdOk_dig (by omega)
theorem dec_wd {m : Nat} (h : m < 100) : ∀ c ∈ Lib.decDigits m, wdOk c = true := by
  intro c hc
  by_cases hm : m < 10
  · rw [Lib.decDigits_one hm] at hc
    obtain rfl : c = UInt8.ofNat (48 + m) := by simpa using hc
    exact wdOk_dig hm
  · rw [Lib.decDigits_two (by omega) h] at hc
    simp only [List.mem_cons, List.not_mem_nil, or_false] at hc
    rcases hc with rfl | rfl
    · exact wdOk_dig (by omega)
    · exact wdOk_dig (by omega)
theorem seatT_data {r c : Int} (h : seatB r c = true) : (seatT r c).data.toList = Lib.decDigits r.toNat ++ [UInt8.ofNat (97 + c.toNat)] := by
  rw [seatT, seatTextL, if_pos h]
theorem WdAll.seat {r c : Int} (h : seatB r c = true) : WdAll (seatT r c) := by
  obtain ⟨⟨r1, r2⟩, c1, c2⟩ := seatB_parts h
  intro x hx
  rw [seatT_data h, List.mem_append] at hx
  rcases hx with hx | hx
  · exact dec_wd (by omega) x hx
  · obtain rfl : x = UInt8.ofNat (97 + c.toNat) := by simpa using hx
    exact wdOk_let (by omega)
theorem WdAll.not {s : ByteArray} (h : WdAll s) {c : UInt8} (hc : wdOk c = false) : c ∉ s.data.toList := fun hm => by rw [h c hm] at hc; cases hc

def plusW (s : ByteArray) : ByteArray := plA ++ s
def homeW (h l : Int) : ByteArray := (dgT h ++ dotA) ++ dgT l
def holdW (x : HD) : ByteArray := (x.f ++ colA) ++ seatT x.r x.c
abbrev ofW : ByteArray := ⟨#[111, 102]⟩
def headW (p : PD) : List ByteArray := [homeW p.home p.loc, ofW, dgT p.owner, if p.live then lvA else gnA]
def offW (f : Int) : List ByteArray := if f = 0 then [] else [twA, dgT f]
/-- The words of a booking's text. -/
def wordsP (p : PD) : List ByteArray := headW p ++ (offW p.offer ++ (p.names.map plusW ++ p.holds.map holdW))

def stepJ (t : List UInt8) (x : List UInt8) : List UInt8 := t ++ 32 :: x
theorem namesD : ∀ (l : List ByteArray) (t : ByteArray), (l.foldl nameT t).data.toList = ((l.map plusW).map (·.data.toList)).foldl stepJ t.data.toList
  | [], t => rfl
  | s :: l, t => by
    have e : (nameT t s).data.toList = stepJ t.data.toList (plusW s).data.toList := by simp [nameT, plusW, stepJ]
    rw [List.foldl_cons, namesD l (nameT t s), e]
    rfl
theorem holdsD : ∀ (l : List HD) (t : ByteArray), (l.foldl holdT t).data.toList = ((l.map holdW).map (·.data.toList)).foldl stepJ t.data.toList
  | [], t => rfl
  | s :: l, t => by
    have e : (holdT t s).data.toList = stepJ t.data.toList (holdW s).data.toList := by simp [holdT, holdW, stepJ]
    rw [List.foldl_cons, holdsD l (holdT t s), e]
    rfl
theorem offD (f : Int) (t : ByteArray) : (offT f t).data.toList = ((offW f).map (·.data.toList)).foldl stepJ t.data.toList := by
  unfold offT offW
  split
  · rfl
  · simp [stepJ]
theorem headD (p : PD) : (liveT p.live (headT p.home p.loc p.owner)).data.toList = joinL 32 ((headW p).map (·.data.toList)) := by
  cases hb : p.live <;> simp [liveT, headT, headW, homeW, joinL, hb]
theorem textT_join {p : PD} (h : rightB p = true) : (textT p).data.toList = joinL 32 ((wordsP p).map (·.data.toList)) := by
  rw [textT, if_pos h, holdsD, namesD, offD, headD, wordsP, List.map_append, List.map_append, List.map_append, joinL_more 32 _ _ (by simp [headW]), List.foldl_append, List.foldl_append]
  rfl
theorem wordsP_ne (p : PD) : wordsP p ≠ [] := by simp [wordsP, headW]
theorem wordsP_free {p : PD} (h : rightB p = true) : ∀ x ∈ wordsP p, (32 : UInt8) ∉ x.data.toList := by
  obtain ⟨⟨⟨a1, a2⟩, ⟨b1, b2⟩, c1, c2⟩, ⟨-, hn⟩, ⟨-, hh⟩, f1, f2⟩ := right_parts h
  have hd : ∀ n : Int, 0 ≤ n → n < 10 → (32 : UInt8) ∉ (dgT n).data.toList := fun n h0 h1 => (WdAll.dg h0 h1).not rfl
  have k1 := hd p.home (by omega) (by omega)
  have k2 := hd p.loc (by omega) (by omega)
  have k3 := hd p.owner (by omega) (by omega)
  have k4 := hd p.offer (by omega) (by omega)
  intro x hx
  simp only [wordsP, List.mem_append, List.mem_map] at hx
  rcases hx with hx | hx | ⟨s, hs, rfl⟩ | ⟨y, hy, rfl⟩
  · simp only [headW, List.mem_cons, List.not_mem_nil, or_false] at hx
    rcases hx with rfl | rfl | rfl | rfl
    · simp [homeW]; exact ⟨by simpa using k1, by simpa using k2⟩
    · simp
    · exact k3
    · cases p.live <;> simp
  · unfold offW at hx
    split at hx
    · cases hx
    · simp only [List.mem_cons, List.not_mem_nil, or_false] at hx
      rcases hx with rfl | rfl
      · simp
      · exact k4
  · have := (WdAll.of_word (hn s hs)).not (c := 32) rfl
    simpa [plusW] using this
  · have h1 := (WdAll.of_word (hh y hy).1).not (c := 32) rfl
    have h2 := (WdAll.seat (hh y hy).2).not (c := 32) rfl
    simp [holdW]
    exact ⟨by simpa using h1, by simpa using h2⟩
/-- Cut at its blanks a booking's text is its words. -/
theorem cut_text {p : PD} (h : rightB p = true) : cutB 32 (textT p) = wordsP p := cutB_join 32 _ _ (wordsP_ne p) (wordsP_free h) (textT_join h)

theorem homeW_data (h l : Int) : (homeW h l).data.toList = (dgT h).data.toList ++ 46 :: (dgT l).data.toList := by simp [homeW]
theorem holdW_data (x : HD) : (holdW x).data.toList = x.f.data.toList ++ 58 :: (seatT x.r x.c).data.toList := by simp [holdW]
theorem plusW_data (s : ByteArray) : (plusW s).data.toList = 43 :: s.data.toList := by simp [plusW]
theorem cut_home {h l : Int} (h0 : 0 ≤ h) (h1 : h < 10) (l0 : 0 ≤ l) (l1 : l < 10) : cutB 46 (homeW h l) = [dgT h, dgT l] := by
  refine cutB_join 46 _ _ (by simp) ?_ (by rw [homeW_data]; rfl)
  intro x hx
  simp only [List.mem_cons, List.not_mem_nil, or_false] at hx
  rcases hx with rfl | rfl
  · exact (WdAll.dg h0 h1).not rfl
  · exact (WdAll.dg l0 l1).not rfl
theorem cut_hold {x : HD} (h : wordB x.f = true) (hs : seatB x.r x.c = true) : cutB 58 (holdW x) = [x.f, seatT x.r x.c] := by
  refine cutB_join 58 _ _ (by simp) ?_ (by rw [holdW_data]; rfl)
  intro y hy
  simp only [List.mem_cons, List.not_mem_nil, or_false] at hy
  rcases hy with rfl | rfl
  · exact (WdAll.of_word h).not rfl
  · exact (WdAll.seat hs).not rfl
theorem numI_dg {n : Int} (h0 : 0 ≤ n) (h1 : n < 10) : numI (dgT n).data.toList = n := by
  rw [dgT]
  have := numI_dec (u := n.toNat) (by omega)
  show numI (Lib.decDigits n.toNat) = n
  rw [this]
  omega
theorem seat_back {r c : Int} (h : seatB r c = true) : seatReadT (seatT r c) = (r, c, 0) := by
  have hs := seatT_size h
  refine seatReadT_yes (by omega) rfl ?_
  have : (seatT r c).data.toList.length = (seatT r c).size := by simp
  rw [seatT_data h] at this
  simp at this
  omega
theorem hold_head {x : HD} (h : wordB x.f = true) : ∃ c l, (holdW x).data.toList = c :: l ∧ c ≠ 43 := by
  rw [holdW_data]
  have h1 := (wordB_len h).1
  have h2 := WdAll.of_word h
  have e : x.f.data.toList.length = x.f.size := by simp
  unfold WdAll at h2
  cases hl : x.f.data.toList with
  | nil => rw [hl] at e; simp at e; omega
  | cons c l =>
    refine ⟨c, _, rfl, fun hc => ?_⟩
    have := h2 c (by rw [hl]; simp)
    rw [hc] at this
    revert this
    decide
theorem plusW_ne_to (s : ByteArray) : plusW s ≠ twA := fun h => by
  have := congrArg (fun b : ByteArray => b.data.toList) h
  simp [plusW] at this
theorem holdW_ne_to (x : HD) : holdW x ≠ twA := fun h => by
  have h1 := congrArg (fun b : ByteArray => b.data.toList) h
  have h2 : (58 : UInt8) ∈ (holdW x).data.toList := by rw [holdW_data]; simp
  dsimp only at h1
  rw [h1] at h2
  simp at h2

/-- What spec reads of one word behind the state. -/
def step1 (p : PD) (w : ByteArray) : PD :=
  if w.data.toList.head? = some 43 then { p with names := p.names ++ [w.extract 1 w.size] }
  else match cutB 58 w with
    | [a, b] => { p with holds := p.holds ++ [⟨a, (seatReadT b).1, (seatReadT b).2.1⟩] }
    | _ => p
/-- .. of all. -/
def fillS : PD → List ByteArray → PD
  | p, [] => p
  | p, [w] => step1 p w
  | p, w :: x :: r => if w = twA then fillS { p with offer := numI x.data.toList } r else fillS (step1 p w) (x :: r)
theorem fillS_cons (p : PD) (w : ByteArray) (r : List ByteArray) (h : w ≠ twA ∨ r = []) : fillS p (w :: r) = fillS (step1 p w) r := by
  cases r with
  | nil => rfl
  | cons x r =>
    rcases h with h | h
    · rw [fillS, if_neg h]
    · cases h
theorem fillS_to (p : PD) (x : ByteArray) (r : List ByteArray) : fillS p (twA :: x :: r) = fillS { p with offer := numI x.data.toList } r := by rw [fillS, if_pos rfl]
theorem step1_plus (p : PD) (s : ByteArray) : step1 p (plusW s) = { p with names := p.names ++ [s] } := by
  have e : (plusW s).extract 1 (plusW s).size = s := by
    apply ba_ext
    rw [ByteArray.data_extract, Array.toList_extract, List.extract_eq_take_drop, plusW_data]
    have : (plusW s).size = s.data.toList.length + 1 := by
      have := congrArg List.length (plusW_data s)
      simpa using this
    rw [this]
    simp only [Nat.add_sub_cancel, List.drop_succ_cons, List.drop_zero]
    exact List.take_of_length_le (Nat.le_refl _)
  rw [step1, if_pos (by rw [plusW_data]; rfl), e]
theorem step1_hold (p : PD) {x : HD} (h : wordB x.f = true) (hs : seatB x.r x.c = true) : step1 p (holdW x) = { p with holds := p.holds ++ [x] } := by
  obtain ⟨c, l, e, hc⟩ := hold_head h
  rw [step1, if_neg (by rw [e]; simpa using hc), cut_hold h hs]
  dsimp only
  rw [seat_back hs]
theorem fillS_holds : ∀ (hs : List HD) (p : PD), (∀ x ∈ hs, wordB x.f = true ∧ seatB x.r x.c = true) → fillS p (hs.map holdW) = { p with holds := p.holds ++ hs }
  | [], p, _ => by simp [fillS]
  | x :: hs, p, h => by
    have hx := h x List.mem_cons_self
    rw [List.map_cons, fillS_cons _ _ _ (.inl (holdW_ne_to x)), step1_hold p hx.1 hx.2, fillS_holds hs _ (fun y hy => h y (List.mem_cons_of_mem _ hy))]
    simp
theorem fillS_names : ∀ (ns : List ByteArray) (p : PD) (r : List ByteArray), fillS p (ns.map plusW ++ r) = fillS { p with names := p.names ++ ns } r
  | [], p, r => by simp
  | s :: ns, p, r => by
    rw [List.map_cons, List.cons_append, fillS_cons _ _ _ (.inl (plusW_ne_to s)), step1_plus, fillS_names ns]
    simp
theorem fillS_words {p q : PD} (h : rightB p = true) (h0 : q.offer = 0) : fillS q (offW p.offer ++ (p.names.map plusW ++ p.holds.map holdW)) = ⟨q.home, q.loc, q.owner, q.names ++ p.names, q.holds ++ p.holds, q.live, p.offer⟩ := by
  obtain ⟨-, -, ⟨-, hh⟩, f1, f2⟩ := right_parts h
  unfold offW
  split
  · rename_i h1
    rw [List.nil_append, fillS_names, fillS_holds _ _ hh, h1, ← h0]
  · rw [List.cons_append, List.cons_append, List.nil_append, fillS_to, fillS_names, fillS_holds _ _ hh, numI_dg f1 (by omega)]

/-- What spec reads of some words. -/
def parseS (ws : List ByteArray) : PD :=
  match ws with
  | a :: _ :: c :: d :: r => fillS ⟨numI ((cutB 46 a).headD ⟨#[]⟩).data.toList, (match cutB 46 a with | [_, l] => numI l.data.toList | _ => 0), numI c.data.toList, [], [], decide (d = lvA), 0⟩ r
  | _ => ⟨0, 0, 0, [], [], false, 0⟩
theorem parseS_text {p : PD} (h : rightB p = true) : parseS (cutB 32 (textT p)) = p := by
  obtain ⟨⟨⟨a1, a2⟩, ⟨b1, b2⟩, c1, c2⟩, -, -, -⟩ := right_parts h
  rw [cut_text h, wordsP, headW]
  show fillS ⟨_, _, _, _, _, _, _⟩ (offW p.offer ++ (p.names.map plusW ++ p.holds.map holdW)) = p
  rw [cut_home (by omega) (by omega) (by omega) (by omega)]
  dsimp only [List.headD]
  rw [numI_dg (by omega) (by omega), numI_dg (by omega) (by omega), numI_dg (by omega) (by omega), fillS_words h rfl]
  obtain ⟨ph, pl, po, pn, pk, pb, pf⟩ := p
  cases pb <;> simp

/-- What impl reads of one word behind the offer. -/
def stepI (p : PD) (w : ByteArray) : PD :=
  if Lib.hasPrefix w.data.toList [43] = true then { p with names := p.names ++ [⟨(Lib.trimPrefix w.data.toList [43]).toArray⟩] }
  else { p with holds := p.holds ++ [⟨⟨(Lib.cut w.data.toList [58]).1.toArray⟩, (seatReadT ⟨(Lib.cut w.data.toList [58]).2.1.toArray⟩).1, (seatReadT ⟨(Lib.cut w.data.toList [58]).2.1.toArray⟩).2.1⟩] }
theorem stepI_plus (p : PD) (s : ByteArray) : stepI p (plusW s) = { p with names := p.names ++ [s] } := by
  have h1 : Lib.hasPrefix (plusW s).data.toList [43] = true := by rw [plusW_data]; simp [Lib.hasPrefix, List.isPrefixOf]
  rw [stepI, if_pos h1, Lib.trimPrefix, if_pos h1, plusW_data]
  rfl
theorem stepI_hold (p : PD) {x : HD} (h : wordB x.f = true) (hs : seatB x.r x.c = true) : stepI p (holdW x) = { p with holds := p.holds ++ [x] } := by
  obtain ⟨c, l, e, hc⟩ := hold_head h
  have h1 : ¬ Lib.hasPrefix (holdW x).data.toList [43] = true := by rw [e]; simp [Lib.hasPrefix, List.isPrefixOf]; exact fun hh => hc hh.symm
  have h2 : Lib.cut (holdW x).data.toList [58] = (x.f.data.toList, (seatT x.r x.c).data.toList, true) := by
    rw [holdW_data]
    exact cut_app 58 _ _ ((WdAll.of_word h).not rfl)
  have h3 : (⟨(seatT x.r x.c).data.toList.toArray⟩ : ByteArray) = seatT x.r x.c := Lib.mk_data _
  have h4 : (⟨x.f.data.toList.toArray⟩ : ByteArray) = x.f := Lib.mk_data _
  rw [stepI, if_neg h1, h2]
  dsimp only
  rw [h3, h4, seat_back hs]
theorem foldI_words {p q : PD} (h : rightB p = true) : (p.names.map plusW ++ p.holds.map holdW).foldl stepI q = { q with names := q.names ++ p.names, holds := q.holds ++ p.holds } := by
  obtain ⟨-, -, ⟨-, hh⟩, -⟩ := right_parts h
  have hn : ∀ (ns : List ByteArray) (q : PD), (ns.map plusW).foldl stepI q = { q with names := q.names ++ ns } := by
    intro ns
    induction ns with
    | nil => intro q; simp
    | cons s ns ih => intro q; rw [List.map_cons, List.foldl_cons, stepI_plus, ih]; simp
  have hk : ∀ (hs : List HD) (q : PD), (∀ x ∈ hs, wordB x.f = true ∧ seatB x.r x.c = true) → (hs.map holdW).foldl stepI q = { q with holds := q.holds ++ hs } := by
    intro hs
    induction hs with
    | nil => intro q _; simp
    | cons x hs ih =>
      intro q hx
      rw [List.map_cons, List.foldl_cons, stepI_hold q (hx x List.mem_cons_self).1 (hx x List.mem_cons_self).2, ih _ (fun y hy => hx y (List.mem_cons_of_mem _ hy))]
      simp
  rw [List.foldl_append, hn, hk _ _ hh]
/-- What numberOf owes: of one digit that. -/
def NumOk (s : ByteArray) (n : Int) : Prop := ∀ m : Int, 0 ≤ m → m < 10 → s = dgT m → n = m
theorem cut_home' {h l : Int} (h0 : 0 ≤ h) (h1 : h < 10) : Lib.cut (homeW h l).data.toList [46] = ((dgT h).data.toList, (dgT l).data.toList, true) := by
  rw [homeW_data]
  exact cut_app 46 _ _ ((WdAll.dg h0 h1).not rfl)
/-- What impl read of some words: the booking, wherever there is one. -/
theorem parseI_text {p : PD} (h : rightB p = true) {a b c d : ByteArray} {r : List ByteArray} {h1 l1 o1 f1 : Int} (hw : wordsP p = a :: b :: c :: d :: r)
    (k1 : NumOk ⟨(Lib.cut a.data.toList [46]).1.toArray⟩ h1) (k2 : NumOk ⟨(Lib.cut a.data.toList [46]).2.1.toArray⟩ l1) (k3 : NumOk c o1)
    (r' : List ByteArray) (k4 : (∃ x y s, r = x :: y :: s ∧ x = twA ∧ NumOk y f1 ∧ r' = s) ∨ ((∀ x y s, r = x :: y :: s → x ≠ twA) ∧ f1 = 0 ∧ r' = r)) :
    r'.foldl stepI ⟨h1, l1, o1, [], [], decide (d = lvA), f1⟩ = p := by
  obtain ⟨⟨⟨a1, a2⟩, ⟨b1, b2⟩, c1, c2⟩, ⟨hn, -⟩, ⟨hh, -⟩, g1, g2⟩ := right_parts h
  rw [wordsP, headW] at hw
  simp only [List.cons_append, List.cons.injEq, List.nil_append] at hw
  obtain ⟨rfl, rfl, rfl, rfl, rfl⟩ := hw
  rw [cut_home' (by omega) (by omega)] at k1 k2
  obtain rfl := k1 p.home (by omega) (by omega) (Lib.mk_data _)
  obtain rfl := k2 p.loc (by omega) (by omega) (Lib.mk_data _)
  obtain rfl := k3 p.owner (by omega) (by omega) rfl
  have hlive : decide ((if p.live = true then lvA else gnA) = lvA) = p.live := by cases p.live <;> simp
  rw [hlive]
  rcases k4 with ⟨x, y, s, hr, rfl, hy, rfl⟩ | ⟨hx, rfl, rfl⟩
  · unfold offW at hr
    split at hr
    · exfalso
      rw [List.nil_append] at hr
      cases hN : p.names with
      | nil =>
        cases hH : p.holds with
        | nil => rw [hN, hH] at hr; cases hr
        | cons z zs =>
          rw [hN, hH] at hr
          simp only [List.map_nil, List.nil_append, List.map_cons, List.cons.injEq] at hr
          exact holdW_ne_to z hr.1
      | cons z zs =>
        rw [hN] at hr
        simp only [List.map_cons, List.cons_append, List.cons.injEq] at hr
        exact plusW_ne_to z hr.1
    · simp only [List.cons_append, List.nil_append, List.cons.injEq] at hr
      obtain ⟨-, rfl, rfl⟩ := hr
      obtain rfl := hy p.offer g1 (by omega) rfl
      rw [foldI_words h]
      simp
  · have hf : p.offer = 0 := by
      refine Classical.byContradiction fun hne => ?_
      refine hx twA (dgT p.offer) (p.names.map plusW ++ p.holds.map holdW) ?_ rfl
      rw [offW, if_neg hne]
      rfl
    rw [offW, if_pos hf, List.nil_append, foldI_words h]
    obtain ⟨ph, pl, po, pn, pk, pb, pf⟩ := p
    dsimp only at hf
    subst hf
    simp
/-- A text has at most one booking. -/
theorem textT_inj {p q : PD} (hp : rightB p = true) (hq : rightB q = true) (h : textT p = textT q) : p = q := by
  rw [← parseS_text hp, h, parseS_text hq]
theorem textT_pos {p : PD} (hp : rightB p = true) : 0 < (textT p).size := by
  have h := textT_join hp
  have e : (textT p).data.toList.length = (textT p).size := by simp
  rw [h] at e
  cases hq : (textT p).size with
  | zero =>
    rw [hq] at e
    have h2 := List.eq_nil_of_length_eq_zero e
    have h3 := cutL_join 32 ((wordsP p).map (·.data.toList)) (by simp [wordsP, headW]) (fun x hx => by obtain ⟨y, hy, rfl⟩ := List.mem_map.1 hx; exact wordsP_free hp y hy)
    rw [h2] at h3
    have := congrArg List.length h3
    simp [cutL, wordsP, headW] at this
  | succ n => omega
/-- What PnrRead answers. -/
def readP (s : ByteArray) : PD × Int :=
  if 8000 < s.size then (⟨0, 0, 0, [], [], false, 0⟩, 2) else if rightB (parseS (cutB 32 s)) = true ∧ textT (parseS (cutB 32 s)) = s then (parseS (cutB 32 s), 0) else (⟨0, 0, 0, [], [], false, 0⟩, 3)
theorem readP_long {s : ByteArray} (h : 8000 < s.size) : readP s = (⟨0, 0, 0, [], [], false, 0⟩, 2) := by rw [readP, if_pos h]
/-- A reader that brings back any booking from its text, and looks whether its text is that, answers so. -/
theorem readP_of {s : ByteArray} (h : s.size ≤ 8000) {p : PD} (hp : ∀ q, rightB q = true → textT q = s → p = q) :
    readP s = if rightB p = true ∧ textT p = s then (p, 0) else (⟨0, 0, 0, [], [], false, 0⟩, 3) := by
  have hS : ∀ q, rightB q = true → textT q = s → parseS (cutB 32 s) = q := fun q hq ht => by rw [← ht]; exact parseS_text hq
  rw [readP, if_neg (by omega)]
  by_cases hc : rightB p = true ∧ textT p = s
  · rw [hS p hc.1 hc.2]
  · rw [if_neg hc, if_neg (fun hh => hc (by rw [hp _ hh.1 hh.2]; exact hh))]
end Go.Proofs.YtihlilihipcfaaaGreatDoor
namespace Go.Proofs.YtihlilihipcfaaaGreatDoor
open Go.ChangeShapes Go.WideShapes Go.ChangeAt Go.RowKit Go.ChangeMaps
set_option maxRecDepth 10000
set_option linter.unusedSimpArgs false
set_option linter.unusedVariables false

theorem own_not_block {W : World} {B : Nat} {t e : TypeId} {cs : Array Value} (h : Block W B t cs) (hte : t ≠ e) {base size k : Nat} {v : Value} {xs : List Value} (hr : W.ownsRow base e size v k xs) : v.ownBlock ≠ some B := by
  rcases hr.2 with ⟨rfl, _⟩ | ⟨g, cap, cur, rfl, _, hgb, _⟩
  · simp [Value.ownBlock]
  · intro e'
    obtain rfl : g = B := by simpa [Value.ownBlock] using e'
    have := (show W.heap[g]? = _ from h).symm.trans hgb
    simp at this
    exact hte this.2
/-- Rows of two kinds lie apart. -/
theorem own_apart {W : World} {t e : TypeId} (hte : t ≠ e) {base base' size size' k k' : Nat} {v v' : Value} {xs xs' : List Value} (h : W.ownsRow base t size v k xs) (h' : W.ownsRow base' e size' v' k' xs') : v.ownBlock = none ∨ v.ownBlock ≠ v'.ownBlock := by
  rcases h.2 with ⟨rfl, _⟩ | ⟨g, cap, cur, rfl, _, hgb, _⟩
  · exact .inl rfl
  · refine .inr fun e' => ?_
    exact own_not_block (B := g) (cs := cur) hgb hte h' e'.symm

abbrev pdCs (p : PD) (A1 : Option Addr) (c1 : Nat) (A2 : Option Addr) (c2 : Nat) : Array Value :=
  #[.int .i64 p.home, .int .i64 p.loc, .int .i64 p.owner, .slice A1 p.names.length c1, .slice A2 p.holds.length c2, .bool p.live, .int .i64 p.offer]
structure PSt (base g : Nat) (p : PD) (A1 : Option Addr) (c1 : Nat) (A2 : Option Addr) (c2 : Nat) (W : World) : Prop where
  blk : Block W g 40 (pdCs p A1 c1 A2 c2)
  ns : W.ownsRow base 9 1 (.slice A1 p.names.length c1) p.names.length (strsC p.names)
  hs : W.ownsRow base 51 3 (.slice A2 p.holds.length c2) p.holds.length (holdsC p.holds)
section
variable {base g : Nat} {p : PD} {A1 A2 : Option Addr} {c1 c2 : Nat} {W W' : World}
theorem PSt.on (h : PSt base g p A1 c1 A2 c2 W) (hb : Below W.heap.size W W') : PSt base g p A1 c1 A2 c2 W' := ⟨h.blk.on hb, ownsRow_below h.ns hb, ownsRow_below h.hs hb⟩
theorem PSt.drew (h : PSt base g p A1 c1 A2 c2 W) : PSt base g p A1 c1 A2 c2 W.drew := ⟨h.blk, h.ns, h.hs⟩
theorem PSt.alloc (h : PSt base g p A1 c1 A2 c2 W) (o : Obj) : PSt base g p A1 c1 A2 c2 (W.alloc o) := h.on ((Below.refl _ W).alloc (Nat.le_refl _) o)
theorem PSt.lies (h : PSt base g p A1 c1 A2 c2 W) : PLies W W.heap.size p A1 A2 := ⟨Lies.own h.ns, Lies.own h.hs⟩
theorem PSt.rows (h : PSt base g p A1 c1 A2 c2 W) (i : Nat) (u : Value) : (W.setCell ⟨g, i, none⟩ u).ownsRow base 9 1 (.slice A1 p.names.length c1) p.names.length (strsC p.names) ∧ (W.setCell ⟨g, i, none⟩ u).ownsRow base 51 3 (.slice A2 p.holds.length c2) p.holds.length (holdsC p.holds) :=
  ⟨h.ns.kept (Lib.grownBy_setCell W g i u) (.inr (own_not_block h.blk (by decide) h.ns)), h.hs.kept (Lib.grownBy_setCell W g i u) (.inr (own_not_block h.blk (by decide) h.hs))⟩
theorem PSt.home (h : PSt base g p A1 c1 A2 c2 W) (n : Int) : PSt base g { p with home := n } A1 c1 A2 c2 (W.setCell ⟨g, 0, none⟩ (.int .i64 n)) := ⟨by simpa using h.blk.set_ 0 (.int .i64 n), (h.rows 0 _).1, (h.rows 0 _).2⟩
theorem PSt.loc (h : PSt base g p A1 c1 A2 c2 W) (n : Int) : PSt base g { p with loc := n } A1 c1 A2 c2 (W.setCell ⟨g, 1, none⟩ (.int .i64 n)) := ⟨by simpa using h.blk.set_ 1 (.int .i64 n), (h.rows 1 _).1, (h.rows 1 _).2⟩
theorem PSt.owner (h : PSt base g p A1 c1 A2 c2 W) (n : Int) : PSt base g { p with owner := n } A1 c1 A2 c2 (W.setCell ⟨g, 2, none⟩ (.int .i64 n)) := ⟨by simpa using h.blk.set_ 2 (.int .i64 n), (h.rows 2 _).1, (h.rows 2 _).2⟩
theorem PSt.live (h : PSt base g p A1 c1 A2 c2 W) (n : Bool) : PSt base g { p with live := n } A1 c1 A2 c2 (W.setCell ⟨g, 5, none⟩ (.bool n)) := ⟨by simpa using h.blk.set_ 5 (.bool n), (h.rows 5 _).1, (h.rows 5 _).2⟩
theorem PSt.offer (h : PSt base g p A1 c1 A2 c2 W) (n : Int) : PSt base g { p with offer := n } A1 c1 A2 c2 (W.setCell ⟨g, 6, none⟩ (.int .i64 n)) := ⟨by simpa using h.blk.set_ 6 (.int .i64 n), (h.rows 6 _).1, (h.rows 6 _).2⟩
/-- Behind an append to its names, and the store. -/
theorem PSt.name (h : PSt base g p A1 c1 A2 c2 W) {A3 : Option Addr} {c3 : Nat} {s : ByteArray} (hg : W.grownBy W' (Value.slice A1 p.names.length c1).ownBlock) (hr : W'.ownsRow base 9 1 (.slice A3 (p.names.length + 1) c3) (p.names.length + 1) (strsC p.names ++ [.string s])) :
    Block W' g 40 (pdCs p A1 c1 A2 c2) ∧ PSt base g { p with names := p.names ++ [s] } A3 c3 A2 c2 (W'.setCell ⟨g, 3, none⟩ (.slice A3 (p.names.length + 1) c3)) := by
  have hb : Block W' g 40 (pdCs p A1 c1 A2 c2) := h.blk.kept hg (fun e => own_not_block h.blk (by decide) h.ns e.symm)
  have hh : W'.ownsRow base 51 3 (.slice A2 p.holds.length c2) p.holds.length (holdsC p.holds) := h.hs.kept hg (own_apart (by decide) h.hs h.ns)
  refine ⟨hb, ⟨by simpa [pdCs] using hb.set_ 3 (.slice A3 (p.names.length + 1) c3), ?_, hh.kept (Lib.grownBy_setCell W' g 3 _) (.inr (own_not_block hb (by decide) hh))⟩⟩
  have := hr.kept (Lib.grownBy_setCell W' g 3 (.slice A3 (p.names.length + 1) c3)) (.inr (own_not_block hb (by decide) hr))
  simpa [strsC_append, strsC] using this
/-- .. to its holds. -/
theorem PSt.hold (h : PSt base g p A1 c1 A2 c2 W) {A3 : Option Addr} {c3 : Nat} {x : HD} (hg : W.grownBy W' (Value.slice A2 p.holds.length c2).ownBlock) (hr : W'.ownsRow base 51 3 (.slice A3 (p.holds.length + 1) c3) (p.holds.length + 1) (holdsC p.holds ++ [.string x.f, .int .i64 x.r, .int .i64 x.c])) :
    Block W' g 40 (pdCs p A1 c1 A2 c2) ∧ PSt base g { p with holds := p.holds ++ [x] } A1 c1 A3 c3 (W'.setCell ⟨g, 4, none⟩ (.slice A3 (p.holds.length + 1) c3)) := by
  have hb : Block W' g 40 (pdCs p A1 c1 A2 c2) := h.blk.kept hg (fun e => own_not_block h.blk (by decide) h.hs e.symm)
  have hn : W'.ownsRow base 9 1 (.slice A1 p.names.length c1) p.names.length (strsC p.names) := h.ns.kept hg (own_apart (by decide) h.ns h.hs)
  refine ⟨hb, ⟨by simpa [pdCs] using hb.set_ 4 (.slice A3 (p.holds.length + 1) c3), hn.kept (Lib.grownBy_setCell W' g 4 _) (.inr (own_not_block hb (by decide) hn)), ?_⟩⟩
  have := hr.kept (Lib.grownBy_setCell W' g 4 (.slice A3 (p.holds.length + 1) c3)) (.inr (own_not_block hb (by decide) hr))
  simpa [holdsC_append, holdsC, holdC] using this
end
end Go.Proofs.YtihlilihipcfaaaGreatDoor
