/-
  WordRight: both functions answer 'wordB'.
-/
import Derived.Test.YtpncnkihfijmaaaDoorLetters
namespace Go.Proofs.YtpncnkihfijmaaaDoor
open Go.ChangeShapes Go.WideShapes Go.ChangeAt Go.RowKit Go.ChangeMaps
set_option maxRecDepth 10000
set_option linter.unusedSimpArgs false

/-- Is the byte one of a word? -/
def wdOk (c : UInt8) : Bool := letB c.toNat || digB c.toNat
/-- Are the first k bytes? -/
def wdTo (s : ByteArray) (k : Nat) : Prop := ∀ i (h : i < s.size), i < k → wdOk s[i] = true
def wordB (s : ByteArray) : Bool := decide (1 ≤ s.size ∧ s.size ≤ 8 ∧ ∀ i (h : i < s.size), wdOk s[i] = true)
theorem wordB_no {s : ByteArray} (i : Nat) (h : i < s.size) (hn : wdOk s[i] = false) : wordB s = false := by
  simp only [wordB, decide_eq_false_iff_not]
  intro hh
  rw [hh.2.2 i h] at hn
  cases hn
theorem wordB_yes {s : ByteArray} (h1 : 1 ≤ s.size) (h2 : s.size ≤ 8) (h : wdTo s s.size) : wordB s = true := by
  simp only [wordB, decide_eq_true_eq]
  exact ⟨h1, h2, fun i hi => h i hi hi⟩
theorem wordB_size {s : ByteArray} (h : s.size < 1 ∨ 8 < s.size) : wordB s = false := by
  simp only [wordB, decide_eq_false_iff_not]
  intro hh
  omega
theorem wordB_len {s : ByteArray} (h : wordB s = true) : 1 ≤ s.size ∧ s.size ≤ 8 := by
  simp only [wordB, decide_eq_true_eq] at h
  exact ⟨h.1, h.2.1⟩
theorem wdTo_succ {s : ByteArray} {k : Nat} (h : wdTo s k) (hk : k < s.size) (hc : wdOk s[k] = true) : wdTo s (k + 1) := by
  intro i hi hik
  by_cases he : i = k
  · subst he; exact hc
  · exact h i hi (by omega)

set_option maxHeartbeats 400000 in
theorem sWord_any (s : ByteArray) (w : World) (hs : s.size ≤ maxLen) : Calls Tryd.prog 25 #[.string s] w fun e w' => e = .returned (.bool (wordB s)) ∧ w = w' := by
  unfold maxLen at hs
  go_enter Tryd.func25, Tryd.ntmps25
  go_wp2
  go_loop [3] (fun i => ∃ k : Nat, k ≤ s.size ∧ i = .int .i64 k ∧ wdTo s k) (fun i => s.size - (intOf i).toNat)
  case atStart => exact ⟨0, Nat.zero_le _, rfl, fun i h hi => by omega⟩
  case round =>
    obtain ⟨k, hk, rfl, hto⟩ := hrel
    by_cases hlt : k < s.size
    · go_wp2
      all_goals first
        | (go_ret
           refine ⟨ret_bool (wordB_no k hlt ?_).symm, rfl⟩
           simp_all [wdOk, letB, digB]
           try omega)
        | (go_round
           case rel =>
             refine ⟨k + 1, by omega, by go_num, wdTo_succ hto hlt ?_⟩
             simp_all [wdOk, letB, digB]
             try omega
           case measure => simp [intOf]; omega)
    · obtain rfl : k = s.size := by omega
      by_cases h1 : 1 ≤ s.size
      · by_cases h2 : s.size ≤ 8
        · go_wp2
          go_ret
          exact ⟨ret_bool (by rw [wordB_yes h1 h2 hto]; simp; try omega), rfl⟩
        · go_wp2
          go_ret
          exact ⟨ret_bool (by rw [wordB_size (by omega)]; simp; try omega), rfl⟩
      · go_wp2
        go_ret
        exact ⟨ret_bool (by rw [wordB_size (by omega)]), rfl⟩

set_option maxHeartbeats 400000 in
theorem iWord_any (s : ByteArray) (w : World) (hs : s.size ≤ maxLen) : Calls Tryd.prog 88 #[.string s] w fun e w' => e = .returned (.bool (wordB s)) ∧ w = w' := by
  unfold maxLen at hs
  by_cases h1 : s.size < 1
  · have h0 : s.size = 0 := by omega
    go_enter Tryd.func88, Tryd.ntmps88
    go_wp2
    go_ret
    exact ⟨ret_bool (wordB_size (by omega)).symm, rfl⟩
  have h0 : ((s.size : Int) == 0) = false := by rw [beq_eq_false_iff_ne]; omega
  by_cases h2 : 8 < s.size
  · go_enter Tryd.func88, Tryd.ntmps88
    go_wp2
    go_ret
    exact ⟨ret_bool (wordB_size (by omega)).symm, rfl⟩
  go_enter Tryd.func88, Tryd.ntmps88
  go_wp2
  go_loop [3] (fun i => ∃ k : Nat, k ≤ s.size ∧ i = .int .i64 k ∧ wdTo s k) (fun i => s.size - (intOf i).toNat)
  case atStart => exact ⟨0, by omega, rfl, fun i h hi => by omega⟩
  case round =>
    obtain ⟨k, hk, rfl, hto⟩ := hrel
    by_cases hlt : k < s.size
    · go_wp2_with (first
        | (go_at_call 91; refine (isLetter_any _ _).mono ?_; rintro e w' ⟨rfl, rfl⟩)
        | (go_at_call 92; refine (isDigit_any _ _).mono ?_; rintro e w' ⟨rfl, rfl⟩))
      all_goals first
        | (go_ret
           refine ⟨ret_bool (wordB_no k hlt ?_).symm, rfl⟩
           simp_all [wdOk])
        | (go_round
           case rel =>
             refine ⟨k + 1, by omega, by go_num, wdTo_succ hto hlt ?_⟩
             simp_all [wdOk]
           case measure => simp [intOf]; omega)
    · obtain rfl : k = s.size := by omega
      go_wp2
      go_ret
      exact ⟨ret_bool (wordB_yes (by omega) (by omega) hto).symm, rfl⟩
end Go.Proofs.YtpncnkihfijmaaaDoor
