/-
  l02Num: a number of at most nine digits, read.
-/
import Derived.Test.YtjejdfmeclbjeaaDoorNumLaw
import Derived.Test.YtjejdfmeclbjeaaDoorBase
namespace Go.Proofs.YtjejdfmeclbjeaaDoor
open Go.ChangeShapes Go.WideShapes Go.ChangeAt Go.RowKit Go.ChangeMaps
set_option linter.unusedSimpArgs false
set_option linter.unusedVariables false

theorem numI_size {s : ByteArray} (h : s.size < 1 ∨ 9 < s.size) : numI s.data.toList = -1 := by
  have e : s.data.toList.length = s.size := by simp
  unfold numI
  rw [if_pos (by omega)]
theorem head_at {s : ByteArray} (h : 0 < s.size) : s.data.toList.head? = some s[0] := by
  rw [List.head?_eq_getElem?, List.getElem?_eq_getElem (by simpa using h)]
  rfl
theorem numI_nought {s : ByteArray} (h : 1 < s.size) (h0 : s[0] = 48) : numI s.data.toList = -1 := by
  have e : s.data.toList.length = s.size := by simp
  unfold numI
  rw [if_pos (by rw [e, head_at (by omega), h0]; simp [h])]
theorem numI_bad {s : ByteArray} (k : Nat) (hk : k < s.size) (h : isDig s[k] = false) : numI s.data.toList = -1 := by
  unfold numI
  split
  · rfl
  · rw [if_neg]
    intro ha
    have := List.all_eq_true.1 ha s[k] (by have : s[k] = s.data.toList[k]'(by simpa using hk) := rfl; rw [this]; exact List.getElem_mem _)
    rw [h] at this
    cases this
theorem numI_good {s : ByteArray} (h1 : 1 ≤ s.size) (h2 : s.size ≤ 9) (h3 : s.size = 1 ∨ s[0]'(by omega) ≠ 48) (ha : s.data.toList.all isDig = true) : numI s.data.toList = numV s.data.toList := by
  have e : s.data.toList.length = s.size := by simp
  unfold numI
  rw [if_neg, if_pos ha]
  rintro (h | h | ⟨h, h'⟩)
  · omega
  · omega
  · rw [head_at (by omega)] at h'
    rcases h3 with h3 | h3
    · omega
    · exact h3 (Option.some.inj h')

set_option maxHeartbeats 1000000 in
theorem l02Num_any (s : ByteArray) (w : World) (hs : s.size ≤ maxLen) : Calls Tryd.prog 15 #[.string s] w fun e w' => e = .returned (.int .i64 (numI s.data.toList)) ∧ w = w' := by
  unfold maxLen at hs
  by_cases h1 : s.size < 1
  · go_enter Tryd.func15, Tryd.ntmps15
    go_wp2
    go_ret
    exact ⟨ret_int (numI_size (.inl h1)).symm, rfl⟩
  by_cases h9 : 9 < s.size
  · go_enter Tryd.func15, Tryd.ntmps15
    go_wp2
    go_ret
    exact ⟨ret_int (numI_size (.inr h9)).symm, rfl⟩
  have key : (1 < s.size ∧ ∃ h : 0 < s.size, s[0] = 48) ∨ ((¬ 1 < s.size ∨ (1 < s.size ∧ ∃ h : 0 < s.size, ((s[0].toNat : Int) == 48) = false)) ∧ (s.data.toList.all isDig = true → numI s.data.toList = numV s.data.toList)) := by
    by_cases hm : 1 < s.size
    · by_cases h0 : s[0] = 48
      · exact .inl ⟨hm, by omega, h0⟩
      · refine .inr ⟨.inr ⟨hm, by omega, ?_⟩, fun ha => numI_good (s := s) (by omega) (by omega) (.inr h0) ha⟩
        rw [beq_eq_false_iff_ne]
        intro e
        exact h0 (UInt8.toNat_inj.1 (by have : (48 : UInt8).toNat = 48 := rfl; omega))
    · exact .inr ⟨.inl hm, fun ha => numI_good (s := s) (by omega) (by omega) (.inl (by omega)) ha⟩
  rcases key with ⟨hm, hp, h0⟩ | ⟨hm, hG⟩
  · have hb0 : ((s[0].toNat : Int) == 48) = true := by rw [h0]; rfl
    have HR := Lib.hid (numI_nought hm h0)
    clear h0
    go_enter Tryd.func15, Tryd.ntmps15
    go_wp2
    go_ret
    exact ⟨ret_int HR.out.symm, rfl⟩
  have HG := Lib.hid hG
  clear hG
  have hp : 0 < s.size := by omega
  rcases hm with hm | ⟨hm, hp', hb0⟩
  all_goals
    go_enter Tryd.func15, Tryd.ntmps15
    go_wp2
    go_loop [3, 4] (fun n i => ∃ k : Nat, k ≤ s.size ∧ i = .int .i64 (k : Int) ∧ n = .int .i64 (numV (s.data.toList.take k)) ∧ Hid ((s.data.toList.take k).all isDig = true)) (fun _ i => s.size - (intOf i).toNat)
    case atStart => exact ⟨0, Nat.zero_le _, rfl, rfl, rfl⟩
    case round =>
      try clear hb0
      obtain ⟨k, hk, rfl, rfl, hall⟩ := hrel
      by_cases hlt : k < s.size
      · have hv := numV_nine hall.out (by have := List.length_take_le k s.data.toList; omega)
        have hts := take_snoc s k hlt
        have HS : Hid (numV (s.data.toList.take (k + 1)) = 10 * numV (s.data.toList.take k) + ((s[k].toNat : Int) - 48)) := by rw [Hid, hts, numV_snoc]
        have HA : Hid (isDig s[k] = true → (s.data.toList.take (k + 1)).all isDig = true) := fun hd => by rw [hts, List.all_append, hall.out]; simpa using hd
        have HN : Hid (isDig s[k] = false → numI s.data.toList = -1) := fun hd => numI_bad k hlt hd
        clear hts
        generalize numV (s.data.toList.take k) = V at *
        obtain ⟨v1, v2⟩ := hv
        go_wp2
        all_goals first
          | (go_ret
             refine ⟨ret_int (HN.out ?_).symm, rfl⟩
             simp [isDig]
             omega)
          | (go_round
             case rel => exact ⟨k + 1, by omega, by go_num, by rw [HS.out], HA.out (by simp [isDig]; omega)⟩
             case measure => simp [intOf]; omega)
      · obtain rfl : k = s.size := by omega
        have he : s.data.toList.take s.size = s.data.toList := List.take_of_length_le (by simp)
        have hR := HG.out (by rw [← he]; exact hall.out)
        have HR := Lib.hid hR
        have HE := Lib.hid he
        clear hR he
        go_wp2
        go_ret
        exact ⟨ret_int (by rw [HE.out, HR.out]), rfl⟩
end Go.Proofs.YtjejdfmeclbjeaaDoor
