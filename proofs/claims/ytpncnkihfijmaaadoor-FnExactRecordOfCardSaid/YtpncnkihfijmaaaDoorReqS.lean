/-
  spec.ReqRight: the walk.
-/
import Derived.Test.YtpncnkihfijmaaaDoorReq
import Derived.Test.YtpncnkihfijmaaaDoorCls
import Derived.Deep.DeepCutAuto
namespace Go.Proofs.YtpncnkihfijmaaaDoor
open Go.ChangeShapes Go.WideShapes Go.ChangeAt Go.RowKit Go.ChangeMaps
set_option maxRecDepth 10000
set_option linter.unusedSimpArgs false
set_option linter.unusedVariables false

/-- What a kind has, in letters. -/
def takesT (k : Int) : ByteArray :=
  if k = 2 then ⟨#[98, 110]⟩ else if k = 3 ∨ k = 4 then ⟨#[98, 102, 115]⟩ else if k = 5 ∨ k = 7 ∨ k = 8 then ⟨#[98]⟩ else if k = 6 then ⟨#[98, 116]⟩ else if k = 9 then ⟨#[102]⟩ else ⟨#[]⟩
def hasC (s : ByteArray) (c : Int) : Bool := s.data.toList.any fun x => decide ((x.toNat : Int) = c)
theorem takes_b (k : Int) : hasC (takesT k) 98 = hasPb k := by
  unfold takesT hasPb
  split
  · rw [decide_eq_true (by omega)]; decide
  split
  · rw [decide_eq_true (by omega)]; decide
  split
  · rw [decide_eq_true (by omega)]; decide
  split
  · rw [decide_eq_true (by omega)]; decide
  split
  · rw [decide_eq_false (by omega)]; decide
  · rw [decide_eq_false (by omega)]; decide
theorem takes_n (k : Int) : hasC (takesT k) 110 = hasNb k := by
  unfold takesT hasNb
  split
  · rw [decide_eq_true (by omega)]; decide
  split
  · rw [decide_eq_false (by omega)]; decide
  split
  · rw [decide_eq_false (by omega)]; decide
  split
  · rw [decide_eq_false (by omega)]; decide
  split
  · rw [decide_eq_false (by omega)]; decide
  · rw [decide_eq_false (by omega)]; decide
theorem takes_f (k : Int) : hasC (takesT k) 102 = hasFb k := by
  unfold takesT hasFb
  split
  · rw [decide_eq_false (by omega)]; decide
  split
  · rw [decide_eq_true (by omega)]; decide
  split
  · rw [decide_eq_false (by omega)]; decide
  split
  · rw [decide_eq_false (by omega)]; decide
  split
  · rw [decide_eq_true (by omega)]; decide
  · rw [decide_eq_false (by omega)]; decide
theorem takes_s (k : Int) : hasC (takesT k) 115 = hasSb k := by
  unfold takesT hasSb
  split
  · rw [decide_eq_false (by omega)]; decide
  split
  · rw [decide_eq_true (by omega)]; decide
  split
  · rw [decide_eq_false (by omega)]; decide
  split
  · rw [decide_eq_false (by omega)]; decide
  split
  · rw [decide_eq_false (by omega)]; decide
  · rw [decide_eq_false (by omega)]; decide
theorem takes_t (k : Int) : hasC (takesT k) 116 = hasTb k := by
  unfold takesT hasTb
  split
  · rw [decide_eq_false (by omega)]; decide
  split
  · rw [decide_eq_false (by omega)]; decide
  split
  · rw [decide_eq_false (by omega)]; decide
  split
  · rw [decide_eq_true (by omega)]; decide
  split
  · rw [decide_eq_false (by omega)]; decide
  · rw [decide_eq_false (by omega)]; decide
theorem takesT_size (k : Int) : (takesT k).size ≤ 3 := by
  unfold takesT
  split
  · decide
  split
  · decide
  split
  · decide
  split
  · decide
  split
  · decide
  · decide

set_option maxHeartbeats 1000000 in
theorem l06Takes_any (k : Int) (w : World) : Calls Tryd.prog 22 #[.int .i64 k] w fun e w' => e = .returned (.string (takesT k)) ∧ w = w' := by
  have e2 : ∀ i : Int, k ≠ i → (k == i) = false := fun i h => beq_eq_false_iff_ne.2 h
  by_cases h2 : k = 2
  · subst h2
    go_enter Tryd.func22, Tryd.ntmps22
    go_wp2
    go_ret
    exact ⟨rfl, rfl⟩
  by_cases h3 : k = 3
  · subst h3
    go_enter Tryd.func22, Tryd.ntmps22
    go_wp2
    go_ret
    exact ⟨rfl, rfl⟩
  by_cases h4 : k = 4
  · subst h4
    go_enter Tryd.func22, Tryd.ntmps22
    go_wp2
    go_ret
    exact ⟨rfl, rfl⟩
  by_cases h5 : k = 5
  · subst h5
    go_enter Tryd.func22, Tryd.ntmps22
    go_wp2
    go_ret
    exact ⟨rfl, rfl⟩
  by_cases h6 : k = 6
  · subst h6
    go_enter Tryd.func22, Tryd.ntmps22
    go_wp2
    go_ret
    exact ⟨rfl, rfl⟩
  by_cases h7 : k = 7
  · subst h7
    go_enter Tryd.func22, Tryd.ntmps22
    go_wp2
    go_ret
    exact ⟨rfl, rfl⟩
  by_cases h8 : k = 8
  · subst h8
    go_enter Tryd.func22, Tryd.ntmps22
    go_wp2
    go_ret
    exact ⟨rfl, rfl⟩
  by_cases h9 : k = 9
  · subst h9
    go_enter Tryd.func22, Tryd.ntmps22
    go_wp2
    go_ret
    exact ⟨rfl, rfl⟩
  have HT : Hid (takesT k = ⟨#[]⟩) := by rw [Hid, takesT, if_neg h2, if_neg (by omega), if_neg (by omega), if_neg h6, if_neg h9]
  have f2 := e2 2 h2
  have f3 := e2 3 h3
  have f4 := e2 4 h4
  have f5 := e2 5 h5
  have f6 := e2 6 h6
  have f7 := e2 7 h7
  have f8 := e2 8 h8
  have f9 := e2 9 h9
  clear e2 h2 h3 h4 h5 h6 h7 h8 h9
  go_enter Tryd.func22, Tryd.ntmps22
  go_wp2
  go_ret
  exact ⟨by rw [HT.out]; rfl, rfl⟩

def hasTo (s : ByteArray) (c : Int) (k : Nat) : Prop := (s.data.toList.take k).any (fun x => decide ((x.toNat : Int) = c)) = false
set_option maxHeartbeats 1000000 in
theorem l06Has_any (s : ByteArray) (c : Int) (w : World) (hs : s.size ≤ 1000) : Calls Tryd.prog 23 #[.string s, .int .u8 c] w fun e w' => e = .returned (.bool (hasC s c)) ∧ w = w' := by
  go_enter Tryd.func23, Tryd.ntmps23
  go_wp2
  go_loop [5] (fun i => ∃ k : Nat, k ≤ s.size ∧ i = .int .i64 k ∧ Hid (hasTo s c k)) (fun i => s.size - (intOf i).toNat)
  case atStart => exact ⟨0, Nat.zero_le _, rfl, rfl⟩
  case round =>
    obtain ⟨k, hk, rfl, HA⟩ := hrel
    by_cases hlt : k < s.size
    · have hx : s.data.toList[k]? = some s[k] := by
        rw [List.getElem?_eq_getElem (by simpa using hlt)]; rfl
      have HN : Hid (((s[k].toNat : Nat) : Int) = c → hasC s c = true) := fun h => by
        rw [hasC, List.any_eq_true]
        exact ⟨s[k], List.mem_of_getElem? hx, decide_eq_true h⟩
      have HY : Hid (((s[k].toNat : Nat) : Int) ≠ c → hasTo s c (k + 1)) := fun h => by
        rw [hasTo, List.take_add_one, hx, List.any_append, show (s.data.toList.take k).any _ = false from HA.out]
        simp [h]
      clear hx
      by_cases hc : ((s[k].toNat : Nat) : Int) = c
      · have HR := Lib.hid (HN.out hc)
        clear HN HY HA
        have hc' : (((s[k].toNat : Nat) : Int) == c) = true := by rw [hc]; simp
        clear hc
        go_wp2
        go_ret
        exact ⟨ret_bool HR.out.symm, rfl⟩
      · have HR := Lib.hid (HY.out hc)
        clear HN HY HA
        have hc' : (((s[k].toNat : Nat) : Int) == c) = false := beq_eq_false_iff_ne.2 hc
        clear hc
        go_wp2
        go_round
        case rel => exact ⟨k + 1, by omega, by go_num, HR⟩
        case measure => simp [intOf]; omega
    · obtain rfl : k = s.size := by omega
      have HR : Hid (hasC s c = false) := by
        have := HA.out
        rw [hasTo, List.take_of_length_le (by simp)] at this
        exact this
      clear HA
      go_wp2
      go_ret
      exact ⟨ret_bool HR.out.symm, rfl⟩
end Go.Proofs.YtpncnkihfijmaaaDoor
