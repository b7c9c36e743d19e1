/-
  NameRight: both functions answer 'nameB'.
-/
import Derived.Test.YtjoogeiciciddaaLift
import Derived.Lib.Hide
namespace Go.Proofs.Ytjoogeiciciddaa
open Go.ChangeShapes Go.WideShapes Go.ChangeAt Go.RowKit Go.ChangeMaps

def letB (n : Int) : Bool := decide (97 ≤ n) && decide (n ≤ 122)
def digB (n : Int) : Bool := decide (48 ≤ n) && decide (n ≤ 57)
theorem letB_yes {n : Int} (h : letB n = true) : 97 ≤ n ∧ n ≤ 122 := by simpa [letB] using h
theorem letB_mk {n : Int} (h : 97 ≤ n) (h' : n ≤ 122) : letB n = true := by simp [letB, h, h']
theorem letB_lt {n : Int} (h : n < 97) : letB n = false := by simp [letB]; omega
theorem letB_gt {n : Int} (h : 122 < n) : letB n = false := by simp [letB]; omega
theorem digB_mk {n : Int} (h : 48 ≤ n) (h' : n ≤ 57) : digB n = true := by simp [digB, h, h']
theorem digB_lt {n : Int} (h : n < 48) : digB n = false := by simp [digB]; omega
theorem digB_gt {n : Int} (h : 57 < n) : digB n = false := by simp [digB]; omega
theorem ret_bool {a b : Bool} (h : a = b) : Ending.returned (.bool a) = .returned (.bool b) := by rw [h]

set_option maxHeartbeats 400000 in
theorem isLetter_any (n : Int) (w : World) : Calls Try.prog 29 #[.int .u8 n] w fun e w' => e = .returned (.bool (letB n)) ∧ w = w' := by
  go_enter Try.func29, Try.ntmps29
  go_wp2
  all_goals go_ret
  · have h : 97 ≤ n := by assumption
    exact ⟨ret_bool (by simp [letB, h]), rfl⟩
  · have h : n < 97 := by assumption
    exact ⟨ret_bool (by rw [letB_lt h]), rfl⟩

set_option maxHeartbeats 400000 in
theorem isDigit_any (n : Int) (w : World) : Calls Try.prog 30 #[.int .u8 n] w fun e w' => e = .returned (.bool (digB n)) ∧ w = w' := by
  go_enter Try.func30, Try.ntmps30
  go_wp2
  all_goals go_ret
  · have h : 48 ≤ n := by assumption
    exact ⟨ret_bool (by simp [digB, h]), rfl⟩
  · have h : n < 48 := by assumption
    exact ⟨ret_bool (by rw [digB_lt h]), rfl⟩

/-- Is the byte c fit to stand at place i of a name? -/
def nmOk (i : Nat) (c : UInt8) : Bool := letB c.toNat || (decide (0 < i) && (digB c.toNat || (c.toNat : Int) == 95))
/-- Are the first k bytes fit? -/
def nmTo (s : ByteArray) (k : Nat) : Prop := ∀ i (h : i < s.size), i < k → nmOk i s[i] = true
def nameB (s : ByteArray) : Bool := decide (1 ≤ s.size ∧ s.size ≤ 20 ∧ ∀ i (h : i < s.size), nmOk i s[i] = true)
theorem nameB_no {s : ByteArray} (i : Nat) (h : i < s.size) (hn : nmOk i s[i] = false) : nameB s = false := by
  simp only [nameB, decide_eq_false_iff_not]
  intro hh
  rw [hh.2.2 i h] at hn
  cases hn
theorem nameB_yes {s : ByteArray} (h1 : 1 ≤ s.size) (h2 : s.size ≤ 20) (h : nmTo s s.size) : nameB s = true := by
  simp only [nameB, decide_eq_true_eq]
  exact ⟨h1, h2, fun i hi => h i hi hi⟩
theorem nameB_size {s : ByteArray} (h : s.size < 1 ∨ 20 < s.size) : nameB s = false := by
  simp only [nameB, decide_eq_false_iff_not]
  intro hh
  omega
theorem nmTo_succ {s : ByteArray} {k : Nat} (h : nmTo s k) (hk : k < s.size) (hc : nmOk k s[k] = true) : nmTo s (k + 1) := by
  intro i hi hik
  by_cases he : i = k
  · subst he; exact hc
  · exact h i hi (by omega)

set_option maxHeartbeats 400000 in
theorem sName_any (s : ByteArray) (w : World) (hs : s.size ≤ maxLen) : Calls Try.prog 14 #[.string s] w fun e w' => e = .returned (.bool (nameB s)) ∧ w = w' := by
  unfold maxLen at hs
  by_cases h1 : s.size < 1
  · go_enter Try.func14, Try.ntmps14
    go_wp2
    go_ret
    exact ⟨ret_bool (nameB_size (by omega)).symm, rfl⟩
  by_cases h2 : 20 < s.size
  · go_enter Try.func14, Try.ntmps14
    go_wp2
    go_ret
    exact ⟨ret_bool (nameB_size (by omega)).symm, rfl⟩
  go_enter Try.func14, Try.ntmps14
  go_wp2
  go_loop [3] (fun i => ∃ k : Nat, k ≤ s.size ∧ i = .int .i64 k ∧ nmTo s k) (fun i => s.size - (intOf i).toNat)
  case atStart => exact ⟨0, Nat.zero_le _, rfl, fun i h hi => by omega⟩
  case round =>
    obtain ⟨k, hk, rfl, hto⟩ := hrel
    by_cases hlt : k < s.size
    · go_wp2
      all_goals first
        | (go_ret
           refine ⟨ret_bool (nameB_no k hlt ?_).symm, rfl⟩
           simp_all [nmOk, letB, digB]
           try omega)
        | (go_round
           case rel =>
             refine ⟨k + 1, by omega, by go_num, nmTo_succ hto hlt ?_⟩
             simp_all [nmOk, letB, digB]
             try omega
           case measure => simp [intOf]; omega)
    · obtain rfl : k = s.size := by omega
      go_wp2
      go_ret
      exact ⟨ret_bool (nameB_yes (by omega) (by omega) hto).symm, rfl⟩

set_option maxHeartbeats 400000 in
theorem iName_any (s : ByteArray) (w : World) (hs : s.size ≤ maxLen) : Calls Try.prog 15 #[.string s] w fun e w' => e = .returned (.bool (nameB s)) ∧ w = w' := by
  unfold maxLen at hs
  by_cases h1 : s.size < 1
  · have h0 : s.size = 0 := by omega
    go_enter Try.func15, Try.ntmps15
    go_wp2
    go_ret
    exact ⟨ret_bool (nameB_size (by omega)).symm, rfl⟩
  have h0 : ((s.size : Int) == 0) = false := by rw [beq_eq_false_iff_ne]; omega
  by_cases h2 : 20 < s.size
  · go_enter Try.func15, Try.ntmps15
    go_wp2
    go_ret
    exact ⟨ret_bool (nameB_size (by omega)).symm, rfl⟩
  have hp : 0 < s.size := by omega
  by_cases h3 : letB s[0].toNat = true
  · go_enter Try.func15, Try.ntmps15
    go_wp2_with (go_at_call 29; refine (isLetter_any _ _).mono ?_; rintro e w' ⟨rfl, rfl⟩)
    go_loop [3] (fun i => ∃ k : Nat, k ≤ s.size ∧ 0 < k ∧ i = .int .i64 k ∧ nmTo s k) (fun i => s.size - (intOf i).toNat)
    case atStart => exact ⟨1, by omega, by omega, rfl, nmTo_succ (k := 0) (fun i h hi => by omega) hp (by simp [nmOk, h3])⟩
    case round =>
      obtain ⟨k, hk, hk0, rfl, hto⟩ := hrel
      by_cases hlt : k < s.size
      · go_wp2_with (first
          | (go_at_call 29; refine (isLetter_any _ _).mono ?_; rintro e w' ⟨rfl, rfl⟩)
          | (go_at_call 30; refine (isDigit_any _ _).mono ?_; rintro e w' ⟨rfl, rfl⟩))
        all_goals first
          | (go_ret
             refine ⟨ret_bool (nameB_no k hlt ?_).symm, rfl⟩
             simp_all [nmOk])
          | (go_round
             case rel =>
               refine ⟨k + 1, by omega, by omega, by go_num, nmTo_succ hto hlt ?_⟩
               simp_all [nmOk]
             case measure => simp [intOf]; omega)
      · obtain rfl : k = s.size := by omega
        go_wp2
        go_ret
        exact ⟨ret_bool (nameB_yes (by omega) (by omega) hto).symm, rfl⟩
  · have h3' : letB s[0].toNat = false := by simpa using h3
    go_enter Try.func15, Try.ntmps15
    go_wp2_with (go_at_call 29; refine (isLetter_any _ _).mono ?_; rintro e w' ⟨rfl, rfl⟩)
    go_ret
    exact ⟨ret_bool (nameB_no 0 hp (by simp [nmOk, h3'])).symm, rfl⟩

set_option maxHeartbeats 400000 in
theorem nameRight_walk (s : ByteArray) (w : World) (hs : s.size ≤ maxLen) : Calls Try.prog 5 #[.string s] w fun e w' => Holds e w w' := by
  have hs' := hs
  unfold maxLen at hs'
  by_cases h1 : 1048576 < s.size
  · go_enter Try.func5, Try.ntmps5
    go_wp2
    go_ret
    exact ⟨rfl, Below.refl _ _⟩
  · go_enter Try.func5, Try.ntmps5
    go_wp2_with (first
          | (go_at_call 14; refine (sName_any _ _ hs).mono ?_; rintro e w' ⟨rfl, rfl⟩)
          | (go_at_call 15; refine (iName_any _ _ hs).mono ?_; rintro e w' ⟨rfl, rfl⟩))
    go_ret
    exact ⟨rfl, Below.refl _ _⟩

set_option maxRecDepth 100000 in
theorem nameRight_lifted (os : Os) (started : os.Started) (H : Type) (enc : TypeId × Value → H) :
    ReturnsInHanded {} Try.checked os 5 .any (Rows.fnExactNameRightSpec.pre6 enc Try.prog Try.f5 Rows.fnExactNameRightRow.domain false) (Rows.fnExactNameRightSpec.post enc Try.prog Try.f5 false true false false) := by
  refine law_lifted started (by kernel_rfl) Try.func5 rfl rfl Try.underlying4 (by rw [Try.params5]; exact List.forall_mem_cons.2 ⟨⟨by kernel_rfl, of_decide_eq_true (by kernel_rfl)⟩, fun _ h => by cases h⟩) (fun ds hd => ?_)
    (ChangeSpec.witness6 (enc := enc) (C := Try.checked) false ⟨#[], #[.string ⟨#[]⟩], []⟩ 8 (by kernel_rfl) (by kernel_rfl) (by kernel_rfl) (by kernel_rfl)) ?_
  · match ds, hd with
    | [d], _ => rfl
  · intro W base args ds p hval hA hlt _
    rw [Try.params5] at hA hval
    obtain ⟨v0, vs0, d0, ds0, p0, q0, hargs, rfl, rfl, h0, r0⟩ := trodAll_cons hA
    obtain ⟨rfl, rfl, rfl⟩ := trodAll_nil r0
    obtain rfl : args = #[v0] := by cases args; simp_all
    obtain ⟨s0, rfl, rfl, rfl, w0⟩ := open_string Try.underlying9 (hval 0 9 v0 rfl rfl) h0
    exact nameRight_walk s0 W w0

theorem nameRight_holds : Rows.FnExactNameRightSaid :=
  OpenClaim.holds_of_wide 5 Try.f5 rfl rfl rfl rfl rfl rfl rfl ⟨rfl, rfl, rfl, rfl, rfl⟩ rfl rfl rfl rfl rfl (by kernel_rfl) Try.func5 (by kernel_rfl)
    (of_decide_eq_true (by kernel_rfl)) (by unfold Func.isWrapper; first | (rw [if_pos (by decide +kernel)]; kernel_rfl) | (rw [if_neg (by decide +kernel)]; exact ⟨rfl, rfl⟩))
    (fun os started H enc _ => nameRight_lifted os started H enc)
end Go.Proofs.Ytjoogeiciciddaa
