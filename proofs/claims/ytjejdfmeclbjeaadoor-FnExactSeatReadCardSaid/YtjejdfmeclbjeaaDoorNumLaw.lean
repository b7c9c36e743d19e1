/-
  Numbers in digits, read: plain mathematics.
-/
import Derived.Lib.ItoaNum
namespace Go.Proofs.YtjejdfmeclbjeaaDoor

def isDig (c : UInt8) : Bool := decide (48 ≤ c.toNat ∧ c.toNat ≤ 57)
def stepV (n : Int) (c : UInt8) : Int := 10 * n + ((c.toNat : Int) - 48)
def numV (l : List UInt8) : Int := l.foldl stepV 0
/-- A number of at most nine digits without a needless nought; -1: it is none. -/
def numI (l : List UInt8) : Int := if l.length < 1 ∨ 9 < l.length ∨ (1 < l.length ∧ l.head? = some 48) then -1 else if l.all isDig = true then numV l else -1

theorem numV_snoc (l : List UInt8) (c : UInt8) : numV (l ++ [c]) = 10 * numV l + ((c.toNat : Int) - 48) := by simp [numV, stepV]
theorem numV_bound' : ∀ (r : List UInt8), r.reverse.all isDig = true → 0 ≤ numV r.reverse ∧ numV r.reverse < 10 ^ r.length
  | [], _ => by simp [numV]
  | c :: r, h => by
    rw [List.reverse_cons, List.all_append] at h
    simp only [List.all_cons, List.all_nil, Bool.and_true, Bool.and_eq_true] at h
    have h1 := numV_bound' r h.1
    have h2 : 48 ≤ c.toNat ∧ c.toNat ≤ 57 := by simpa [isDig] using h.2
    rw [List.reverse_cons, numV_snoc, List.length_cons, Int.pow_succ]
    omega
theorem numV_bound (l : List UInt8) (h : l.all isDig = true) : 0 ≤ numV l ∧ numV l < 10 ^ l.length := by
  have := numV_bound' l.reverse (by rw [List.reverse_reverse]; exact h)
  rw [List.reverse_reverse, List.length_reverse] at this
  exact this
theorem pow10_le {n m : Nat} (h : n ≤ m) : (10 : Int) ^ n ≤ 10 ^ m := by
  have := Nat.pow_le_pow_right (show 0 < 10 by omega) h
  have h2 : ((10 ^ n : Nat) : Int) ≤ ((10 ^ m : Nat) : Int) := by omega
  simpa using h2
theorem numV_nine {l : List UInt8} (h : l.all isDig = true) (hl : l.length ≤ 9) : 0 ≤ numV l ∧ numV l < 1000000000 := by
  have h1 := numV_bound l h
  have h2 := pow10_le hl
  have e : (10 : Int) ^ 9 = 1000000000 := by decide
  omega
theorem numI_bound (l : List UInt8) : -1 ≤ numI l ∧ numI l < 1000000000 := by
  unfold numI
  split
  · omega
  · split
    · rename_i h1 h2
      have := numV_nine h2 (by omega)
      omega
    · omega

theorem digit_isDig {n : Nat} (h : n < 10) : isDig (UInt8.ofNat (48 + n)) = true := by
  have e : (UInt8.ofNat (48 + n)).toNat = 48 + n := by rw [UInt8.toNat_ofNat']; exact Nat.mod_eq_of_lt (by omega)
  unfold isDig
  rw [e]
  simp; omega
theorem digit_val {n : Nat} (h : n < 10) : (((UInt8.ofNat (48 + n)).toNat : Int)) - 48 = n := by
  have e : (UInt8.ofNat (48 + n)).toNat = 48 + n := by rw [UInt8.toNat_ofNat']; exact Nat.mod_eq_of_lt (by omega)
  rw [e]; omega
theorem dec_props (u : Nat) : (Lib.decDigits u).all isDig = true ∧ numV (Lib.decDigits u) = u ∧ 1 ≤ (Lib.decDigits u).length ∧ (0 < u → (Lib.decDigits u).head? ≠ some 48) := by
  induction u using Nat.strongRecOn with
  | _ u ih =>
    by_cases h : u < 10
    · have d1 := digit_isDig h
      have d2 := digit_val h
      rw [Lib.decDigits, dif_pos h]
      generalize UInt8.ofNat (48 + u) = b at *
      refine ⟨by simp [d1], by simp only [numV, stepV, List.foldl_cons, List.foldl_nil]; omega, by simp, fun hu => ?_⟩
      simp only [List.head?_cons, ne_eq, Option.some.injEq]
      rintro rfl
      have e3 : ((48 : UInt8).toNat : Int) = 48 := rfl
      omega
    · obtain ⟨h1, h2, h3, h4⟩ := ih (u / 10) (by omega)
      have d1 := digit_isDig (show u % 10 < 10 by omega)
      have d2 := digit_val (show u % 10 < 10 by omega)
      rw [Lib.decDigits, dif_neg h]
      generalize UInt8.ofNat (48 + u % 10) = b at *
      refine ⟨by simp [h1, d1], ?_, by simp, fun hu => ?_⟩
      · rw [numV_snoc, h2]; omega
      · cases hd : Lib.decDigits (u / 10) with
        | nil => rw [hd] at h3; simp at h3
        | cons a r =>
          rw [hd] at h4
          simpa using h4 (by omega)
theorem nDig_ge (u : Nat) (h : ¬ u < 10) : 10 ^ (Lib.nDigits u - 1) ≤ u := by
  induction u using Nat.strongRecOn with
  | _ u ih =>
    rw [Lib.nDigits_big h]
    by_cases h2 : u / 10 < 10
    · rw [Lib.nDigits_small h2]; simp; omega
    · have := ih (u / 10) (by omega) h2
      have hp := Lib.nDigits_pos (u / 10)
      obtain ⟨k, hk⟩ : ∃ k, Lib.nDigits (u / 10) = k + 1 := ⟨Lib.nDigits (u / 10) - 1, by omega⟩
      rw [hk] at this ⊢
      simp only [Nat.add_sub_cancel] at this ⊢
      rw [Nat.pow_succ]
      omega
/-- A number of at most nine digits comes back from its digits. -/
theorem numI_dec {u : Nat} (h : u < 1000000000) : numI (Lib.decDigits u) = u := by
  obtain ⟨h1, h2, h3, h4⟩ := dec_props u
  have hlen : (Lib.decDigits u).length ≤ 9 := by
    rw [Lib.decDigits_length]
    by_cases hu : u < 10
    · rw [Lib.nDigits_small hu]; omega
    · refine Nat.le_of_not_lt fun hlt => ?_
      have hp := Lib.lt_pow_nDigits u
      obtain ⟨k, hk⟩ : ∃ k, Lib.nDigits u = k + 10 := ⟨Lib.nDigits u - 10, by omega⟩
      have := nDig_ge u hu
      rw [hk] at this
      have h9 : 10 ^ 9 ≤ 10 ^ (k + 9) := Nat.pow_le_pow_right (by omega) (by omega)
      have e9 : 10 ^ 9 = 1000000000 := by decide
      have e10 : k + 10 - 1 = k + 9 := by omega
      rw [e10] at this
      omega
  unfold numI
  rw [if_neg ?_, if_pos h1, h2]
  rintro (h5 | h5 | ⟨h5, h6⟩)
  · omega
  · omega
  · by_cases hu : 0 < u
    · exact h4 hu h6
    · obtain rfl : u = 0 := by omega
      rw [Lib.decDigits, dif_pos (by omega)] at h5
      simp at h5
end Go.Proofs.YtjejdfmeclbjeaaDoor
